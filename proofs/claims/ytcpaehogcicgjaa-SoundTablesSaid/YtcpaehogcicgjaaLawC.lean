import Derived.Test.YtcpaehogcicgjaaLawB
namespace Go.Proofs.Ytcpaehogcicgjaa
open Go.RowKit Go.Proofs.Kv Go.Proofs.Snd

/-! ### SoundTables -/
set_option maxRecDepth 100000 in
theorem soundTables_calls (a : Option Addr) (n c : Nat) (L : List (List Int)) (x : Int) (w : World) (h : ListsAt w a n c L) :
    Calls Try.prog 3 #[.slice a n c, .int .i64 x] w fun e w' => e = .returned (.bool true) ∧ Below w.heap.size w w' := by
  have H1 := hid_ (long_calls a n c L w h)
  have Hk := hid_ known_calls
  cases hb1 : bigL L with
  | true =>
    rw [hb1] at H1
    have H1' := hid_ H1
    clear hb1 H1
    go_enter Try.func3, Try.ntmps3
    go_wp2_with (first
      | (go_at_call 16; refine H1'.out.out.mono ?_; rintro e w1 ⟨rfl, rfl⟩)
      | (go_at_call 17; refine (Hk.out _).mono ?_; rintro e w2 ⟨rfl, hb2⟩))
    go_ret
    exact ⟨rfl, hb2⟩
  | false =>
    have hs := bigL_flat hb1
    rw [hb1] at H1
    have H1' := hid_ H1
    clear hb1 H1
    have G1 := hid_ (sndSounds_calls a n c L w h hs)
    go_enter Try.func3, Try.ntmps3
    go_wp2_with (first
      | (go_at_call 16; refine H1'.out.out.mono ?_; rintro e w1 ⟨rfl, rfl⟩)
      | fail)
    refine G1.out.mono ?_
    rintro e w1 ⟨v1, rfl, hm1⟩
    obtain ⟨a1, c1, rfl, hI1⟩ := hm1.at_
    have hb1 := hm1.bel
    have G2 := hid_ (refSounds_calls a n c L w1 (h.below hb1 (Nat.le_refl _)) hs)
    clear hm1 G1 H1'
    go_wp2_with fail
    refine G2.out.mono ?_
    rintro e w2 ⟨v2, rfl, hm2⟩
    obtain ⟨a2, c2, rfl, hI2⟩ := hm2.at_
    have hb2 := below_then hb1 hm2.bel
    have hI1' := hI1.below hm2.bel (Nat.le_refl _)
    have G3 := hid_ (sndRow_calls a n c L x w2 (h.below hb2 (Nat.le_refl _)))
    clear hm2 G2 hI1 hb1
    go_wp2_with fail
    refine G3.out.mono ?_
    rintro e w3 ⟨rfl, hb3⟩
    have hI1 := hI1'.below hb3 (Nat.le_refl _)
    have hI2' := hI2.below hb3 (Nat.le_refl _)
    have hB3 := below_then hb2 hb3
    have G4 := hid_ (refRow_calls a n c L x w3 (h.below hB3 (Nat.le_refl _)) hs)
    clear hI1' hI2 hb3 hb2 G3
    go_wp2_with fail
    refine G4.out.mono ?_
    rintro e w4 ⟨rfl, hb4⟩
    have hI1' := hI1.below hb4 (Nat.le_refl _)
    have hI2 := hI2'.below hb4 (Nat.le_refl _)
    have hB4 := below_then hB3 hb4
    have G5 := hid_ (sndValidate_calls a n c L w4 (h.below hB4 (Nat.le_refl _)))
    clear hI1 hI2' hb4 hB3 G4
    generalize rowRes L x = rr
    obtain ⟨r1, r2⟩ := rr
    go_wp2_with fail
    refine G5.out.mono ?_
    rintro e w5 ⟨rfl, hb5⟩
    have hI1 := hI1'.below hb5 (Nat.le_refl _)
    have hI2' := hI2.below hb5 (Nat.le_refl _)
    have hB5 := below_then hB4 hb5
    have G6 := hid_ (refValidate_calls a n c L w5 (h.below hB5 (Nat.le_refl _)) hs)
    clear hI1' hI2 hb5 hB4 G5
    generalize validT L = er at G6
    go_wp2_with fail
    refine G6.out.mono ?_
    rintro e w6 ⟨rfl, hb6⟩
    have hI1' := hI1.below hb6 (Nat.le_refl _)
    have hI2 := hI2'.below hb6 (Nat.le_refl _)
    have HB6 := hid_ (below_then hB5 hb6)
    clear hI1 hI2' hb6 hB5 G6
    have h7 := same_calls _ _ _ _ _ _ _ _ w6 hI1' hI2
    rw [show Same (soundsRes L) (soundsRes L) = true from decide_eq_true rfl] at h7
    have H7 := hid_ h7
    clear h7 hI1' hI2 h hs
    go_wp2_with fail
    refine H7.out.mono ?_
    rintro e w7 ⟨rfl, q, hq⟩
    have Hb7 : Hid (Below w.heap.size w w7) := hid_ (by rw [hq]; exact below_drewN HB6.out q)
    clear hq H7 HB6
    go_wp2_with (go_at_call 17; refine (Hk.out _).mono ?_; rintro e w8 ⟨rfl, hb8⟩)
    go_ret
    exact ⟨rfl, below_then Hb7.out hb8⟩
end Go.Proofs.Ytcpaehogcicgjaa
