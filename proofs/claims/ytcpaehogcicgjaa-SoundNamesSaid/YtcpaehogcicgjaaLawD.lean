import Derived.Test.YtcpaehogcicgjaaRefL
import Derived.Test.YtcpaehogcicgjaaLawB
namespace Go.Proofs.Ytcpaehogcicgjaa
open Go.RowKit Go.Proofs.Kv Go.Proofs.Snd

theorem namesRes_len (L : List (List Int)) : (classesRes L).length = (namesRes L).length := by
  unfold classesRes namesRes
  by_cases h : validT L = 0
  · rw [if_pos h, if_pos h, classes_len, namesS_eq (good_of h)]
  · rw [if_neg h, if_neg h]; rfl
/-! ### the program's Names -/
set_option maxRecDepth 100000 in
theorem sndNamesX_calls (a : Option Addr) (n c : Nat) (L : List (List Int)) (w : World) (h : ListsAt w a n c L) :
    Calls Try.prog 29 #[.slice a n c] w fun e w' => ∃ v, e = .returned (.tuple #[v, .int .i64 (validT L)]) ∧ MadeP 35 w w' v (namesRes L) := by
  have hval := sndValidate_calls a n c L w h
  by_cases he : validT L = 0
  · have hg := good_of he
    have Hf : Hid (namesRes L = (rkTo L L.length).mergeSort leP) := hid_ (by rw [namesRes, if_pos he, ← namesS_eq hg]; rfl)
    rw [he] at hval ⊢
    have Hv := hid_ hval; clear hval he
    go_enter Try.func29, Try.ntmps29
    go_wp2_with fail
    refine Hv.out.mono ?_
    rintro e w1 ⟨rfl, hb1⟩
    have Hn := hid_ (sndNames_calls a n c L w1 (h.below hb1 (Nat.le_refl _)) (by have := hg.n6; have := h.len; omega) (fun s hs => Nat.le_trans (hg.row s hs) (by omega)) (namesS_pos hg))
    go_wp2_with fail
    refine Hn.out.mono ?_
    rintro e w2 ⟨v, rfl, hm⟩
    go_wp2
    go_ret2
    exact ⟨v, rfl, by rw [Hf.out]; exact hm.after hb1⟩
  · have Hf : Hid (namesRes L = []) := hid_ (if_neg he)
    generalize validT L = er at hval he ⊢
    have hq : (er != 0) = true := by simpa using he
    have Hv := hid_ hval; clear hval he
    go_enter Try.func29, Try.ntmps29
    go_wp2_with fail
    refine Hv.out.mono ?_
    rintro e w1 ⟨rfl, hb1⟩
    go_wp2
    go_ret2
    exact ⟨_, rfl, by rw [Hf.out]; exact MadeP.none_ _ hb1⟩

/-! ### SoundNames -/
set_option maxRecDepth 100000 in
theorem soundNames_calls (a : Option Addr) (n c : Nat) (L : List (List Int)) (w : World) (h : ListsAt w a n c L) :
    Calls Try.prog 5 #[.slice a n c] w fun e w' => e = .returned (.bool true) ∧ Below w.heap.size w w' := by
  have HLong0 := hid_ (long_calls a n c L w h)
  have Hk := hid_ known_calls
  cases hbig0 : bigL L with
  | true =>
    rw [hbig0] at HLong0
    have HLong0' := hid_ HLong0
    clear hbig0 HLong0
    go_enter Try.func5, Try.ntmps5
    go_wp2_with (first
      | (go_at_call 16; refine HLong0'.out.out.mono ?_; rintro e w1 ⟨rfl, rfl⟩)
      | (go_at_call 17; refine (Hk.out _).mono ?_; rintro e w2 ⟨rfl, hb2⟩))
    go_ret
    exact ⟨rfl, hb2⟩
  | false =>
    rw [hbig0] at HLong0
    have HLong0' := hid_ HLong0
    have hs := bigL_flat hbig0
    clear hbig0 HLong0
    have hlen := namesRes_len L
    have hsn : SameN (namesRes L) (namesRes L) = true := decide_eq_true rfl
    have hsl : SameL (classesRes L) (classesRes L) = true := decide_eq_true rfl
    have heq := classesRR_eq L
    have Hlen := hid_ hlen
    have Hsn := hid_ hsn
    have Hsl := hid_ hsl
    have Heq := hid_ heq
    clear hlen hsn hsl heq
    go_enter Try.func5, Try.ntmps5
    have G1 := hid_ (sndNamesX_calls a n c L w h)
    go_wp2_with (first
        | (go_at_call 16; refine HLong0'.out.out.mono ?_; rintro e w1 ⟨rfl, rfl⟩)
        | fail)
    refine G1.out.mono ?_
    rintro e w1 ⟨v1, rfl, hm1⟩
    have hb1 := hm1.bel
    obtain ⟨a1, c1, rfl, hI1⟩ := hm1.at_
    clear hm1
    have hB1 := hb1
    have h_1 := h.below hb1 (Nat.le_refl _)
    clear h G1 hb1
    have G2 := hid_ (refNames_calls a n c L w1 h_1 hs)
    go_wp2_with fail
    refine G2.out.mono ?_
    rintro e w2 ⟨v2, rfl, hm2⟩
    have hb2 := hm2.bel
    obtain ⟨a2, c2, rfl, hI2⟩ := hm2.at_
    clear hm2
    have hB2 := below_then hB1 hb2
    have h_2 := h_1.below hb2 (Nat.le_refl _)
    have n1_2 := hI1.below hb2 (Nat.le_refl _)
    clear hB1 h_1 hI1 G2 hb2
    have G3 := hid_ (sndClasses_calls a n c L w2 h_2)
    go_wp2_with fail
    refine G3.out.mono ?_
    rintro e w3 ⟨v3, rfl, hm3⟩
    have hb3 := hm3.bel
    obtain ⟨a3, c3, rfl, hI3⟩ := hm3.at_
    clear hm3
    have hB3 := below_then hB2 hb3
    have h_3 := h_2.below hb3 (Nat.le_refl _)
    have n1_3 := n1_2.below hb3 (Nat.le_refl _)
    have n2_3 := hI2.below hb3 (Nat.le_refl _)
    clear hB2 h_2 n1_2 hI2 G3 hb3
    rw [Hlen.out] at hI3 ⊢
    have G4 := hid_ (refClasses_calls a n c L w3 h_3 hs)
    go_wp2_with fail
    refine G4.out.mono ?_
    rintro e w4 ⟨v4, rfl, ho4, hb4⟩
    obtain ⟨a4, c4, rfl, hI4⟩ := ho4.at_
    clear ho4
    have hB4 := below_then hB3 hb4
    have h_4 := h_3.below hb4 (Nat.le_refl _)
    have n1_4 := n1_3.below hb4 (Nat.le_refl _)
    have n2_4 := n2_3.below hb4 (Nat.le_refl _)
    have c1_4 := hI3.below hb4 (Nat.le_refl _)
    clear hB3 h_3 n1_3 n2_3 hI3 G4 hb4
    rw [← Heq.out, Hlen.out] at hI4 ⊢
    clear h_4 hs
    generalize validT L = er
    generalize hNR : namesRes L = NR at *
    clear hNR
    generalize hNl : NR.length = N at *
    have HNl := hid_ hNl
    clear hNl
    have G5 := hid_ (show Calls Try.prog 28 _ w4 fun e w' => e = .returned (.bool true) ∧ ∃ q, w' = w4.drewN q from by rw [← Hsn.out]; exact sameN_calls _ _ _ _ _ _ _ _ w4 n1_4 n2_4)
    go_wp2_with fail
    refine G5.out.mono ?_
    rintro e w5 ⟨rfl, q5, hq5⟩
    have hb5 : Below w4.heap.size w4 w5 := by rw [hq5]; exact below_drewN (Below.refl _ _) _
    clear hq5
    have hB5 := below_then hB4 hb5
    have n1_5 := n1_4.below hb5 (Nat.le_refl _)
    have n2_5 := n2_4.below hb5 (Nat.le_refl _)
    have c1_5 := c1_4.below hb5 (Nat.le_refl _)
    have c2_5 := hI4.below hb5 (Nat.le_refl _)
    clear hB4 n1_4 n2_4 c1_4 hI4 G5 hb5
    have G6 := hid_ (show Calls Try.prog 33 _ w5 fun e w' => e = .returned (.bool true) ∧ ∃ q, w' = w5.drewN q from by rw [← Hsl.out]; exact sameL_calls _ _ _ _ _ _ _ _ w5 c1_5 c2_5)
    go_wp2_with fail
    refine G6.out.mono ?_
    rintro e w6 ⟨rfl, q6, hq6⟩
    have hb6 : Below w5.heap.size w5 w6 := by rw [hq6]; exact below_drewN (Below.refl _ _) _
    clear hq6
    have hB6 := below_then hB5 hb6
    have n1_6 := n1_5.below hb6 (Nat.le_refl _)
    have n2_6 := n2_5.below hb6 (Nat.le_refl _)
    have c1_6 := c1_5.below hb6 (Nat.le_refl _)
    have c2_6 := c2_5.below hb6 (Nat.le_refl _)
    clear hB5 n1_5 n2_5 c1_5 c2_5 G6 hb6
    have G7 := hid_ (Hk.out w6)
    go_wp2_with fail
    refine G7.out.mono ?_
    rintro e w7 ⟨rfl, hb7⟩
    have hB7 := below_then hB6 hb7
    have n1_7 := n1_6.below hb7 (Nat.le_refl _)
    have n2_7 := n2_6.below hb7 (Nat.le_refl _)
    have c1_7 := c1_6.below hb7 (Nat.le_refl _)
    have c2_7 := c2_6.below hb7 (Nat.le_refl _)
    clear hB6 n1_6 n2_6 c1_6 c2_6 G7 hb7
    go_wp2
    go_ret
    exact ⟨rfl, hB7⟩
end Go.Proofs.Ytcpaehogcicgjaa
