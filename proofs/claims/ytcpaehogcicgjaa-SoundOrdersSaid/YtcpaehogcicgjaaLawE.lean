import Derived.Test.YtcpaehogcicgjaaRefN
import Derived.Test.YtcpaehogcicgjaaLawB
namespace Go.Proofs.Ytcpaehogcicgjaa
open Go.RowKit Go.Proofs.Kv Go.Proofs.Snd

theorem find_mem {p : List Int → Bool} : ∀ {O : List (List Int)} {o : List Int}, O.find? p = some o → o ∈ O ∧ p o = true
  | [], _, h => by simp at h
  | x :: O, o, h => by
    rw [List.find?_cons] at h
    cases hp : p x with
    | true => rw [hp] at h; injection h with h; subst h; exact ⟨by simp, hp⟩
    | false => rw [hp] at h; have := find_mem h; exact ⟨by simp [this.1], this.2⟩
theorem order_good {m : Int} {F : List (List Int)} (h : ordOk m F = true) : ordErr m F (ordV m F) = 0 ∧ fitsRes m F (ordV m F) = true := by
  have he : famErr m F = 0 := by
    by_cases he : famErr m F = 0
    · exact he
    · simp [ordOk, he] at h
  obtain ⟨⟨h1, h6⟩, _⟩ := famErr_ok he
  rw [ordOk, decide_eq_true he, Bool.true_and, orderRes_eq he] at h
  obtain ⟨o, ho⟩ := Option.isSome_iff_exists.1 h
  have hv : ordV m F = o := by rw [ordV, if_pos he, orderRes_eq he, ho]; rfl
  obtain ⟨hm, hf⟩ := find_mem ho
  have hi := List.all_eq_true.1 (ords_ok (n := m.toNat) (by omega) (by omega)) o hm
  rw [show ((m.toNat : Nat) : Int) = m by omega] at hi
  have hoe : ordErr m F o = 0 := by rw [ordErr, if_pos he, if_pos hi]
  rw [hv]
  exact ⟨hoe, by rw [fitsRes, if_pos hoe]; exact hf⟩

/-! ### SoundOrders -/
set_option maxRecDepth 100000 in
theorem soundOrders_calls (m : Int) (a : Option Addr) (n c : Nat) (F : List (List Int)) (w : World) (h : ListsAt w a n c F) :
    Calls Try.prog 8 #[.int .i64 m, .slice a n c] w fun e w' => e = .returned (.bool true) ∧ Below w.heap.size w w' := by
  have HLong0 := hid_ (long_calls a n c F w h)
  have Hk := hid_ known_calls
  cases hbig0 : bigL F with
  | true =>
    rw [hbig0] at HLong0
    have HLong0' := hid_ HLong0
    clear hbig0 HLong0
    go_enter Try.func8, Try.ntmps8
    go_wp2_with (first
      | (go_at_call 16; refine HLong0'.out.out.mono ?_; rintro e w1 ⟨rfl, rfl⟩)
      | (go_at_call 17; refine (Hk.out _).mono ?_; rintro e w2 ⟨rfl, hb2⟩))
    go_ret
    exact ⟨rfl, hb2⟩
  | false =>
    rw [hbig0] at HLong0
    have HLong0' := hid_ HLong0
    clear hbig0 HLong0
    have Hsi : Hid (Same (ordV m F) (ordV m F) = true) := hid_ (decide_eq_true rfl)
    have Hg := hid_ (@order_good m F)
    cases hok : ordOk m F with
    | true =>
      have Hg1 : Hid (ordErr m F (ordV m F) = 0) := hid_ (Hg.out hok).1
      have Hg2 : Hid (fitsRes m F (ordV m F) = true) := hid_ (Hg.out hok).2
      have H1 := hid_ (fun W h => sndOrder_calls m a n c F W h)
      have H2 := hid_ (fun W h => refOrder_calls m a n c F W h)
      rw [hok] at H1 H2
      have Hok := hid_ hok
      clear hok Hg
      have H1' := hid_ H1.out
      have H2' := hid_ H2.out
      clear H1 H2
      go_enter Try.func8, Try.ntmps8
      have G1 := hid_ (H1'.out w h)
      go_wp2_with (first
          | (go_at_call 16; refine HLong0'.out.out.mono ?_; rintro e w1 ⟨rfl, rfl⟩)
          | fail)
      refine G1.out.mono ?_
      rintro e w1 ⟨v1, rfl, hm1⟩
      have hb1 := hm1.bel
      obtain ⟨a1, c1, rfl, hI1⟩ := hm1.at_
      clear hm1
      have hB1 := hb1
      have h_1 := h.below hb1 (Nat.le_refl _)
      clear h G1 hb1
      have G2 := hid_ (H2'.out w1 h_1)
      go_wp2_with fail
      refine G2.out.mono ?_
      rintro e w2 ⟨a2, n2, c2, rfl, hI2, hb2⟩
      have hB2 := below_then hB1 hb2
      have h_2 := h_1.below hb2 (Nat.le_refl _)
      have o1_2 := hI1.below hb2 (Nat.le_refl _)
      clear hB1 h_1 hI1 G2 hb2
      have hn2 := hI2.len
      subst hn2
      have G3 := hid_ (show Calls Try.prog 24 _ w2 fun e w' => e = .returned (.bool true) ∧ ∃ q, w' = w2.drewN q from by rw [← Hsi.out]; exact same_calls _ _ _ _ _ _ _ _ w2 o1_2 hI2)
      generalize famErr m F = er
      go_wp2_with fail
      refine G3.out.mono ?_
      rintro e w3 ⟨rfl, q3, hq3⟩
      have hb3 : Below w2.heap.size w2 w3 := by rw [hq3]; exact below_drewN (Below.refl _ _) _
      clear hq3
      have hB3 := below_then hB2 hb3
      have h_3 := h_2.below hb3 (Nat.le_refl _)
      have o1_3 := o1_2.below hb3 (Nat.le_refl _)
      have o2_3 := hI2.below hb3 (Nat.le_refl _)
      clear hB2 h_2 o1_2 hI2 G3 hb3
      have G4 := hid_ (show Calls Try.prog 36 _ w3 fun e w' => e = .returned (.tuple #[.bool true, .int .i64 0]) ∧ Below w3.heap.size w3 w' from by rw [← Hg1.out, ← Hg2.out]; exact sndFitsX_calls m a n c F _ _ _ (ordV m F) w3 h_3 o1_3)
      go_wp2_with fail
      refine G4.out.mono ?_
      rintro e w4 ⟨rfl, hb4⟩
      have hB4 := below_then hB3 hb4
      have h_4 := h_3.below hb4 (Nat.le_refl _)
      have o1_4 := o1_3.below hb4 (Nat.le_refl _)
      have o2_4 := o2_3.below hb4 (Nat.le_refl _)
      clear hB3 h_3 o1_3 o2_3 G4 hb4
      have G5 := hid_ (Hk.out w4)
      go_wp2_with fail
      refine G5.out.mono ?_
      rintro e w5 ⟨rfl, hb5⟩
      have hB5 := below_then hB4 hb5
      have h_5 := h_4.below hb5 (Nat.le_refl _)
      have o1_5 := o1_4.below hb5 (Nat.le_refl _)
      have o2_5 := o2_4.below hb5 (Nat.le_refl _)
      clear hB4 h_4 o1_4 o2_4 G5 hb5
      go_wp2
      go_ret
      exact ⟨rfl, hB5⟩
    | false =>
      have H1 := hid_ (fun W h => sndOrder_calls m a n c F W h)
      have H2 := hid_ (fun W h => refOrder_calls m a n c F W h)
      rw [hok] at H1 H2
      have Hok := hid_ hok
      clear hok Hg
      have H1' := hid_ H1.out
      have H2' := hid_ H2.out
      clear H1 H2
      go_enter Try.func8, Try.ntmps8
      have G1 := hid_ (H1'.out w h)
      go_wp2_with (first
          | (go_at_call 16; refine HLong0'.out.out.mono ?_; rintro e w1 ⟨rfl, rfl⟩)
          | fail)
      refine G1.out.mono ?_
      rintro e w1 ⟨v1, rfl, hm1⟩
      have hb1 := hm1.bel
      obtain ⟨a1, c1, rfl, hI1⟩ := hm1.at_
      clear hm1
      have hB1 := hb1
      have h_1 := h.below hb1 (Nat.le_refl _)
      clear h G1 hb1
      have G2 := hid_ (H2'.out w1 h_1)
      go_wp2_with fail
      refine G2.out.mono ?_
      rintro e w2 ⟨a2, n2, c2, rfl, hI2, hb2⟩
      have hB2 := below_then hB1 hb2
      have h_2 := h_1.below hb2 (Nat.le_refl _)
      have o1_2 := hI1.below hb2 (Nat.le_refl _)
      clear hB1 h_1 hI1 G2 hb2
      have hn2 := hI2.len
      subst hn2
      have G3 := hid_ (show Calls Try.prog 24 _ w2 fun e w' => e = .returned (.bool true) ∧ ∃ q, w' = w2.drewN q from by rw [← Hsi.out]; exact same_calls _ _ _ _ _ _ _ _ w2 o1_2 hI2)
      generalize famErr m F = er
      go_wp2_with fail
      refine G3.out.mono ?_
      rintro e w3 ⟨rfl, q3, hq3⟩
      have hb3 : Below w2.heap.size w2 w3 := by rw [hq3]; exact below_drewN (Below.refl _ _) _
      clear hq3
      have hB3 := below_then hB2 hb3
      have h_3 := h_2.below hb3 (Nat.le_refl _)
      have o1_3 := o1_2.below hb3 (Nat.le_refl _)
      have o2_3 := hI2.below hb3 (Nat.le_refl _)
      clear hB2 h_2 o1_2 hI2 G3 hb3
      have G4 := hid_ (sndFitsX_calls m a n c F _ _ _ (ordV m F) w3 h_3 o1_3)
      go_wp2_with fail
      refine G4.out.mono ?_
      rintro e w4 ⟨rfl, hb4⟩
      have hB4 := below_then hB3 hb4
      have h_4 := h_3.below hb4 (Nat.le_refl _)
      have o1_4 := o1_3.below hb4 (Nat.le_refl _)
      have o2_4 := o2_3.below hb4 (Nat.le_refl _)
      clear hB3 h_3 o1_3 o2_3 G4 hb4
      have G5 := hid_ (Hk.out w4)
      go_wp2_with fail
      refine G5.out.mono ?_
      rintro e w5 ⟨rfl, hb5⟩
      have hB5 := below_then hB4 hb5
      have h_5 := h_4.below hb5 (Nat.le_refl _)
      have o1_5 := o1_4.below hb5 (Nat.le_refl _)
      have o2_5 := o2_4.below hb5 (Nat.le_refl _)
      clear hB4 h_4 o1_4 o2_4 G5 hb5
      go_wp2
      go_ret
      exact ⟨rfl, hB5⟩
end Go.Proofs.Ytcpaehogcicgjaa
