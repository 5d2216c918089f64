import Derived.Test.YtahknodnjjmagaaZ8
namespace Go.Proofs.Ytahknodnjjmagaa
open Go.RowKit Go.Proofs.Kv

/-! ### the law CellClashes -/
theorem sameL_yes4 (a : Option Addr) (n c : Nat) (M : List (List Int)) (a' : Option Addr) (n' c' : Nat) (W : World) (h1 : ListsAt W a n c M) (h2 : ListsAt W a' n' c' M) :
    Calls Try.prog 23 #[.slice a n c, .slice a' n' c'] W fun e w' => e = .returned (.bool true) ∧ Below W.heap.size W w' :=
  (sameL_calls a n c M a' n' c' M W h1 h2).mono fun e w' ⟨he, q, hq⟩ => ⟨by rw [he]; simp [SameL], by rw [hq]; exact below_drewN (Below.refl _ _) _⟩
theorem full_iff {P : Par} (hv : validP P = 0) : resFull P = decide ((resClash P).length + (resEmpty P).length = 0) := by
  have e : (withL P (clashB P)).length + (withL P (emptyB P)).length = 0 ↔ ∀ l ∈ cellsL P.sizes, ¬ formR P l = -1 := by
    rw [Nat.add_eq_zero_iff, List.length_eq_zero_iff, List.length_eq_zero_iff, withL, withL, List.filter_eq_nil_iff, List.filter_eq_nil_iff]
    constructor
    · rintro ⟨h1, h2⟩ l hl hf
      have g1 := h1 l hl
      have g2 := h2 l hl
      rw [clashB, hf] at g1
      rw [emptyB] at g2
      simp at g1 g2
      exact g2 g1
    · intro h
      refine ⟨fun l hl hh => h l hl ?_, fun l hl hh => h l hl ?_⟩
      · rw [clashB, Bool.and_eq_true, decide_eq_true_eq] at hh; exact hh.1
      · rw [← prF_empty, prF, Bool.and_eq_true, decide_eq_true_eq] at hh
        rcases form_min hv l with h1 | h1
        · exact h1
        · omega
  rw [resFull, resClash, resEmpty, if_pos hv, if_pos hv, if_pos hv, decide_eq_decide.2 e, Bool.eq_iff_iff, decide_eq_true_eq]
  rw [Bool.not_eq_true', Bool.eq_false_iff, ne_eq, Has_iff, fillL, List.mem_map]
  exact ⟨fun h l hl hf => h ⟨l, hl, hf⟩, fun h ⟨l, hl, hf⟩ => h l hl hf⟩
set_option maxRecDepth 100000 in
set_option maxHeartbeats 8000000 in
theorem cellClashes_calls (v : Value) (P : Par) (w : World) (h : ParAt w v P) :
    Calls Try.prog 7 #[v] w fun e w' => e = .returned (.bool true) ∧ Below w.heap.size w w' := by
  have HP := hid_ h
  obtain ⟨a1, n1, c1, a2, n2, c2, rfl, h1, h2⟩ := h
  obtain ⟨w1, hw1⟩ : ∃ w1, w.alloc (.cells #[.slice a1 n1 c1, .slice a2 n2 c2] 25) = w1 := ⟨_, rfl⟩
  have cb : Below w.heap.size w w1 := by rw [← hw1]; exact below_alloc _ _
  have q0 : w1.cell? ⟨w.heap.size, 0, none⟩ = some (.slice a1 n1 c1) := by rw [← hw1]; exact cells_alloc _ _ _ 0
  have q1 : w1.cell? ⟨w.heap.size, 1, none⟩ = some (.slice a2 n2 c2) := by rw [← hw1]; exact cells_alloc _ _ _ 1
  have HP1 := hid_ (HP.out.below cb (Nat.le_refl _)); have Hc1 := hid_ cb
  have HK := hid_ known_calls
  have HG := hid_ (long_calls _ P w1 HP1.out)
  have HA := hid_ (fun W (hW : Below w1.heap.size w1 W) => ceClashes_calls _ P W (HP1.out.below hW (Nat.le_refl _)))
  have HB := hid_ (fun W (hW : Below w1.heap.size w1 W) => r6Clashes_calls _ P W (HP1.out.below hW (Nat.le_refl _)))
  have HC := hid_ (fun W (hW : Below w1.heap.size w1 W) => ceEmpty_calls _ P W (HP1.out.below hW (Nat.le_refl _)))
  have HD := hid_ (fun W (hW : Below w1.heap.size w1 W) => r6Empty_calls _ P W (HP1.out.below hW (Nat.le_refl _)))
  have HE := hid_ (fun W (hW : Below w1.heap.size w1 W) => ceIsFull_calls _ P W (HP1.out.below hW (Nat.le_refl _)))
  clear h1 h2 cb
  cases hg : LongP P with
  | true =>
    rw [hg] at HG
    go_enter Try.func7, Try.ntmps7
    go_wp2_with (first
      | (go_at_call 17; (with_reducible refine HG.out.mono ?_); rintro e w2 ⟨rfl, hb2⟩)
      | (go_at_call 18; (with_reducible refine (HK.out _).mono ?_); rintro e w3 ⟨rfl, hb3⟩))
    go_ret
    exact ⟨rfl, Hc1.out.trans ((hb2.trans (hb3.mono hb2.size)).mono Hc1.out.size)⟩
  | false =>
    rw [hg] at HG
    clear hg
    have hfull := @full_iff P
    have hle : (resClash P).length ≤ 27 ∧ (resEmpty P).length ≤ 27 := by
      rw [resClash, resEmpty]
      split
      · rename_i hv
        have := (cells_chain hv).2.2.1
        exact ⟨Nat.le_trans (List.length_filter_le _ _) this, Nat.le_trans (List.length_filter_le _ _) this⟩
      · exact ⟨by simp, by simp⟩
    generalize resClash P = M at *
    generalize resEmpty P = N at *
    generalize resFull P = f at *
    generalize validP P = x at *
    obtain ⟨m, hm⟩ : ∃ m, M.length = m := ⟨_, rfl⟩
    obtain ⟨n, hn⟩ : ∃ n, N.length = n := ⟨_, rfl⟩
    rw [hm, hn] at hfull hle
    have HLm := hid_ hm
    have HLn := hid_ hn
    clear hm hn
    obtain ⟨hm27, hn27⟩ := hle
    have hwr : IntKind.i64.wrap ((m : Int) + (n : Int)) = (m : Int) + (n : Int) := IntWalk.i64_in _ (by omega)
    by_cases hx : x = 0
    · subst hx
      have hf := hfull rfl
      have hfe : f = ((m : Int) + (n : Int) == 0) := by
        rw [hf, Bool.eq_iff_iff]
        simp
        omega
      clear hfull hf
      subst hfe
      go_enter Try.func7, Try.ntmps7
      go_wp2_with (first
        | (go_at_call 17; (with_reducible refine HG.out.mono ?_); rintro e w2 ⟨rfl, hb2⟩; have q02 := cell_below q0 hb2; have q12 := cell_below q1 hb2)
        | (go_at_call 41; (with_reducible refine (HA.out w2 hb2).mono ?_); rintro e w3 ⟨v3, rfl, hm3⟩; have hb3 := hb2.trans (hm3.bel.mono hb2.size); have q03 := cell_below q0 hb3; have q13 := cell_below q1 hb3; obtain ⟨a3, c3, rfl, hi3⟩ := hm3.at_; have Hi3 := hid_ hi3; rw [HLm.out] at Hi3 ⊢; clear hi3 hm3)
        | (go_at_call 42; (with_reducible refine (HB.out w3 hb3).mono ?_); rintro e w4 ⟨v4, rfl, hm4⟩; have hb4 := hb3.trans (hm4.bel.mono hb3.size); have q04 := cell_below q0 hb4; have q14 := cell_below q1 hb4; obtain ⟨a4, c4, rfl, hi4⟩ := hm4.at_; have Hj4 := hid_ hi4; rw [HLm.out] at Hj4 ⊢; have Hi4 := hid_ (Hi3.out.below hm4.bel (Nat.le_refl _)); clear hi4 hm4)
        | (go_at_call 43; (with_reducible refine (HC.out w4 hb4).mono ?_); rintro e w5 ⟨v5, rfl, hm5⟩; have hb5 := hb4.trans (hm5.bel.mono hb4.size); have q05 := cell_below q0 hb5; have q15 := cell_below q1 hb5; obtain ⟨a5, c5, rfl, hi5⟩ := hm5.at_; have Hk5 := hid_ hi5; rw [HLn.out] at Hk5 ⊢; have Hi5 := hid_ (Hi4.out.below hm5.bel (Nat.le_refl _)); have Hj5 := hid_ (Hj4.out.below hm5.bel (Nat.le_refl _)); clear hi5 hm5)
        | (go_at_call 44; (with_reducible refine (HD.out w5 hb5).mono ?_); rintro e w6 ⟨v6, rfl, hm6⟩; have hb6 := hb5.trans (hm6.bel.mono hb5.size); have q06 := cell_below q0 hb6; have q16 := cell_below q1 hb6; obtain ⟨a6, c6, rfl, hi6⟩ := hm6.at_; have Hl6 := hid_ hi6; rw [HLn.out] at Hl6 ⊢; have Hi6 := hid_ (Hi5.out.below hm6.bel (Nat.le_refl _)); have Hj6 := hid_ (Hj5.out.below hm6.bel (Nat.le_refl _)); have Hk6 := hid_ (Hk5.out.below hm6.bel (Nat.le_refl _)); clear hi6 hm6)
        | (go_at_call 23; (with_reducible refine (sameL_yes4 _ _ _ M _ _ _ w6 Hi6.out Hj6.out).mono ?_); rintro e w7 ⟨rfl, hc7⟩; have hb7 := hb6.trans (hc7.mono hb6.size); have q07 := cell_below q0 hb7; have q17 := cell_below q1 hb7; have Hi7 := hid_ (Hi6.out.below hc7 (Nat.le_refl _)); have Hj7 := hid_ (Hj6.out.below hc7 (Nat.le_refl _)); have Hk7 := hid_ (Hk6.out.below hc7 (Nat.le_refl _)); have Hl7 := hid_ (Hl6.out.below hc7 (Nat.le_refl _)))
        | (go_at_call 23; (with_reducible refine (sameL_yes4 _ _ _ N _ _ _ w7 Hk7.out Hl7.out).mono ?_); rintro e w8 ⟨rfl, hc8⟩; have hb8 := hb7.trans (hc8.mono hb7.size); have q08 := cell_below q0 hb8; have q18 := cell_below q1 hb8; have Hi8 := hid_ (Hi7.out.below hc8 (Nat.le_refl _)); have Hj8 := hid_ (Hj7.out.below hc8 (Nat.le_refl _)); have Hk8 := hid_ (Hk7.out.below hc8 (Nat.le_refl _)); have Hl8 := hid_ (Hl7.out.below hc8 (Nat.le_refl _)))
        | (go_at_call 39; (with_reducible refine (HE.out w8 hb8).mono ?_); rintro e w9 ⟨rfl, hc9⟩; have hb9 := hb8.trans (hc9.mono hb8.size); have q09 := cell_below q0 hb9; have q19 := cell_below q1 hb9; have Hi9 := hid_ (Hi8.out.below hc9 (Nat.le_refl _)); have Hj9 := hid_ (Hj8.out.below hc9 (Nat.le_refl _)); have Hk9 := hid_ (Hk8.out.below hc9 (Nat.le_refl _)); have Hl9 := hid_ (Hl8.out.below hc9 (Nat.le_refl _)))
        | (go_at_call 18; (with_reducible refine (HK.out _).mono ?_); rintro e wk ⟨rfl, hbk⟩))
      go_ret
      exact ⟨rfl, Hc1.out.trans ((hb9.trans (hbk.mono hb9.size)).mono Hc1.out.size)⟩
    · have hq : (x != 0) = true := by simpa using hx
      clear hfull hx
      go_enter Try.func7, Try.ntmps7
      go_wp2_with (first
        | (go_at_call 17; (with_reducible refine HG.out.mono ?_); rintro e w2 ⟨rfl, hb2⟩; have q02 := cell_below q0 hb2; have q12 := cell_below q1 hb2)
        | (go_at_call 41; (with_reducible refine (HA.out w2 hb2).mono ?_); rintro e w3 ⟨v3, rfl, hm3⟩; have hb3 := hb2.trans (hm3.bel.mono hb2.size); have q03 := cell_below q0 hb3; have q13 := cell_below q1 hb3; obtain ⟨a3, c3, rfl, hi3⟩ := hm3.at_; have Hi3 := hid_ hi3; rw [HLm.out] at Hi3 ⊢; clear hi3 hm3)
        | (go_at_call 42; (with_reducible refine (HB.out w3 hb3).mono ?_); rintro e w4 ⟨v4, rfl, hm4⟩; have hb4 := hb3.trans (hm4.bel.mono hb3.size); have q04 := cell_below q0 hb4; have q14 := cell_below q1 hb4; obtain ⟨a4, c4, rfl, hi4⟩ := hm4.at_; have Hj4 := hid_ hi4; rw [HLm.out] at Hj4 ⊢; have Hi4 := hid_ (Hi3.out.below hm4.bel (Nat.le_refl _)); clear hi4 hm4)
        | (go_at_call 43; (with_reducible refine (HC.out w4 hb4).mono ?_); rintro e w5 ⟨v5, rfl, hm5⟩; have hb5 := hb4.trans (hm5.bel.mono hb4.size); have q05 := cell_below q0 hb5; have q15 := cell_below q1 hb5; obtain ⟨a5, c5, rfl, hi5⟩ := hm5.at_; have Hk5 := hid_ hi5; rw [HLn.out] at Hk5 ⊢; have Hi5 := hid_ (Hi4.out.below hm5.bel (Nat.le_refl _)); have Hj5 := hid_ (Hj4.out.below hm5.bel (Nat.le_refl _)); clear hi5 hm5)
        | (go_at_call 44; (with_reducible refine (HD.out w5 hb5).mono ?_); rintro e w6 ⟨v6, rfl, hm6⟩; have hb6 := hb5.trans (hm6.bel.mono hb5.size); have q06 := cell_below q0 hb6; have q16 := cell_below q1 hb6; obtain ⟨a6, c6, rfl, hi6⟩ := hm6.at_; have Hl6 := hid_ hi6; rw [HLn.out] at Hl6 ⊢; have Hi6 := hid_ (Hi5.out.below hm6.bel (Nat.le_refl _)); have Hj6 := hid_ (Hj5.out.below hm6.bel (Nat.le_refl _)); have Hk6 := hid_ (Hk5.out.below hm6.bel (Nat.le_refl _)); clear hi6 hm6)
        | (go_at_call 23; (with_reducible refine (sameL_yes4 _ _ _ M _ _ _ w6 Hi6.out Hj6.out).mono ?_); rintro e w7 ⟨rfl, hc7⟩; have hb7 := hb6.trans (hc7.mono hb6.size); have q07 := cell_below q0 hb7; have q17 := cell_below q1 hb7; have Hi7 := hid_ (Hi6.out.below hc7 (Nat.le_refl _)); have Hj7 := hid_ (Hj6.out.below hc7 (Nat.le_refl _)); have Hk7 := hid_ (Hk6.out.below hc7 (Nat.le_refl _)); have Hl7 := hid_ (Hl6.out.below hc7 (Nat.le_refl _)))
        | (go_at_call 23; (with_reducible refine (sameL_yes4 _ _ _ N _ _ _ w7 Hk7.out Hl7.out).mono ?_); rintro e w8 ⟨rfl, hc8⟩; have hb8 := hb7.trans (hc8.mono hb7.size); have q08 := cell_below q0 hb8; have q18 := cell_below q1 hb8; have Hi8 := hid_ (Hi7.out.below hc8 (Nat.le_refl _)); have Hj8 := hid_ (Hj7.out.below hc8 (Nat.le_refl _)); have Hk8 := hid_ (Hk7.out.below hc8 (Nat.le_refl _)); have Hl8 := hid_ (Hl7.out.below hc8 (Nat.le_refl _)))
        | (go_at_call 39; (with_reducible refine (HE.out w8 hb8).mono ?_); rintro e w9 ⟨rfl, hc9⟩; have hb9 := hb8.trans (hc9.mono hb8.size); have q09 := cell_below q0 hb9; have q19 := cell_below q1 hb9; have Hi9 := hid_ (Hi8.out.below hc9 (Nat.le_refl _)); have Hj9 := hid_ (Hj8.out.below hc9 (Nat.le_refl _)); have Hk9 := hid_ (Hk8.out.below hc9 (Nat.le_refl _)); have Hl9 := hid_ (Hl8.out.below hc9 (Nat.le_refl _)))
        | (go_at_call 18; (with_reducible refine (HK.out _).mono ?_); rintro e wk ⟨rfl, hbk⟩))
      go_ret
      exact ⟨rfl, Hc1.out.trans ((hb9.trans (hbk.mono hb9.size)).mono Hc1.out.size)⟩
end Go.Proofs.Ytahknodnjjmagaa
