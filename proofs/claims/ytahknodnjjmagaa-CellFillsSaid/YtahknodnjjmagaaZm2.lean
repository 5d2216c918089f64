import Derived.Test.YtahknodnjjmagaaZ3
namespace Go.Proofs.Ytahknodnjjmagaa
open Go.RowKit Go.Proofs.Kv

/-! ### the law CellFills -/
theorem same_yes2 (a : Option Addr) (n c : Nat) (M : List Int) (a' : Option Addr) (n' c' : Nat) (W : World) (h1 : IntsAt W a n c M) (h2 : IntsAt W a' n' c' M) :
    Calls Try.prog 31 #[.slice a n c, .slice a' n' c'] W fun e w' => e = .returned (.bool true) ∧ Below W.heap.size W w' :=
  (same_calls a n c M a' n' c' M W h1 h2).mono fun e w' ⟨he, q, hq⟩ => ⟨by rw [he]; simp [Same], by rw [hq]; exact below_drewN (Below.refl _ _) _⟩
set_option maxRecDepth 100000 in
set_option maxHeartbeats 8000000 in
theorem cellFills_calls (v : Value) (P : Par) (w : World) (h : ParAt w v P) :
    Calls Try.prog 6 #[v] w fun e w' => e = .returned (.bool true) ∧ Below w.heap.size w w' := by
  have HP := hid_ h
  obtain ⟨a1, n1, c1, a2, n2, c2, rfl, h1, h2⟩ := h
  obtain ⟨w1, hw1⟩ : ∃ w1, w.alloc (.cells #[.slice a1 n1 c1, .slice a2 n2 c2] 25) = w1 := ⟨_, rfl⟩
  have cb : Below w.heap.size w w1 := by rw [← hw1]; exact below_alloc _ _
  have q0 : w1.cell? ⟨w.heap.size, 0, none⟩ = some (.slice a1 n1 c1) := by rw [← hw1]; exact cells_alloc _ _ _ 0
  have q1 : w1.cell? ⟨w.heap.size, 1, none⟩ = some (.slice a2 n2 c2) := by rw [← hw1]; exact cells_alloc _ _ _ 1
  have HP1 := hid_ (HP.out.below cb (Nat.le_refl _)); have Hc1 := hid_ cb
  have HK := hid_ known_calls
  have HG := hid_ (long_calls _ P w1 HP1.out)
  have HM := hid_ (fun W (hW : Below w1.heap.size w1 W) => ceFill_calls _ P W (HP1.out.below hW (Nat.le_refl _)))
  have HN := hid_ (fun W (hW : Below w1.heap.size w1 W) => r6Fill_calls _ P W (HP1.out.below hW (Nat.le_refl _)))
  have HD := hid_ (fun W (hW : Below w1.heap.size w1 W) => ceIsFull_calls _ P W (HP1.out.below hW (Nat.le_refl _)))
  have HE := hid_ (fun W (hW : Below w1.heap.size w1 W) => r6IsFull_calls _ P W (HP1.out.below hW (Nat.le_refl _)))
  clear h1 h2 cb
  cases hg : LongP P with
  | true =>
    rw [hg] at HG
    go_enter Try.func6, Try.ntmps6
    go_wp2_with (first
      | (go_at_call 17; (with_reducible refine HG.out.mono ?_); rintro e w2 ⟨rfl, hb2⟩)
      | (go_at_call 18; (with_reducible refine (HK.out _).mono ?_); rintro e w3 ⟨rfl, hb3⟩))
    go_ret
    exact ⟨rfl, Hc1.out.trans ((hb2.trans (hb3.mono hb2.size)).mono Hc1.out.size)⟩
  | false =>
    rw [hg] at HG
    have hfull : validP P = 0 → resFull P = !Has (resFill P) (-1) := fun h => by rw [resFull, resFill, if_pos h, if_pos h]
    clear hg
    generalize resFill P = M at *
    generalize resFull P = f at *
    generalize validP P = x at *
    obtain ⟨m, hm⟩ : ∃ m, M.length = m := ⟨_, rfl⟩
    have HLm := hid_ hm
    clear hm
    by_cases hx : x = 0
    · subst hx
      have hf := hfull rfl
      have HT := hid_ (fun a n c W (h : IntsAt W a n c M) => has_calls a n c M (-1) W h)
      generalize Has M (-1) = z at *
      subst hf
      clear hfull
      cases z with
      | false =>
        go_enter Try.func6, Try.ntmps6
        go_wp2_with (first
          | (go_at_call 17; (with_reducible refine HG.out.mono ?_); rintro e w2 ⟨rfl, hb2⟩; have q02 := cell_below q0 hb2; have q12 := cell_below q1 hb2)
          | (go_at_call 37; (with_reducible refine (HM.out w2 hb2).mono ?_); rintro e w3 ⟨v3, rfl, hm3⟩; have hb3 := hb2.trans (hm3.bel.mono hb2.size); have q03 := cell_below q0 hb3; have q13 := cell_below q1 hb3; obtain ⟨a3, c3, rfl, hi3⟩ := hm3.at_; have Hi3 := hid_ hi3; rw [HLm.out] at Hi3 ⊢; clear hi3 hm3)
          | (go_at_call 38; (with_reducible refine (HN.out w3 hb3).mono ?_); rintro e w4 ⟨v4, rfl, hm4⟩; have hb4 := hb3.trans (hm4.bel.mono hb3.size); have q04 := cell_below q0 hb4; have q14 := cell_below q1 hb4; obtain ⟨a4, c4, rfl, hi4⟩ := hm4.at_; have Hi4 := hid_ hi4; have Hi34 := hid_ (Hi3.out.below hm4.bel (Nat.le_refl _)); rw [HLm.out] at Hi4 ⊢; clear hi4 hm4)
          | (go_at_call 39; (with_reducible refine (HD.out w4 hb4).mono ?_); rintro e w5 ⟨rfl, hc5⟩; have hb5 := hb4.trans (hc5.mono hb4.size); have q05 := cell_below q0 hb5; have q15 := cell_below q1 hb5; have Hi45 := hid_ (Hi4.out.below hc5 (Nat.le_refl _)); have Hi35 := hid_ (Hi34.out.below hc5 (Nat.le_refl _)))
          | (go_at_call 40; (with_reducible refine (HE.out w5 hb5).mono ?_); rintro e w6 ⟨rfl, hc6⟩; have hb6 := hb5.trans (hc6.mono hb5.size); have q06 := cell_below q0 hb6; have q16 := cell_below q1 hb6; have Hi46 := hid_ (Hi45.out.below hc6 (Nat.le_refl _)); have Hi36 := hid_ (Hi35.out.below hc6 (Nat.le_refl _)))
          | (go_at_call 31; (with_reducible refine (same_yes2 _ _ _ M _ _ _ w6 Hi36.out Hi46.out).mono ?_); rintro e w9 ⟨rfl, hc9⟩; have hb9 := hb6.trans (hc9.mono hb6.size); have Hi39 := hid_ (Hi36.out.below hc9 (Nat.le_refl _)))
          | (go_at_call 32; (with_reducible refine (HT.out _ _ _ w9 Hi39.out).mono ?_); rintro e wh ⟨rfl, rfl⟩)
          | (go_at_call 18; (with_reducible refine (HK.out _).mono ?_); rintro e wk ⟨rfl, hbk⟩))
        go_ret
        exact ⟨rfl, Hc1.out.trans ((hb9.trans (hbk.mono hb9.size)).mono Hc1.out.size)⟩
      | true =>
        go_enter Try.func6, Try.ntmps6
        go_wp2_with (first
          | (go_at_call 17; (with_reducible refine HG.out.mono ?_); rintro e w2 ⟨rfl, hb2⟩; have q02 := cell_below q0 hb2; have q12 := cell_below q1 hb2)
          | (go_at_call 37; (with_reducible refine (HM.out w2 hb2).mono ?_); rintro e w3 ⟨v3, rfl, hm3⟩; have hb3 := hb2.trans (hm3.bel.mono hb2.size); have q03 := cell_below q0 hb3; have q13 := cell_below q1 hb3; obtain ⟨a3, c3, rfl, hi3⟩ := hm3.at_; have Hi3 := hid_ hi3; rw [HLm.out] at Hi3 ⊢; clear hi3 hm3)
          | (go_at_call 38; (with_reducible refine (HN.out w3 hb3).mono ?_); rintro e w4 ⟨v4, rfl, hm4⟩; have hb4 := hb3.trans (hm4.bel.mono hb3.size); have q04 := cell_below q0 hb4; have q14 := cell_below q1 hb4; obtain ⟨a4, c4, rfl, hi4⟩ := hm4.at_; have Hi4 := hid_ hi4; have Hi34 := hid_ (Hi3.out.below hm4.bel (Nat.le_refl _)); rw [HLm.out] at Hi4 ⊢; clear hi4 hm4)
          | (go_at_call 39; (with_reducible refine (HD.out w4 hb4).mono ?_); rintro e w5 ⟨rfl, hc5⟩; have hb5 := hb4.trans (hc5.mono hb4.size); have q05 := cell_below q0 hb5; have q15 := cell_below q1 hb5; have Hi45 := hid_ (Hi4.out.below hc5 (Nat.le_refl _)); have Hi35 := hid_ (Hi34.out.below hc5 (Nat.le_refl _)))
          | (go_at_call 40; (with_reducible refine (HE.out w5 hb5).mono ?_); rintro e w6 ⟨rfl, hc6⟩; have hb6 := hb5.trans (hc6.mono hb5.size); have q06 := cell_below q0 hb6; have q16 := cell_below q1 hb6; have Hi46 := hid_ (Hi45.out.below hc6 (Nat.le_refl _)); have Hi36 := hid_ (Hi35.out.below hc6 (Nat.le_refl _)))
          | (go_at_call 31; (with_reducible refine (same_yes2 _ _ _ M _ _ _ w6 Hi36.out Hi46.out).mono ?_); rintro e w9 ⟨rfl, hc9⟩; have hb9 := hb6.trans (hc9.mono hb6.size); have Hi39 := hid_ (Hi36.out.below hc9 (Nat.le_refl _)))
          | (go_at_call 32; (with_reducible refine (HT.out _ _ _ w9 Hi39.out).mono ?_); rintro e wh ⟨rfl, rfl⟩)
          | (go_at_call 18; (with_reducible refine (HK.out _).mono ?_); rintro e wk ⟨rfl, hbk⟩))
        go_ret
        exact ⟨rfl, Hc1.out.trans ((hb9.trans (hbk.mono hb9.size)).mono Hc1.out.size)⟩
    · have hq : (x != 0) = true := by simpa using hx
      clear hfull hx
      go_enter Try.func6, Try.ntmps6
      go_wp2_with (first
        | (go_at_call 17; (with_reducible refine HG.out.mono ?_); rintro e w2 ⟨rfl, hb2⟩; have q02 := cell_below q0 hb2; have q12 := cell_below q1 hb2)
        | (go_at_call 37; (with_reducible refine (HM.out w2 hb2).mono ?_); rintro e w3 ⟨v3, rfl, hm3⟩; have hb3 := hb2.trans (hm3.bel.mono hb2.size); have q03 := cell_below q0 hb3; have q13 := cell_below q1 hb3; obtain ⟨a3, c3, rfl, hi3⟩ := hm3.at_; have Hi3 := hid_ hi3; rw [HLm.out] at Hi3 ⊢; clear hi3 hm3)
        | (go_at_call 38; (with_reducible refine (HN.out w3 hb3).mono ?_); rintro e w4 ⟨v4, rfl, hm4⟩; have hb4 := hb3.trans (hm4.bel.mono hb3.size); have q04 := cell_below q0 hb4; have q14 := cell_below q1 hb4; obtain ⟨a4, c4, rfl, hi4⟩ := hm4.at_; have Hi4 := hid_ hi4; have Hi34 := hid_ (Hi3.out.below hm4.bel (Nat.le_refl _)); rw [HLm.out] at Hi4 ⊢; clear hi4 hm4)
        | (go_at_call 39; (with_reducible refine (HD.out w4 hb4).mono ?_); rintro e w5 ⟨rfl, hc5⟩; have hb5 := hb4.trans (hc5.mono hb4.size); have q05 := cell_below q0 hb5; have q15 := cell_below q1 hb5; have Hi45 := hid_ (Hi4.out.below hc5 (Nat.le_refl _)); have Hi35 := hid_ (Hi34.out.below hc5 (Nat.le_refl _)))
        | (go_at_call 40; (with_reducible refine (HE.out w5 hb5).mono ?_); rintro e w6 ⟨rfl, hc6⟩; have hb6 := hb5.trans (hc6.mono hb5.size); have q06 := cell_below q0 hb6; have q16 := cell_below q1 hb6; have Hi46 := hid_ (Hi45.out.below hc6 (Nat.le_refl _)); have Hi36 := hid_ (Hi35.out.below hc6 (Nat.le_refl _)))
        | (go_at_call 31; (with_reducible refine (same_yes2 _ _ _ M _ _ _ w6 Hi36.out Hi46.out).mono ?_); rintro e w9 ⟨rfl, hc9⟩; have hb9 := hb6.trans (hc9.mono hb6.size))
        | (go_at_call 18; (with_reducible refine (HK.out _).mono ?_); rintro e wk ⟨rfl, hbk⟩))
      go_ret
      exact ⟨rfl, Hc1.out.trans ((hb9.trans (hbk.mono hb9.size)).mono Hc1.out.size)⟩
end Go.Proofs.Ytahknodnjjmagaa
