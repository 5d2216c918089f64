import Derived.Test.YtgpenbajhndhiaaVv
namespace Go.Proofs.Ytgpenbajhndhiaa
open Go.RowKit Go.Proofs.Kv Go

/-! ### CheckTwo -/
set_option maxRecDepth 100000 in
set_option maxHeartbeats 8000000 in
theorem taCheckTwo_calls (v : Value) (L : Lx) (a : Option Addr) (n c : Nat) (s : List Int) (a' : Option Addr) (n' c' : Nat) (t : List Int) (w : World) (h : LexAt w v L) (hs : IntsAt w a n c s) (ht : IntsAt w a' n' c' t) :
    Calls Try.prog 22 #[v, .slice a n c, .slice a' n' c'] w fun e w' => e = .returned (.int .i64 (twoE L s t)) ∧ Below w.heap.size w w' := by
  have HP := hid_ h
  obtain ⟨a1, n1, c1, a2, n2, c2, rfl, h1, h2⟩ := h
  obtain ⟨w1, hw1⟩ : ∃ w1, w.alloc (.cells #[.slice a1 n1 c1, .slice a2 n2 c2] 25) = w1 := ⟨_, rfl⟩
  have cb : Below w.heap.size w w1 := by rw [← hw1]; exact below_alloc _ _
  have q0 : w1.cell? ⟨w.heap.size, 0, none⟩ = some (.slice a1 n1 c1) := by rw [← hw1]; exact cells_alloc _ _ _ 0
  have q1 : w1.cell? ⟨w.heap.size, 1, none⟩ = some (.slice a2 n2 c2) := by rw [← hw1]; exact cells_alloc _ _ _ 1
  have HP1 := hid_ (HP.out.below cb (Nat.le_refl _)); have Hc1 := hid_ cb
  have HV := hid_ (taValidate_calls _ L w1 HP1.out)
  have HQ := hid_ (fun W (hW : Below w1.heap.size w1 W) => (⟨cell_below q0 hW, cell_below q1 hW⟩ : _ ∧ _))
  have HS := hid_ (fun W (hW : Below w1.heap.size w1 W) => (⟨cell_below q0 hW, cell_below q1 hW, hW⟩ : _ ∧ _ ∧ _))
  have Hs := hid_ (fun W (hW : Below w1.heap.size w1 W) => (hs.below cb (Nat.le_refl _)).below hW (Nat.le_refl _))
  have Ht := hid_ (fun W (hW : Below w1.heap.size w1 W) => (ht.below cb (Nat.le_refl _)).below hW (Nat.le_refl _))
  have HLx := hid_ (fun W (hW : Below w1.heap.size w1 W) => HP1.out.below hW (Nat.le_refl _))
  have HE : Hid (twoE L s t = if validL L = 0 then (if 200 < n ∨ 200 < n' then 3 else if (itemsB L s && itemsB L t) = true then (if s = t ∨ wordsL L s ≠ wordsL L t then 7 else 0) else 4) else validL L) := hid_ (by rw [twoE, hs.len, ht.len])
  clear h1 h2 HP HP1 cb hs ht
  generalize twoE L s t = E at *
  by_cases he : validL L = 0
  · have g := validL_ok he
    rw [he, if_pos rfl] at HE
    rw [he] at HV
    clear he
    by_cases h200 : 200 < n ∨ 200 < n'
    · rw [if_pos h200] at HE
      by_cases hn : 200 < n
      · clear h200 g
        go_enter Try.func22, Try.ntmps22
        go_wp2_with (go_at_call 44; (with_reducible refine HV.out.mono ?_); rintro e w2 ⟨rfl, hb2⟩; obtain ⟨q2, r2⟩ := HQ.out w2 hb2)
        go_ret
        exact ⟨by rw [HE.out]; rfl, Hc1.out.trans (hb2.mono Hc1.out.size)⟩
      · have hn' : 200 < n' := by omega
        clear h200 g
        go_enter Try.func22, Try.ntmps22
        go_wp2_with (go_at_call 44; (with_reducible refine HV.out.mono ?_); rintro e w2 ⟨rfl, hb2⟩; obtain ⟨q2, r2⟩ := HQ.out w2 hb2)
        go_ret
        exact ⟨by rw [HE.out]; rfl, Hc1.out.trans (hb2.mono Hc1.out.size)⟩
    · rw [if_neg h200] at HE
      have hn : ¬ 200 < n := by omega
      have hn' : ¬ 200 < n' := by omega
      have HI1 := hid_ (fun W (hW : Below w1.heap.size w1 W) => areItems_calls _ L a n c s W (HLx.out W hW) (Hs.out W hW) (by have := g.le; omega))
      have HI2 := hid_ (fun W (hW : Below w1.heap.size w1 W) => areItems_calls _ L a' n' c' t W (HLx.out W hW) (Ht.out W hW) (by have := g.le; omega))
      clear h200
      cases hi1 : itemsB L s with
      | false =>
        rw [hi1] at HE HI1
        have HE' : Hid (E = 4) := hid_ (HE.out.trans (if_neg (by simp)))
        clear HE g
        go_enter Try.func22, Try.ntmps22
        go_wp2_with (first
          | (go_at_call 44; (with_reducible refine HV.out.mono ?_); rintro e w2 ⟨rfl, hb2⟩; obtain ⟨q2, r2⟩ := HQ.out w2 hb2)
          | (go_at_call 36; (with_reducible refine (HI1.out _ hb2).mono ?_); rintro e w3 ⟨rfl, hb3'⟩; have hb3 := hb2.trans (hb3'.mono hb2.size); obtain ⟨q3, r3⟩ := HQ.out w3 hb3))
        go_ret
        exact ⟨by rw [HE'.out]; rfl, Hc1.out.trans (hb3.mono Hc1.out.size)⟩
      | true =>
        cases hi2 : itemsB L t with
        | false =>
          rw [hi2, hi1] at HE
          rw [hi1] at HI1
          rw [hi2] at HI2
          have HE' : Hid (E = 4) := hid_ (HE.out.trans (if_neg (by simp)))
          clear HE g
          go_enter Try.func22, Try.ntmps22
          go_wp2_with (first
            | (go_at_call 44; (with_reducible refine HV.out.mono ?_); rintro e w2 ⟨rfl, hb2⟩; obtain ⟨q2, r2⟩ := HQ.out w2 hb2)
            | (go_at_call 36; (with_reducible refine (HI1.out _ hb2).mono ?_); rintro e w3 ⟨rfl, hb3'⟩; have hb3 := hb2.trans (hb3'.mono hb2.size); obtain ⟨q3, r3⟩ := HQ.out w3 hb3)
            | (go_at_call 36; (with_reducible refine (HI2.out _ hb3).mono ?_); rintro e w4 ⟨rfl, hb4'⟩; have hb4 := hb3.trans (hb4'.mono hb3.size); obtain ⟨q4, r4⟩ := HQ.out w4 hb4))
          go_ret
          exact ⟨by rw [HE'.out]; rfl, Hc1.out.trans (hb4.mono Hc1.out.size)⟩
        | true =>
          rw [hi1, hi2, if_pos (by rfl)] at HE
          have HE1 := hid_ (fun W (hW : Below w1.heap.size w1 W) => equal8_calls a n c s a' n' c' t W (Hs.out W hW) (Ht.out W hW))
          have HW1 := hid_ (fun W (hW : Below w1.heap.size w1 W) => tawords_calls _ L a n c s W (HLx.out W hW) (Hs.out W hW) g hi1 (by omega))
          have HW2 := hid_ (fun W (hW : Below w1.heap.size w1 W) => tawords_calls _ L a' n' c' t W (HLx.out W hW) (Ht.out W hW) g hi2 (by omega))
          rw [hi1] at HI1
          rw [hi2] at HI2
          obtain ⟨m1, hm1⟩ : ∃ m1, (wordsL L s).length = m1 := ⟨_, rfl⟩
          obtain ⟨m2, hm2⟩ : ∃ m2, (wordsL L t).length = m2 := ⟨_, rfl⟩
          have Hl1 := hid_ hm1; have Hl2 := hid_ hm2
          clear hm1 hm2 hi1 hi2
          by_cases hst : s = t
          · have HEq : Hid (decide (s = t) = true) := hid_ (decide_eq_true hst)
            have HE' : Hid (E = 7) := hid_ (HE.out.trans (if_pos (.inl hst)))
            have HEw : Hid (True) := hid_ trivial
            have Hx6 := HEw; have HE2 := HEw; have hb6 := HEw; have hb7 := HEw
            clear HE g hst
            go_enter Try.func22, Try.ntmps22
            go_wp2_with (first
              | (go_at_call 44; (with_reducible refine HV.out.mono ?_); rintro e w2 ⟨rfl, hb2⟩; obtain ⟨q2, r2⟩ := HQ.out w2 hb2)
              | (go_at_call 36; (with_reducible refine (HI1.out _ hb2).mono ?_); rintro e w3 ⟨rfl, hb3'⟩; have hb3 := hb2.trans (hb3'.mono hb2.size); obtain ⟨q3, r3⟩ := HQ.out w3 hb3)
              | (go_at_call 36; (with_reducible refine (HI2.out _ hb3).mono ?_); rintro e w4 ⟨rfl, hb4'⟩; have hb4 := hb3.trans (hb4'.mono hb3.size); obtain ⟨q4, r4⟩ := HQ.out w4 hb4))
            have HEd := hid_ (fun q => (by have h9 := HE1.out (w4.drewN q) (below_drewN hb4 q); rw [HEq.out] at h9; exact h9 : Calls Try.prog 37 _ (w4.drewN q) _))
            go_wp2_with fail
            go_quiet ((go_at_call 37; exact quiet_more (HEd.out _)))
            go_wp2
            go_ret
            exact ⟨by rw [HE'.out]; rfl, Hc1.out.trans ((below_drewN hb4 _).mono Hc1.out.size)⟩
          · have HEq : Hid (decide (s = t) = false) := hid_ (decide_eq_false hst)
            by_cases hw : wordsL L s = wordsL L t
            · have HEw : Hid (decide (wordsL L s = wordsL L t) = true) := hid_ (decide_eq_true hw)
              have HE' : Hid (E = 0) := hid_ (HE.out.trans (if_neg (by rintro (q | q); exact hst q; exact q hw)))
              clear HE g hst hw
              go_enter Try.func22, Try.ntmps22
              go_wp2_with (first
                | (go_at_call 44; (with_reducible refine HV.out.mono ?_); rintro e w2 ⟨rfl, hb2⟩; obtain ⟨q2, r2⟩ := HQ.out w2 hb2)
                | (go_at_call 36; (with_reducible refine (HI1.out _ hb2).mono ?_); rintro e w3 ⟨rfl, hb3'⟩; have hb3 := hb2.trans (hb3'.mono hb2.size); obtain ⟨q3, r3⟩ := HQ.out w3 hb3)
                | (go_at_call 36; (with_reducible refine (HI2.out _ hb3).mono ?_); rintro e w4 ⟨rfl, hb4'⟩; have hb4 := hb3.trans (hb4'.mono hb3.size); obtain ⟨q4, r4⟩ := HQ.out w4 hb4))
              go_wp2_with fail
              have hbd : Below w1.heap.size w1 w4.drew := Below.drew hb4
              go_region_held3 (fun W => W.cell? ⟨w.heap.size, 0, none⟩ = some (.slice a1 n1 c1) ∧ W.cell? ⟨w.heap.size, 1, none⟩ = some (.slice a2 n2 c2) ∧ Below w1.heap.size w1 W) ((refine HS.out _ ?_; assumption))
                (first
                  | ((go_at_call 37; (with_reducible refine (HE1.out _ hbd).mono ?_); rintro e w5 ⟨rfl, q5, hw5⟩; have hb5 : Below w1.heap.size w1 w5 := (by rw [hw5]; exact below_drewN hbd _); clear hw5; rw [HEq.out]))
                  | ((go_at_call 38; (with_reducible refine (HW1.out _ hb5).mono ?_); rintro e w6 ⟨v6, rfl, hm6⟩; have hb6 := hb5.trans (hm6.bel.mono hb5.size); obtain ⟨a6, k6, rfl, hi6⟩ := hm6.at_; have Hx6 := hid_ hi6; clear hm6 hi6; rw [Hl1.out] at Hx6 ⊢))
                  | ((go_at_call 38; (with_reducible refine (HW2.out _ hb6).mono ?_); rintro e w7 ⟨v7, rfl, hm7⟩; have hb7 := hb6.trans (hm7.bel.mono hb6.size); obtain ⟨a7, k7, rfl, hi7⟩ := hm7.at_; have Hy7 := hid_ hi7; have Hx7 := hid_ (Hx6.out.below hm7.bel (Nat.le_refl _)); clear hm7 hi7; rw [Hl2.out] at Hy7 ⊢; have HE2 := hid_ (equal8_calls _ _ _ _ _ _ _ _ w7 Hx7.out Hy7.out); rw [HEw.out] at HE2))
                  | ((go_at_call 37; (with_reducible refine HE2.out.mono ?_); rintro e w8 ⟨rfl, q8, hw8⟩; have hb8 : Below w1.heap.size w1 w8 := (by rw [hw8]; exact below_drewN hb7 _); clear hw8)))
              all_goals
                have hbz := hb8
                go_wp2
                go_ret
                exact ⟨by rw [HE'.out]; rfl, Hc1.out.trans (hbz.mono Hc1.out.size)⟩
            · have HEw : Hid (decide (wordsL L s = wordsL L t) = false) := hid_ (decide_eq_false hw)
              have HE' : Hid (E = 7) := hid_ (HE.out.trans (if_pos (.inr hw)))
              clear HE g hst hw
              go_enter Try.func22, Try.ntmps22
              go_wp2_with (first
                | (go_at_call 44; (with_reducible refine HV.out.mono ?_); rintro e w2 ⟨rfl, hb2⟩; obtain ⟨q2, r2⟩ := HQ.out w2 hb2)
                | (go_at_call 36; (with_reducible refine (HI1.out _ hb2).mono ?_); rintro e w3 ⟨rfl, hb3'⟩; have hb3 := hb2.trans (hb3'.mono hb2.size); obtain ⟨q3, r3⟩ := HQ.out w3 hb3)
                | (go_at_call 36; (with_reducible refine (HI2.out _ hb3).mono ?_); rintro e w4 ⟨rfl, hb4'⟩; have hb4 := hb3.trans (hb4'.mono hb3.size); obtain ⟨q4, r4⟩ := HQ.out w4 hb4))
              go_wp2_with fail
              have hbd : Below w1.heap.size w1 w4.drew := Below.drew hb4
              go_region_held3 (fun W => W.cell? ⟨w.heap.size, 0, none⟩ = some (.slice a1 n1 c1) ∧ W.cell? ⟨w.heap.size, 1, none⟩ = some (.slice a2 n2 c2) ∧ Below w1.heap.size w1 W) ((refine HS.out _ ?_; assumption))
                (first
                  | ((go_at_call 37; (with_reducible refine (HE1.out _ hbd).mono ?_); rintro e w5 ⟨rfl, q5, hw5⟩; have hb5 : Below w1.heap.size w1 w5 := (by rw [hw5]; exact below_drewN hbd _); clear hw5; rw [HEq.out]))
                  | ((go_at_call 38; (with_reducible refine (HW1.out _ hb5).mono ?_); rintro e w6 ⟨v6, rfl, hm6⟩; have hb6 := hb5.trans (hm6.bel.mono hb5.size); obtain ⟨a6, k6, rfl, hi6⟩ := hm6.at_; have Hx6 := hid_ hi6; clear hm6 hi6; rw [Hl1.out] at Hx6 ⊢))
                  | ((go_at_call 38; (with_reducible refine (HW2.out _ hb6).mono ?_); rintro e w7 ⟨v7, rfl, hm7⟩; have hb7 := hb6.trans (hm7.bel.mono hb6.size); obtain ⟨a7, k7, rfl, hi7⟩ := hm7.at_; have Hy7 := hid_ hi7; have Hx7 := hid_ (Hx6.out.below hm7.bel (Nat.le_refl _)); clear hm7 hi7; rw [Hl2.out] at Hy7 ⊢; have HE2 := hid_ (equal8_calls _ _ _ _ _ _ _ _ w7 Hx7.out Hy7.out); rw [HEw.out] at HE2))
                  | ((go_at_call 37; (with_reducible refine HE2.out.mono ?_); rintro e w8 ⟨rfl, q8, hw8⟩; have hb8 : Below w1.heap.size w1 w8 := (by rw [hw8]; exact below_drewN hb7 _); clear hw8)))
              all_goals
                have hbz := hb8
                go_wp2
                go_ret
                exact ⟨by rw [HE'.out]; rfl, Hc1.out.trans (hbz.mono Hc1.out.size)⟩
  · have hq : (validL L != 0) = true := by simpa using he
    rw [if_neg he] at HE
    generalize validL L = x at *
    clear he
    go_enter Try.func22, Try.ntmps22
    go_wp2_with (go_at_call 44; (with_reducible refine HV.out.mono ?_); rintro e w2 ⟨rfl, hb2⟩)
    go_ret
    exact ⟨by rw [HE.out]; rfl, Hc1.out.trans (hb2.mono Hc1.out.size)⟩
end Go.Proofs.Ytgpenbajhndhiaa
