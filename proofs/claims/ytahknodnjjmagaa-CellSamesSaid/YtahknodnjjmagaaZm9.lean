import Derived.Test.YtahknodnjjmagaaZdb
namespace Go.Proofs.Ytahknodnjjmagaa
open Go.RowKit Go.Proofs.Kv

/-! ### the law CellSames -/
theorem sames_ok {P Q : Par} (h : errS P Q = 0) : validP P = 0 ∧ validP Q = 0 ∧ resSame P Q = Same (resFill P) (resFill Q) := by
  obtain ⟨hv, hu⟩ := errS_ok h
  refine ⟨hv, hu, ?_⟩
  rw [resSame, if_pos h, resFill, resFill, if_pos hv, if_pos hu]
set_option maxRecDepth 100000 in
set_option maxHeartbeats 8000000 in
theorem cellSames_calls (v : Value) (P : Par) (v' : Value) (Q : Par) (w : World) (h : ParAt w v P) (h' : ParAt w v' Q) :
    Calls Try.prog 12 #[v, v'] w fun e w' => e = .returned (.bool true) ∧ Below w.heap.size w w' := by
  have HP := hid_ h; have HQQ := hid_ h'
  obtain ⟨a1, n1, c1, a2, n2, c2, rfl, h1, h2⟩ := h
  obtain ⟨b1, m1, d1, b2, m2, d2, rfl, k1, k2⟩ := h'
  obtain ⟨w1, hw1⟩ : ∃ w1, w.alloc (.cells #[.slice a1 n1 c1, .slice a2 n2 c2] 25) = w1 := ⟨_, rfl⟩
  obtain ⟨w2, hw2⟩ : ∃ w2, w1.alloc (.cells #[.slice b1 m1 d1, .slice b2 m2 d2] 25) = w2 := ⟨_, rfl⟩
  have z1 : w1.heap.size = w.heap.size + 1 := by rw [← hw1]; simp
  have cb1 : Below w.heap.size w w1 := by rw [← hw1]; exact below_alloc _ _
  have cb2 : Below w1.heap.size w1 w2 := by rw [← hw2]; exact below_alloc _ _
  have cb : Below w.heap.size w w2 := cb1.trans (cb2.mono cb1.size)
  have q0 : w2.cell? ⟨w.heap.size, 0, none⟩ = some (.slice a1 n1 c1) := cell_below (by rw [← hw1]; exact cells_alloc _ _ _ 0) cb2
  have q1 : w2.cell? ⟨w.heap.size, 1, none⟩ = some (.slice a2 n2 c2) := cell_below (by rw [← hw1]; exact cells_alloc _ _ _ 1) cb2
  have r0 : w2.cell? ⟨w.heap.size + 1, 0, none⟩ = some (.slice b1 m1 d1) := by rw [← z1, ← hw2]; exact cells_alloc _ _ _ 0
  have r1 : w2.cell? ⟨w.heap.size + 1, 1, none⟩ = some (.slice b2 m2 d2) := by rw [← z1, ← hw2]; exact cells_alloc _ _ _ 1
  have HP2 := hid_ (HP.out.below cb (Nat.le_refl _)); have HQ2 := hid_ (HQQ.out.below cb (Nat.le_refl _)); have Hc2 := hid_ cb
  clear cb1 cb2
  have HK := hid_ known_calls
  have HG := hid_ (long_calls _ P w2 HP2.out)
  have HH := hid_ (fun W (hW : Below w2.heap.size w2 W) => long_calls _ Q W (HQ2.out.below hW (Nat.le_refl _)))
  have HA := hid_ (fun W (hW : Below w2.heap.size w2 W) => ceSame_calls _ _ P Q W (HP2.out.below hW (Nat.le_refl _)) (HQ2.out.below hW (Nat.le_refl _)))
  have HB := hid_ (fun W (hW : Below w2.heap.size w2 W) => r6Same_calls _ _ P Q W (HP2.out.below hW (Nat.le_refl _)) (HQ2.out.below hW (Nat.le_refl _)))
  have HC := hid_ (fun W (hW : Below w2.heap.size w2 W) => ceFill_calls _ P W (HP2.out.below hW (Nat.le_refl _)))
  have HD := hid_ (fun W (hW : Below w2.heap.size w2 W) => ceFill_calls _ Q W (HQ2.out.below hW (Nat.le_refl _)))
  have hok := @sames_ok P Q
  clear h1 h2 k1 k2 cb
  generalize resSame P Q = f at *
  generalize errS P Q = x at *
  generalize resFill P = M at *
  generalize resFill Q = N at *
  generalize validP P = y at *
  generalize validP Q = z at *
  cases hg : LongP P with
  | true =>
    rw [hg] at HG
    clear hok
    go_enter Try.func12, Try.ntmps12
    go_wp2_with (first
      | (go_at_call 17; (with_reducible refine HG.out.mono ?_); rintro e w3 ⟨rfl, hb3⟩)
      | (go_at_call 18; (with_reducible refine (HK.out _).mono ?_); rintro e wk ⟨rfl, hbk⟩))
    go_ret
    exact ⟨rfl, Hc2.out.trans ((hb3.trans (hbk.mono hb3.size)).mono Hc2.out.size)⟩
  | false =>
    rw [hg] at HG
    clear hg
    cases hh : LongP Q with
    | true =>
      rw [hh] at HH
      clear hok
      go_enter Try.func12, Try.ntmps12
      go_wp2_with (first
        | (go_at_call 17; (with_reducible refine HG.out.mono ?_); rintro e w3 ⟨rfl, hb3⟩; have q03 := cell_below q0 hb3; have q13 := cell_below q1 hb3; have r03 := cell_below r0 hb3; have r13 := cell_below r1 hb3)
        | (go_at_call 17; (with_reducible refine (HH.out _ hb3).mono ?_); rintro e w4 ⟨rfl, hc4⟩; have hb4 := hb3.trans (hc4.mono hb3.size))
        | (go_at_call 18; (with_reducible refine (HK.out _).mono ?_); rintro e wk ⟨rfl, hbk⟩))
      go_ret
      exact ⟨rfl, Hc2.out.trans ((hb4.trans (hbk.mono hb4.size)).mono Hc2.out.size)⟩
    | false =>
      rw [hh] at HH
      clear hh
      obtain ⟨m, hm⟩ : ∃ m, M.length = m := ⟨_, rfl⟩
      obtain ⟨n, hn⟩ : ∃ n, N.length = n := ⟨_, rfl⟩
      have Hm := hid_ hm; have Hn := hid_ hn
      clear hm hn
      by_cases hx : x = 0
      · subst hx
        obtain ⟨rfl, rfl, hs⟩ := hok rfl
        have HS := hid_ (fun a n c a' n' c' W h h' => hs ▸ same_calls a n c M a' n' c' N W h h')
        clear hok hs
        go_enter Try.func12, Try.ntmps12
        go_wp2_with (first
          | (go_at_call 17; (with_reducible refine HG.out.mono ?_); rintro e w3 ⟨rfl, hb3⟩; have q03 := cell_below q0 hb3; have q13 := cell_below q1 hb3; have r03 := cell_below r0 hb3; have r13 := cell_below r1 hb3)
          | (go_at_call 17; (with_reducible refine (HH.out _ hb3).mono ?_); rintro e w4 ⟨rfl, hc4⟩; have hb4 := hb3.trans (hc4.mono hb3.size); have q04 := cell_below q0 hb4; have q14 := cell_below q1 hb4; have r04 := cell_below r0 hb4; have r14 := cell_below r1 hb4)
          | (go_at_call 59; (with_reducible refine (HA.out _ hb4).mono ?_); rintro e w5 ⟨rfl, hc5⟩; have hb5 := hb4.trans (hc5.mono hb4.size); have q05 := cell_below q0 hb5; have q15 := cell_below q1 hb5; have r05 := cell_below r0 hb5; have r15 := cell_below r1 hb5)
          | (go_at_call 60; (with_reducible refine (HB.out _ hb5).mono ?_); rintro e w6 ⟨rfl, hc6⟩; have hb6 := hb5.trans (hc6.mono hb5.size); have q06 := cell_below q0 hb6; have q16 := cell_below q1 hb6; have r06 := cell_below r0 hb6; have r16 := cell_below r1 hb6)
          | (go_at_call 37; (with_reducible refine (HC.out w6 hb6).mono ?_); rintro e w7 ⟨v7, rfl, hm7⟩; have hb7 := hb6.trans (hm7.bel.mono hb6.size); have q07 := cell_below q0 hb7; have q17 := cell_below q1 hb7; have r07 := cell_below r0 hb7; have r17 := cell_below r1 hb7; obtain ⟨a7, c7, rfl, hi7⟩ := hm7.at_; rw [Hm.out] at hi7 ⊢; have Hi7 := hid_ hi7; clear hi7 hm7)
          | (go_at_call 37; (with_reducible refine (HD.out w7 hb7).mono ?_); rintro e w8 ⟨v8, rfl, hm8⟩; have hb8 := hb7.trans (hm8.bel.mono hb7.size); have q08 := cell_below q0 hb8; have q18 := cell_below q1 hb8; have r08 := cell_below r0 hb8; have r18 := cell_below r1 hb8; obtain ⟨a8, c8, rfl, hi8⟩ := hm8.at_; rw [Hn.out] at hi8 ⊢; have Hi8 := hid_ hi8; have Hi78 := hid_ (Hi7.out.below hm8.bel (Nat.le_refl _)); clear hi8 hm8)
          | (go_at_call 31; (with_reducible refine (HS.out _ _ _ _ _ _ _ Hi78.out Hi8.out).mono ?_); rintro e w9 ⟨rfl, q9, rfl⟩; have hb9 := below_drewN hb8 q9)
          | (go_at_call 18; (with_reducible refine (HK.out _).mono ?_); rintro e wk ⟨rfl, hbk⟩))
        go_ret
        exact ⟨rfl, Hc2.out.trans ((hb9.trans (hbk.mono hb9.size)).mono Hc2.out.size)⟩
      · have hq : (x != 0) = true := by simpa using hx
        clear hok hx
        go_enter Try.func12, Try.ntmps12
        go_wp2_with (first
          | (go_at_call 17; (with_reducible refine HG.out.mono ?_); rintro e w3 ⟨rfl, hb3⟩; have q03 := cell_below q0 hb3; have q13 := cell_below q1 hb3; have r03 := cell_below r0 hb3; have r13 := cell_below r1 hb3)
          | (go_at_call 17; (with_reducible refine (HH.out _ hb3).mono ?_); rintro e w4 ⟨rfl, hc4⟩; have hb4 := hb3.trans (hc4.mono hb3.size); have q04 := cell_below q0 hb4; have q14 := cell_below q1 hb4; have r04 := cell_below r0 hb4; have r14 := cell_below r1 hb4)
          | (go_at_call 59; (with_reducible refine (HA.out _ hb4).mono ?_); rintro e w5 ⟨rfl, hc5⟩; have hb5 := hb4.trans (hc5.mono hb4.size); have q05 := cell_below q0 hb5; have q15 := cell_below q1 hb5; have r05 := cell_below r0 hb5; have r15 := cell_below r1 hb5)
          | (go_at_call 60; (with_reducible refine (HB.out _ hb5).mono ?_); rintro e w6 ⟨rfl, hc6⟩; have hb6 := hb5.trans (hc6.mono hb5.size); have q06 := cell_below q0 hb6; have q16 := cell_below q1 hb6; have r06 := cell_below r0 hb6; have r16 := cell_below r1 hb6)
          | (go_at_call 37; (with_reducible refine (HC.out w6 hb6).mono ?_); rintro e w7 ⟨v7, rfl, hm7⟩; have hb7 := hb6.trans (hm7.bel.mono hb6.size); have q07 := cell_below q0 hb7; have q17 := cell_below q1 hb7; have r07 := cell_below r0 hb7; have r17 := cell_below r1 hb7; obtain ⟨a7, c7, rfl, hi7⟩ := hm7.at_; rw [Hm.out] at hi7 ⊢; have Hi7 := hid_ hi7; clear hi7 hm7)
          | (go_at_call 37; (with_reducible refine (HD.out w7 hb7).mono ?_); rintro e w8 ⟨v8, rfl, hm8⟩; have hb8 := hb7.trans (hm8.bel.mono hb7.size); have q08 := cell_below q0 hb8; have q18 := cell_below q1 hb8; have r08 := cell_below r0 hb8; have r18 := cell_below r1 hb8; obtain ⟨a8, c8, rfl, hi8⟩ := hm8.at_; rw [Hn.out] at hi8 ⊢; have Hi8 := hid_ hi8; have Hi78 := hid_ (Hi7.out.below hm8.bel (Nat.le_refl _)); clear hi8 hm8)
          | (go_at_call 18; (with_reducible refine (HK.out _).mono ?_); rintro e wk ⟨rfl, hbk⟩))
        go_ret
        exact ⟨rfl, Hc2.out.trans ((hb8.trans (hbk.mono hb8.size)).mono Hc2.out.size)⟩
end Go.Proofs.Ytahknodnjjmagaa
