import Derived.Test.YtahknodnjjmagaaZdk
import Derived.Test.YtahknodnjjmagaaZ3
namespace Go.Proofs.Ytahknodnjjmagaa
open Go.RowKit Go.Proofs.Kv

/-! ### the law CellSwaps -/
theorem same_yesA (a : Option Addr) (n c : Nat) (M : List Int) (a' : Option Addr) (n' c' : Nat) (W : World) (h1 : IntsAt W a n c M) (h2 : IntsAt W a' n' c' M) :
    Calls Try.prog 31 #[.slice a n c, .slice a' n' c'] W fun e w' => e = .returned (.bool true) ∧ Below W.heap.size W w' :=
  (same_calls a n c M a' n' c' M W h1 h2).mono fun e w' ⟨he, q, hq⟩ => ⟨by rw [he]; simp [Same], by rw [hq]; exact below_drewN (Below.refl _ _) _⟩
set_option maxRecDepth 100000 in
set_option maxHeartbeats 8000000 in
theorem cellSwaps_calls (v : Value) (P : Par) (i j : Int) (w : World) (h : ParAt w v P) :
    Calls Try.prog 13 #[v, .int .i64 i, .int .i64 j] w fun e w' => e = .returned (.bool true) ∧ Below w.heap.size w w' := by
  have HP := hid_ h
  obtain ⟨a1, n1, c1, a2, n2, c2, rfl, h1, h2⟩ := h
  obtain ⟨w1, hw1⟩ : ∃ w1, w.alloc (.cells #[.slice a1 n1 c1, .slice a2 n2 c2] 25) = w1 := ⟨_, rfl⟩
  have cb : Below w.heap.size w w1 := by rw [← hw1]; exact below_alloc _ _
  have q0 : w1.cell? ⟨w.heap.size, 0, none⟩ = some (.slice a1 n1 c1) := by rw [← hw1]; exact cells_alloc _ _ _ 0
  have q1 : w1.cell? ⟨w.heap.size, 1, none⟩ = some (.slice a2 n2 c2) := by rw [← hw1]; exact cells_alloc _ _ _ 1
  have HP1 := hid_ (HP.out.below cb (Nat.le_refl _)); have Hc1 := hid_ cb
  have HK := hid_ known_calls
  have HG := hid_ (long_calls _ P w1 HP1.out)
  have HA := hid_ (fun W (hW : Below w1.heap.size w1 W) => ceSwap_calls _ P i j W (HP1.out.below hW (Nat.le_refl _)))
  have HB := hid_ (fun W (hW : Below w1.heap.size w1 W) => r6Swap_calls _ P i j W (HP1.out.below hW (Nat.le_refl _)))
  have HC := hid_ (fun W (hW : Below w1.heap.size w1 W) => ceFill_calls _ P W (HP1.out.below hW (Nat.le_refl _)))
  have hok := @swap_fill P i j
  clear h1 h2 cb
  generalize resSwap P i j = R at *
  have HD := hid_ (fun v W (h : ParAt W v R) => ceFill_calls v R W h)
  generalize errN P [i, j] = x at *
  generalize resFill P = M at *
  generalize resFill R = N at *
  generalize validP P = y at *
  generalize validP R = z at *
  cases hg : LongP P with
  | true =>
    rw [hg] at HG
    clear hok
    go_enter Try.func13, Try.ntmps13
    go_wp2_with (first
      | (go_at_call 17; (with_reducible refine HG.out.mono ?_); rintro e w2 ⟨rfl, hb2⟩)
      | (go_at_call 18; (with_reducible refine (HK.out _).mono ?_); rintro e w3 ⟨rfl, hb3⟩))
    go_ret
    exact ⟨rfl, Hc1.out.trans ((hb2.trans (hb3.mono hb2.size)).mono Hc1.out.size)⟩
  | false =>
    rw [hg] at HG
    clear hg
    by_cases hx : x = 0
    · subst hx
      obtain ⟨rfl, rfl, rfl⟩ := hok rfl
      clear hok
      obtain ⟨m, hm⟩ : ∃ m, N.length = m := ⟨_, rfl⟩
      have Hm := hid_ hm
      have Hn := hid_ hm
      clear hm
      go_enter Try.func13, Try.ntmps13
      go_wp2_with (first
        | (go_at_call 17; (with_reducible refine HG.out.mono ?_); rintro e w2 ⟨rfl, hb2⟩; have q02 := cell_below q0 hb2; have q12 := cell_below q1 hb2)
        | (go_at_call 61; (with_reducible refine (HA.out w2 hb2).mono ?_); rintro e w4 ⟨v4, rfl, hm4⟩; have hb4 := hb2.trans (hm4.bel.mono hb2.size); have hp4 := hm4.par; obtain ⟨a3, n3, c3, b3, m3, d3, rfl, hs4, he4⟩ := hp4; have Hp4 : Hid (ParAt w4 (.agg #[.slice a3 n3 c3, .slice b3 m3 d3]) R) := hid_ ⟨_, _, _, _, _, _, rfl, hs4, he4⟩; clear hs4 he4 hm4; obtain ⟨W4, hW4⟩ : ∃ W4, w4.alloc (.cells #[.slice a3 n3 c3, .slice b3 m3 d3] 25) = W4 := ⟨_, rfl⟩; have bW4 : Below w4.heap.size w4 W4 := (by rw [← hW4]; exact below_alloc _ _); have hB4 := hb4.trans (bW4.mono hb4.size); have q04 := cell_below q0 hB4; have q14 := cell_below q1 hB4; have s04 : W4.cell? ⟨w4.heap.size, 0, none⟩ = some (.slice a3 n3 c3) := (by rw [← hW4]; exact cells_alloc _ _ _ 0); have s14 : W4.cell? ⟨w4.heap.size, 1, none⟩ = some (.slice b3 m3 d3) := (by rw [← hW4]; exact cells_alloc _ _ _ 1); have Hs4 := hid_ (Hp4.out.below bW4 (Nat.le_refl _)))
        | (go_at_call 62; (with_reducible refine (HB.out W4 hB4).mono ?_); rintro e w5 ⟨v5, rfl, hm5⟩; have hc5 := hm5.bel; have hb5 := hB4.trans (hm5.bel.mono hB4.size); have hp5 := hm5.par; obtain ⟨a5, n5, c5, b5, m5, d5, rfl, hs5, he5⟩ := hp5; have Hp5 : Hid (ParAt w5 (.agg #[.slice a5 n5 c5, .slice b5 m5 d5]) R) := hid_ ⟨_, _, _, _, _, _, rfl, hs5, he5⟩; clear hs5 he5 hm5; obtain ⟨W5, hW5⟩ : ∃ W5, w5.alloc (.cells #[.slice a5 n5 c5, .slice b5 m5 d5] 25) = W5 := ⟨_, rfl⟩; have bW5 : Below w5.heap.size w5 W5 := (by rw [← hW5]; exact below_alloc _ _); have hB5 := hb5.trans (bW5.mono hb5.size); have q05 := cell_below q0 hB5; have q15 := cell_below q1 hB5; have t05 : W5.cell? ⟨w5.heap.size, 0, none⟩ = some (.slice a5 n5 c5) := (by rw [← hW5]; exact cells_alloc _ _ _ 0); have t15 : W5.cell? ⟨w5.heap.size, 1, none⟩ = some (.slice b5 m5 d5) := (by rw [← hW5]; exact cells_alloc _ _ _ 1); have Ht5 := hid_ (Hp5.out.below bW5 (Nat.le_refl _)); have hC5 := hc5.trans (bW5.mono hc5.size); have s05 := cell_below s04 hC5; have s15 := cell_below s14 hC5; have Hs5 := hid_ (Hs4.out.below hC5 (Nat.le_refl _)))
        | (go_at_call 58; (with_reducible refine (r6Equal_yes _ _ R W5 Hs5.out Ht5.out).mono ?_); rintro e w6 ⟨rfl, hc6⟩; have hb6 := hB5.trans (hc6.mono hB5.size); have q06 := cell_below q0 hb6; have q16 := cell_below q1 hb6; have s06 := cell_below s05 hc6; have s16 := cell_below s15 hc6; have Hs6 := hid_ (Hs5.out.below hc6 (Nat.le_refl _)))
        | (go_at_call 37; (with_reducible refine (HC.out w6 hb6).mono ?_); rintro e w7 ⟨v7, rfl, hm7⟩; have hb7 := hb6.trans (hm7.bel.mono hb6.size); have s07 := cell_below s06 hm7.bel; have s17 := cell_below s16 hm7.bel; have Hs7 := hid_ (Hs6.out.below hm7.bel (Nat.le_refl _)); obtain ⟨a7, c7, rfl, hi7⟩ := hm7.at_; rw [Hm.out] at hi7 ⊢; have Hi7 := hid_ hi7; clear hi7 hm7)
        | (go_at_call 37; (with_reducible refine (HD.out _ _ Hs7.out).mono ?_); rintro e w8 ⟨v8, rfl, hm8⟩; have hb8 := hb7.trans (hm8.bel.mono hb7.size); obtain ⟨a8, c8, rfl, hi8⟩ := hm8.at_; rw [Hn.out] at hi8 ⊢; have Hi8 := hid_ hi8; have Hi78 := hid_ (Hi7.out.below hm8.bel (Nat.le_refl _)); clear hi8 hm8)
        | (go_at_call 31; (with_reducible refine (same_yesA _ _ _ N _ _ _ w8 Hi78.out Hi8.out).mono ?_); rintro e w9 ⟨rfl, hc9⟩; have hb9 := hb8.trans (hc9.mono hb8.size))
        | (go_at_call 18; (with_reducible refine (HK.out _).mono ?_); rintro e wk ⟨rfl, hbk⟩))
      go_ret
      exact ⟨rfl, Hc1.out.trans ((hb9.trans (hbk.mono hb9.size)).mono Hc1.out.size)⟩
    · have hq : (x != 0) = true := by simpa using hx
      clear hok hx
      obtain ⟨m, hm⟩ : ∃ m, M.length = m := ⟨_, rfl⟩
      obtain ⟨n, hn⟩ : ∃ n, N.length = n := ⟨_, rfl⟩
      have Hm := hid_ hm; have Hn := hid_ hn
      clear hm hn
      go_enter Try.func13, Try.ntmps13
      go_wp2_with (first
        | (go_at_call 17; (with_reducible refine HG.out.mono ?_); rintro e w2 ⟨rfl, hb2⟩; have q02 := cell_below q0 hb2; have q12 := cell_below q1 hb2)
        | (go_at_call 61; (with_reducible refine (HA.out w2 hb2).mono ?_); rintro e w4 ⟨v4, rfl, hm4⟩; have hb4 := hb2.trans (hm4.bel.mono hb2.size); have hp4 := hm4.par; obtain ⟨a3, n3, c3, b3, m3, d3, rfl, hs4, he4⟩ := hp4; have Hp4 : Hid (ParAt w4 (.agg #[.slice a3 n3 c3, .slice b3 m3 d3]) R) := hid_ ⟨_, _, _, _, _, _, rfl, hs4, he4⟩; clear hs4 he4 hm4; obtain ⟨W4, hW4⟩ : ∃ W4, w4.alloc (.cells #[.slice a3 n3 c3, .slice b3 m3 d3] 25) = W4 := ⟨_, rfl⟩; have bW4 : Below w4.heap.size w4 W4 := (by rw [← hW4]; exact below_alloc _ _); have hB4 := hb4.trans (bW4.mono hb4.size); have q04 := cell_below q0 hB4; have q14 := cell_below q1 hB4; have s04 : W4.cell? ⟨w4.heap.size, 0, none⟩ = some (.slice a3 n3 c3) := (by rw [← hW4]; exact cells_alloc _ _ _ 0); have s14 : W4.cell? ⟨w4.heap.size, 1, none⟩ = some (.slice b3 m3 d3) := (by rw [← hW4]; exact cells_alloc _ _ _ 1); have Hs4 := hid_ (Hp4.out.below bW4 (Nat.le_refl _)))
        | (go_at_call 62; (with_reducible refine (HB.out W4 hB4).mono ?_); rintro e w5 ⟨v5, rfl, hm5⟩; have hc5 := hm5.bel; have hb5 := hB4.trans (hm5.bel.mono hB4.size); have hp5 := hm5.par; obtain ⟨a5, n5, c5, b5, m5, d5, rfl, hs5, he5⟩ := hp5; have Hp5 : Hid (ParAt w5 (.agg #[.slice a5 n5 c5, .slice b5 m5 d5]) R) := hid_ ⟨_, _, _, _, _, _, rfl, hs5, he5⟩; clear hs5 he5 hm5; obtain ⟨W5, hW5⟩ : ∃ W5, w5.alloc (.cells #[.slice a5 n5 c5, .slice b5 m5 d5] 25) = W5 := ⟨_, rfl⟩; have bW5 : Below w5.heap.size w5 W5 := (by rw [← hW5]; exact below_alloc _ _); have hB5 := hb5.trans (bW5.mono hb5.size); have q05 := cell_below q0 hB5; have q15 := cell_below q1 hB5; have t05 : W5.cell? ⟨w5.heap.size, 0, none⟩ = some (.slice a5 n5 c5) := (by rw [← hW5]; exact cells_alloc _ _ _ 0); have t15 : W5.cell? ⟨w5.heap.size, 1, none⟩ = some (.slice b5 m5 d5) := (by rw [← hW5]; exact cells_alloc _ _ _ 1); have Ht5 := hid_ (Hp5.out.below bW5 (Nat.le_refl _)); have hC5 := hc5.trans (bW5.mono hc5.size); have s05 := cell_below s04 hC5; have s15 := cell_below s14 hC5; have Hs5 := hid_ (Hs4.out.below hC5 (Nat.le_refl _)))
        | (go_at_call 58; (with_reducible refine (r6Equal_yes _ _ R W5 Hs5.out Ht5.out).mono ?_); rintro e w6 ⟨rfl, hc6⟩; have hb6 := hB5.trans (hc6.mono hB5.size); have q06 := cell_below q0 hb6; have q16 := cell_below q1 hb6; have s06 := cell_below s05 hc6; have s16 := cell_below s15 hc6; have Hs6 := hid_ (Hs5.out.below hc6 (Nat.le_refl _)))
        | (go_at_call 37; (with_reducible refine (HC.out w6 hb6).mono ?_); rintro e w7 ⟨v7, rfl, hm7⟩; have hb7 := hb6.trans (hm7.bel.mono hb6.size); have s07 := cell_below s06 hm7.bel; have s17 := cell_below s16 hm7.bel; have Hs7 := hid_ (Hs6.out.below hm7.bel (Nat.le_refl _)); obtain ⟨a7, c7, rfl, hi7⟩ := hm7.at_; rw [Hm.out] at hi7 ⊢; have Hi7 := hid_ hi7; clear hi7 hm7)
        | (go_at_call 37; (with_reducible refine (HD.out _ _ Hs7.out).mono ?_); rintro e w8 ⟨v8, rfl, hm8⟩; have hb8 := hb7.trans (hm8.bel.mono hb7.size); obtain ⟨a8, c8, rfl, hi8⟩ := hm8.at_; rw [Hn.out] at hi8 ⊢; have Hi8 := hid_ hi8; have Hi78 := hid_ (Hi7.out.below hm8.bel (Nat.le_refl _)); clear hi8 hm8)
        | (go_at_call 18; (with_reducible refine (HK.out _).mono ?_); rintro e wk ⟨rfl, hbk⟩))
      go_ret
      exact ⟨rfl, Hc1.out.trans ((hb8.trans (hbk.mono hb8.size)).mono Hc1.out.size)⟩
end Go.Proofs.Ytahknodnjjmagaa
