import Derived.Test.YtdnlpikfibdjoaaZvg
import Derived.Test.YtdnlpikfibdjoaaZdb
import Derived.Test.YtdnlpikfibdjoaaZdg
import Derived.Test.YtdnlpikfibdjoaaZ3
namespace Go.Proofs.Ytdnlpikfibdjoaa
open Go.RowKit Go.Proofs.Kv

/-! ### the law CellWithout -/
theorem need_has {P : Par} (hv : validP P = 0) {i : Nat} (hi : i < P.ents.length) : Has (resNeed P) i = needB P i := by
  have key : Has (resNeed P) i = true ↔ needB P i = true := by
    rw [Has_iff]
    unfold resNeed needK
    rw [if_pos hv, List.mem_map]
    exact ⟨fun ⟨k, hk, e⟩ => by obtain rfl : k = i := by omega
                                exact (List.mem_filter.1 hk).2, fun h => ⟨i, List.mem_filter.2 ⟨List.mem_range.2 hi, h⟩, rfl⟩⟩
  cases hn : needB P i with
  | true => exact key.2 hn
  | false =>
    cases hh : Has (resNeed P) i with
    | true => rw [key.1 hh] at hn; cases hn
    | false => rfl
theorem without_ok {P : Par} {i : Int} (h : errN P [i] = 0) : errS (resCut P i) P = 0 ∧ validP P = 0 ∧ resSame (resCut P i) P = Has (resNeed P) i := by
  obtain ⟨hv, hi⟩ := errN1_ok h
  obtain ⟨i', rfl, hi'⟩ := isNo_ok hi
  have hR : resCut P i' = cutP P i' := by unfold resCut; rw [if_pos h, Int.toNat_natCast]
  have he : errS (cutP P i') P = 0 := by
    rw [errS_good (valid_cut hv i') hv, if_pos]
    show Same P.sizes P.sizes = true
    unfold Same; exact decide_eq_true rfl
  rw [hR]
  refine ⟨he, hv, ?_⟩
  rw [need_has hv hi']
  unfold resSame
  rw [if_pos he]
  exact same_symm _ _
set_option maxRecDepth 100000 in
set_option maxHeartbeats 8000000 in
theorem cellWithout_calls (v : Value) (P : Par) (i : Int) (w : World) (h : ParAt w v P) :
    Calls Try.prog 4 #[v, .int .i64 i] w fun e w' => e = .returned (.bool true) ∧ Below w.heap.size w w' := by
  have HP := hid_ h
  obtain ⟨a1, n1, c1, a2, n2, c2, rfl, h1, h2⟩ := h
  obtain ⟨w1, hw1⟩ : ∃ w1, w.alloc (.cells #[.slice a1 n1 c1, .slice a2 n2 c2] 25) = w1 := ⟨_, rfl⟩
  have cb : Below w.heap.size w w1 := by rw [← hw1]; exact below_alloc _ _
  have q0 : w1.cell? ⟨w.heap.size, 0, none⟩ = some (.slice a1 n1 c1) := by rw [← hw1]; exact cells_alloc _ _ _ 0
  have q1 : w1.cell? ⟨w.heap.size, 1, none⟩ = some (.slice a2 n2 c2) := by rw [← hw1]; exact cells_alloc _ _ _ 1
  have HP1 := hid_ (HP.out.below cb (Nat.le_refl _)); have Hc1 := hid_ cb
  have HK := hid_ known_calls
  have HG := hid_ (long_calls _ P w1 HP1.out)
  clear h1 h2 cb
  cases hg : LongP P with
  | true =>
    rw [hg] at HG
    go_enter Try.func4, Try.ntmps4
    go_wp2_with (first
      | (go_at_call 8; (with_reducible refine HG.out.mono ?_); rintro e w3 ⟨rfl, hb3⟩)
      | (go_at_call 9; (with_reducible refine (HK.out _).mono ?_); rintro e wk ⟨rfl, hbk⟩))
    go_ret
    exact ⟨rfl, Hc1.out.trans ((hb3.trans (hbk.mono hb3.size)).mono Hc1.out.size)⟩
  | false =>
    rw [hg] at HG
    clear hg
    have hok := @without_ok P i
    have HA := hid_ (fun W (hW : Below w1.heap.size w1 W) => ceWithout_calls _ P i W (HP1.out.below hW (Nat.le_refl _)))
    have HB := hid_ (fun W (hW : Below w1.heap.size w1 W) => r6Without_calls _ P i W (HP1.out.below hW (Nat.le_refl _)))
    have HS := hid_ (fun W (hW : Below w1.heap.size w1 W) v' (hp : ParAt W v' (resCut P i)) => ceSame_calls v' _ (resCut P i) P W hp (HP1.out.below hW (Nat.le_refl _)))
    have HN := hid_ (fun W (hW : Below w1.heap.size w1 W) => ceNeedless_calls _ P W (HP1.out.below hW (Nat.le_refl _)))
    unfold NeedPost at HN
    obtain ⟨M, hM⟩ : ∃ M, resNeed P = M := ⟨_, rfl⟩
    rw [hM] at hok
    have HM := hid_ hM
    clear hM
    generalize resCut P i = R at *
    generalize errN P [i] = x at *
    generalize errS R P = y at *
    generalize resSame R P = z at *
    generalize validP P = u at *
    by_cases hx : x = 0
    · subst hx
      obtain ⟨rfl, rfl, rfl⟩ := hok rfl
      clear hok
      have HH := hid_ (fun W a n c (h : IntsAt W a n c M) => has_calls a n c M i W h)
      generalize Has M i = b at *
      go_enter Try.func4, Try.ntmps4
      go_wp2_with (first
        | (go_at_call 8; (with_reducible refine HG.out.mono ?_); rintro e w3 ⟨rfl, hb3⟩; have q03 := cell_below q0 hb3; have q13 := cell_below q1 hb3)
        | (go_at_call 18; (with_reducible refine (HA.out w3 hb3).mono ?_); rintro e w4 ⟨v4, rfl, hm4⟩; have hb4 := hb3.trans (hm4.bel.mono hb3.size); have hp4 := hm4.par; obtain ⟨a3, n3, c3, b3, m3, d3, rfl, hs4, he4⟩ := hp4; have Hp4 : Hid (ParAt w4 (.agg #[.slice a3 n3 c3, .slice b3 m3 d3]) R) := hid_ ⟨_, _, _, _, _, _, rfl, hs4, he4⟩; clear hs4 he4 hm4; obtain ⟨W4, hW4⟩ : ∃ W4, w4.alloc (.cells #[.slice a3 n3 c3, .slice b3 m3 d3] 25) = W4 := ⟨_, rfl⟩; have bW4 : Below w4.heap.size w4 W4 := (by rw [← hW4]; exact below_alloc _ _); have hB4 := hb4.trans (bW4.mono hb4.size); have q04 := cell_below q0 hB4; have q14 := cell_below q1 hB4; have s04 : W4.cell? ⟨w4.heap.size, 0, none⟩ = some (.slice a3 n3 c3) := (by rw [← hW4]; exact cells_alloc _ _ _ 0); have s14 : W4.cell? ⟨w4.heap.size, 1, none⟩ = some (.slice b3 m3 d3) := (by rw [← hW4]; exact cells_alloc _ _ _ 1); have Hs4 := hid_ (Hp4.out.below bW4 (Nat.le_refl _)))
        | (go_at_call 19; (with_reducible refine (HB.out W4 hB4).mono ?_); rintro e w5 ⟨v5, rfl, hm5⟩; have hc5 := hm5.bel; have hb5 := hB4.trans (hm5.bel.mono hB4.size); have hp5 := hm5.par; obtain ⟨a5, n5, c5, b5, m5, d5, rfl, hs5, he5⟩ := hp5; have Hp5 : Hid (ParAt w5 (.agg #[.slice a5 n5 c5, .slice b5 m5 d5]) R) := hid_ ⟨_, _, _, _, _, _, rfl, hs5, he5⟩; clear hs5 he5 hm5; obtain ⟨W5, hW5⟩ : ∃ W5, w5.alloc (.cells #[.slice a5 n5 c5, .slice b5 m5 d5] 25) = W5 := ⟨_, rfl⟩; have bW5 : Below w5.heap.size w5 W5 := (by rw [← hW5]; exact below_alloc _ _); have hB5 := hb5.trans (bW5.mono hb5.size); have q05 := cell_below q0 hB5; have q15 := cell_below q1 hB5; have t05 : W5.cell? ⟨w5.heap.size, 0, none⟩ = some (.slice a5 n5 c5) := (by rw [← hW5]; exact cells_alloc _ _ _ 0); have t15 : W5.cell? ⟨w5.heap.size, 1, none⟩ = some (.slice b5 m5 d5) := (by rw [← hW5]; exact cells_alloc _ _ _ 1); have Ht5 := hid_ (Hp5.out.below bW5 (Nat.le_refl _)); have hC5 := hc5.trans (bW5.mono hc5.size); have s05 := cell_below s04 hC5; have s15 := cell_below s14 hC5; have Hs5 := hid_ (Hs4.out.below hC5 (Nat.le_refl _)))
        | (go_at_call 16; (with_reducible refine (r6Equal_yes _ _ R W5 Hs5.out Ht5.out).mono ?_); rintro e w6 ⟨rfl, hc6⟩; have hb6 := hB5.trans (hc6.mono hB5.size); have q06 := cell_below q0 hb6; have q16 := cell_below q1 hb6; have s06 := cell_below s05 hc6; have s16 := cell_below s15 hc6; have HS6 := hid_ (HS.out w6 hb6 _ (Hs5.out.below hc6 (Nat.le_refl _))))
        | (go_at_call 17; (with_reducible refine HS6.out.mono ?_); rintro e w7 ⟨rfl, hc7⟩; have hb7 := hb6.trans (hc7.mono hb6.size); have q07 := cell_below q0 hb7; have q17 := cell_below q1 hb7)
        | (go_at_call 10; (with_reducible refine (HN.out w7 hb7).mono ?_); rintro e w8 ⟨a8, n8, c8, rfl, hi8, hc8⟩; have hb8 := hb7.trans (hc8.mono hb7.size); have q08 := cell_below q0 hb8; have q18 := cell_below q1 hb8; rw [HM.out] at hi8; have Hi8 := hid_ hi8; clear hi8)
        | (go_at_call 20; (with_reducible refine (HH.out _ _ _ _ Hi8.out).mono ?_); rintro e w9 ⟨rfl, rfl⟩)
        | (go_at_call 9; (with_reducible refine (HK.out _).mono ?_); rintro e wk ⟨rfl, hbk⟩))
      go_ret
      exact ⟨rfl, Hc1.out.trans ((hb8.trans (hbk.mono hb8.size)).mono Hc1.out.size)⟩
    · have hq : (x != 0) = true := by simpa using hx
      clear hok hx
      go_enter Try.func4, Try.ntmps4
      go_wp2_with (first
        | (go_at_call 8; (with_reducible refine HG.out.mono ?_); rintro e w3 ⟨rfl, hb3⟩; have q03 := cell_below q0 hb3; have q13 := cell_below q1 hb3)
        | (go_at_call 18; (with_reducible refine (HA.out w3 hb3).mono ?_); rintro e w4 ⟨v4, rfl, hm4⟩; have hb4 := hb3.trans (hm4.bel.mono hb3.size); have hp4 := hm4.par; obtain ⟨a3, n3, c3, b3, m3, d3, rfl, hs4, he4⟩ := hp4; have Hp4 : Hid (ParAt w4 (.agg #[.slice a3 n3 c3, .slice b3 m3 d3]) R) := hid_ ⟨_, _, _, _, _, _, rfl, hs4, he4⟩; clear hs4 he4 hm4; obtain ⟨W4, hW4⟩ : ∃ W4, w4.alloc (.cells #[.slice a3 n3 c3, .slice b3 m3 d3] 25) = W4 := ⟨_, rfl⟩; have bW4 : Below w4.heap.size w4 W4 := (by rw [← hW4]; exact below_alloc _ _); have hB4 := hb4.trans (bW4.mono hb4.size); have q04 := cell_below q0 hB4; have q14 := cell_below q1 hB4; have s04 : W4.cell? ⟨w4.heap.size, 0, none⟩ = some (.slice a3 n3 c3) := (by rw [← hW4]; exact cells_alloc _ _ _ 0); have s14 : W4.cell? ⟨w4.heap.size, 1, none⟩ = some (.slice b3 m3 d3) := (by rw [← hW4]; exact cells_alloc _ _ _ 1); have Hs4 := hid_ (Hp4.out.below bW4 (Nat.le_refl _)))
        | (go_at_call 19; (with_reducible refine (HB.out W4 hB4).mono ?_); rintro e w5 ⟨v5, rfl, hm5⟩; have hc5 := hm5.bel; have hb5 := hB4.trans (hm5.bel.mono hB4.size); have hp5 := hm5.par; obtain ⟨a5, n5, c5, b5, m5, d5, rfl, hs5, he5⟩ := hp5; have Hp5 : Hid (ParAt w5 (.agg #[.slice a5 n5 c5, .slice b5 m5 d5]) R) := hid_ ⟨_, _, _, _, _, _, rfl, hs5, he5⟩; clear hs5 he5 hm5; obtain ⟨W5, hW5⟩ : ∃ W5, w5.alloc (.cells #[.slice a5 n5 c5, .slice b5 m5 d5] 25) = W5 := ⟨_, rfl⟩; have bW5 : Below w5.heap.size w5 W5 := (by rw [← hW5]; exact below_alloc _ _); have hB5 := hb5.trans (bW5.mono hb5.size); have q05 := cell_below q0 hB5; have q15 := cell_below q1 hB5; have t05 : W5.cell? ⟨w5.heap.size, 0, none⟩ = some (.slice a5 n5 c5) := (by rw [← hW5]; exact cells_alloc _ _ _ 0); have t15 : W5.cell? ⟨w5.heap.size, 1, none⟩ = some (.slice b5 m5 d5) := (by rw [← hW5]; exact cells_alloc _ _ _ 1); have Ht5 := hid_ (Hp5.out.below bW5 (Nat.le_refl _)); have hC5 := hc5.trans (bW5.mono hc5.size); have s05 := cell_below s04 hC5; have s15 := cell_below s14 hC5; have Hs5 := hid_ (Hs4.out.below hC5 (Nat.le_refl _)))
        | (go_at_call 16; (with_reducible refine (r6Equal_yes _ _ R W5 Hs5.out Ht5.out).mono ?_); rintro e w6 ⟨rfl, hc6⟩; have hb6 := hB5.trans (hc6.mono hB5.size); have q06 := cell_below q0 hb6; have q16 := cell_below q1 hb6; have s06 := cell_below s05 hc6; have s16 := cell_below s15 hc6; have HS6 := hid_ (HS.out w6 hb6 _ (Hs5.out.below hc6 (Nat.le_refl _))))
        | (go_at_call 17; (with_reducible refine HS6.out.mono ?_); rintro e w7 ⟨rfl, hc7⟩; have hb7 := hb6.trans (hc7.mono hb6.size); have q07 := cell_below q0 hb7; have q17 := cell_below q1 hb7)
        | (go_at_call 10; (with_reducible refine (HN.out w7 hb7).mono ?_); rintro e w8 ⟨a8, n8, c8, rfl, hi8, hc8⟩; have hb8 := hb7.trans (hc8.mono hb7.size); have q08 := cell_below q0 hb8; have q18 := cell_below q1 hb8; rw [HM.out] at hi8; have Hi8 := hid_ hi8; clear hi8)
        | (go_at_call 9; (with_reducible refine (HK.out _).mono ?_); rintro e wk ⟨rfl, hbk⟩))
      go_ret
      exact ⟨rfl, Hc1.out.trans ((hb8.trans (hbk.mono hb8.size)).mono Hc1.out.size)⟩
end Go.Proofs.Ytdnlpikfibdjoaa
