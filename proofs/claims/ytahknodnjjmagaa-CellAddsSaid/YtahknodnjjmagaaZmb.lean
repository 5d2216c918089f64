import Derived.Test.YtahknodnjjmagaaZdo
import Derived.Test.YtahknodnjjmagaaZ3
import Derived.Test.YtahknodnjjmagaaZ5
namespace Go.Proofs.Ytahknodnjjmagaa
open Go.RowKit Go.Proofs.Kv

/-! ### the law CellAdds -/
theorem holdsB_calls (a : Option Addr) (n c : Nat) (l : List Int) (a' : Option Addr) (n' c' : Nat) (m : List Int) (w : World) (h : IntsAt w a n c l) (h' : IntsAt w a' n' c' m) (hle : n' ≤ n) (hge : ∀ j, j < n' → -1 ≤ m.getD j 0) :
    Calls Try.prog 52 #[.slice a' n' c', .slice a n c] w fun e w' => e = .returned (.bool (hB m l)) ∧ Below w.heap.size w w' :=
  (holds_calls a n c l a' n' c' m w h h' hle hge).mono fun e w' ⟨he, q, hq⟩ => ⟨he, by rw [hq]; exact below_drewN (Below.refl _ _) _⟩
set_option maxRecDepth 100000 in
set_option maxHeartbeats 8000000 in
theorem cellAdds_calls (v : Value) (P : Par) (E : Ent) (a : Option Addr) (n c : Nat) (w : World) (h : ParAt w v P) (hl : IntsAt w a n c E.spec) :
    Calls Try.prog 14 #[v, .agg #[.slice a n c, .int .i64 E.form]] w fun e w' => e = .returned (.bool true) ∧ Below w.heap.size w w' := by
  have HP := hid_ h
  obtain ⟨a1, n1, c1, a2, n2, c2, rfl, h1, h2⟩ := h
  obtain ⟨w1, hw1⟩ : ∃ w1, w.alloc (.cells #[.slice a1 n1 c1, .slice a2 n2 c2] 25) = w1 := ⟨_, rfl⟩
  have cb : Below w.heap.size w w1 := by rw [← hw1]; exact below_alloc _ _
  have q0 : w1.cell? ⟨w.heap.size, 0, none⟩ = some (.slice a1 n1 c1) := by rw [← hw1]; exact cells_alloc _ _ _ 0
  have q1 : w1.cell? ⟨w.heap.size, 1, none⟩ = some (.slice a2 n2 c2) := by rw [← hw1]; exact cells_alloc _ _ _ 1
  have HP1 := hid_ (HP.out.below cb (Nat.le_refl _)); have Hc1 := hid_ cb
  obtain ⟨w2, hw2⟩ : ∃ w2, w1.alloc (.cells #[.slice a n c, .int .i64 E.form] 56) = w2 := ⟨_, rfl⟩
  have z1 : w1.heap.size = w.heap.size + 1 := by rw [← hw1]; simp
  have b2 : Below w1.heap.size w1 w2 := by rw [← hw2]; exact below_alloc _ _
  have e0 : w2.cell? ⟨w.heap.size + 1, 0, none⟩ = some (.slice a n c) := by rw [← z1, ← hw2]; exact cells_alloc _ _ _ 0
  have e1 : w2.cell? ⟨w.heap.size + 1, 1, none⟩ = some (.int .i64 E.form) := by rw [← z1, ← hw2]; exact cells_alloc _ _ _ 1
  have q0 := cell_below q0 b2; have q1 := cell_below q1 b2
  have HP2 := hid_ (HP1.out.below b2 (Nat.le_refl _))
  have HI2 := hid_ ((hl.below cb (Nat.le_refl _)).below b2 (Nat.le_refl _))
  have Hc2 : Hid (Below w.heap.size w w2) := hid_ (Hc1.out.trans (b2.mono Hc1.out.size))
  have hle := hl.len
  have HK := hid_ known_calls
  have HG := hid_ (long_calls _ P w2 HP2.out)
  have HLg := hid_ (fun W (hW : Below w2.heap.size w2 W) => large_calls a n c _ W (HI2.out.below hW (Nat.le_refl _)))
  have HC := hid_ (fun W (hW : Below w2.heap.size w2 W) => ceFill_calls _ P W (HP2.out.below hW (Nat.le_refl _)))
  have HX := hid_ (fun W (hW : Below w2.heap.size w2 W) => ceCells_calls _ P W (HP2.out.below hW (Nat.le_refl _)))
  have hok := @adds_ok P E
  have h27 : (resCells P).length ≤ 27 := by
    rw [resCells]
    split
    · rename_i hv; exact (cells_chain hv).2.2.1
    · simp
  clear h1 h2 cb b2 hl
  cases hg : LongP P with
  | true =>
    rw [hg] at HG
    clear hok h27
    go_enter Try.func14, Try.ntmps14
    go_wp2_with (first
      | (go_at_call 17; (with_reducible refine HG.out.mono ?_); rintro e w3 ⟨rfl, hb3⟩)
      | (go_at_call 18; (with_reducible refine (HK.out _).mono ?_); rintro e wk ⟨rfl, hbk⟩))
    go_ret
    exact ⟨rfl, Hc2.out.trans ((hb3.trans (hbk.mono hb3.size)).mono Hc2.out.size)⟩
  | false =>
    rw [hg] at HG
    clear hg
    by_cases h100 : 100 < n
    · rw [decide_eq_true h100] at HLg
      clear hok h100 h27
      go_enter Try.func14, Try.ntmps14
      go_wp2_with (first
        | (go_at_call 17; (with_reducible refine HG.out.mono ?_); rintro e w3 ⟨rfl, hb3⟩; have q03 := cell_below q0 hb3; have q13 := cell_below q1 hb3; have e03 := cell_below e0 hb3; have e13 := cell_below e1 hb3)
        | (go_at_call 24; (with_reducible refine (HLg.out _ hb3).mono ?_); rintro e w3l ⟨rfl, rfl⟩)
        | (go_at_call 18; (with_reducible refine (HK.out _).mono ?_); rintro e wk ⟨rfl, hbk⟩))
      go_ret
      exact ⟨rfl, Hc2.out.trans ((hb3.trans (hbk.mono hb3.size)).mono Hc2.out.size)⟩
    · rw [decide_eq_false h100] at HLg
      have HA := hid_ (fun W (hW : Below w2.heap.size w2 W) => ceAdd_calls _ P a n c E.spec E.form W (HP2.out.below hW (Nat.le_refl _)) (HI2.out.below hW (Nat.le_refl _)) (by omega))
      have HB := hid_ (fun W (hW : Below w2.heap.size w2 W) => r6Add_calls _ P a n c E.spec E.form W (HP2.out.below hW (Nat.le_refl _)) (HI2.out.below hW (Nat.le_refl _)) (by omega))
      obtain ⟨E', hE'⟩ : ∃ E', E' = E := ⟨E, rfl⟩
      have hEE : (⟨E.spec, E.form⟩ : Ent) = E := rfl
      rw [hEE] at HA HB
      clear h100 hE' hEE
      generalize resAdd P E = R at *
      have HD := hid_ (fun v W (h : ParAt W v R) => ceFill_calls v R W h)
      generalize errAdd P E = x at *
      generalize resFill P = M at *
      generalize resFill R = N at *
      generalize resCells P = L at *
      generalize validP P = y at *
      generalize validP R = z at *
      by_cases hx : x = 0
      · subst hx
        obtain ⟨rfl, rfl, o1, o2, o3, o4⟩ := hok rfl
        clear hok
        obtain ⟨m, hm⟩ : ∃ m, L.length = m := ⟨_, rfl⟩
        rw [hm] at o1 o2 o4 h27
        have Hl := hid_ hm; have Hm := hid_ o1; have Hn := hid_ o2
        have HO := hid_ o4; have Hge := hid_ o3; have Hle := hid_ hle
        clear hm o1 o2 o3 o4 hle
        go_enter Try.func14, Try.ntmps14
        go_wp2_with (first
          | (go_at_call 17; (with_reducible refine HG.out.mono ?_); rintro e w3 ⟨rfl, hb3⟩; have q03 := cell_below q0 hb3; have q13 := cell_below q1 hb3; have e03 := cell_below e0 hb3; have e13 := cell_below e1 hb3)
          | (go_at_call 24; (with_reducible refine (HLg.out _ hb3).mono ?_); rintro e w3l ⟨rfl, rfl⟩)
          | (go_at_call 63; (with_reducible refine (HA.out w3 hb3).mono ?_); rintro e w4 ⟨v4, rfl, hm4⟩; have hb4 := hb3.trans (hm4.bel.mono hb3.size); have hp4 := hm4.par; obtain ⟨a3, n3, c3, b3, m3, d3, rfl, hs4, he4⟩ := hp4; have Hp4 : Hid (ParAt w4 (.agg #[.slice a3 n3 c3, .slice b3 m3 d3]) R) := hid_ ⟨_, _, _, _, _, _, rfl, hs4, he4⟩; clear hs4 he4 hm4; obtain ⟨W4, hW4⟩ : ∃ W4, w4.alloc (.cells #[.slice a3 n3 c3, .slice b3 m3 d3] 25) = W4 := ⟨_, rfl⟩; have bW4 : Below w4.heap.size w4 W4 := (by rw [← hW4]; exact below_alloc _ _); have hB4 := hb4.trans (bW4.mono hb4.size); have q04 := cell_below q0 hB4; have q14 := cell_below q1 hB4; have e04 := cell_below e0 hB4; have e14 := cell_below e1 hB4; have s04 : W4.cell? ⟨w4.heap.size, 0, none⟩ = some (.slice a3 n3 c3) := (by rw [← hW4]; exact cells_alloc _ _ _ 0); have s14 : W4.cell? ⟨w4.heap.size, 1, none⟩ = some (.slice b3 m3 d3) := (by rw [← hW4]; exact cells_alloc _ _ _ 1); have Hs4 := hid_ (Hp4.out.below bW4 (Nat.le_refl _)))
          | (go_at_call 64; (with_reducible refine (HB.out W4 hB4).mono ?_); rintro e w5 ⟨v5, rfl, hm5⟩; have hc5 := hm5.bel; have hb5 := hB4.trans (hm5.bel.mono hB4.size); have hp5 := hm5.par; obtain ⟨a5, n5, c5, b5, m5, d5, rfl, hs5, he5⟩ := hp5; have Hp5 : Hid (ParAt w5 (.agg #[.slice a5 n5 c5, .slice b5 m5 d5]) R) := hid_ ⟨_, _, _, _, _, _, rfl, hs5, he5⟩; clear hs5 he5 hm5; obtain ⟨W5, hW5⟩ : ∃ W5, w5.alloc (.cells #[.slice a5 n5 c5, .slice b5 m5 d5] 25) = W5 := ⟨_, rfl⟩; have bW5 : Below w5.heap.size w5 W5 := (by rw [← hW5]; exact below_alloc _ _); have hB5 := hb5.trans (bW5.mono hb5.size); have q05 := cell_below q0 hB5; have q15 := cell_below q1 hB5; have e05 := cell_below e0 hB5; have e15 := cell_below e1 hB5; have t05 : W5.cell? ⟨w5.heap.size, 0, none⟩ = some (.slice a5 n5 c5) := (by rw [← hW5]; exact cells_alloc _ _ _ 0); have t15 : W5.cell? ⟨w5.heap.size, 1, none⟩ = some (.slice b5 m5 d5) := (by rw [← hW5]; exact cells_alloc _ _ _ 1); have Ht5 := hid_ (Hp5.out.below bW5 (Nat.le_refl _)); have hC5 := hc5.trans (bW5.mono hc5.size); have s05 := cell_below s04 hC5; have s15 := cell_below s14 hC5; have Hs5 := hid_ (Hs4.out.below hC5 (Nat.le_refl _)))
          | (go_at_call 58; (with_reducible refine (r6Equal_yes _ _ R W5 Hs5.out Ht5.out).mono ?_); rintro e w6 ⟨rfl, hc6⟩; have hb6 := hB5.trans (hc6.mono hB5.size); have q06 := cell_below q0 hb6; have q16 := cell_below q1 hb6; have e06 := cell_below e0 hb6; have e16 := cell_below e1 hb6; have s06 := cell_below s05 hc6; have s16 := cell_below s15 hc6; have Hs6 := hid_ (Hs5.out.below hc6 (Nat.le_refl _)))
          | (go_at_call 19; (with_reducible refine (HX.out w6 hb6).mono ?_); rintro e w7 ⟨v7, rfl, hm7⟩; have hb7 := hb6.trans (hm7.bel.mono hb6.size); have q07 := cell_below q0 hb7; have q17 := cell_below q1 hb7; have e07 := cell_below e0 hb7; have e17 := cell_below e1 hb7; have s07 := cell_below s06 hm7.bel; have s17 := cell_below s16 hm7.bel; have Hs7 := hid_ (Hs6.out.below hm7.bel (Nat.le_refl _)); obtain ⟨a7, c7, rfl, hi7⟩ := hm7.at_; rw [Hl.out] at hi7 ⊢; have Hi7 := hid_ hi7; clear hi7 hm7)
          | (go_at_call 37; (with_reducible refine (HC.out w7 hb7).mono ?_); rintro e w8 ⟨v8, rfl, hm8⟩; have hb8 := hb7.trans (hm8.bel.mono hb7.size); have q08 := cell_below q0 hb8; have q18 := cell_below q1 hb8; have e08 := cell_below e0 hb8; have e18 := cell_below e1 hb8; have s08 := cell_below s07 hm8.bel; have s18 := cell_below s17 hm8.bel; have Hs8 := hid_ (Hs7.out.below hm8.bel (Nat.le_refl _)); obtain ⟨a8, c8, rfl, hi8⟩ := hm8.at_; rw [Hm.out] at hi8 ⊢; have Hi8 := hid_ hi8; have Hi78 := hid_ (Hi7.out.below hm8.bel (Nat.le_refl _)); clear hi8 hm8)
          | (go_at_call 37; (with_reducible refine (HD.out _ _ Hs8.out).mono ?_); rintro e w9 ⟨v9, rfl, hm9⟩; have hb9 := hb8.trans (hm9.bel.mono hb8.size); have q09 := cell_below q0 hb9; have q19 := cell_below q1 hb9; have e09 := cell_below e0 hb9; have e19 := cell_below e1 hb9; obtain ⟨a9, c9, rfl, hi9⟩ := hm9.at_; rw [Hn.out] at hi9 ⊢; have Hi9 := hid_ hi9; have Hi89 := hid_ (Hi8.out.below hm9.bel (Nat.le_refl _)); have Hi79 := hid_ (Hi78.out.below hm9.bel (Nat.le_refl _)); clear hi9 hm9))
        have HI := hid_ (HI2.out.below hb9 (Nat.le_refl _))
        have Hb9 := hid_ hb9
        go_loopw [15] (fun i wr => ∃ k : Nat, k ≤ m ∧ i = .int .i64 k ∧ Below w9.heap.size w9 wr) (fun i _ => m - (intOf i).toNat)
        case atStart => exact ⟨0, Nat.zero_le _, rfl, Below.refl _ _⟩
        case round =>
          obtain ⟨k, hk, rfl, hb⟩ := hrel
          by_cases hlt : k < m
          · obtain ⟨bl, off, a6, n6, c6, rfl, hbs, hcell, hrow⟩ := (Hi79.out.below hb (Nat.le_refl _)).cells k hlt
            obtain ⟨bm, om, rfl, hbm, hcm⟩ := (Hi89.out.below hb (Nat.le_refl _)).cells k hlt
            obtain ⟨bn, on, rfl, hbn, hcn⟩ := (Hi9.out.below hb (Nat.le_refl _)).cells k hlt
            obtain ⟨o1, o2⟩ := HO.out k hlt
            have e6 : n ≤ n6 := by rw [← hrow.len, ← o1, Hle.out]; exact Nat.le_refl _
            have hH := fun d os => (holdsB_calls a6 n6 c6 (L.getD k []) a n c E.spec (Go.Sort.grow (redrawn wr d) os) (hrow.below (below_regrown wr d os) (Nat.le_refl _)) ((HI.out.below hb (Nat.le_refl _)).below (below_regrown wr d os) (Nat.le_refl _)) e6 (fun j hj => Hge.out j (by rw [Hle.out]; exact hj)))
            have g0 := cell_regrown (cell_below e09 hb); have g1 := cell_regrown hcell; have g2 := cell_regrown hcm; have g3 := cell_regrown hcn
            have Hb := hid_ hb
            clear hrow hb e6 o1 hbs hbm hbn
            generalize hB E.spec (L.getD k []) = zz at *
            generalize M.getD k 0 = y1 at *
            generalize N.getD k 0 = y2 at *
            cases zz with
            | true =>
              have HH := hid_ hH
              clear hH o2
              go_wp2_with fail
              refine wp_region_quiet_below (by kernel_rfl) (by kernel_rfl) ?_
              repeat (first | go_big_quiet_skip | (go_big_quiet_want; go_big_quiet_op; first | go_big_quiet_on | go_big_quiet_call ((go_at_call 52; with_reducible exact Calls.regrown_of (HH.out _ _)))))
              refine wpQuiet_nil ?_
              rintro wq ⟨pq, hpq⟩
              have hbL := below_wq hpq; clear hpq
              go_wp2
              exact ⟨⟨k + 1, by omega, by go_num, Hb.out.trans (hbL.mono Hb.out.size)⟩, by simp [intOf]; omega⟩
            | false =>
              obtain rfl := o2 rfl
              have HH := hid_ hH
              have hyy : (y1 != y1) = false := by simp
              clear hH o2
              go_wp2_with fail
              refine wp_region_quiet_below (by kernel_rfl) (by kernel_rfl) ?_
              repeat (first | go_big_quiet_skip | (go_big_quiet_want; go_big_quiet_op; first | go_big_quiet_on | go_big_quiet_call ((go_at_call 52; with_reducible exact Calls.regrown_of (HH.out _ _)))))
              refine wpQuiet_nil ?_
              rintro wq ⟨pq, hpq⟩
              have hbL := below_wq hpq; clear hpq
              go_wp2
              exact ⟨⟨k + 1, by omega, by go_num, Hb.out.trans (hbL.mono Hb.out.size)⟩, by simp [intOf]; omega⟩
          · obtain rfl : m = k := by omega
            have Hbr := hid_ (Hb9.out.trans (hb.mono Hb9.out.size))
            clear hb
            go_wp2_with (go_at_call 18; (with_reducible refine (HK.out _).mono ?_); rintro e wk ⟨rfl, hbk⟩)
            go_ret
            exact ⟨rfl, Hc2.out.trans ((Hbr.out.trans (hbk.mono Hbr.out.size)).mono Hc2.out.size)⟩
      · have hq : (x != 0) = true := by simpa using hx
        clear hok hx hle h27
        obtain ⟨l, hl⟩ : ∃ l, L.length = l := ⟨_, rfl⟩
        obtain ⟨m, hm⟩ : ∃ m, M.length = m := ⟨_, rfl⟩
        obtain ⟨n', hn⟩ : ∃ n', N.length = n' := ⟨_, rfl⟩
        have Hl := hid_ hl; have Hm := hid_ hm; have Hn := hid_ hn
        clear hl hm hn
        go_enter Try.func14, Try.ntmps14
        go_wp2_with (first
          | (go_at_call 17; (with_reducible refine HG.out.mono ?_); rintro e w3 ⟨rfl, hb3⟩; have q03 := cell_below q0 hb3; have q13 := cell_below q1 hb3; have e03 := cell_below e0 hb3; have e13 := cell_below e1 hb3)
          | (go_at_call 24; (with_reducible refine (HLg.out _ hb3).mono ?_); rintro e w3l ⟨rfl, rfl⟩)
          | (go_at_call 63; (with_reducible refine (HA.out w3 hb3).mono ?_); rintro e w4 ⟨v4, rfl, hm4⟩; have hb4 := hb3.trans (hm4.bel.mono hb3.size); have hp4 := hm4.par; obtain ⟨a3, n3, c3, b3, m3, d3, rfl, hs4, he4⟩ := hp4; have Hp4 : Hid (ParAt w4 (.agg #[.slice a3 n3 c3, .slice b3 m3 d3]) R) := hid_ ⟨_, _, _, _, _, _, rfl, hs4, he4⟩; clear hs4 he4 hm4; obtain ⟨W4, hW4⟩ : ∃ W4, w4.alloc (.cells #[.slice a3 n3 c3, .slice b3 m3 d3] 25) = W4 := ⟨_, rfl⟩; have bW4 : Below w4.heap.size w4 W4 := (by rw [← hW4]; exact below_alloc _ _); have hB4 := hb4.trans (bW4.mono hb4.size); have q04 := cell_below q0 hB4; have q14 := cell_below q1 hB4; have e04 := cell_below e0 hB4; have e14 := cell_below e1 hB4; have s04 : W4.cell? ⟨w4.heap.size, 0, none⟩ = some (.slice a3 n3 c3) := (by rw [← hW4]; exact cells_alloc _ _ _ 0); have s14 : W4.cell? ⟨w4.heap.size, 1, none⟩ = some (.slice b3 m3 d3) := (by rw [← hW4]; exact cells_alloc _ _ _ 1); have Hs4 := hid_ (Hp4.out.below bW4 (Nat.le_refl _)))
          | (go_at_call 64; (with_reducible refine (HB.out W4 hB4).mono ?_); rintro e w5 ⟨v5, rfl, hm5⟩; have hc5 := hm5.bel; have hb5 := hB4.trans (hm5.bel.mono hB4.size); have hp5 := hm5.par; obtain ⟨a5, n5, c5, b5, m5, d5, rfl, hs5, he5⟩ := hp5; have Hp5 : Hid (ParAt w5 (.agg #[.slice a5 n5 c5, .slice b5 m5 d5]) R) := hid_ ⟨_, _, _, _, _, _, rfl, hs5, he5⟩; clear hs5 he5 hm5; obtain ⟨W5, hW5⟩ : ∃ W5, w5.alloc (.cells #[.slice a5 n5 c5, .slice b5 m5 d5] 25) = W5 := ⟨_, rfl⟩; have bW5 : Below w5.heap.size w5 W5 := (by rw [← hW5]; exact below_alloc _ _); have hB5 := hb5.trans (bW5.mono hb5.size); have q05 := cell_below q0 hB5; have q15 := cell_below q1 hB5; have e05 := cell_below e0 hB5; have e15 := cell_below e1 hB5; have t05 : W5.cell? ⟨w5.heap.size, 0, none⟩ = some (.slice a5 n5 c5) := (by rw [← hW5]; exact cells_alloc _ _ _ 0); have t15 : W5.cell? ⟨w5.heap.size, 1, none⟩ = some (.slice b5 m5 d5) := (by rw [← hW5]; exact cells_alloc _ _ _ 1); have Ht5 := hid_ (Hp5.out.below bW5 (Nat.le_refl _)); have hC5 := hc5.trans (bW5.mono hc5.size); have s05 := cell_below s04 hC5; have s15 := cell_below s14 hC5; have Hs5 := hid_ (Hs4.out.below hC5 (Nat.le_refl _)))
          | (go_at_call 58; (with_reducible refine (r6Equal_yes _ _ R W5 Hs5.out Ht5.out).mono ?_); rintro e w6 ⟨rfl, hc6⟩; have hb6 := hB5.trans (hc6.mono hB5.size); have q06 := cell_below q0 hb6; have q16 := cell_below q1 hb6; have e06 := cell_below e0 hb6; have e16 := cell_below e1 hb6; have s06 := cell_below s05 hc6; have s16 := cell_below s15 hc6; have Hs6 := hid_ (Hs5.out.below hc6 (Nat.le_refl _)))
          | (go_at_call 19; (with_reducible refine (HX.out w6 hb6).mono ?_); rintro e w7 ⟨v7, rfl, hm7⟩; have hb7 := hb6.trans (hm7.bel.mono hb6.size); have q07 := cell_below q0 hb7; have q17 := cell_below q1 hb7; have e07 := cell_below e0 hb7; have e17 := cell_below e1 hb7; have s07 := cell_below s06 hm7.bel; have s17 := cell_below s16 hm7.bel; have Hs7 := hid_ (Hs6.out.below hm7.bel (Nat.le_refl _)); obtain ⟨a7, c7, rfl, hi7⟩ := hm7.at_; rw [Hl.out] at hi7 ⊢; have Hi7 := hid_ hi7; clear hi7 hm7)
          | (go_at_call 37; (with_reducible refine (HC.out w7 hb7).mono ?_); rintro e w8 ⟨v8, rfl, hm8⟩; have hb8 := hb7.trans (hm8.bel.mono hb7.size); have q08 := cell_below q0 hb8; have q18 := cell_below q1 hb8; have e08 := cell_below e0 hb8; have e18 := cell_below e1 hb8; have s08 := cell_below s07 hm8.bel; have s18 := cell_below s17 hm8.bel; have Hs8 := hid_ (Hs7.out.below hm8.bel (Nat.le_refl _)); obtain ⟨a8, c8, rfl, hi8⟩ := hm8.at_; rw [Hm.out] at hi8 ⊢; have Hi8 := hid_ hi8; have Hi78 := hid_ (Hi7.out.below hm8.bel (Nat.le_refl _)); clear hi8 hm8)
          | (go_at_call 37; (with_reducible refine (HD.out _ _ Hs8.out).mono ?_); rintro e w9 ⟨v9, rfl, hm9⟩; have hb9 := hb8.trans (hm9.bel.mono hb8.size); have q09 := cell_below q0 hb9; have q19 := cell_below q1 hb9; have e09 := cell_below e0 hb9; have e19 := cell_below e1 hb9; obtain ⟨a9, c9, rfl, hi9⟩ := hm9.at_; rw [Hn.out] at hi9 ⊢; have Hi9 := hid_ hi9; have Hi89 := hid_ (Hi8.out.below hm9.bel (Nat.le_refl _)); have Hi79 := hid_ (Hi78.out.below hm9.bel (Nat.le_refl _)); clear hi9 hm9)
          | (go_at_call 18; (with_reducible refine (HK.out _).mono ?_); rintro e wk ⟨rfl, hbk⟩))
        go_ret
        exact ⟨rfl, Hc2.out.trans ((hb9.trans (hbk.mono hb9.size)).mono Hc2.out.size)⟩
end Go.Proofs.Ytahknodnjjmagaa
