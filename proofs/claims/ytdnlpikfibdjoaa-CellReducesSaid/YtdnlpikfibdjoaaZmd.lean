import Derived.Test.YtdnlpikfibdjoaaZdz
import Derived.Test.YtdnlpikfibdjoaaZvg
namespace Go.Proofs.Ytdnlpikfibdjoaa
open Go.RowKit Go.Proofs.Kv

/-! ### the law CellReduces -/
set_option maxRecDepth 100000 in
set_option maxHeartbeats 8000000 in
theorem cellReduces_calls (v : Value) (P : Par) (w : World) (h : ParAt w v P) :
    Calls Try.prog 3 #[v] w fun e w' => e = .returned (.bool true) ∧ Below w.heap.size w w' := by
  have HP := hid_ h
  obtain ⟨a1, n1, c1, a2, n2, c2, rfl, h1, h2⟩ := h
  obtain ⟨w1, hw1⟩ : ∃ w1, w.alloc (.cells #[.slice a1 n1 c1, .slice a2 n2 c2] 25) = w1 := ⟨_, rfl⟩
  have cb : Below w.heap.size w w1 := by rw [← hw1]; exact below_alloc _ _
  have q0 : w1.cell? ⟨w.heap.size, 0, none⟩ = some (.slice a1 n1 c1) := by rw [← hw1]; exact cells_alloc _ _ _ 0
  have q1 : w1.cell? ⟨w.heap.size, 1, none⟩ = some (.slice a2 n2 c2) := by rw [← hw1]; exact cells_alloc _ _ _ 1
  have HP1 := hid_ (HP.out.below cb (Nat.le_refl _)); have Hc1 := hid_ cb
  have HK := hid_ known_calls
  have HG := hid_ (long_calls _ P w1 HP1.out)
  clear h1 h2 cb
  cases hg : LongP P with
  | true =>
    rw [hg] at HG
    go_enter Try.func3, Try.ntmps3
    go_wp2_with (first
      | (go_at_call 8; (with_reducible refine HG.out.mono ?_); rintro e w3 ⟨rfl, hb3⟩)
      | (go_at_call 9; (with_reducible refine (HK.out _).mono ?_); rintro e wk ⟨rfl, hbk⟩))
    go_ret
    exact ⟨rfl, Hc1.out.trans ((hb3.trans (hbk.mono hb3.size)).mono Hc1.out.size)⟩
  | false =>
    rw [hg] at HG
    obtain ⟨l1, l2, l3⟩ := long_small hg
    clear hg
    have hok := @reduce_ok P
    have HN := hid_ (fun W (hW : Below w1.heap.size w1 W) => ceNeedless_calls _ P W (HP1.out.below hW (Nat.le_refl _)))
    have HM := hid_ (fun W (hW : Below w1.heap.size w1 W) => r6Needless_calls _ P W (HP1.out.below hW (Nat.le_refl _)))
    unfold NeedPost at HN HM
    have HCp := hid_ (fun W (hW : Below w1.heap.size w1 W) => r6Copy_calls _ P W (HP1.out.below hW (Nat.le_refl _)) (by omega) (by omega) (fun k hk => by have := l3 k hk; omega))
    have HA := hid_ (fun W v' (hp : ParAt W v' P) => ceReduce_calls v' P W hp)
    have HB := hid_ (fun W (hW : Below w1.heap.size w1 W) => r6Reduce_calls _ P W (HP1.out.below hW (Nat.le_refl _)))
    have HS := hid_ (fun W (hW : Below w1.heap.size w1 W) v' (hp : ParAt W v' (resRed P)) => ceSame_calls v' _ (resRed P) P W hp (HP1.out.below hW (Nat.le_refl _)))
    have HL : ∀ a n c a' n' c' W W', IntsAt W a n c (resNeed P) → IntsAt W' a' n' c' (resNeed P) → n = n' := fun _ _ _ _ _ _ _ _ h1 h2 => h1.len.symm.trans h2.len
    have HE := hid_ (fun W a n c a' n' c' (h : IntsAt W a n c (resNeed P)) (h' : IntsAt W a' n' c' (resNeed P)) => (show Same (resNeed P) (resNeed P) = true from decide_eq_true rfl) ▸ same_calls _ _ _ _ _ _ _ _ W h h')
    generalize resNeed P = M at *
    generalize resRed P = R at *
    generalize errS R P = y at *
    generalize resSame R P = z at *
    have Hok := hid_ hok
    clear hok l1 l2 l3
    generalize validP P = u at *
    have hyy : (u != u) = false := by simp
    by_cases hu : u = 0
    · subst hu
      obtain ⟨hvR, rfl, rfl⟩ := Hok.out rfl
      clear hvR hyy
      go_enter Try.func3, Try.ntmps3
      go_wp2_with (first
        | (go_at_call 8; (with_reducible refine HG.out.mono ?_); rintro e w3 ⟨rfl, hb3⟩; have q03 := cell_below q0 hb3; have q13 := cell_below q1 hb3)
        | (go_at_call 10; (with_reducible refine (HN.out w3 hb3).mono ?_); rintro e w4 ⟨a4, n4, c4, rfl, hi4, hc4⟩; have hb4 := hb3.trans (hc4.mono hb3.size); have q04 := cell_below q03 hc4; have q14 := cell_below q13 hc4; have Hi4 := hid_ hi4; clear hi4 hc4)
        | (go_at_call 11; (with_reducible refine (HM.out w4 hb4).mono ?_); rintro e w5 ⟨a5, n5, c5, rfl, hi5, hc5⟩; have hb5 := hb4.trans (hc5.mono hb4.size); have q05 := cell_below q04 hc5; have q15 := cell_below q14 hc5; have Hi5 := hid_ hi5; have Hi45 := hid_ (Hi4.out.below hc5 (Nat.le_refl _)); clear hi5 hc5)
        | (go_at_call 12; (with_reducible refine (HCp.out w5 hb5).mono ?_); rintro e w6 ⟨v6, rfl, hm6⟩; have hp6 := hm6.par; have hb6 := hb5.trans (hm6.bel.mono hb5.size); have hc6 := hm6.bel; obtain ⟨a6, n6, c6, b6, m6, d6, ev6, hs6, he6⟩ := hp6; subst ev6; have Hp6 : Hid (ParAt w6 (.agg #[.slice a6 n6 c6, .slice b6 m6 d6]) P) := hid_ ⟨_, _, _, _, _, _, rfl, hs6, he6⟩; obtain ⟨W6, hW6⟩ : ∃ W6, w6.alloc (.cells #[.slice a6 n6 c6, .slice b6 m6 d6] 25) = W6 := ⟨_, rfl⟩; have bW6 : Below w6.heap.size w6 W6 := (by rw [← hW6]; exact below_alloc _ _); have hB6 := hb6.trans (bW6.mono hb6.size); have o06 : W6.cell? ⟨w6.heap.size, 0, none⟩ = some (.slice a6 n6 c6) := (by rw [← hW6]; exact cells_alloc _ _ _ 0); have o16 : W6.cell? ⟨w6.heap.size, 1, none⟩ = some (.slice b6 m6 d6) := (by rw [← hW6]; exact cells_alloc _ _ _ 1); have hC6 := hc6.trans (bW6.mono hc6.size); have q06 := cell_below q05 hC6; have q16 := cell_below q15 hC6; have Ho6 := hid_ (Hp6.out.below bW6 (Nat.le_refl _)); have HA6 := hid_ (HA.out W6 _ Ho6.out); have Hi46 := hid_ (Hi45.out.below hC6 (Nat.le_refl _)); have Hi56 := hid_ (Hi5.out.below hC6 (Nat.le_refl _)); clear hm6 hs6 he6)
        | (go_at_call 13; (with_reducible refine HA6.out.mono ?_); rintro e w7 ⟨v7, rfl, u7, x7, rfl, hS7, hE7, hc7⟩; obtain ⟨a7, n7, c7, rfl, -⟩ := hS7.ints; obtain ⟨b7, d7, rfl, hen7⟩ := hE7.at_; have hN9 := Nat.le_trans hen7.le hen7.small; clear hen7; have hb7 := hB6.trans (hc7.mono hB6.size); have Hp7 : Hid (ParAt w7 (.agg #[.slice a7 n7 c7, .slice b7 R.ents.length d7]) R) := hid_ ((show MadeP6 W6 w7 _ R from ⟨_, _, rfl, hS7, hE7, hc7⟩).par); obtain ⟨N, hN⟩ : ∃ N, R.ents.length = N := ⟨_, rfl⟩; rw [hN] at hE7 Hp7 hN9 ⊢; obtain ⟨W7, hW7⟩ : ∃ W7, w7.alloc (.cells #[.slice a7 n7 c7, .slice b7 N d7] 25) = W7 := ⟨_, rfl⟩; have bW7 : Below w7.heap.size w7 W7 := (by rw [← hW7]; exact below_alloc _ _); have hB7 := hb7.trans (bW7.mono hb7.size); have c07 : W7.cell? ⟨w7.heap.size, 0, none⟩ = some (.slice a7 n7 c7) := (by rw [← hW7]; exact cells_alloc _ _ _ 0); have c17 : W7.cell? ⟨w7.heap.size, 1, none⟩ = some (.slice b7 N d7) := (by rw [← hW7]; exact cells_alloc _ _ _ 1); have hC7 := hc7.trans (bW7.mono hc7.size); have q07 := cell_below q06 hC7; have q17 := cell_below q16 hC7; have o07 := cell_below o06 hC7; have o17 := cell_below o16 hC7; have Hc7 := hid_ (Hp7.out.below bW7 (Nat.le_refl _)); have HE7 := hid_ (hE7.next bW7); have HN' := hid_ hN; have hcl : W6.heap.size ≤ w7.heap.size := hc7.size; have Hi47 := hid_ (Hi46.out.below hC7 (Nat.le_refl _)); have Hi57 := hid_ (Hi56.out.below hC7 (Nat.le_refl _)); clear hS7 hE7 hN)
        | (go_at_call 14; (with_reducible refine (HB.out W7 hB7).mono ?_); rintro e w8 ⟨v8, rfl, hp8, hc8⟩; have hb8 := hB7.trans (hc8.mono hB7.size); obtain ⟨a8, n8, c8, b8, m8, d8, ev8, hs8, he8⟩ := hp8; subst ev8; have Hp8 : Hid (ParAt w8 (.agg #[.slice a8 n8 c8, .slice b8 m8 d8]) R) := hid_ ⟨_, _, _, _, _, _, rfl, hs8, he8⟩; obtain ⟨W8, hW8⟩ : ∃ W8, w8.alloc (.cells #[.slice a8 n8 c8, .slice b8 m8 d8] 25) = W8 := ⟨_, rfl⟩; have bW8 : Below w8.heap.size w8 W8 := (by rw [← hW8]; exact below_alloc _ _); have hB8 := hb8.trans (bW8.mono hb8.size); have d08 : W8.cell? ⟨w8.heap.size, 0, none⟩ = some (.slice a8 n8 c8) := (by rw [← hW8]; exact cells_alloc _ _ _ 0); have d18 : W8.cell? ⟨w8.heap.size, 1, none⟩ = some (.slice b8 m8 d8) := (by rw [← hW8]; exact cells_alloc _ _ _ 1); have hC8 := hc8.trans (bW8.mono hc8.size); have q08 := cell_below q07 hC8; have q18 := cell_below q17 hC8; have o08 := cell_below o07 hC8; have o18 := cell_below o17 hC8; have c08 := cell_below c07 hC8; have c18 := cell_below c17 hC8; have Hd8 := hid_ (Hp8.out.below bW8 (Nat.le_refl _)); have Hc8 := hid_ (Hc7.out.below hC8 (Nat.le_refl _)); have Hi48 := hid_ (Hi47.out.below hC8 (Nat.le_refl _)); have Hi58 := hid_ (Hi57.out.below hC8 (Nat.le_refl _)); have HC8 := hid_ hC8; clear hs8 he8)
        | (go_at_call 15; (with_reducible refine (HE.out W8 _ _ _ _ _ _ Hi48.out Hi58.out).mono ?_); rintro e w9 ⟨rfl, q9, rfl⟩; have bD := below_drewN (Below.refl W8.heap.size W8) q9; have hb9 := hB8.trans (bD.mono hB8.size); have q09 := cell_below q08 bD; have q19 := cell_below q18 bD; have o09 := cell_below o08 bD; have o19 := cell_below o18 bD; have c09 := cell_below c08 bD; have c19 := cell_below c18 bD; have d09 := cell_below d08 bD; have d19 := cell_below d18 bD; have Hd9 := hid_ (Hd8.out.below bD (Nat.le_refl _)); have Hc9 := hid_ (Hc8.out.below bD (Nat.le_refl _)); have HC9 := hid_ (HC8.out.trans (bD.mono HC8.out.size)); clear bD)
        | (go_at_call 16; (with_reducible refine (r6Equal_yes _ _ R _ Hc9.out Hd9.out).mono ?_); rintro e w10 ⟨rfl, hc10⟩; have hb10 := hb9.trans (hc10.mono hb9.size); have q010 := cell_below q09 hc10; have q110 := cell_below q19 hc10; have o010 := cell_below o09 hc10; have o110 := cell_below o19 hc10; have c010 := cell_below c09 hc10; have c110 := cell_below c19 hc10; have HS10 := hid_ (HS.out w10 hb10 _ (Hc9.out.below hc10 (Nat.le_refl _))); have HC10 := hid_ (HC9.out.trans (hc10.mono HC9.out.size)))
        | (go_at_call 17; (with_reducible refine HS10.out.mono ?_); rintro e w11 ⟨rfl, hc11⟩; have hb11 := hb10.trans (hc11.mono hb10.size); have q011 := cell_below q010 hc11; have q111 := cell_below q110 hc11; have o011 := cell_below o010 hc11; have o111 := cell_below o110 hc11; have c011 := cell_below c010 hc11; have c111 := cell_below c110 hc11; have HC11 := hid_ (HC10.out.trans (hc11.mono HC10.out.size))))
      have hz6 : w6.heap.size < W6.heap.size := by rw [← hW6]; simp
      have hz1 : w1.heap.size ≤ W6.heap.size := hB6.size
      have hz0 : w.heap.size < W6.heap.size := by have := congrArg (fun W => W.heap.size) hw1; simp at this; omega
      have HE11 := hid_ (HE7.out.next HC11.out)
      have Hown := hid_ (hC7.trans (HC11.out.mono hC7.size))
      have Hb11 := hid_ hb11
      generalize w7.heap.size = D7 at *
      generalize w6.heap.size = D6 at *
      go_loopw [15] (fun i wr => ∃ k : Nat, k ≤ N ∧ i = .int .i64 k ∧ StW W6.heap.size w11 wr) (fun i _ => N - (intOf i).toNat)
      case atStart => exact ⟨0, Nat.zero_le _, rfl, StW.refl _ _⟩
      case round =>
        obtain ⟨k, hk, rfl, hst⟩ := hrel
        have s0 := hst.slice _ _ _ _ c011
        have s1 := hst.slice _ _ _ _ c111
        have Hst := hid_ hst
        clear hst
        by_cases hlt : k < N
        · obtain ⟨g, cg, sa, ns, cs, eg, -, -, x0, -, hs, -⟩ := HE11.out.get k (by rw [HN'.out]; exact hlt)
          rw [HN'.out] at eg
          injection eg with eg eg1 eg2
          subst eg eg2
          obtain ⟨sa', ns', cs', ea, hi, hd⟩ := hs
          injection ea with ea ea1 ea2
          subst ea ea1 ea2
          have y0 := Hst.out.slice _ _ _ _ x0
          have Hi := hid_ hi
          have Hd := hid_ hd
          have hns := Nat.le_trans hi.i.le hi.i.small
          clear hi hd
          go_wp2
          rename World => wo
          go_loopw [16] (fun i wr => ∃ m : Nat, m ≤ ns ∧ i = .int .i64 m ∧ StW W6.heap.size w11 wr) (fun i _ => ns - (intOf i).toNat)
          case atStart => exact ⟨0, Nat.zero_le _, rfl, Hst.out⟩
          case round =>
            obtain ⟨m, hm, rfl, hst2⟩ := hrel
            have s02 := hst2.slice _ _ _ _ c011
            have s12 := hst2.slice _ _ _ _ c111
            have y02 := hst2.slice _ _ _ _ x0
            have Hst2 := hid_ hst2
            by_cases hlm : m < ns
            · obtain ⟨bs, os, rfl, hbs, hcs⟩ := Hi.out.i.cells m hlm
              have hfs := (hst2.frozen ⟨bs, os + m, none⟩).trans (Hi.out.soft _ _ rfl m hlm)
              obtain ⟨iy, hiy⟩ := hst2.int _ _ hcs
              have hBs := (Hd.out bs os (by omega) rfl).1
              clear hst2
              go_wp2
              go_roundw
              case rel => exact ⟨m + 1, by omega, by go_num, Hst2.out.set hiy hBs _⟩
              case measure => (simp [intOf]; try omega)
            · obtain rfl : m = ns := by omega
              clear hst2
              go_wp2
              go_roundw
              case rel => exact ⟨k + 1, by omega, by go_num, Hst2.out⟩
              case measure => (simp [intOf]; try omega)
        · obtain rfl : k = N := by omega
          have o0 := Hst.out.slice _ _ _ _ o011
          have o1 := Hst.out.slice _ _ _ _ o111
          have q0' := Hst.out.slice _ _ _ _ q011
          have q1' := Hst.out.slice _ _ _ _ q111
          have Hbw := hid_ (Hb11.out.trans (Hst.out.bel.mono hz1))
          have HEq := hid_ (r6Equal_yes _ _ P wr (Ho6.out.below (Hown.out.trans Hst.out.bel) (Nat.le_refl _)) (HP1.out.below Hbw.out (Nat.le_refl _)))
          go_wp2_with (first
            | (go_at_call 16; (with_reducible refine HEq.out.mono ?_); rintro e w12 ⟨rfl, hb12⟩)
            | (go_at_call 9; (with_reducible refine (HK.out _).mono ?_); rintro e wk ⟨rfl, hbk⟩))
          go_ret
          exact ⟨rfl, Hc1.out.trans ((Hbw.out.trans ((hb12.trans (hbk.mono hb12.size)).mono Hbw.out.size)).mono Hc1.out.size)⟩

    · have hq : (u != 0) = true := by simpa using hu
      clear hu Hok
      go_enter Try.func3, Try.ntmps3
      go_wp2_with (first
        | (go_at_call 8; (with_reducible refine HG.out.mono ?_); rintro e w3 ⟨rfl, hb3⟩; have q03 := cell_below q0 hb3; have q13 := cell_below q1 hb3)
        | (go_at_call 10; (with_reducible refine (HN.out w3 hb3).mono ?_); rintro e w4 ⟨a4, n4, c4, rfl, hi4, hc4⟩; have hb4 := hb3.trans (hc4.mono hb3.size); have q04 := cell_below q03 hc4; have q14 := cell_below q13 hc4; have Hi4 := hid_ hi4; clear hi4 hc4)
        | (go_at_call 11; (with_reducible refine (HM.out w4 hb4).mono ?_); rintro e w5 ⟨a5, n5, c5, rfl, hi5, hc5⟩; have hb5 := hb4.trans (hc5.mono hb4.size); have q05 := cell_below q04 hc5; have q15 := cell_below q14 hc5; have Hi5 := hid_ hi5; have Hi45 := hid_ (Hi4.out.below hc5 (Nat.le_refl _)); clear hi5 hc5)
        | (go_at_call 12; (with_reducible refine (HCp.out w5 hb5).mono ?_); rintro e w6 ⟨v6, rfl, hm6⟩; have hp6 := hm6.par; have hb6 := hb5.trans (hm6.bel.mono hb5.size); have hc6 := hm6.bel; obtain ⟨a6, n6, c6, b6, m6, d6, ev6, hs6, he6⟩ := hp6; subst ev6; have Hp6 : Hid (ParAt w6 (.agg #[.slice a6 n6 c6, .slice b6 m6 d6]) P) := hid_ ⟨_, _, _, _, _, _, rfl, hs6, he6⟩; obtain ⟨W6, hW6⟩ : ∃ W6, w6.alloc (.cells #[.slice a6 n6 c6, .slice b6 m6 d6] 25) = W6 := ⟨_, rfl⟩; have bW6 : Below w6.heap.size w6 W6 := (by rw [← hW6]; exact below_alloc _ _); have hB6 := hb6.trans (bW6.mono hb6.size); have o06 : W6.cell? ⟨w6.heap.size, 0, none⟩ = some (.slice a6 n6 c6) := (by rw [← hW6]; exact cells_alloc _ _ _ 0); have o16 : W6.cell? ⟨w6.heap.size, 1, none⟩ = some (.slice b6 m6 d6) := (by rw [← hW6]; exact cells_alloc _ _ _ 1); have hC6 := hc6.trans (bW6.mono hc6.size); have q06 := cell_below q05 hC6; have q16 := cell_below q15 hC6; have Ho6 := hid_ (Hp6.out.below bW6 (Nat.le_refl _)); have HA6 := hid_ (HA.out W6 _ Ho6.out); have Hi46 := hid_ (Hi45.out.below hC6 (Nat.le_refl _)); have Hi56 := hid_ (Hi5.out.below hC6 (Nat.le_refl _)); clear hm6 hs6 he6)
        | (go_at_call 13; (with_reducible refine HA6.out.mono ?_); rintro e w7 ⟨v7, rfl, u7, x7, rfl, hS7, hE7, hc7⟩; obtain ⟨a7, n7, c7, rfl, -⟩ := hS7.ints; obtain ⟨b7, d7, rfl, hen7⟩ := hE7.at_; have hN9 := Nat.le_trans hen7.le hen7.small; clear hen7; have hb7 := hB6.trans (hc7.mono hB6.size); have Hp7 : Hid (ParAt w7 (.agg #[.slice a7 n7 c7, .slice b7 R.ents.length d7]) R) := hid_ ((show MadeP6 W6 w7 _ R from ⟨_, _, rfl, hS7, hE7, hc7⟩).par); obtain ⟨N, hN⟩ : ∃ N, R.ents.length = N := ⟨_, rfl⟩; rw [hN] at hE7 Hp7 hN9 ⊢; obtain ⟨W7, hW7⟩ : ∃ W7, w7.alloc (.cells #[.slice a7 n7 c7, .slice b7 N d7] 25) = W7 := ⟨_, rfl⟩; have bW7 : Below w7.heap.size w7 W7 := (by rw [← hW7]; exact below_alloc _ _); have hB7 := hb7.trans (bW7.mono hb7.size); have c07 : W7.cell? ⟨w7.heap.size, 0, none⟩ = some (.slice a7 n7 c7) := (by rw [← hW7]; exact cells_alloc _ _ _ 0); have c17 : W7.cell? ⟨w7.heap.size, 1, none⟩ = some (.slice b7 N d7) := (by rw [← hW7]; exact cells_alloc _ _ _ 1); have hC7 := hc7.trans (bW7.mono hc7.size); have q07 := cell_below q06 hC7; have q17 := cell_below q16 hC7; have o07 := cell_below o06 hC7; have o17 := cell_below o16 hC7; have Hc7 := hid_ (Hp7.out.below bW7 (Nat.le_refl _)); have HE7 := hid_ (hE7.next bW7); have HN' := hid_ hN; have hcl : W6.heap.size ≤ w7.heap.size := hc7.size; have Hi47 := hid_ (Hi46.out.below hC7 (Nat.le_refl _)); have Hi57 := hid_ (Hi56.out.below hC7 (Nat.le_refl _)); clear hS7 hE7 hN)
        | (go_at_call 14; (with_reducible refine (HB.out W7 hB7).mono ?_); rintro e w8 ⟨v8, rfl, hp8, hc8⟩; have hb8 := hB7.trans (hc8.mono hB7.size); obtain ⟨a8, n8, c8, b8, m8, d8, ev8, hs8, he8⟩ := hp8; subst ev8; have Hp8 : Hid (ParAt w8 (.agg #[.slice a8 n8 c8, .slice b8 m8 d8]) R) := hid_ ⟨_, _, _, _, _, _, rfl, hs8, he8⟩; obtain ⟨W8, hW8⟩ : ∃ W8, w8.alloc (.cells #[.slice a8 n8 c8, .slice b8 m8 d8] 25) = W8 := ⟨_, rfl⟩; have bW8 : Below w8.heap.size w8 W8 := (by rw [← hW8]; exact below_alloc _ _); have hB8 := hb8.trans (bW8.mono hb8.size); have d08 : W8.cell? ⟨w8.heap.size, 0, none⟩ = some (.slice a8 n8 c8) := (by rw [← hW8]; exact cells_alloc _ _ _ 0); have d18 : W8.cell? ⟨w8.heap.size, 1, none⟩ = some (.slice b8 m8 d8) := (by rw [← hW8]; exact cells_alloc _ _ _ 1); have hC8 := hc8.trans (bW8.mono hc8.size); have q08 := cell_below q07 hC8; have q18 := cell_below q17 hC8; have o08 := cell_below o07 hC8; have o18 := cell_below o17 hC8; have c08 := cell_below c07 hC8; have c18 := cell_below c17 hC8; have Hd8 := hid_ (Hp8.out.below bW8 (Nat.le_refl _)); have Hc8 := hid_ (Hc7.out.below hC8 (Nat.le_refl _)); have Hi48 := hid_ (Hi47.out.below hC8 (Nat.le_refl _)); have Hi58 := hid_ (Hi57.out.below hC8 (Nat.le_refl _)); have HC8 := hid_ hC8; clear hs8 he8)
        | (go_at_call 15; (with_reducible refine (HE.out W8 _ _ _ _ _ _ Hi48.out Hi58.out).mono ?_); rintro e w9 ⟨rfl, q9, rfl⟩; have bD := below_drewN (Below.refl W8.heap.size W8) q9; have hb9 := hB8.trans (bD.mono hB8.size); have q09 := cell_below q08 bD; have q19 := cell_below q18 bD; have o09 := cell_below o08 bD; have o19 := cell_below o18 bD; have c09 := cell_below c08 bD; have c19 := cell_below c18 bD; have d09 := cell_below d08 bD; have d19 := cell_below d18 bD; have Hd9 := hid_ (Hd8.out.below bD (Nat.le_refl _)); have Hc9 := hid_ (Hc8.out.below bD (Nat.le_refl _)); have HC9 := hid_ (HC8.out.trans (bD.mono HC8.out.size)); clear bD)
        | (go_at_call 16; (with_reducible refine (r6Equal_yes _ _ R _ Hc9.out Hd9.out).mono ?_); rintro e w10 ⟨rfl, hc10⟩; have hb10 := hb9.trans (hc10.mono hb9.size); have q010 := cell_below q09 hc10; have q110 := cell_below q19 hc10; have o010 := cell_below o09 hc10; have o110 := cell_below o19 hc10; have c010 := cell_below c09 hc10; have c110 := cell_below c19 hc10; have HS10 := hid_ (HS.out w10 hb10 _ (Hc9.out.below hc10 (Nat.le_refl _))); have HC10 := hid_ (HC9.out.trans (hc10.mono HC9.out.size)))
        | (go_at_call 17; (with_reducible refine HS10.out.mono ?_); rintro e w11 ⟨rfl, hc11⟩; have hb11 := hb10.trans (hc11.mono hb10.size); have q011 := cell_below q010 hc11; have q111 := cell_below q110 hc11; have o011 := cell_below o010 hc11; have o111 := cell_below o110 hc11; have c011 := cell_below c010 hc11; have c111 := cell_below c110 hc11; have HC11 := hid_ (HC10.out.trans (hc11.mono HC10.out.size))))
      have hz6 : w6.heap.size < W6.heap.size := by rw [← hW6]; simp
      have hz1 : w1.heap.size ≤ W6.heap.size := hB6.size
      have hz0 : w.heap.size < W6.heap.size := by have := congrArg (fun W => W.heap.size) hw1; simp at this; omega
      have HE11 := hid_ (HE7.out.next HC11.out)
      have Hown := hid_ (hC7.trans (HC11.out.mono hC7.size))
      have Hb11 := hid_ hb11
      generalize w7.heap.size = D7 at *
      generalize w6.heap.size = D6 at *
      go_loopw [15] (fun i wr => ∃ k : Nat, k ≤ N ∧ i = .int .i64 k ∧ StW W6.heap.size w11 wr) (fun i _ => N - (intOf i).toNat)
      case atStart => exact ⟨0, Nat.zero_le _, rfl, StW.refl _ _⟩
      case round =>
        obtain ⟨k, hk, rfl, hst⟩ := hrel
        have s0 := hst.slice _ _ _ _ c011
        have s1 := hst.slice _ _ _ _ c111
        have Hst := hid_ hst
        clear hst
        by_cases hlt : k < N
        · obtain ⟨g, cg, sa, ns, cs, eg, -, -, x0, -, hs, -⟩ := HE11.out.get k (by rw [HN'.out]; exact hlt)
          rw [HN'.out] at eg
          injection eg with eg eg1 eg2
          subst eg eg2
          obtain ⟨sa', ns', cs', ea, hi, hd⟩ := hs
          injection ea with ea ea1 ea2
          subst ea ea1 ea2
          have y0 := Hst.out.slice _ _ _ _ x0
          have Hi := hid_ hi
          have Hd := hid_ hd
          have hns := Nat.le_trans hi.i.le hi.i.small
          clear hi hd
          go_wp2
          rename World => wo
          go_loopw [16] (fun i wr => ∃ m : Nat, m ≤ ns ∧ i = .int .i64 m ∧ StW W6.heap.size w11 wr) (fun i _ => ns - (intOf i).toNat)
          case atStart => exact ⟨0, Nat.zero_le _, rfl, Hst.out⟩
          case round =>
            obtain ⟨m, hm, rfl, hst2⟩ := hrel
            have s02 := hst2.slice _ _ _ _ c011
            have s12 := hst2.slice _ _ _ _ c111
            have y02 := hst2.slice _ _ _ _ x0
            have Hst2 := hid_ hst2
            by_cases hlm : m < ns
            · obtain ⟨bs, os, rfl, hbs, hcs⟩ := Hi.out.i.cells m hlm
              have hfs := (hst2.frozen ⟨bs, os + m, none⟩).trans (Hi.out.soft _ _ rfl m hlm)
              obtain ⟨iy, hiy⟩ := hst2.int _ _ hcs
              have hBs := (Hd.out bs os (by omega) rfl).1
              clear hst2
              go_wp2
              go_roundw
              case rel => exact ⟨m + 1, by omega, by go_num, Hst2.out.set hiy hBs _⟩
              case measure => (simp [intOf]; try omega)
            · obtain rfl : m = ns := by omega
              clear hst2
              go_wp2
              go_roundw
              case rel => exact ⟨k + 1, by omega, by go_num, Hst2.out⟩
              case measure => (simp [intOf]; try omega)
        · obtain rfl : k = N := by omega
          have o0 := Hst.out.slice _ _ _ _ o011
          have o1 := Hst.out.slice _ _ _ _ o111
          have q0' := Hst.out.slice _ _ _ _ q011
          have q1' := Hst.out.slice _ _ _ _ q111
          have Hbw := hid_ (Hb11.out.trans (Hst.out.bel.mono hz1))
          have HEq := hid_ (r6Equal_yes _ _ P wr (Ho6.out.below (Hown.out.trans Hst.out.bel) (Nat.le_refl _)) (HP1.out.below Hbw.out (Nat.le_refl _)))
          go_wp2_with (first
            | (go_at_call 16; (with_reducible refine HEq.out.mono ?_); rintro e w12 ⟨rfl, hb12⟩)
            | (go_at_call 9; (with_reducible refine (HK.out _).mono ?_); rintro e wk ⟨rfl, hbk⟩))
          go_ret
          exact ⟨rfl, Hc1.out.trans ((Hbw.out.trans ((hb12.trans (hbk.mono hb12.size)).mono Hbw.out.size)).mono Hc1.out.size)⟩

end Go.Proofs.Ytdnlpikfibdjoaa
