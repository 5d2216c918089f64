import Derived.Test.YtnpdhmejnoplcaaLae
import Derived.Test.YtnpdhmejnoplcaaMf
import Derived.Test.YtnpdhmejnoplcaaMi
import Derived.Test.YtnpdhmejnoplcaaLd
namespace Go.Proofs.Ytnpdhmejnoplcaa
open Go.RowKit Go.Proofs.Kv

set_option maxRecDepth 100000 in
set_option maxHeartbeats 40000000 in
theorem ruleMirrors_calls (v : Value) (R : Rl) (a : Option Addr) (n c : Nat) (l : List Int) (w : World) (hr : RuleAt w v R) (h : IntsAt w a n c l) :
    Calls Try.prog 14 #[v, .slice a n c] w fun e w' => e = .returned (.bool true) ∧ Below w.heap.size w w' := by
  have Hr := hid_ hr
  obtain ⟨a1, n1, c1, a2, n2, c2, a3, n3, c3, rfl, h1, h2, h3⟩ := hr
  clear h1 h2 h3
  obtain ⟨w1, hw1⟩ : ∃ w1, w.alloc (.cells #[.int .i64 R.f, .slice a1 n1 c1, .slice a2 n2 c2, .slice a3 n3 c3] 24) = w1 := ⟨_, rfl⟩
  have Hb1 : Hid (Below w.heap.size w w1) := hid_ (by rw [← hw1]; exact below_alloc _ _)
  have HW1 := hid_ hw1
  have HQ := hid_ (fun W (hW : Below w1.heap.size w1 W) => box4 HW1.out hW)
  have HR := hid_ (fun W (hW : Below w1.heap.size w1 W) => (Hr.out.below Hb1.out (Nat.le_refl _)).below hW (Nat.le_refl _))
  have HK := hid_ known_calls
  have hb1 : Below w1.heap.size w1 w1 := Below.refl _ _
  obtain ⟨q0, q1, q2, q3⟩ := HQ.out w1 hb1
  have HLn := hid_ h.len
  have HI := hid_ (fun W (hW : Below w1.heap.size w1 W) => (h.below Hb1.out (Nat.le_refl _)).below hW (Nat.le_refl _))
  clear h
  have HG0 : Hid (∀ W, Below w1.heap.size w1 W → Calls Try.prog 28 #[.agg #[.int .i64 R.f, .slice a1 n1 c1, .slice a2 n2 c2, .slice a3 n3 c3]] W fun e w' => e = .returned (.bool (bigR R)) ∧ Below W.heap.size W w') := hid_ (fun W hW => long_calls _ R W (HR.out W hW))
  have HG1 : Hid (∀ W, Below w1.heap.size w1 W → Calls Try.prog 29 #[.slice a n c] W fun e w' => e = .returned (.bool (bigOne l)) ∧ Below W.heap.size W w') := hid_ (fun W hW => (large_calls a n c l W (HI.out W hW)).mono (fun _ _ ⟨he, hm⟩ => ⟨he, below_same hm⟩))
  cases hg0 : bigR R with
  | true =>
    rw [hg0] at HG0
    go_enter Try.func14, Try.ntmps14
    go_wp2_with (first
      | (go_at_call 28; refine (HG0.out _ hb1).mono ?_; rintro e wg0 ⟨rfl, hcg0⟩; have hbg0 := hcg0)
      | (go_at_call 30; refine (HK.out _).mono ?_; rintro e wk ⟨rfl, hck⟩))
    go_ret
    exact ⟨rfl, Hb1.out.trans ((hbg0.trans (hck.mono hbg0.size)).mono Hb1.out.size)⟩
  | false =>
    rw [hg0] at HG0
    cases hg1 : bigOne l with
    | true =>
      rw [hg1] at HG1
      go_enter Try.func14, Try.ntmps14
      go_wp2_with (first
        | (go_at_call 28; refine (HG0.out _ hb1).mono ?_; rintro e wg0 ⟨rfl, hcg0⟩; have hbg0 := hcg0; obtain ⟨q0, q1, q2, q3⟩ := HQ.out wg0 hbg0)
        | (go_at_call 29; refine (HG1.out _ hbg0).mono ?_; rintro e wg1 ⟨rfl, hcg1⟩; have hbg1 := hbg0.trans (hcg1.mono hbg0.size))
        | (go_at_call 30; refine (HK.out _).mono ?_; rintro e wk ⟨rfl, hck⟩))
      go_ret
      exact ⟨rfl, Hb1.out.trans ((hbg1.trans (hck.mono hbg1.size)).mono Hb1.out.size)⟩
    | false =>
      rw [hg1] at HG1
      obtain ⟨z1, z2⟩ : R.le.length ≤ 100 ∧ R.ri.length ≤ 100 := by simp only [bigR, Bool.or_eq_false_iff] at hg0; exact ⟨bigOne_no hg0.1.2, bigOne_no hg0.2⟩
      have HM1 := hid_ (fun W hW => ruMirror_calls _ R W (HR.out W hW) z1 z2)
      have HM2 := hid_ (fun W hW => r2Mirror_calls _ R W (HR.out W hW) z1 z2)
      have HB1 := hid_ (fun W hW => ruBack_calls a n c l W (HI.out W hW))
      have HB2 := hid_ (fun W hW => r2Back_calls a n c l W (HI.out W hW))
      have HSr := hid_ (fun v u W (h : RuleAt W v (mirR R)) (h' : RuleAt W u (mirR R)) => sameR_calls v u (mirR R) (mirR R) W h h' rfl)
      have HSm := hid_ (fun W a n c a' n' c' (h : IntsAt W a n c (if validW l = 0 then l.reverse else [])) (h' : IntsAt W a' n' c' (if validW l = 0 then l.reverse else [])) => sameT_calls a n c _ a' n' c' W h h')
      clear z1 z2 hg0 hg1
      by_cases hv : validR R = 0
      · skip
        by_cases hl : validW l = 0
        · skip
          obtain ⟨y1, y2⟩ := mir_two2 hv hl
          obtain ⟨y3, y4⟩ := mir_all2 hv hl
          have y5 := mir_places (l := l) hv
          have e1 : err2 R l = 0 := by rw [err2, if_pos hv]; exact hl
          have p1 : resPlaces R l = plP R l := if_pos e1
          have p2 : resPlaces (mirR R) l.reverse = plP (mirR R) l.reverse := if_pos y1
          have hn8 : n ≤ 8 := by rw [← HLn.out]; exact (validW_ok hl).1
          have HPA := hid_ (fun W hW => ruPlaces_calls _ R a n c l W (HR.out W hW) (HI.out W hW))
          have HPB := hid_ (fun v W a c hr (hi : IntsAt W a l.length c l.reverse) => ruPlaces_calls v (mirR R) a _ c l.reverse W hr hi)
          have HAL := hid_ (fun W hW => ruAtAll_calls _ R a n c l W (HR.out W hW) (HI.out W hW))
          have HAM := hid_ (fun v W a c hr (hi : IntsAt W a l.length c l.reverse) => ruAtAll_calls v (mirR R) a _ c l.reverse W hr hi)
          have HBK := hid_ (fun W a c (hi : IntsAt W a (resAll R l).length c (resAll R l)) => ruBack_calls a _ c (resAll R l) W hi)
          have HSx := hid_ (fun W a n c a' n' c' (h : IntsAt W a n c (resAll R l).reverse) (h' : IntsAt W a' n' c' (resAll R l).reverse) => sameT_calls a n c _ a' n' c' W h h')
          have HPL := hid_ (@plP_len R l)
          have HRG : Hid (∀ x ∈ plP R l, 0 ≤ x ∧ x ≤ 8) := hid_ (fun x hx => by have := mem_pl.1 hx; have := HLn.out; omega)
          rw [hv] at HM1 HM2; rw [hl, if_pos rfl] at HB1 HB2; rw [if_pos hl] at HSm; rw [e1, p1] at HPA; rw [y1, p2, y5] at HPB; rw [y3, y4] at HAM; rw [y2, if_pos rfl] at HBK
          clear hv hl y1 y2 y3 y4 y5 e1 p1 p2
          have HLM : Hid (((plP R l).map (farP R l.length)).reverse.length = (plP R l).length) := hid_ (by simp)
          have hP1 : (plP R l).length ≤ 9 := by have := HPL.out; have := HLn.out; omega
          have HNT := hid_ (fun k hk => @mir_nth (plP R l) (farP R l.length) k hk)
          rw [HLn.out] at HNT HPB HLM HAM
          generalize ((plP R l).map (farP R n)).reverse = MM at *
          generalize plP R l = P at *
          generalize resAll R l = X at *
          generalize errAll R l = er at *
          go_enter Try.func14, Try.ntmps14
          go_wp2_with (first
            | (go_at_call 28; refine (HG0.out _ hb1).mono ?_; rintro e wg0 ⟨rfl, hcg0⟩; have hbg0 := hcg0; obtain ⟨q0, q1, q2, q3⟩ := HQ.out wg0 hbg0)
            | (go_at_call 29; refine (HG1.out _ hbg0).mono ?_; rintro e wg1 ⟨rfl, hcg1⟩; have hbg1 := hbg0.trans (hcg1.mono hbg0.size); obtain ⟨q0, q1, q2, q3⟩ := HQ.out wg1 hbg1)
            | (go_at_call 59; (with_reducible refine (HM1.out _ hbg1).mono ?_); rintro e w7 ⟨v7, rfl, hr7, hc7⟩; have hb7 : Below w1.heap.size w1 w7 := hbg1.trans (hc7.mono hbg1.size); clear q0 q1 q2 q3; obtain ⟨q0, q1, q2, q3⟩ := HQ.out w7 hb7; have HR7 := hid_ hr7; obtain ⟨a4, n4, c4, a5, n5, c5, a6, n6, c6, rfl, -, -, -⟩ := hr7; have nx7 : w.heap.size < w7.heap.size := World.block_lt_of_cell? w7 ⟨w.heap.size, 0, none⟩ q0)
            | (go_at_call 60; (with_reducible refine (HM2.out _ (hb7.trans ((below_alloc w7 _).mono hb7.size))).mono ?_); rintro e w8 ⟨v8, rfl, hr8, hc8⟩; have hb8 : Below w1.heap.size w1 w8 := hb7.trans (((below_alloc w7 _).trans (hc8.mono (by simp))).mono hb7.size); clear q0 q1 q2 q3 nx7; obtain ⟨q0, q1, q2, q3⟩ := HQ.out w8 hb8; obtain ⟨t0, t1, t2, t3⟩ := box4 rfl hc8; have HR8 := hid_ hr8; have HR78 := hid_ (HR7.out.below ((below_alloc w7 _).trans (hc8.mono (by simp))) (Nat.le_refl _)); obtain ⟨b4, m4, d4, b5, m5, d5, b6, m6, d6, rfl, -, -, -⟩ := hr8)
            | (go_at_call 61; (with_reducible refine (HB1.out _ (hb8.trans ((below_alloc w8 _).mono hb8.size))).mono ?_); rintro e w9 ⟨v9, rfl, hm9⟩; have he9 : Below w8.heap.size w8 w9 := below_then (below_alloc w8 _) hm9.bel; have hb9 := below_then hb8 he9; obtain ⟨s0, s1, s2, s3⟩ := box4 rfl hm9.bel; have k0 := (he9.cell (World.block_lt_of_cell? _ _ t0)).trans t0; have k1 := (he9.cell (World.block_lt_of_cell? _ _ t1)).trans t1; have k2 := (he9.cell (World.block_lt_of_cell? _ _ t2)).trans t2; have k3 := (he9.cell (World.block_lt_of_cell? _ _ t3)).trans t3; have HT := hid_ (fun W (hW : Below w9.heap.size w9 W) => (⟨⟨(hW.cell (World.block_lt_of_cell? _ _ k0)).trans k0, (hW.cell (World.block_lt_of_cell? _ _ k1)).trans k1, (hW.cell (World.block_lt_of_cell? _ _ k2)).trans k2, (hW.cell (World.block_lt_of_cell? _ _ k3)).trans k3⟩, (hW.cell (World.block_lt_of_cell? _ _ s0)).trans s0, (hW.cell (World.block_lt_of_cell? _ _ s1)).trans s1, (hW.cell (World.block_lt_of_cell? _ _ s2)).trans s2, (hW.cell (World.block_lt_of_cell? _ _ s3)).trans s3⟩ : (W.cell? ⟨w7.heap.size, 0, none⟩ = _ ∧ W.cell? ⟨w7.heap.size, 1, none⟩ = _ ∧ W.cell? ⟨w7.heap.size, 2, none⟩ = _ ∧ W.cell? ⟨w7.heap.size, 3, none⟩ = _) ∧ W.cell? ⟨w8.heap.size, 0, none⟩ = _ ∧ W.cell? ⟨w8.heap.size, 1, none⟩ = _ ∧ W.cell? ⟨w8.heap.size, 2, none⟩ = _ ∧ W.cell? ⟨w8.heap.size, 3, none⟩ = _)); have HRa := hid_ (HR78.out.below he9 (Nat.le_refl _)); have HRb := hid_ (HR8.out.below he9 (Nat.le_refl _)); have hee9 : Below w9.heap.size w9 w9 := Below.refl _ _; clear t0 t1 t2 t3 k0 k1 k2 k3 s0 s1 s2 s3 q0 q1 q2 q3; obtain ⟨q0, q1, q2, q3⟩ := HQ.out w9 hb9; obtain ⟨⟨t0, t1, t2, t3⟩, s0, s1, s2, s3⟩ := HT.out w9 hee9; obtain ⟨ac, cc, evc, hic⟩ := hm9.at_; rw [List.length_reverse, HLn.out] at evc hic; subst evc; have Hc := hid_ hic; clear hic hm9)
            | (go_at_call 62; (with_reducible refine (HB2.out _ hb9).mono ?_); rintro e w10 ⟨v10, rfl, hm10⟩; have hcc10 := hm10.bel; have hee10 := below_then hee9 hcc10; have hb10 := below_then hb9 hee10; clear q0 q1 q2 q3 t0 t1 t2 t3 s0 s1 s2 s3; obtain ⟨q0, q1, q2, q3⟩ := HQ.out w10 hb10; obtain ⟨⟨t0, t1, t2, t3⟩, s0, s1, s2, s3⟩ := HT.out w10 hee10; obtain ⟨ad, cd, evd, hid⟩ := hm10.at_; rw [List.length_reverse, HLn.out] at evd hid; subst evd; have Hd := hid_ hid; clear hid hm10)
            | (go_at_call 63; (with_reducible refine (HSr.out _ _ _ (HRa.out.below hee10 (Nat.le_refl _)) (HRb.out.below hee10 (Nat.le_refl _))).mono ?_); rintro e w11 ⟨rfl, hc11⟩; have hcc11 := hc11; have hee11 := below_then hee10 hcc11; have hb11 := below_then hb9 hee11; clear q0 q1 q2 q3 t0 t1 t2 t3 s0 s1 s2 s3; obtain ⟨q0, q1, q2, q3⟩ := HQ.out w11 hb11; obtain ⟨⟨t0, t1, t2, t3⟩, s0, s1, s2, s3⟩ := HT.out w11 hee11)
            | (go_at_call 37; (with_reducible refine (HSm.out _ _ _ _ _ _ _ (Hc.out.below (below_then hcc10 hcc11) (Nat.le_refl _)) (Hd.out.below hcc11 (Nat.le_refl _))).mono ?_); rintro e w12 ⟨rfl, hc12⟩; have hcc12 := hc12; have hee12 := below_then hee11 hcc12; have hb12 := below_then hb9 hee12; clear q0 q1 q2 q3 t0 t1 t2 t3 s0 s1 s2 s3; obtain ⟨q0, q1, q2, q3⟩ := HQ.out w12 hb12; obtain ⟨⟨t0, t1, t2, t3⟩, s0, s1, s2, s3⟩ := HT.out w12 hee12)
            | (go_at_call 31; (with_reducible refine (HPA.out _ hb12).mono ?_); rintro e w13 ⟨v13, rfl, hm13⟩; have hcc13 := hm13.bel; have hee13 := below_then hee12 hcc13; have hb13 := below_then hb9 hee13; clear q0 q1 q2 q3 t0 t1 t2 t3 s0 s1 s2 s3; obtain ⟨q0, q1, q2, q3⟩ := HQ.out w13 hb13; obtain ⟨⟨t0, t1, t2, t3⟩, s0, s1, s2, s3⟩ := HT.out w13 hee13; obtain ⟨ax, cx, rfl, hix⟩ := hm13.at_; have Hx := hid_ hix; clear hix hm13)
            | (go_at_call 31; (with_reducible refine (HPB.out _ _ _ _ (HRa.out.below hee13 (Nat.le_refl _)) (Hc.out.below (below_then hcc10 (below_then hcc11 (below_then hcc12 hcc13))) (Nat.le_refl _))).mono ?_); rintro e w14 ⟨v14, rfl, hm14⟩; have hcc14 := hm14.bel; have hee14 := below_then hee13 hcc14; have hb14 := below_then hb9 hee14; clear q0 q1 q2 q3 t0 t1 t2 t3 s0 s1 s2 s3; obtain ⟨q0, q1, q2, q3⟩ := HQ.out w14 hb14; obtain ⟨⟨t0, t1, t2, t3⟩, s0, s1, s2, s3⟩ := HT.out w14 hee14; obtain ⟨ay, cy, evy, hiy⟩ := hm14.at_; rw [HLM.out] at evy hiy; subst evy; have Hy := hid_ hiy; clear hiy hm14))
          have HXw := hid_ (Hx.out.below hcc14 (Nat.le_refl _))
          generalize hN : P.length = N at *
          have HN := hid_ hN; clear hN
          go_loop [17] (fun i => ∃ k : Nat, k ≤ N ∧ i = .int .i64 k) (fun i => N - (intOf i).toNat)
          case atStart => exact ⟨0, Nat.zero_le _, rfl⟩
          case round =>
            obtain ⟨k, hk, rfl⟩ := hrel
            by_cases hlt : k < N
            · skip
              obtain ⟨b, off, rfl, hbl, hcell⟩ := HXw.out.cells k hlt
              obtain ⟨b2, off2, rfl, hbl2, hcell2⟩ := Hy.out.cells (N - 1 - k) (by omega)
              have hnt := HNT.out k hlt
              rw [hnt] at hcell2
              obtain ⟨g1, g2⟩ := HRG.out (P.getD k 0) (getD_mem (by rw [HN.out]; exact hlt))
              clear hnt
              generalize P.getD k 0 = x at *
              have i1 : ((N : Int) - 1 - (k : Int)).toNat = N - 1 - k := by omega
              have i2 : (0 : Int) ≤ (N : Int) - 1 - (k : Int) := by omega
              have i3 : (N : Int) - 1 - (k : Int) < (N : Int) := by omega
              by_cases hf : R.f < 0
              · skip
                rw [farP, if_pos hf] at hcell2
                go_wp2
                go_round
                case rel => exact ⟨k + 1, by omega, by go_num⟩
                case measure => simp [intOf]; omega
              · skip
                rw [farP, if_neg hf] at hcell2
                go_wp2
                go_round
                case rel => exact ⟨k + 1, by omega, by go_num⟩
                case measure => simp [intOf]; omega
            · skip
              obtain rfl : N = k := by omega
              clear hlt hk HRG HNT
              have Hcw := hid_ (Hc.out.below (below_then hcc10 (below_then hcc11 (below_then hcc12 (below_then hcc13 hcc14)))) (Nat.le_refl _))
              by_cases h0 : er = 0
              · skip
                subst h0
                go_wp2_with (first
                  | (go_at_call 42; (with_reducible refine (HAL.out _ hb14).mono ?_); rintro e w15 ⟨v15, rfl, hm15⟩; have hcc15 := hm15.bel; have hee15 := below_then hee14 hcc15; have hb15 := below_then hb9 hee15; clear q0 q1 q2 q3 t0 t1 t2 t3 s0 s1 s2 s3; obtain ⟨q0, q1, q2, q3⟩ := HQ.out w15 hb15; obtain ⟨⟨t0, t1, t2, t3⟩, s0, s1, s2, s3⟩ := HT.out w15 hee15; obtain ⟨av, cv, rfl, hiv⟩ := hm15.at_; have Hv := hid_ hiv; clear hiv hm15)
                  | (go_at_call 42; (with_reducible refine (HAM.out _ _ _ _ (HRa.out.below hee15 (Nat.le_refl _)) (Hcw.out.below hcc15 (Nat.le_refl _))).mono ?_); rintro e w16 ⟨v16, rfl, hm16⟩; have hcc16 := hm16.bel; have hee16 := below_then hee15 hcc16; have hb16 := below_then hb9 hee16; clear q0 q1 q2 q3 t0 t1 t2 t3 s0 s1 s2 s3; obtain ⟨q0, q1, q2, q3⟩ := HQ.out w16 hb16; obtain ⟨⟨t0, t1, t2, t3⟩, s0, s1, s2, s3⟩ := HT.out w16 hee16; obtain ⟨au, cu, evu, hiu⟩ := hm16.at_; rw [List.length_reverse] at evu hiu; subst evu; have Hu := hid_ hiu; clear hiu hm16)
                  | (go_at_call 61; (with_reducible refine (HBK.out _ _ _ (Hv.out.below hcc16 (Nat.le_refl _))).mono ?_); rintro e w17 ⟨v17, rfl, hm17⟩; have hcc17 := hm17.bel; have hee17 := below_then hee16 hcc17; have hb17 := below_then hb9 hee17; clear q0 q1 q2 q3 t0 t1 t2 t3 s0 s1 s2 s3; obtain ⟨q0, q1, q2, q3⟩ := HQ.out w17 hb17; obtain ⟨⟨t0, t1, t2, t3⟩, s0, s1, s2, s3⟩ := HT.out w17 hee17; obtain ⟨ar3, cr3, evr3, hir3⟩ := hm17.at_; rw [List.length_reverse] at evr3 hir3; subst evr3; have Hr3 := hid_ hir3; clear hir3 hm17)
                  | (go_at_call 37; (with_reducible refine (HSx.out _ _ _ _ _ _ _ (Hu.out.below hcc17 (Nat.le_refl _)) Hr3.out).mono ?_); rintro e w18 ⟨rfl, hc18⟩; have hcc18 := hc18; have hee18 := below_then hee17 hcc18; have hb18 := below_then hb9 hee18; clear q0 q1 q2 q3 t0 t1 t2 t3 s0 s1 s2 s3; obtain ⟨q0, q1, q2, q3⟩ := HQ.out w18 hb18; obtain ⟨⟨t0, t1, t2, t3⟩, s0, s1, s2, s3⟩ := HT.out w18 hee18)
                  | (go_at_call 30; (refine (HK.out _).mono ?_); rintro e wk ⟨rfl, hck⟩))
                go_ret
                exact ⟨rfl, Hb1.out.trans ((hb18.trans (hck.mono hb18.size)).mono Hb1.out.size)⟩
              · skip
                have hq : (er != 0) = true := by simpa using h0
                clear h0
                go_wp2_with (first
                  | (go_at_call 42; (with_reducible refine (HAL.out _ hb14).mono ?_); rintro e w15 ⟨v15, rfl, hm15⟩; have hcc15 := hm15.bel; have hee15 := below_then hee14 hcc15; have hb15 := below_then hb9 hee15; clear q0 q1 q2 q3 t0 t1 t2 t3 s0 s1 s2 s3; obtain ⟨q0, q1, q2, q3⟩ := HQ.out w15 hb15; obtain ⟨⟨t0, t1, t2, t3⟩, s0, s1, s2, s3⟩ := HT.out w15 hee15; obtain ⟨av, cv, rfl, hiv⟩ := hm15.at_; have Hv := hid_ hiv; clear hiv hm15)
                  | (go_at_call 42; (with_reducible refine (HAM.out _ _ _ _ (HRa.out.below hee15 (Nat.le_refl _)) (Hcw.out.below hcc15 (Nat.le_refl _))).mono ?_); rintro e w16 ⟨v16, rfl, hm16⟩; have hcc16 := hm16.bel; have hee16 := below_then hee15 hcc16; have hb16 := below_then hb9 hee16; clear q0 q1 q2 q3 t0 t1 t2 t3 s0 s1 s2 s3; obtain ⟨q0, q1, q2, q3⟩ := HQ.out w16 hb16; obtain ⟨⟨t0, t1, t2, t3⟩, s0, s1, s2, s3⟩ := HT.out w16 hee16; obtain ⟨au, cu, evu, hiu⟩ := hm16.at_; rw [List.length_reverse] at evu hiu; subst evu; have Hu := hid_ hiu; clear hiu hm16)
                  | (go_at_call 61; (with_reducible refine (HBK.out _ _ _ (Hv.out.below hcc16 (Nat.le_refl _))).mono ?_); rintro e w17 ⟨v17, rfl, hm17⟩; have hcc17 := hm17.bel; have hee17 := below_then hee16 hcc17; have hb17 := below_then hb9 hee17; clear q0 q1 q2 q3 t0 t1 t2 t3 s0 s1 s2 s3; obtain ⟨q0, q1, q2, q3⟩ := HQ.out w17 hb17; obtain ⟨⟨t0, t1, t2, t3⟩, s0, s1, s2, s3⟩ := HT.out w17 hee17; obtain ⟨ar3, cr3, evr3, hir3⟩ := hm17.at_; rw [List.length_reverse] at evr3 hir3; subst evr3; have Hr3 := hid_ hir3; clear hir3 hm17)
                  | (go_at_call 30; (refine (HK.out _).mono ?_); rintro e wk ⟨rfl, hck⟩))
                go_ret
                exact ⟨rfl, Hb1.out.trans ((hb17.trans (hck.mono hb17.size)).mono Hb1.out.size)⟩
        · skip
          rw [if_neg hl] at HSm HB1 HB2; rw [hv] at HM1 HM2
          have hq : (validW l != 0) = true := by simpa using hl
          generalize validW l = z at *
          clear hl hv
          go_enter Try.func14, Try.ntmps14
          go_wp2_with (first
            | (go_at_call 28; refine (HG0.out _ hb1).mono ?_; rintro e wg0 ⟨rfl, hcg0⟩; have hbg0 := hcg0; obtain ⟨q0, q1, q2, q3⟩ := HQ.out wg0 hbg0)
            | (go_at_call 29; refine (HG1.out _ hbg0).mono ?_; rintro e wg1 ⟨rfl, hcg1⟩; have hbg1 := hbg0.trans (hcg1.mono hbg0.size); obtain ⟨q0, q1, q2, q3⟩ := HQ.out wg1 hbg1)
            | (go_at_call 59; (with_reducible refine (HM1.out _ hbg1).mono ?_); rintro e w7 ⟨v7, rfl, hr7, hc7⟩; have hb7 : Below w1.heap.size w1 w7 := hbg1.trans (hc7.mono hbg1.size); clear q0 q1 q2 q3; obtain ⟨q0, q1, q2, q3⟩ := HQ.out w7 hb7; have HR7 := hid_ hr7; obtain ⟨a4, n4, c4, a5, n5, c5, a6, n6, c6, rfl, -, -, -⟩ := hr7; have nx7 : w.heap.size < w7.heap.size := World.block_lt_of_cell? w7 ⟨w.heap.size, 0, none⟩ q0)
            | (go_at_call 60; (with_reducible refine (HM2.out _ (hb7.trans ((below_alloc w7 _).mono hb7.size))).mono ?_); rintro e w8 ⟨v8, rfl, hr8, hc8⟩; have hb8 : Below w1.heap.size w1 w8 := hb7.trans (((below_alloc w7 _).trans (hc8.mono (by simp))).mono hb7.size); clear q0 q1 q2 q3 nx7; obtain ⟨q0, q1, q2, q3⟩ := HQ.out w8 hb8; obtain ⟨t0, t1, t2, t3⟩ := box4 rfl hc8; have HR8 := hid_ hr8; have HR78 := hid_ (HR7.out.below ((below_alloc w7 _).trans (hc8.mono (by simp))) (Nat.le_refl _)); obtain ⟨b4, m4, d4, b5, m5, d5, b6, m6, d6, rfl, -, -, -⟩ := hr8)
            | (go_at_call 61; (with_reducible refine (HB1.out _ (hb8.trans ((below_alloc w8 _).mono hb8.size))).mono ?_); rintro e w9 ⟨v9, rfl, hm9⟩; have he9 : Below w8.heap.size w8 w9 := below_then (below_alloc w8 _) hm9.bel; have hb9 := below_then hb8 he9; obtain ⟨s0, s1, s2, s3⟩ := box4 rfl hm9.bel; have k0 := (he9.cell (World.block_lt_of_cell? _ _ t0)).trans t0; have k1 := (he9.cell (World.block_lt_of_cell? _ _ t1)).trans t1; have k2 := (he9.cell (World.block_lt_of_cell? _ _ t2)).trans t2; have k3 := (he9.cell (World.block_lt_of_cell? _ _ t3)).trans t3; have HT := hid_ (fun W (hW : Below w9.heap.size w9 W) => (⟨⟨(hW.cell (World.block_lt_of_cell? _ _ k0)).trans k0, (hW.cell (World.block_lt_of_cell? _ _ k1)).trans k1, (hW.cell (World.block_lt_of_cell? _ _ k2)).trans k2, (hW.cell (World.block_lt_of_cell? _ _ k3)).trans k3⟩, (hW.cell (World.block_lt_of_cell? _ _ s0)).trans s0, (hW.cell (World.block_lt_of_cell? _ _ s1)).trans s1, (hW.cell (World.block_lt_of_cell? _ _ s2)).trans s2, (hW.cell (World.block_lt_of_cell? _ _ s3)).trans s3⟩ : (W.cell? ⟨w7.heap.size, 0, none⟩ = _ ∧ W.cell? ⟨w7.heap.size, 1, none⟩ = _ ∧ W.cell? ⟨w7.heap.size, 2, none⟩ = _ ∧ W.cell? ⟨w7.heap.size, 3, none⟩ = _) ∧ W.cell? ⟨w8.heap.size, 0, none⟩ = _ ∧ W.cell? ⟨w8.heap.size, 1, none⟩ = _ ∧ W.cell? ⟨w8.heap.size, 2, none⟩ = _ ∧ W.cell? ⟨w8.heap.size, 3, none⟩ = _)); have HRa := hid_ (HR78.out.below he9 (Nat.le_refl _)); have HRb := hid_ (HR8.out.below he9 (Nat.le_refl _)); have hee9 : Below w9.heap.size w9 w9 := Below.refl _ _; clear t0 t1 t2 t3 k0 k1 k2 k3 s0 s1 s2 s3 q0 q1 q2 q3; obtain ⟨q0, q1, q2, q3⟩ := HQ.out w9 hb9; obtain ⟨⟨t0, t1, t2, t3⟩, s0, s1, s2, s3⟩ := HT.out w9 hee9; obtain ⟨ac, cc, evc, hic⟩ := hm9.at_; rw [List.length_nil] at evc hic; subst evc; have Hc := hid_ hic; clear hic hm9)
            | (go_at_call 62; (with_reducible refine (HB2.out _ hb9).mono ?_); rintro e w10 ⟨v10, rfl, hm10⟩; have hcc10 := hm10.bel; have hee10 := below_then hee9 hcc10; have hb10 := below_then hb9 hee10; clear q0 q1 q2 q3 t0 t1 t2 t3 s0 s1 s2 s3; obtain ⟨q0, q1, q2, q3⟩ := HQ.out w10 hb10; obtain ⟨⟨t0, t1, t2, t3⟩, s0, s1, s2, s3⟩ := HT.out w10 hee10; obtain ⟨ad, cd, evd, hid⟩ := hm10.at_; rw [List.length_nil] at evd hid; subst evd; have Hd := hid_ hid; clear hid hm10)
            | (go_at_call 63; (with_reducible refine (HSr.out _ _ _ (HRa.out.below hee10 (Nat.le_refl _)) (HRb.out.below hee10 (Nat.le_refl _))).mono ?_); rintro e w11 ⟨rfl, hc11⟩; have hcc11 := hc11; have hee11 := below_then hee10 hcc11; have hb11 := below_then hb9 hee11; clear q0 q1 q2 q3 t0 t1 t2 t3 s0 s1 s2 s3; obtain ⟨q0, q1, q2, q3⟩ := HQ.out w11 hb11; obtain ⟨⟨t0, t1, t2, t3⟩, s0, s1, s2, s3⟩ := HT.out w11 hee11)
            | (go_at_call 37; (with_reducible refine (HSm.out _ _ _ _ _ _ _ (Hc.out.below (below_then hcc10 hcc11) (Nat.le_refl _)) (Hd.out.below hcc11 (Nat.le_refl _))).mono ?_); rintro e w12 ⟨rfl, hc12⟩; have hcc12 := hc12; have hee12 := below_then hee11 hcc12; have hb12 := below_then hb9 hee12; clear q0 q1 q2 q3 t0 t1 t2 t3 s0 s1 s2 s3; obtain ⟨q0, q1, q2, q3⟩ := HQ.out w12 hb12; obtain ⟨⟨t0, t1, t2, t3⟩, s0, s1, s2, s3⟩ := HT.out w12 hee12)
            | (go_at_call 30; (refine (HK.out _).mono ?_); rintro e wk ⟨rfl, hck⟩))
          go_ret
          exact ⟨rfl, Hb1.out.trans ((hb12.trans (hck.mono hb12.size)).mono Hb1.out.size)⟩
      · skip
        have hq : (validR R != 0) = true := by simpa using hv
        generalize (if validW l = 0 then l.reverse else []) = L2 at *
        generalize validW l = z at *
        generalize validR R = z2 at *
        clear hv
        go_enter Try.func14, Try.ntmps14
        go_wp2_with (first
          | (go_at_call 28; refine (HG0.out _ hb1).mono ?_; rintro e wg0 ⟨rfl, hcg0⟩; have hbg0 := hcg0; obtain ⟨q0, q1, q2, q3⟩ := HQ.out wg0 hbg0)
          | (go_at_call 29; refine (HG1.out _ hbg0).mono ?_; rintro e wg1 ⟨rfl, hcg1⟩; have hbg1 := hbg0.trans (hcg1.mono hbg0.size); obtain ⟨q0, q1, q2, q3⟩ := HQ.out wg1 hbg1)
          | (go_at_call 59; (with_reducible refine (HM1.out _ hbg1).mono ?_); rintro e w7 ⟨v7, rfl, hr7, hc7⟩; have hb7 : Below w1.heap.size w1 w7 := hbg1.trans (hc7.mono hbg1.size); clear q0 q1 q2 q3; obtain ⟨q0, q1, q2, q3⟩ := HQ.out w7 hb7; have HR7 := hid_ hr7; obtain ⟨a4, n4, c4, a5, n5, c5, a6, n6, c6, rfl, -, -, -⟩ := hr7; have nx7 : w.heap.size < w7.heap.size := World.block_lt_of_cell? w7 ⟨w.heap.size, 0, none⟩ q0)
          | (go_at_call 60; (with_reducible refine (HM2.out _ (hb7.trans ((below_alloc w7 _).mono hb7.size))).mono ?_); rintro e w8 ⟨v8, rfl, hr8, hc8⟩; have hb8 : Below w1.heap.size w1 w8 := hb7.trans (((below_alloc w7 _).trans (hc8.mono (by simp))).mono hb7.size); clear q0 q1 q2 q3 nx7; obtain ⟨q0, q1, q2, q3⟩ := HQ.out w8 hb8; obtain ⟨t0, t1, t2, t3⟩ := box4 rfl hc8; have HR8 := hid_ hr8; have HR78 := hid_ (HR7.out.below ((below_alloc w7 _).trans (hc8.mono (by simp))) (Nat.le_refl _)); obtain ⟨b4, m4, d4, b5, m5, d5, b6, m6, d6, rfl, -, -, -⟩ := hr8)
          | (go_at_call 61; (with_reducible refine (HB1.out _ (hb8.trans ((below_alloc w8 _).mono hb8.size))).mono ?_); rintro e w9 ⟨v9, rfl, hm9⟩; have he9 : Below w8.heap.size w8 w9 := below_then (below_alloc w8 _) hm9.bel; have hb9 := below_then hb8 he9; obtain ⟨s0, s1, s2, s3⟩ := box4 rfl hm9.bel; have k0 := (he9.cell (World.block_lt_of_cell? _ _ t0)).trans t0; have k1 := (he9.cell (World.block_lt_of_cell? _ _ t1)).trans t1; have k2 := (he9.cell (World.block_lt_of_cell? _ _ t2)).trans t2; have k3 := (he9.cell (World.block_lt_of_cell? _ _ t3)).trans t3; have HT := hid_ (fun W (hW : Below w9.heap.size w9 W) => (⟨⟨(hW.cell (World.block_lt_of_cell? _ _ k0)).trans k0, (hW.cell (World.block_lt_of_cell? _ _ k1)).trans k1, (hW.cell (World.block_lt_of_cell? _ _ k2)).trans k2, (hW.cell (World.block_lt_of_cell? _ _ k3)).trans k3⟩, (hW.cell (World.block_lt_of_cell? _ _ s0)).trans s0, (hW.cell (World.block_lt_of_cell? _ _ s1)).trans s1, (hW.cell (World.block_lt_of_cell? _ _ s2)).trans s2, (hW.cell (World.block_lt_of_cell? _ _ s3)).trans s3⟩ : (W.cell? ⟨w7.heap.size, 0, none⟩ = _ ∧ W.cell? ⟨w7.heap.size, 1, none⟩ = _ ∧ W.cell? ⟨w7.heap.size, 2, none⟩ = _ ∧ W.cell? ⟨w7.heap.size, 3, none⟩ = _) ∧ W.cell? ⟨w8.heap.size, 0, none⟩ = _ ∧ W.cell? ⟨w8.heap.size, 1, none⟩ = _ ∧ W.cell? ⟨w8.heap.size, 2, none⟩ = _ ∧ W.cell? ⟨w8.heap.size, 3, none⟩ = _)); have HRa := hid_ (HR78.out.below he9 (Nat.le_refl _)); have HRb := hid_ (HR8.out.below he9 (Nat.le_refl _)); have hee9 : Below w9.heap.size w9 w9 := Below.refl _ _; clear t0 t1 t2 t3 k0 k1 k2 k3 s0 s1 s2 s3 q0 q1 q2 q3; obtain ⟨q0, q1, q2, q3⟩ := HQ.out w9 hb9; obtain ⟨⟨t0, t1, t2, t3⟩, s0, s1, s2, s3⟩ := HT.out w9 hee9; obtain ⟨ac, cc, evc, hic⟩ := hm9.at_; subst evc; have Hc := hid_ hic; clear hic hm9)
          | (go_at_call 62; (with_reducible refine (HB2.out _ hb9).mono ?_); rintro e w10 ⟨v10, rfl, hm10⟩; have hcc10 := hm10.bel; have hee10 := below_then hee9 hcc10; have hb10 := below_then hb9 hee10; clear q0 q1 q2 q3 t0 t1 t2 t3 s0 s1 s2 s3; obtain ⟨q0, q1, q2, q3⟩ := HQ.out w10 hb10; obtain ⟨⟨t0, t1, t2, t3⟩, s0, s1, s2, s3⟩ := HT.out w10 hee10; obtain ⟨ad, cd, rfl, hid⟩ := hm10.at_; have Hd := hid_ hid; clear hid hm10)
          | (go_at_call 63; (with_reducible refine (HSr.out _ _ _ (HRa.out.below hee10 (Nat.le_refl _)) (HRb.out.below hee10 (Nat.le_refl _))).mono ?_); rintro e w11 ⟨rfl, hc11⟩; have hcc11 := hc11; have hee11 := below_then hee10 hcc11; have hb11 := below_then hb9 hee11; clear q0 q1 q2 q3 t0 t1 t2 t3 s0 s1 s2 s3; obtain ⟨q0, q1, q2, q3⟩ := HQ.out w11 hb11; obtain ⟨⟨t0, t1, t2, t3⟩, s0, s1, s2, s3⟩ := HT.out w11 hee11)
          | (go_at_call 37; (with_reducible refine (HSm.out _ _ _ _ _ _ _ (Hc.out.below (below_then hcc10 hcc11) (Nat.le_refl _)) (Hd.out.below hcc11 (Nat.le_refl _))).mono ?_); rintro e w12 ⟨rfl, hc12⟩; have hcc12 := hc12; have hee12 := below_then hee11 hcc12; have hb12 := below_then hb9 hee12; clear q0 q1 q2 q3 t0 t1 t2 t3 s0 s1 s2 s3; obtain ⟨q0, q1, q2, q3⟩ := HQ.out w12 hb12; obtain ⟨⟨t0, t1, t2, t3⟩, s0, s1, s2, s3⟩ := HT.out w12 hee12)
          | (go_at_call 30; (refine (HK.out _).mono ?_); rintro e wk ⟨rfl, hck⟩))
        go_ret
        exact ⟨rfl, Hb1.out.trans ((hb12.trans (hck.mono hb12.size)).mono Hb1.out.size)⟩
end Go.Proofs.Ytnpdhmejnoplcaa
