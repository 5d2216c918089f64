import Derived.Test.YtoopgmoopmbfnaaLae
import Derived.Test.YtoopgmoopmbfnaaRm
import Derived.Test.YtoopgmoopmbfnaaMi
import Derived.Test.YtoopgmoopmbfnaaLd
namespace Go.Proofs.Ytoopgmoopmbfnaa
open Go.RowKit Go.Proofs.Kv

set_option maxRecDepth 100000 in
set_option maxHeartbeats 40000000 in
theorem ruleRenames_calls (v : Value) (R : Rl) (a : Option Addr) (n c : Nat) (l : List Int) (a' : Option Addr) (n' c' : Nat) (t : List Int) (w : World) (hr : RuleAt w v R) (h : IntsAt w a n c l) (h' : IntsAt w a' n' c' t) :
    Calls Try.prog 9 #[v, .slice a n c, .slice a' n' c'] w fun e w' => e = .returned (.bool true) ∧ Below w.heap.size w w' := by
  have Hr := hid_ hr
  obtain ⟨a1, n1, c1, a2, n2, c2, a3, n3, c3, rfl, h1, h2, h3⟩ := hr
  clear h1 h2 h3
  obtain ⟨w1, hw1⟩ : ∃ w1, w.alloc (.cells #[.int .i64 R.f, .slice a1 n1 c1, .slice a2 n2 c2, .slice a3 n3 c3] 49) = w1 := ⟨_, rfl⟩
  have Hb1 : Hid (Below w.heap.size w w1) := hid_ (by rw [← hw1]; exact below_alloc _ _)
  have HW1 := hid_ hw1
  have HQ := hid_ (fun W (hW : Below w1.heap.size w1 W) => box4 HW1.out hW)
  have HR := hid_ (fun W (hW : Below w1.heap.size w1 W) => (Hr.out.below Hb1.out (Nat.le_refl _)).below hW (Nat.le_refl _))
  have HK := hid_ known_calls
  have hb1 : Below w1.heap.size w1 w1 := Below.refl _ _
  obtain ⟨q0, q1, q2, q3⟩ := HQ.out w1 hb1
  have HLn := hid_ h.len
  have HI := hid_ (fun W (hW : Below w1.heap.size w1 W) => (h.below Hb1.out (Nat.le_refl _)).below hW (Nat.le_refl _))
  clear h
  have HT := hid_ (fun W (hW : Below w1.heap.size w1 W) => (h'.below Hb1.out (Nat.le_refl _)).below hW (Nat.le_refl _))
  clear h'
  have HG0 : Hid (∀ W, Below w1.heap.size w1 W → Calls Try.prog 33 #[.agg #[.int .i64 R.f, .slice a1 n1 c1, .slice a2 n2 c2, .slice a3 n3 c3]] W fun e w' => e = .returned (.bool (bigR R)) ∧ Below W.heap.size W w') := hid_ (fun W hW => long_calls _ R W (HR.out W hW))
  have HG1 : Hid (∀ W, Below w1.heap.size w1 W → Calls Try.prog 34 #[.slice a n c] W fun e w' => e = .returned (.bool (bigOne l)) ∧ Below W.heap.size W w') := hid_ (fun W hW => (large_calls a n c l W (HI.out W hW)).mono (fun _ _ ⟨he, hm⟩ => ⟨he, below_same hm⟩))
  have HG2 : Hid (∀ W, Below w1.heap.size w1 W → Calls Try.prog 34 #[.slice a' n' c'] W fun e w' => e = .returned (.bool (bigOne t)) ∧ Below W.heap.size W w') := hid_ (fun W hW => (large_calls a' n' c' t W (HT.out W hW)).mono (fun _ _ ⟨he, hm⟩ => ⟨he, below_same hm⟩))
  cases hg0 : bigR R with
  | true =>
    rw [hg0] at HG0
    go_enter Try.func9, Try.ntmps9
    go_wp2_with (first
      | (go_at_call 33; refine (HG0.out _ hb1).mono ?_; rintro e wg0 ⟨rfl, hcg0⟩; have hbg0 := hcg0)
      | (go_at_call 35; refine (HK.out _).mono ?_; rintro e wk ⟨rfl, hck⟩))
    go_ret
    exact ⟨rfl, Hb1.out.trans ((hbg0.trans (hck.mono hbg0.size)).mono Hb1.out.size)⟩
  | false =>
    rw [hg0] at HG0
    cases hg1 : bigOne l with
    | true =>
      rw [hg1] at HG1
      go_enter Try.func9, Try.ntmps9
      go_wp2_with (first
        | (go_at_call 33; refine (HG0.out _ hb1).mono ?_; rintro e wg0 ⟨rfl, hcg0⟩; have hbg0 := hcg0; obtain ⟨q0, q1, q2, q3⟩ := HQ.out wg0 hbg0)
        | (go_at_call 34; refine (HG1.out _ hbg0).mono ?_; rintro e wg1 ⟨rfl, hcg1⟩; have hbg1 := hbg0.trans (hcg1.mono hbg0.size))
        | (go_at_call 35; refine (HK.out _).mono ?_; rintro e wk ⟨rfl, hck⟩))
      go_ret
      exact ⟨rfl, Hb1.out.trans ((hbg1.trans (hck.mono hbg1.size)).mono Hb1.out.size)⟩
    | false =>
      rw [hg1] at HG1
      cases hg2 : bigOne t with
      | true =>
        rw [hg2] at HG2
        go_enter Try.func9, Try.ntmps9
        go_wp2_with (first
          | (go_at_call 33; refine (HG0.out _ hb1).mono ?_; rintro e wg0 ⟨rfl, hcg0⟩; have hbg0 := hcg0; obtain ⟨q0, q1, q2, q3⟩ := HQ.out wg0 hbg0)
          | (go_at_call 34; refine (HG1.out _ hbg0).mono ?_; rintro e wg1 ⟨rfl, hcg1⟩; have hbg1 := hbg0.trans (hcg1.mono hbg0.size); obtain ⟨q0, q1, q2, q3⟩ := HQ.out wg1 hbg1)
          | (go_at_call 34; refine (HG2.out _ hbg1).mono ?_; rintro e wg2 ⟨rfl, hcg2⟩; have hbg2 := hbg1.trans (hcg2.mono hbg1.size))
          | (go_at_call 35; refine (HK.out _).mono ?_; rintro e wk ⟨rfl, hck⟩))
        go_ret
        exact ⟨rfl, Hb1.out.trans ((hbg2.trans (hck.mono hbg2.size)).mono Hb1.out.size)⟩
      | false =>
        rw [hg2] at HG2
        obtain ⟨z1, z2⟩ : R.le.length ≤ 100 ∧ R.ri.length ≤ 100 := by simp only [bigR, Bool.or_eq_false_iff] at hg0; exact ⟨bigOne_no hg0.1.2, bigOne_no hg0.2⟩
        have HM1 := hid_ (fun W hW => ruRename_calls _ R a' n' c' t W (HR.out W hW) (HT.out W hW) z1 z2)
        have HM2 := hid_ (fun W hW => r2Rename_calls _ R a' n' c' t W (HR.out W hW) (HT.out W hW) z1 z2)
        have HB1 := hid_ (fun W hW => ruSpell_calls a n c l a' n' c' t W (HI.out W hW) (HT.out W hW))
        have HB2 := hid_ (fun W hW => r2Spell_calls a n c l a' n' c' t W (HI.out W hW) (HT.out W hW))
        have HSr := hid_ (fun v u W (h : RuleAt W v (renR R t)) (h' : RuleAt W u (renR R t)) => sameR_calls v u (renR R t) (renR R t) W h h' rfl)
        have HSm := hid_ (fun W a n c a' n' c' (h : IntsAt W a n c (resSp l t)) (h' : IntsAt W a' n' c' (resSp l t)) => sameT_calls a n c _ a' n' c' W h h')
        have HPA := hid_ (fun W hW => ruPlaces_calls _ R a n c l W (HR.out W hW) (HI.out W hW))
        have HPB := hid_ (fun v W a c hr (hi : IntsAt W a (resSp l t).length c (resSp l t)) => ruPlaces_calls v (renR R t) a _ c (resSp l t) W hr hi)
        clear z1 z2 hg0 hg1 hg2
        by_cases hv : renE R t = 0
        · skip
          by_cases hl : errSp l t = 0
          · skip
            obtain ⟨y1, y2, y3⟩ := ren_places hv hl
            have HSx := hid_ (fun W a n c a' n' c' (h : IntsAt W a n c (resPlaces R l)) (h' : IntsAt W a' n' c' (resPlaces R l)) => sameT_calls a n c _ a' n' c' W h h')
            rw [hv] at HM1 HM2; rw [hl] at HB1 HB2; rw [y1] at HPA; rw [y2, y3] at HPB
            clear hv hl y1 y2 y3
            generalize resPlaces R l = P at *
            generalize resSp l t = L2 at *
            generalize renR R t = S2 at *
            go_enter Try.func9, Try.ntmps9
            go_wp2_with (first
              | (go_at_call 33; refine (HG0.out _ hb1).mono ?_; rintro e wg0 ⟨rfl, hcg0⟩; have hbg0 := hcg0; obtain ⟨q0, q1, q2, q3⟩ := HQ.out wg0 hbg0)
              | (go_at_call 34; refine (HG1.out _ hbg0).mono ?_; rintro e wg1 ⟨rfl, hcg1⟩; have hbg1 := hbg0.trans (hcg1.mono hbg0.size); obtain ⟨q0, q1, q2, q3⟩ := HQ.out wg1 hbg1)
              | (go_at_call 34; refine (HG2.out _ hbg1).mono ?_; rintro e wg2 ⟨rfl, hcg2⟩; have hbg2 := hbg1.trans (hcg2.mono hbg1.size); obtain ⟨q0, q1, q2, q3⟩ := HQ.out wg2 hbg2)
              | (go_at_call 36; (with_reducible refine (HM1.out _ hbg2).mono ?_); rintro e w7 ⟨v7, rfl, hr7, hc7⟩; have hb7 : Below w1.heap.size w1 w7 := hbg2.trans (hc7.mono hbg2.size); clear q0 q1 q2 q3; obtain ⟨q0, q1, q2, q3⟩ := HQ.out w7 hb7; have HR7 := hid_ hr7; obtain ⟨a4, n4, c4, a5, n5, c5, a6, n6, c6, rfl, -, -, -⟩ := hr7; have nx7 : w.heap.size < w7.heap.size := World.block_lt_of_cell? w7 ⟨w.heap.size, 0, none⟩ q0)
              | (go_at_call 37; (with_reducible refine (HM2.out _ (hb7.trans ((below_alloc w7 _).mono hb7.size))).mono ?_); rintro e w8 ⟨v8, rfl, hr8, hc8⟩; have hb8 : Below w1.heap.size w1 w8 := hb7.trans (((below_alloc w7 _).trans (hc8.mono (by simp))).mono hb7.size); clear q0 q1 q2 q3 nx7; obtain ⟨q0, q1, q2, q3⟩ := HQ.out w8 hb8; obtain ⟨t0, t1, t2, t3⟩ := box4 rfl hc8; have HR8 := hid_ hr8; have HR78 := hid_ (HR7.out.below ((below_alloc w7 _).trans (hc8.mono (by simp))) (Nat.le_refl _)); obtain ⟨b4, m4, d4, b5, m5, d5, b6, m6, d6, rfl, -, -, -⟩ := hr8)
              | (go_at_call 38; (with_reducible refine (HB1.out _ (hb8.trans ((below_alloc w8 _).mono hb8.size))).mono ?_); rintro e w9 ⟨v9, rfl, hm9⟩; have he9 : Below w8.heap.size w8 w9 := below_then (below_alloc w8 _) hm9.bel; have hb9 := below_then hb8 he9; obtain ⟨s0, s1, s2, s3⟩ := box4 rfl hm9.bel; have k0 := (he9.cell (World.block_lt_of_cell? _ _ t0)).trans t0; have k1 := (he9.cell (World.block_lt_of_cell? _ _ t1)).trans t1; have k2 := (he9.cell (World.block_lt_of_cell? _ _ t2)).trans t2; have k3 := (he9.cell (World.block_lt_of_cell? _ _ t3)).trans t3; have HT := hid_ (fun W (hW : Below w9.heap.size w9 W) => (⟨⟨(hW.cell (World.block_lt_of_cell? _ _ k0)).trans k0, (hW.cell (World.block_lt_of_cell? _ _ k1)).trans k1, (hW.cell (World.block_lt_of_cell? _ _ k2)).trans k2, (hW.cell (World.block_lt_of_cell? _ _ k3)).trans k3⟩, (hW.cell (World.block_lt_of_cell? _ _ s0)).trans s0, (hW.cell (World.block_lt_of_cell? _ _ s1)).trans s1, (hW.cell (World.block_lt_of_cell? _ _ s2)).trans s2, (hW.cell (World.block_lt_of_cell? _ _ s3)).trans s3⟩ : (W.cell? ⟨w7.heap.size, 0, none⟩ = _ ∧ W.cell? ⟨w7.heap.size, 1, none⟩ = _ ∧ W.cell? ⟨w7.heap.size, 2, none⟩ = _ ∧ W.cell? ⟨w7.heap.size, 3, none⟩ = _) ∧ W.cell? ⟨w8.heap.size, 0, none⟩ = _ ∧ W.cell? ⟨w8.heap.size, 1, none⟩ = _ ∧ W.cell? ⟨w8.heap.size, 2, none⟩ = _ ∧ W.cell? ⟨w8.heap.size, 3, none⟩ = _)); have HRa := hid_ (HR78.out.below he9 (Nat.le_refl _)); have HRb := hid_ (HR8.out.below he9 (Nat.le_refl _)); have hee9 : Below w9.heap.size w9 w9 := Below.refl _ _; clear t0 t1 t2 t3 k0 k1 k2 k3 s0 s1 s2 s3 q0 q1 q2 q3; obtain ⟨q0, q1, q2, q3⟩ := HQ.out w9 hb9; obtain ⟨⟨t0, t1, t2, t3⟩, s0, s1, s2, s3⟩ := HT.out w9 hee9; obtain ⟨ac, cc, evc, hic⟩ := hm9.at_; subst evc; have Hc := hid_ hic; clear hic hm9)
              | (go_at_call 39; (with_reducible refine (HB2.out _ hb9).mono ?_); rintro e w10 ⟨v10, rfl, hm10⟩; have hcc10 := hm10.bel; have hee10 := below_then hee9 hcc10; have hb10 := below_then hb9 hee10; clear q0 q1 q2 q3 t0 t1 t2 t3 s0 s1 s2 s3; obtain ⟨q0, q1, q2, q3⟩ := HQ.out w10 hb10; obtain ⟨⟨t0, t1, t2, t3⟩, s0, s1, s2, s3⟩ := HT.out w10 hee10; obtain ⟨ad, cd, rfl, hid⟩ := hm10.at_; have Hd := hid_ hid; clear hid hm10)
              | (go_at_call 40; (with_reducible refine (HSr.out _ _ _ (HRa.out.below hee10 (Nat.le_refl _)) (HRb.out.below hee10 (Nat.le_refl _))).mono ?_); rintro e w11 ⟨rfl, hc11⟩; have hcc11 := hc11; have hee11 := below_then hee10 hcc11; have hb11 := below_then hb9 hee11; clear q0 q1 q2 q3 t0 t1 t2 t3 s0 s1 s2 s3; obtain ⟨q0, q1, q2, q3⟩ := HQ.out w11 hb11; obtain ⟨⟨t0, t1, t2, t3⟩, s0, s1, s2, s3⟩ := HT.out w11 hee11)
              | (go_at_call 41; (with_reducible refine (HSm.out _ _ _ _ _ _ _ (Hc.out.below (below_then hcc10 hcc11) (Nat.le_refl _)) (Hd.out.below hcc11 (Nat.le_refl _))).mono ?_); rintro e w12 ⟨rfl, hc12⟩; have hcc12 := hc12; have hee12 := below_then hee11 hcc12; have hb12 := below_then hb9 hee12; clear q0 q1 q2 q3 t0 t1 t2 t3 s0 s1 s2 s3; obtain ⟨q0, q1, q2, q3⟩ := HQ.out w12 hb12; obtain ⟨⟨t0, t1, t2, t3⟩, s0, s1, s2, s3⟩ := HT.out w12 hee12)
              | (go_at_call 42; (with_reducible refine (HPA.out _ hb12).mono ?_); rintro e w13 ⟨v13, rfl, hm13⟩; have hcc13 := hm13.bel; have hee13 := below_then hee12 hcc13; have hb13 := below_then hb9 hee13; clear q0 q1 q2 q3 t0 t1 t2 t3 s0 s1 s2 s3; obtain ⟨q0, q1, q2, q3⟩ := HQ.out w13 hb13; obtain ⟨⟨t0, t1, t2, t3⟩, s0, s1, s2, s3⟩ := HT.out w13 hee13; obtain ⟨ax, cx, rfl, hix⟩ := hm13.at_; have Hx := hid_ hix; clear hix hm13)
              | (go_at_call 42; (with_reducible refine (HPB.out _ _ _ _ (HRa.out.below hee13 (Nat.le_refl _)) (Hc.out.below (below_then hcc10 (below_then hcc11 (below_then hcc12 hcc13))) (Nat.le_refl _))).mono ?_); rintro e w14 ⟨v14, rfl, hm14⟩; have hcc14 := hm14.bel; have hee14 := below_then hee13 hcc14; have hb14 := below_then hb9 hee14; clear q0 q1 q2 q3 t0 t1 t2 t3 s0 s1 s2 s3; obtain ⟨q0, q1, q2, q3⟩ := HQ.out w14 hb14; obtain ⟨⟨t0, t1, t2, t3⟩, s0, s1, s2, s3⟩ := HT.out w14 hee14; obtain ⟨ay, cy, rfl, hiy⟩ := hm14.at_; have Hy := hid_ hiy; clear hiy hm14)
              | (go_at_call 41; (with_reducible refine (HSx.out _ _ _ _ _ _ _ (Hx.out.below hcc14 (Nat.le_refl _)) Hy.out).mono ?_); rintro e w15 ⟨rfl, hc15⟩; have hcc15 := hc15; have hee15 := below_then hee14 hcc15; have hb15 := below_then hb9 hee15; clear q0 q1 q2 q3 t0 t1 t2 t3 s0 s1 s2 s3; obtain ⟨q0, q1, q2, q3⟩ := HQ.out w15 hb15; obtain ⟨⟨t0, t1, t2, t3⟩, s0, s1, s2, s3⟩ := HT.out w15 hee15)
              | (go_at_call 35; (refine (HK.out _).mono ?_); rintro e wk ⟨rfl, hck⟩))
            go_ret
            exact ⟨rfl, Hb1.out.trans ((hb15.trans (hck.mono hb15.size)).mono Hb1.out.size)⟩
          · skip
            have hq : (errSp l t != 0) = true := by simpa using hl
            rw [hv] at HM1 HM2
            clear hv hl
            generalize errSp l t = z at *
            generalize err2 R l = z3 at *
            generalize err2 (renR R t) (resSp l t) = z4 at *
            generalize resPlaces R l = P at *
            generalize resPlaces (renR R t) (resSp l t) = P2 at *
            generalize resSp l t = L2 at *
            generalize renR R t = S2 at *
            go_enter Try.func9, Try.ntmps9
            go_wp2_with (first
              | (go_at_call 33; refine (HG0.out _ hb1).mono ?_; rintro e wg0 ⟨rfl, hcg0⟩; have hbg0 := hcg0; obtain ⟨q0, q1, q2, q3⟩ := HQ.out wg0 hbg0)
              | (go_at_call 34; refine (HG1.out _ hbg0).mono ?_; rintro e wg1 ⟨rfl, hcg1⟩; have hbg1 := hbg0.trans (hcg1.mono hbg0.size); obtain ⟨q0, q1, q2, q3⟩ := HQ.out wg1 hbg1)
              | (go_at_call 34; refine (HG2.out _ hbg1).mono ?_; rintro e wg2 ⟨rfl, hcg2⟩; have hbg2 := hbg1.trans (hcg2.mono hbg1.size); obtain ⟨q0, q1, q2, q3⟩ := HQ.out wg2 hbg2)
              | (go_at_call 36; (with_reducible refine (HM1.out _ hbg2).mono ?_); rintro e w7 ⟨v7, rfl, hr7, hc7⟩; have hb7 : Below w1.heap.size w1 w7 := hbg2.trans (hc7.mono hbg2.size); clear q0 q1 q2 q3; obtain ⟨q0, q1, q2, q3⟩ := HQ.out w7 hb7; have HR7 := hid_ hr7; obtain ⟨a4, n4, c4, a5, n5, c5, a6, n6, c6, rfl, -, -, -⟩ := hr7; have nx7 : w.heap.size < w7.heap.size := World.block_lt_of_cell? w7 ⟨w.heap.size, 0, none⟩ q0)
              | (go_at_call 37; (with_reducible refine (HM2.out _ (hb7.trans ((below_alloc w7 _).mono hb7.size))).mono ?_); rintro e w8 ⟨v8, rfl, hr8, hc8⟩; have hb8 : Below w1.heap.size w1 w8 := hb7.trans (((below_alloc w7 _).trans (hc8.mono (by simp))).mono hb7.size); clear q0 q1 q2 q3 nx7; obtain ⟨q0, q1, q2, q3⟩ := HQ.out w8 hb8; obtain ⟨t0, t1, t2, t3⟩ := box4 rfl hc8; have HR8 := hid_ hr8; have HR78 := hid_ (HR7.out.below ((below_alloc w7 _).trans (hc8.mono (by simp))) (Nat.le_refl _)); obtain ⟨b4, m4, d4, b5, m5, d5, b6, m6, d6, rfl, -, -, -⟩ := hr8)
              | (go_at_call 38; (with_reducible refine (HB1.out _ (hb8.trans ((below_alloc w8 _).mono hb8.size))).mono ?_); rintro e w9 ⟨v9, rfl, hm9⟩; have he9 : Below w8.heap.size w8 w9 := below_then (below_alloc w8 _) hm9.bel; have hb9 := below_then hb8 he9; obtain ⟨s0, s1, s2, s3⟩ := box4 rfl hm9.bel; have k0 := (he9.cell (World.block_lt_of_cell? _ _ t0)).trans t0; have k1 := (he9.cell (World.block_lt_of_cell? _ _ t1)).trans t1; have k2 := (he9.cell (World.block_lt_of_cell? _ _ t2)).trans t2; have k3 := (he9.cell (World.block_lt_of_cell? _ _ t3)).trans t3; have HT := hid_ (fun W (hW : Below w9.heap.size w9 W) => (⟨⟨(hW.cell (World.block_lt_of_cell? _ _ k0)).trans k0, (hW.cell (World.block_lt_of_cell? _ _ k1)).trans k1, (hW.cell (World.block_lt_of_cell? _ _ k2)).trans k2, (hW.cell (World.block_lt_of_cell? _ _ k3)).trans k3⟩, (hW.cell (World.block_lt_of_cell? _ _ s0)).trans s0, (hW.cell (World.block_lt_of_cell? _ _ s1)).trans s1, (hW.cell (World.block_lt_of_cell? _ _ s2)).trans s2, (hW.cell (World.block_lt_of_cell? _ _ s3)).trans s3⟩ : (W.cell? ⟨w7.heap.size, 0, none⟩ = _ ∧ W.cell? ⟨w7.heap.size, 1, none⟩ = _ ∧ W.cell? ⟨w7.heap.size, 2, none⟩ = _ ∧ W.cell? ⟨w7.heap.size, 3, none⟩ = _) ∧ W.cell? ⟨w8.heap.size, 0, none⟩ = _ ∧ W.cell? ⟨w8.heap.size, 1, none⟩ = _ ∧ W.cell? ⟨w8.heap.size, 2, none⟩ = _ ∧ W.cell? ⟨w8.heap.size, 3, none⟩ = _)); have HRa := hid_ (HR78.out.below he9 (Nat.le_refl _)); have HRb := hid_ (HR8.out.below he9 (Nat.le_refl _)); have hee9 : Below w9.heap.size w9 w9 := Below.refl _ _; clear t0 t1 t2 t3 k0 k1 k2 k3 s0 s1 s2 s3 q0 q1 q2 q3; obtain ⟨q0, q1, q2, q3⟩ := HQ.out w9 hb9; obtain ⟨⟨t0, t1, t2, t3⟩, s0, s1, s2, s3⟩ := HT.out w9 hee9; obtain ⟨ac, cc, evc, hic⟩ := hm9.at_; subst evc; have Hc := hid_ hic; clear hic hm9)
              | (go_at_call 39; (with_reducible refine (HB2.out _ hb9).mono ?_); rintro e w10 ⟨v10, rfl, hm10⟩; have hcc10 := hm10.bel; have hee10 := below_then hee9 hcc10; have hb10 := below_then hb9 hee10; clear q0 q1 q2 q3 t0 t1 t2 t3 s0 s1 s2 s3; obtain ⟨q0, q1, q2, q3⟩ := HQ.out w10 hb10; obtain ⟨⟨t0, t1, t2, t3⟩, s0, s1, s2, s3⟩ := HT.out w10 hee10; obtain ⟨ad, cd, rfl, hid⟩ := hm10.at_; have Hd := hid_ hid; clear hid hm10)
              | (go_at_call 40; (with_reducible refine (HSr.out _ _ _ (HRa.out.below hee10 (Nat.le_refl _)) (HRb.out.below hee10 (Nat.le_refl _))).mono ?_); rintro e w11 ⟨rfl, hc11⟩; have hcc11 := hc11; have hee11 := below_then hee10 hcc11; have hb11 := below_then hb9 hee11; clear q0 q1 q2 q3 t0 t1 t2 t3 s0 s1 s2 s3; obtain ⟨q0, q1, q2, q3⟩ := HQ.out w11 hb11; obtain ⟨⟨t0, t1, t2, t3⟩, s0, s1, s2, s3⟩ := HT.out w11 hee11)
              | (go_at_call 41; (with_reducible refine (HSm.out _ _ _ _ _ _ _ (Hc.out.below (below_then hcc10 hcc11) (Nat.le_refl _)) (Hd.out.below hcc11 (Nat.le_refl _))).mono ?_); rintro e w12 ⟨rfl, hc12⟩; have hcc12 := hc12; have hee12 := below_then hee11 hcc12; have hb12 := below_then hb9 hee12; clear q0 q1 q2 q3 t0 t1 t2 t3 s0 s1 s2 s3; obtain ⟨q0, q1, q2, q3⟩ := HQ.out w12 hb12; obtain ⟨⟨t0, t1, t2, t3⟩, s0, s1, s2, s3⟩ := HT.out w12 hee12)
              | (go_at_call 42; (with_reducible refine (HPA.out _ hb12).mono ?_); rintro e w13 ⟨v13, rfl, hm13⟩; have hcc13 := hm13.bel; have hee13 := below_then hee12 hcc13; have hb13 := below_then hb9 hee13; clear q0 q1 q2 q3 t0 t1 t2 t3 s0 s1 s2 s3; obtain ⟨q0, q1, q2, q3⟩ := HQ.out w13 hb13; obtain ⟨⟨t0, t1, t2, t3⟩, s0, s1, s2, s3⟩ := HT.out w13 hee13; obtain ⟨ax, cx, rfl, hix⟩ := hm13.at_; have Hx := hid_ hix; clear hix hm13)
              | (go_at_call 42; (with_reducible refine (HPB.out _ _ _ _ (HRa.out.below hee13 (Nat.le_refl _)) (Hc.out.below (below_then hcc10 (below_then hcc11 (below_then hcc12 hcc13))) (Nat.le_refl _))).mono ?_); rintro e w14 ⟨v14, rfl, hm14⟩; have hcc14 := hm14.bel; have hee14 := below_then hee13 hcc14; have hb14 := below_then hb9 hee14; clear q0 q1 q2 q3 t0 t1 t2 t3 s0 s1 s2 s3; obtain ⟨q0, q1, q2, q3⟩ := HQ.out w14 hb14; obtain ⟨⟨t0, t1, t2, t3⟩, s0, s1, s2, s3⟩ := HT.out w14 hee14; obtain ⟨ay, cy, rfl, hiy⟩ := hm14.at_; have Hy := hid_ hiy; clear hiy hm14)
              | (go_at_call 35; (refine (HK.out _).mono ?_); rintro e wk ⟨rfl, hck⟩))
            go_ret
            exact ⟨rfl, Hb1.out.trans ((hb14.trans (hck.mono hb14.size)).mono Hb1.out.size)⟩
        · skip
          have hq : (renE R t != 0) = true := by simpa using hv
          clear hv
          generalize renE R t = z2 at *
          generalize errSp l t = z at *
          generalize err2 R l = z3 at *
          generalize err2 (renR R t) (resSp l t) = z4 at *
          generalize resPlaces R l = P at *
          generalize resPlaces (renR R t) (resSp l t) = P2 at *
          generalize resSp l t = L2 at *
          generalize renR R t = S2 at *
          go_enter Try.func9, Try.ntmps9
          go_wp2_with (first
            | (go_at_call 33; refine (HG0.out _ hb1).mono ?_; rintro e wg0 ⟨rfl, hcg0⟩; have hbg0 := hcg0; obtain ⟨q0, q1, q2, q3⟩ := HQ.out wg0 hbg0)
            | (go_at_call 34; refine (HG1.out _ hbg0).mono ?_; rintro e wg1 ⟨rfl, hcg1⟩; have hbg1 := hbg0.trans (hcg1.mono hbg0.size); obtain ⟨q0, q1, q2, q3⟩ := HQ.out wg1 hbg1)
            | (go_at_call 34; refine (HG2.out _ hbg1).mono ?_; rintro e wg2 ⟨rfl, hcg2⟩; have hbg2 := hbg1.trans (hcg2.mono hbg1.size); obtain ⟨q0, q1, q2, q3⟩ := HQ.out wg2 hbg2)
            | (go_at_call 36; (with_reducible refine (HM1.out _ hbg2).mono ?_); rintro e w7 ⟨v7, rfl, hr7, hc7⟩; have hb7 : Below w1.heap.size w1 w7 := hbg2.trans (hc7.mono hbg2.size); clear q0 q1 q2 q3; obtain ⟨q0, q1, q2, q3⟩ := HQ.out w7 hb7; have HR7 := hid_ hr7; obtain ⟨a4, n4, c4, a5, n5, c5, a6, n6, c6, rfl, -, -, -⟩ := hr7; have nx7 : w.heap.size < w7.heap.size := World.block_lt_of_cell? w7 ⟨w.heap.size, 0, none⟩ q0)
            | (go_at_call 37; (with_reducible refine (HM2.out _ (hb7.trans ((below_alloc w7 _).mono hb7.size))).mono ?_); rintro e w8 ⟨v8, rfl, hr8, hc8⟩; have hb8 : Below w1.heap.size w1 w8 := hb7.trans (((below_alloc w7 _).trans (hc8.mono (by simp))).mono hb7.size); clear q0 q1 q2 q3 nx7; obtain ⟨q0, q1, q2, q3⟩ := HQ.out w8 hb8; obtain ⟨t0, t1, t2, t3⟩ := box4 rfl hc8; have HR8 := hid_ hr8; have HR78 := hid_ (HR7.out.below ((below_alloc w7 _).trans (hc8.mono (by simp))) (Nat.le_refl _)); obtain ⟨b4, m4, d4, b5, m5, d5, b6, m6, d6, rfl, -, -, -⟩ := hr8)
            | (go_at_call 38; (with_reducible refine (HB1.out _ (hb8.trans ((below_alloc w8 _).mono hb8.size))).mono ?_); rintro e w9 ⟨v9, rfl, hm9⟩; have he9 : Below w8.heap.size w8 w9 := below_then (below_alloc w8 _) hm9.bel; have hb9 := below_then hb8 he9; obtain ⟨s0, s1, s2, s3⟩ := box4 rfl hm9.bel; have k0 := (he9.cell (World.block_lt_of_cell? _ _ t0)).trans t0; have k1 := (he9.cell (World.block_lt_of_cell? _ _ t1)).trans t1; have k2 := (he9.cell (World.block_lt_of_cell? _ _ t2)).trans t2; have k3 := (he9.cell (World.block_lt_of_cell? _ _ t3)).trans t3; have HT := hid_ (fun W (hW : Below w9.heap.size w9 W) => (⟨⟨(hW.cell (World.block_lt_of_cell? _ _ k0)).trans k0, (hW.cell (World.block_lt_of_cell? _ _ k1)).trans k1, (hW.cell (World.block_lt_of_cell? _ _ k2)).trans k2, (hW.cell (World.block_lt_of_cell? _ _ k3)).trans k3⟩, (hW.cell (World.block_lt_of_cell? _ _ s0)).trans s0, (hW.cell (World.block_lt_of_cell? _ _ s1)).trans s1, (hW.cell (World.block_lt_of_cell? _ _ s2)).trans s2, (hW.cell (World.block_lt_of_cell? _ _ s3)).trans s3⟩ : (W.cell? ⟨w7.heap.size, 0, none⟩ = _ ∧ W.cell? ⟨w7.heap.size, 1, none⟩ = _ ∧ W.cell? ⟨w7.heap.size, 2, none⟩ = _ ∧ W.cell? ⟨w7.heap.size, 3, none⟩ = _) ∧ W.cell? ⟨w8.heap.size, 0, none⟩ = _ ∧ W.cell? ⟨w8.heap.size, 1, none⟩ = _ ∧ W.cell? ⟨w8.heap.size, 2, none⟩ = _ ∧ W.cell? ⟨w8.heap.size, 3, none⟩ = _)); have HRa := hid_ (HR78.out.below he9 (Nat.le_refl _)); have HRb := hid_ (HR8.out.below he9 (Nat.le_refl _)); have hee9 : Below w9.heap.size w9 w9 := Below.refl _ _; clear t0 t1 t2 t3 k0 k1 k2 k3 s0 s1 s2 s3 q0 q1 q2 q3; obtain ⟨q0, q1, q2, q3⟩ := HQ.out w9 hb9; obtain ⟨⟨t0, t1, t2, t3⟩, s0, s1, s2, s3⟩ := HT.out w9 hee9; obtain ⟨ac, cc, evc, hic⟩ := hm9.at_; subst evc; have Hc := hid_ hic; clear hic hm9)
            | (go_at_call 39; (with_reducible refine (HB2.out _ hb9).mono ?_); rintro e w10 ⟨v10, rfl, hm10⟩; have hcc10 := hm10.bel; have hee10 := below_then hee9 hcc10; have hb10 := below_then hb9 hee10; clear q0 q1 q2 q3 t0 t1 t2 t3 s0 s1 s2 s3; obtain ⟨q0, q1, q2, q3⟩ := HQ.out w10 hb10; obtain ⟨⟨t0, t1, t2, t3⟩, s0, s1, s2, s3⟩ := HT.out w10 hee10; obtain ⟨ad, cd, rfl, hid⟩ := hm10.at_; have Hd := hid_ hid; clear hid hm10)
            | (go_at_call 40; (with_reducible refine (HSr.out _ _ _ (HRa.out.below hee10 (Nat.le_refl _)) (HRb.out.below hee10 (Nat.le_refl _))).mono ?_); rintro e w11 ⟨rfl, hc11⟩; have hcc11 := hc11; have hee11 := below_then hee10 hcc11; have hb11 := below_then hb9 hee11; clear q0 q1 q2 q3 t0 t1 t2 t3 s0 s1 s2 s3; obtain ⟨q0, q1, q2, q3⟩ := HQ.out w11 hb11; obtain ⟨⟨t0, t1, t2, t3⟩, s0, s1, s2, s3⟩ := HT.out w11 hee11)
            | (go_at_call 41; (with_reducible refine (HSm.out _ _ _ _ _ _ _ (Hc.out.below (below_then hcc10 hcc11) (Nat.le_refl _)) (Hd.out.below hcc11 (Nat.le_refl _))).mono ?_); rintro e w12 ⟨rfl, hc12⟩; have hcc12 := hc12; have hee12 := below_then hee11 hcc12; have hb12 := below_then hb9 hee12; clear q0 q1 q2 q3 t0 t1 t2 t3 s0 s1 s2 s3; obtain ⟨q0, q1, q2, q3⟩ := HQ.out w12 hb12; obtain ⟨⟨t0, t1, t2, t3⟩, s0, s1, s2, s3⟩ := HT.out w12 hee12)
            | (go_at_call 42; (with_reducible refine (HPA.out _ hb12).mono ?_); rintro e w13 ⟨v13, rfl, hm13⟩; have hcc13 := hm13.bel; have hee13 := below_then hee12 hcc13; have hb13 := below_then hb9 hee13; clear q0 q1 q2 q3 t0 t1 t2 t3 s0 s1 s2 s3; obtain ⟨q0, q1, q2, q3⟩ := HQ.out w13 hb13; obtain ⟨⟨t0, t1, t2, t3⟩, s0, s1, s2, s3⟩ := HT.out w13 hee13; obtain ⟨ax, cx, rfl, hix⟩ := hm13.at_; have Hx := hid_ hix; clear hix hm13)
            | (go_at_call 42; (with_reducible refine (HPB.out _ _ _ _ (HRa.out.below hee13 (Nat.le_refl _)) (Hc.out.below (below_then hcc10 (below_then hcc11 (below_then hcc12 hcc13))) (Nat.le_refl _))).mono ?_); rintro e w14 ⟨v14, rfl, hm14⟩; have hcc14 := hm14.bel; have hee14 := below_then hee13 hcc14; have hb14 := below_then hb9 hee14; clear q0 q1 q2 q3 t0 t1 t2 t3 s0 s1 s2 s3; obtain ⟨q0, q1, q2, q3⟩ := HQ.out w14 hb14; obtain ⟨⟨t0, t1, t2, t3⟩, s0, s1, s2, s3⟩ := HT.out w14 hee14; obtain ⟨ay, cy, rfl, hiy⟩ := hm14.at_; have Hy := hid_ hiy; clear hiy hm14)
            | (go_at_call 35; (refine (HK.out _).mono ?_); rintro e wk ⟨rfl, hck⟩))
          go_ret
          exact ⟨rfl, Hb1.out.trans ((hb14.trans (hck.mono hb14.size)).mono Hb1.out.size)⟩
end Go.Proofs.Ytoopgmoopmbfnaa
