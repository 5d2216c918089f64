import Derived.Test.YtnpdhmejnoplcaaLk

namespace Go.Proofs.Ytnpdhmejnoplcaa
open Go.RowKit Go.Proofs.Kv

set_option maxRecDepth 100000 in
set_option maxHeartbeats 4000000 in
theorem ruleMeets_calls (v : Value) (R S : Rl) (w : World) (hx : TwoAt w v R S) :
    Calls Try.prog 10 #[v] w fun e w' => e = .returned (.bool true) ∧ Below w.heap.size w w' := by
  obtain ⟨x0, x1, x2, x3, x4, x5, x6, x7, rfl, hr, hs⟩ := hx
  have Hr := hid_ hr
  have Hs := hid_ hs
  obtain ⟨a1, n1, c1, a2, n2, c2, a3, n3, c3, e1, h1, h2, h3⟩ := hr
  obtain ⟨b1, m1, d1, b2, m2, d2, b3, m3, d3, e2, h4, h5, h6⟩ := hs
  clear h1 h2 h3 h4 h5 h6
  injection e1 with e1; injection e1 with e1; injection e1 with y0 e1; injection e1 with y1 e1; injection e1 with y2 e1; injection e1 with y3 e1
  injection e2 with e2; injection e2 with e2; injection e2 with y4 e2; injection e2 with y5 e2; injection e2 with y6 e2; injection e2 with y7 e2
  subst y0 y1 y2 y3 y4 y5 y6 y7
  clear e1 e2
  obtain ⟨w1, hw1⟩ : ∃ w1, w.alloc (.cells #[.int .i64 R.f, .slice a1 n1 c1, .slice a2 n2 c2, .slice a3 n3 c3, .int .i64 S.f, .slice b1 m1 d1, .slice b2 m2 d2, .slice b3 m3 d3] 43) = w1 := ⟨_, rfl⟩
  have Hb1 : Hid (Below w.heap.size w w1) := hid_ (by rw [← hw1]; exact below_alloc _ _)
  have HW1 := hid_ hw1
  have HQ := hid_ (fun W (hW : Below w1.heap.size w1 W) => box8 HW1.out hW)
  have HR := hid_ (fun W (hW : Below w1.heap.size w1 W) => (Hr.out.below Hb1.out (Nat.le_refl _)).below hW (Nat.le_refl _))
  have HS := hid_ (fun W (hW : Below w1.heap.size w1 W) => (Hs.out.below Hb1.out (Nat.le_refl _)).below hW (Nat.le_refl _))
  have HK := hid_ known_calls
  have hb1 : Below w1.heap.size w1 w1 := Below.refl _ _
  obtain ⟨q0, q1, q2, q3, q4, q5, q6, q7⟩ := HQ.out w1 hb1
  have HG0 : Hid (∀ W, Below w1.heap.size w1 W → Calls Try.prog 28 #[.agg #[.int .i64 R.f, .slice a1 n1 c1, .slice a2 n2 c2, .slice a3 n3 c3]] W fun e w' => e = .returned (.bool (bigR R)) ∧ Below W.heap.size W w') := hid_ (fun W hW => long_calls _ R W (HR.out W hW))
  have HG1 : Hid (∀ W, Below w1.heap.size w1 W → Calls Try.prog 28 #[.agg #[.int .i64 S.f, .slice b1 m1 d1, .slice b2 m2 d2, .slice b3 m3 d3]] W fun e w' => e = .returned (.bool (bigR S)) ∧ Below W.heap.size W w') := hid_ (fun W hW => long_calls _ S W (HS.out W hW))
  cases hg0 : bigR R with
  | true =>
    rw [hg0] at HG0
    go_enter Try.func10, Try.ntmps10
    go_wp2_with (first
      | (go_at_call 28; (with_reducible refine (HG0.out _ hb1).mono ?_); rintro e wg0 ⟨rfl, hcg0⟩; have hbg0 := hcg0)
      | (go_at_call 30; refine (HK.out _).mono ?_; rintro e wk ⟨rfl, hck⟩))
    go_ret
    exact ⟨rfl, Hb1.out.trans ((hbg0.trans (hck.mono hbg0.size)).mono Hb1.out.size)⟩
  | false =>
    rw [hg0] at HG0
    cases hg1 : bigR S with
    | true =>
      rw [hg1] at HG1
      go_enter Try.func10, Try.ntmps10
      go_wp2_with (first
        | (go_at_call 28; (with_reducible refine (HG0.out _ hb1).mono ?_); rintro e wg0 ⟨rfl, hcg0⟩; have hbg0 := hcg0; obtain ⟨q0, q1, q2, q3, q4, q5, q6, q7⟩ := HQ.out wg0 hbg0)
        | (go_at_call 28; (with_reducible refine (HG1.out _ hbg0).mono ?_); rintro e wg1 ⟨rfl, hcg1⟩; have hbg1 := hbg0.trans (hcg1.mono hbg0.size))
        | (go_at_call 30; refine (HK.out _).mono ?_; rintro e wk ⟨rfl, hck⟩))
      go_ret
      exact ⟨rfl, Hb1.out.trans ((hbg1.trans (hck.mono hbg1.size)).mono Hb1.out.size)⟩
    | false =>
      rw [hg1] at HG1
      have HP := hid_ (fun W hW => ruBoth_calls _ _ R S W (HR.out W hW) (HS.out W hW))
      have HF := hid_ (fun W hW => r2Both_calls _ _ R S W (HR.out W hW) (HS.out W hW))
      have HC := hid_ (fun W hW => ruCanMeet_calls _ _ R S W (HR.out W hW) (HS.out W hW))
      have HD := hid_ (fun W hW => r2CanMeet_calls _ _ R S W (HR.out W hW) (HS.out W hW))
      have HE := hid_ (fun W hW => ruIsSpecial_calls _ _ R S W (HR.out W hW) (HS.out W hW))
      have HM := hid_ (@spc_can R S)
      have HSm := hid_ (fun W a n c l a' n' c' h h' => sameT_calls a n c l a' n' c' W h h')
      generalize bothL R S = L1 at *
      generalize bothR R S = L2 at *
      generalize isBoth R S = z0 at *
      by_cases he : errTwo R S = 0
      · rw [he] at HP HF HC HD HE
        clear he
        cases hsp : isSpc R S with
        | false =>
          rw [hsp] at HE
          clear hsp HM
          go_enter Try.func10, Try.ntmps10
          go_wp2_with (first
            | (go_at_call 28; (with_reducible refine (HG0.out _ hb1).mono ?_); rintro e wg0 ⟨rfl, hcg0⟩; have hbg0 := hcg0; obtain ⟨q0, q1, q2, q3, q4, q5, q6, q7⟩ := HQ.out wg0 hbg0)
            | (go_at_call 28; (with_reducible refine (HG1.out _ hbg0).mono ?_); rintro e wg1 ⟨rfl, hcg1⟩; have hbg1 := hbg0.trans (hcg1.mono hbg0.size); obtain ⟨q0, q1, q2, q3, q4, q5, q6, q7⟩ := HQ.out wg1 hbg1)
            | (go_at_call 51; (with_reducible refine (HP.out _ hbg1).mono ?_); rintro e w4 ⟨v4, u4, rfl, ho4, hp4, hc4⟩; have hb4 : Below w1.heap.size w1 w4 := hbg1.trans (hc4.mono hbg1.size); obtain ⟨q0, q1, q2, q3, q4, q5, q6, q7⟩ := HQ.out w4 hb4; obtain ⟨ap, cp, rfl, hi4⟩ := IntsAt.own ho4; obtain ⟨aq, cq, rfl, hj4⟩ := IntsAt.own hp4; have Hp := hid_ hi4; have Hq := hid_ hj4; clear hi4 hj4 ho4 hp4)
            | (go_at_call 52; (with_reducible refine (HF.out _ hb4).mono ?_); rintro e w5 ⟨v5, u5, rfl, ho5, hp5, hc5⟩; have hb5 : Below w1.heap.size w1 w5 := hb4.trans (hc5.mono hb4.size); obtain ⟨q0, q1, q2, q3, q4, q5, q6, q7⟩ := HQ.out w5 hb5; obtain ⟨ad, cd, rfl, hi5⟩ := IntsAt.own ho5; obtain ⟨ae, ce, rfl, hj5⟩ := IntsAt.own hp5; have Hd := hid_ hi5; have He := hid_ hj5; clear hi5 hj5 ho5 hp5)
            | (go_at_call 53; (with_reducible refine (HC.out _ hb5).mono ?_); rintro e w6 ⟨rfl, hc6⟩; have hb6 : Below w1.heap.size w1 w6 := hb5.trans (hc6.mono hb5.size); obtain ⟨q0, q1, q2, q3, q4, q5, q6, q7⟩ := HQ.out w6 hb6)
            | (go_at_call 54; (with_reducible refine (HD.out _ hb6).mono ?_); rintro e w7 ⟨rfl, hc7⟩; have hb7 : Below w1.heap.size w1 w7 := hb6.trans (hc7.mono hb6.size); obtain ⟨q0, q1, q2, q3, q4, q5, q6, q7⟩ := HQ.out w7 hb7)
            | (go_at_call 37; (with_reducible refine (HSm.out _ _ _ _ _ _ _ _ (Hp.out.below (hc5.trans ((hc6.trans (hc7.mono hc6.size)).mono hc5.size)) (Nat.le_refl _)) (Hd.out.below (hc6.trans (hc7.mono hc6.size)) (Nat.le_refl _))).mono ?_); rintro e w8 ⟨rfl, hc8⟩; have hb8 := hb7.trans (hc8.mono hb7.size); obtain ⟨q0, q1, q2, q3, q4, q5, q6, q7⟩ := HQ.out w8 hb8)
            | (go_at_call 37; (with_reducible refine (HSm.out _ _ _ _ _ _ _ _ (Hq.out.below (hc5.trans ((hc6.trans ((hc7.trans (hc8.mono hc7.size)).mono hc6.size)).mono hc5.size)) (Nat.le_refl _)) (He.out.below (hc6.trans ((hc7.trans (hc8.mono hc7.size)).mono hc6.size)) (Nat.le_refl _))).mono ?_); rintro e w9 ⟨rfl, hc9⟩; have hb9 := hb8.trans (hc9.mono hb8.size); obtain ⟨q0, q1, q2, q3, q4, q5, q6, q7⟩ := HQ.out w9 hb9)
            | (go_at_call 48; (with_reducible refine (HE.out _ hb9).mono ?_); rintro e w10 ⟨rfl, hc10⟩; have hb10 : Below w1.heap.size w1 w10 := hb9.trans (hc10.mono hb9.size); obtain ⟨q0, q1, q2, q3, q4, q5, q6, q7⟩ := HQ.out w10 hb10)
            | (go_at_call 30; (refine (HK.out _).mono ?_); rintro e wk ⟨rfl, hck⟩))
          go_ret
          exact ⟨rfl, Hb1.out.trans ((hb10.trans (hck.mono hb10.size)).mono Hb1.out.size)⟩
        | true =>
          rw [hsp] at HE
          have hz : z0 = true := HM.out hsp
          subst hz
          clear hsp HM
          go_enter Try.func10, Try.ntmps10
          go_wp2_with (first
            | (go_at_call 28; (with_reducible refine (HG0.out _ hb1).mono ?_); rintro e wg0 ⟨rfl, hcg0⟩; have hbg0 := hcg0; obtain ⟨q0, q1, q2, q3, q4, q5, q6, q7⟩ := HQ.out wg0 hbg0)
            | (go_at_call 28; (with_reducible refine (HG1.out _ hbg0).mono ?_); rintro e wg1 ⟨rfl, hcg1⟩; have hbg1 := hbg0.trans (hcg1.mono hbg0.size); obtain ⟨q0, q1, q2, q3, q4, q5, q6, q7⟩ := HQ.out wg1 hbg1)
            | (go_at_call 51; (with_reducible refine (HP.out _ hbg1).mono ?_); rintro e w4 ⟨v4, u4, rfl, ho4, hp4, hc4⟩; have hb4 : Below w1.heap.size w1 w4 := hbg1.trans (hc4.mono hbg1.size); obtain ⟨q0, q1, q2, q3, q4, q5, q6, q7⟩ := HQ.out w4 hb4; obtain ⟨ap, cp, rfl, hi4⟩ := IntsAt.own ho4; obtain ⟨aq, cq, rfl, hj4⟩ := IntsAt.own hp4; have Hp := hid_ hi4; have Hq := hid_ hj4; clear hi4 hj4 ho4 hp4)
            | (go_at_call 52; (with_reducible refine (HF.out _ hb4).mono ?_); rintro e w5 ⟨v5, u5, rfl, ho5, hp5, hc5⟩; have hb5 : Below w1.heap.size w1 w5 := hb4.trans (hc5.mono hb4.size); obtain ⟨q0, q1, q2, q3, q4, q5, q6, q7⟩ := HQ.out w5 hb5; obtain ⟨ad, cd, rfl, hi5⟩ := IntsAt.own ho5; obtain ⟨ae, ce, rfl, hj5⟩ := IntsAt.own hp5; have Hd := hid_ hi5; have He := hid_ hj5; clear hi5 hj5 ho5 hp5)
            | (go_at_call 53; (with_reducible refine (HC.out _ hb5).mono ?_); rintro e w6 ⟨rfl, hc6⟩; have hb6 : Below w1.heap.size w1 w6 := hb5.trans (hc6.mono hb5.size); obtain ⟨q0, q1, q2, q3, q4, q5, q6, q7⟩ := HQ.out w6 hb6)
            | (go_at_call 54; (with_reducible refine (HD.out _ hb6).mono ?_); rintro e w7 ⟨rfl, hc7⟩; have hb7 : Below w1.heap.size w1 w7 := hb6.trans (hc7.mono hb6.size); obtain ⟨q0, q1, q2, q3, q4, q5, q6, q7⟩ := HQ.out w7 hb7)
            | (go_at_call 37; (with_reducible refine (HSm.out _ _ _ _ _ _ _ _ (Hp.out.below (hc5.trans ((hc6.trans (hc7.mono hc6.size)).mono hc5.size)) (Nat.le_refl _)) (Hd.out.below (hc6.trans (hc7.mono hc6.size)) (Nat.le_refl _))).mono ?_); rintro e w8 ⟨rfl, hc8⟩; have hb8 := hb7.trans (hc8.mono hb7.size); obtain ⟨q0, q1, q2, q3, q4, q5, q6, q7⟩ := HQ.out w8 hb8)
            | (go_at_call 37; (with_reducible refine (HSm.out _ _ _ _ _ _ _ _ (Hq.out.below (hc5.trans ((hc6.trans ((hc7.trans (hc8.mono hc7.size)).mono hc6.size)).mono hc5.size)) (Nat.le_refl _)) (He.out.below (hc6.trans ((hc7.trans (hc8.mono hc7.size)).mono hc6.size)) (Nat.le_refl _))).mono ?_); rintro e w9 ⟨rfl, hc9⟩; have hb9 := hb8.trans (hc9.mono hb8.size); obtain ⟨q0, q1, q2, q3, q4, q5, q6, q7⟩ := HQ.out w9 hb9)
            | (go_at_call 48; (with_reducible refine (HE.out _ hb9).mono ?_); rintro e w10 ⟨rfl, hc10⟩; have hb10 : Below w1.heap.size w1 w10 := hb9.trans (hc10.mono hb9.size); obtain ⟨q0, q1, q2, q3, q4, q5, q6, q7⟩ := HQ.out w10 hb10)
            | (go_at_call 30; (refine (HK.out _).mono ?_); rintro e wk ⟨rfl, hck⟩))
          go_ret
          exact ⟨rfl, Hb1.out.trans ((hb10.trans (hck.mono hb10.size)).mono Hb1.out.size)⟩
      · have hq : (errTwo R S != 0) = true := by simpa using he
        clear he HM
        generalize errTwo R S = z1 at *
        generalize isSpc R S = z2 at *
        go_enter Try.func10, Try.ntmps10
        go_wp2_with (first
          | (go_at_call 28; (with_reducible refine (HG0.out _ hb1).mono ?_); rintro e wg0 ⟨rfl, hcg0⟩; have hbg0 := hcg0; obtain ⟨q0, q1, q2, q3, q4, q5, q6, q7⟩ := HQ.out wg0 hbg0)
          | (go_at_call 28; (with_reducible refine (HG1.out _ hbg0).mono ?_); rintro e wg1 ⟨rfl, hcg1⟩; have hbg1 := hbg0.trans (hcg1.mono hbg0.size); obtain ⟨q0, q1, q2, q3, q4, q5, q6, q7⟩ := HQ.out wg1 hbg1)
          | (go_at_call 51; (with_reducible refine (HP.out _ hbg1).mono ?_); rintro e w4 ⟨v4, u4, rfl, ho4, hp4, hc4⟩; have hb4 : Below w1.heap.size w1 w4 := hbg1.trans (hc4.mono hbg1.size); obtain ⟨q0, q1, q2, q3, q4, q5, q6, q7⟩ := HQ.out w4 hb4; obtain ⟨ap, cp, rfl, hi4⟩ := IntsAt.own ho4; obtain ⟨aq, cq, rfl, hj4⟩ := IntsAt.own hp4; have Hp := hid_ hi4; have Hq := hid_ hj4; clear hi4 hj4 ho4 hp4)
          | (go_at_call 52; (with_reducible refine (HF.out _ hb4).mono ?_); rintro e w5 ⟨v5, u5, rfl, ho5, hp5, hc5⟩; have hb5 : Below w1.heap.size w1 w5 := hb4.trans (hc5.mono hb4.size); obtain ⟨q0, q1, q2, q3, q4, q5, q6, q7⟩ := HQ.out w5 hb5; obtain ⟨ad, cd, rfl, hi5⟩ := IntsAt.own ho5; obtain ⟨ae, ce, rfl, hj5⟩ := IntsAt.own hp5; have Hd := hid_ hi5; have He := hid_ hj5; clear hi5 hj5 ho5 hp5)
          | (go_at_call 53; (with_reducible refine (HC.out _ hb5).mono ?_); rintro e w6 ⟨rfl, hc6⟩; have hb6 : Below w1.heap.size w1 w6 := hb5.trans (hc6.mono hb5.size); obtain ⟨q0, q1, q2, q3, q4, q5, q6, q7⟩ := HQ.out w6 hb6)
          | (go_at_call 54; (with_reducible refine (HD.out _ hb6).mono ?_); rintro e w7 ⟨rfl, hc7⟩; have hb7 : Below w1.heap.size w1 w7 := hb6.trans (hc7.mono hb6.size); obtain ⟨q0, q1, q2, q3, q4, q5, q6, q7⟩ := HQ.out w7 hb7)
          | (go_at_call 37; (with_reducible refine (HSm.out _ _ _ _ _ _ _ _ (Hp.out.below (hc5.trans ((hc6.trans (hc7.mono hc6.size)).mono hc5.size)) (Nat.le_refl _)) (Hd.out.below (hc6.trans (hc7.mono hc6.size)) (Nat.le_refl _))).mono ?_); rintro e w8 ⟨rfl, hc8⟩; have hb8 := hb7.trans (hc8.mono hb7.size); obtain ⟨q0, q1, q2, q3, q4, q5, q6, q7⟩ := HQ.out w8 hb8)
          | (go_at_call 37; (with_reducible refine (HSm.out _ _ _ _ _ _ _ _ (Hq.out.below (hc5.trans ((hc6.trans ((hc7.trans (hc8.mono hc7.size)).mono hc6.size)).mono hc5.size)) (Nat.le_refl _)) (He.out.below (hc6.trans ((hc7.trans (hc8.mono hc7.size)).mono hc6.size)) (Nat.le_refl _))).mono ?_); rintro e w9 ⟨rfl, hc9⟩; have hb9 := hb8.trans (hc9.mono hb8.size); obtain ⟨q0, q1, q2, q3, q4, q5, q6, q7⟩ := HQ.out w9 hb9)
          | (go_at_call 48; (with_reducible refine (HE.out _ hb9).mono ?_); rintro e w10 ⟨rfl, hc10⟩; have hb10 : Below w1.heap.size w1 w10 := hb9.trans (hc10.mono hb9.size); obtain ⟨q0, q1, q2, q3, q4, q5, q6, q7⟩ := HQ.out w10 hb10)
          | (go_at_call 30; (refine (HK.out _).mono ?_); rintro e wk ⟨rfl, hck⟩))
        go_ret
        exact ⟨rfl, Hb1.out.trans ((hb10.trans (hck.mono hb10.size)).mono Hb1.out.size)⟩
end Go.Proofs.Ytnpdhmejnoplcaa
