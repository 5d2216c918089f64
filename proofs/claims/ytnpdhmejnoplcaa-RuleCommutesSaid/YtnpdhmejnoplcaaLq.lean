import Derived.Test.YtnpdhmejnoplcaaLk
import Derived.Test.YtnpdhmejnoplcaaCmt
namespace Go.Proofs.Ytnpdhmejnoplcaa
open Go.RowKit Go.Proofs.Kv

set_option maxRecDepth 100000 in
set_option maxHeartbeats 4000000 in
theorem ruleCommutes_calls (v : Value) (R S : Rl) (a : Option Addr) (n c : Nat) (l : List Int) (w : World) (hx : TwoAt w v R S) (h : IntsAt w a n c l) :
    Calls Try.prog 13 #[v, .slice a n c] w fun e w' => e = .returned (.bool true) ∧ Below w.heap.size w w' := by
  obtain ⟨x0, x1, x2, x3, x4, x5, x6, x7, rfl, hr, hs⟩ := hx
  have Hr := hid_ hr
  have Hs := hid_ hs
  obtain ⟨a1, n1, c1, a2, n2, c2, a3, n3, c3, e1, h1, h2, h3⟩ := hr
  obtain ⟨b1, m1, d1, b2, m2, d2, b3, m3, d3, e2, h4, h5, h6⟩ := hs
  clear h1 h2 h3 h4 h5 h6
  injection e1 with e1; injection e1 with e1; injection e1 with y0 e1; injection e1 with y1 e1; injection e1 with y2 e1; injection e1 with y3 e1
  injection e2 with e2; injection e2 with e2; injection e2 with y4 e2; injection e2 with y5 e2; injection e2 with y6 e2; injection e2 with y7 e2
  subst y0 y1 y2 y3 y4 y5 y6 y7
  clear e1 e2
  obtain ⟨w1, hw1⟩ : ∃ w1, w.alloc (.cells #[.int .i64 R.f, .slice a1 n1 c1, .slice a2 n2 c2, .slice a3 n3 c3, .int .i64 S.f, .slice b1 m1 d1, .slice b2 m2 d2, .slice b3 m3 d3] 43) = w1 := ⟨_, rfl⟩
  have Hb1 : Hid (Below w.heap.size w w1) := hid_ (by rw [← hw1]; exact below_alloc _ _)
  have HW1 := hid_ hw1
  have HQ := hid_ (fun W (hW : Below w1.heap.size w1 W) => box8 HW1.out hW)
  have HR := hid_ (fun W (hW : Below w1.heap.size w1 W) => (Hr.out.below Hb1.out (Nat.le_refl _)).below hW (Nat.le_refl _))
  have HS := hid_ (fun W (hW : Below w1.heap.size w1 W) => (Hs.out.below Hb1.out (Nat.le_refl _)).below hW (Nat.le_refl _))
  have HK := hid_ known_calls
  have hb1 : Below w1.heap.size w1 w1 := Below.refl _ _
  obtain ⟨q0, q1, q2, q3, q4, q5, q6, q7⟩ := HQ.out w1 hb1
  have HI := hid_ (fun W (hW : Below w1.heap.size w1 W) => (h.below Hb1.out (Nat.le_refl _)).below hW (Nat.le_refl _))
  clear h
  have HG0 : Hid (∀ W, Below w1.heap.size w1 W → Calls Try.prog 28 #[.agg #[.int .i64 R.f, .slice a1 n1 c1, .slice a2 n2 c2, .slice a3 n3 c3]] W fun e w' => e = .returned (.bool (bigR R)) ∧ Below W.heap.size W w') := hid_ (fun W hW => long_calls _ R W (HR.out W hW))
  have HG1 : Hid (∀ W, Below w1.heap.size w1 W → Calls Try.prog 28 #[.agg #[.int .i64 S.f, .slice b1 m1 d1, .slice b2 m2 d2, .slice b3 m3 d3]] W fun e w' => e = .returned (.bool (bigR S)) ∧ Below W.heap.size W w') := hid_ (fun W hW => long_calls _ S W (HS.out W hW))
  have HG2 : Hid (∀ W, Below w1.heap.size w1 W → Calls Try.prog 29 #[.slice a n c] W fun e w' => e = .returned (.bool (bigOne l)) ∧ Below W.heap.size W w') := hid_ (fun W hW => (large_calls a n c l W (HI.out W hW)).mono (fun _ _ ⟨he, hm⟩ => ⟨he, below_same hm⟩))
  cases hg0 : bigR R with
  | true =>
    rw [hg0] at HG0
    go_enter Try.func13, Try.ntmps13
    go_wp2_with (first
      | (go_at_call 28; (with_reducible refine (HG0.out _ hb1).mono ?_); rintro e wg0 ⟨rfl, hcg0⟩; have hbg0 := hcg0)
      | (go_at_call 30; refine (HK.out _).mono ?_; rintro e wk ⟨rfl, hck⟩))
    go_ret
    exact ⟨rfl, Hb1.out.trans ((hbg0.trans (hck.mono hbg0.size)).mono Hb1.out.size)⟩
  | false =>
    rw [hg0] at HG0
    cases hg1 : bigR S with
    | true =>
      rw [hg1] at HG1
      go_enter Try.func13, Try.ntmps13
      go_wp2_with (first
        | (go_at_call 28; (with_reducible refine (HG0.out _ hb1).mono ?_); rintro e wg0 ⟨rfl, hcg0⟩; have hbg0 := hcg0; obtain ⟨q0, q1, q2, q3, q4, q5, q6, q7⟩ := HQ.out wg0 hbg0)
        | (go_at_call 28; (with_reducible refine (HG1.out _ hbg0).mono ?_); rintro e wg1 ⟨rfl, hcg1⟩; have hbg1 := hbg0.trans (hcg1.mono hbg0.size))
        | (go_at_call 30; refine (HK.out _).mono ?_; rintro e wk ⟨rfl, hck⟩))
      go_ret
      exact ⟨rfl, Hb1.out.trans ((hbg1.trans (hck.mono hbg1.size)).mono Hb1.out.size)⟩
    | false =>
      rw [hg1] at HG1
      cases hg2 : bigOne l with
      | true =>
        rw [hg2] at HG2
        go_enter Try.func13, Try.ntmps13
        go_wp2_with (first
          | (go_at_call 28; (with_reducible refine (HG0.out _ hb1).mono ?_); rintro e wg0 ⟨rfl, hcg0⟩; have hbg0 := hcg0; obtain ⟨q0, q1, q2, q3, q4, q5, q6, q7⟩ := HQ.out wg0 hbg0)
          | (go_at_call 28; (with_reducible refine (HG1.out _ hbg0).mono ?_); rintro e wg1 ⟨rfl, hcg1⟩; have hbg1 := hbg0.trans (hcg1.mono hbg0.size); obtain ⟨q0, q1, q2, q3, q4, q5, q6, q7⟩ := HQ.out wg1 hbg1)
          | (go_at_call 29; (with_reducible refine (HG2.out _ hbg1).mono ?_); rintro e wg2 ⟨rfl, hcg2⟩; have hbg2 := hbg1.trans (hcg2.mono hbg1.size))
          | (go_at_call 30; refine (HK.out _).mono ?_; rintro e wk ⟨rfl, hck⟩))
        go_ret
        exact ⟨rfl, Hb1.out.trans ((hbg2.trans (hck.mono hbg2.size)).mono Hb1.out.size)⟩
      | false =>
        rw [hg2] at HG2
        have HP := hid_ (fun W hW => ruCommute_calls _ _ R S a n c l W (HR.out W hW) (HS.out W hW) (HI.out W hW))
        have HF := hid_ (fun W hW => r2Commute_calls _ _ R S a n c l W (HR.out W hW) (HS.out W hW) (HI.out W hW))
        have HG := hid_ (fun W hW => ruCommute_calls _ _ S R a n c l W (HS.out W hW) (HR.out W hW) (HI.out W hW))
        by_cases he : comE R S l = 0
        · obtain ⟨y1, y2⟩ := com_swap he
          rw [he] at HP HF
          rw [y1, y2] at HG
          clear he y1 y2
          generalize comB R S l = z1 at *
          cases z1
          all_goals
            go_enter Try.func13, Try.ntmps13
            go_wp2_with (first
              | (go_at_call 28; (with_reducible refine (HG0.out _ hb1).mono ?_); rintro e wg0 ⟨rfl, hcg0⟩; have hbg0 := hcg0; obtain ⟨q0, q1, q2, q3, q4, q5, q6, q7⟩ := HQ.out wg0 hbg0)
              | (go_at_call 28; (with_reducible refine (HG1.out _ hbg0).mono ?_); rintro e wg1 ⟨rfl, hcg1⟩; have hbg1 := hbg0.trans (hcg1.mono hbg0.size); obtain ⟨q0, q1, q2, q3, q4, q5, q6, q7⟩ := HQ.out wg1 hbg1)
              | (go_at_call 29; (with_reducible refine (HG2.out _ hbg1).mono ?_); rintro e wg2 ⟨rfl, hcg2⟩; have hbg2 := hbg1.trans (hcg2.mono hbg1.size); obtain ⟨q0, q1, q2, q3, q4, q5, q6, q7⟩ := HQ.out wg2 hbg2)
              | (go_at_call 57; (with_reducible refine (HP.out _ hbg2).mono ?_); rintro e w4 ⟨rfl, hc4⟩; have hb4 : Below w1.heap.size w1 w4 := hbg2.trans (hc4.mono hbg2.size); obtain ⟨q0, q1, q2, q3, q4, q5, q6, q7⟩ := HQ.out w4 hb4)
              | (go_at_call 58; (with_reducible refine (HF.out _ hb4).mono ?_); rintro e w5 ⟨rfl, hc5⟩; have hb5 : Below w1.heap.size w1 w5 := hb4.trans (hc5.mono hb4.size); obtain ⟨q0, q1, q2, q3, q4, q5, q6, q7⟩ := HQ.out w5 hb5)
              | (go_at_call 57; (with_reducible refine (HG.out _ hb5).mono ?_); rintro e w6 ⟨rfl, hc6⟩; have hb6 : Below w1.heap.size w1 w6 := hb5.trans (hc6.mono hb5.size); obtain ⟨q0, q1, q2, q3, q4, q5, q6, q7⟩ := HQ.out w6 hb6)
              | (go_at_call 30; (refine (HK.out _).mono ?_); rintro e wk ⟨rfl, hck⟩))
            go_ret
            exact ⟨rfl, Hb1.out.trans ((hb6.trans (hck.mono hb6.size)).mono Hb1.out.size)⟩
        · have hq : (comE R S l != 0) = true := by simpa using he
          clear he
          generalize comE R S l = z2 at *
          generalize comB R S l = z1 at *
          generalize comE S R l = z3 at *
          generalize comB S R l = z4 at *
          cases z1
          all_goals
            go_enter Try.func13, Try.ntmps13
            go_wp2_with (first
              | (go_at_call 28; (with_reducible refine (HG0.out _ hb1).mono ?_); rintro e wg0 ⟨rfl, hcg0⟩; have hbg0 := hcg0; obtain ⟨q0, q1, q2, q3, q4, q5, q6, q7⟩ := HQ.out wg0 hbg0)
              | (go_at_call 28; (with_reducible refine (HG1.out _ hbg0).mono ?_); rintro e wg1 ⟨rfl, hcg1⟩; have hbg1 := hbg0.trans (hcg1.mono hbg0.size); obtain ⟨q0, q1, q2, q3, q4, q5, q6, q7⟩ := HQ.out wg1 hbg1)
              | (go_at_call 29; (with_reducible refine (HG2.out _ hbg1).mono ?_); rintro e wg2 ⟨rfl, hcg2⟩; have hbg2 := hbg1.trans (hcg2.mono hbg1.size); obtain ⟨q0, q1, q2, q3, q4, q5, q6, q7⟩ := HQ.out wg2 hbg2)
              | (go_at_call 57; (with_reducible refine (HP.out _ hbg2).mono ?_); rintro e w4 ⟨rfl, hc4⟩; have hb4 : Below w1.heap.size w1 w4 := hbg2.trans (hc4.mono hbg2.size); obtain ⟨q0, q1, q2, q3, q4, q5, q6, q7⟩ := HQ.out w4 hb4)
              | (go_at_call 58; (with_reducible refine (HF.out _ hb4).mono ?_); rintro e w5 ⟨rfl, hc5⟩; have hb5 : Below w1.heap.size w1 w5 := hb4.trans (hc5.mono hb4.size); obtain ⟨q0, q1, q2, q3, q4, q5, q6, q7⟩ := HQ.out w5 hb5)
              | (go_at_call 57; (with_reducible refine (HG.out _ hb5).mono ?_); rintro e w6 ⟨rfl, hc6⟩; have hb6 : Below w1.heap.size w1 w6 := hb5.trans (hc6.mono hb5.size); obtain ⟨q0, q1, q2, q3, q4, q5, q6, q7⟩ := HQ.out w6 hb6)
              | (go_at_call 30; (refine (HK.out _).mono ?_); rintro e wk ⟨rfl, hck⟩))
            go_ret
            exact ⟨rfl, Hb1.out.trans ((hb6.trans (hck.mono hb6.size)).mono Hb1.out.size)⟩
end Go.Proofs.Ytnpdhmejnoplcaa
