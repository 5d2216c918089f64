import Derived.Test.YtnpdhmejnoplcaaLk

namespace Go.Proofs.Ytnpdhmejnoplcaa
open Go.RowKit Go.Proofs.Kv

set_option maxRecDepth 100000 in
set_option maxHeartbeats 4000000 in
theorem ruleSpecial_calls (v : Value) (R S : Rl) (a : Option Addr) (n c : Nat) (l : List Int) (w : World) (hx : TwoAt w v R S) (h : IntsAt w a n c l) :
    Calls Try.prog 9 #[v, .slice a n c] w fun e w' => e = .returned (.bool true) ∧ Below w.heap.size w w' := by
  obtain ⟨x0, x1, x2, x3, x4, x5, x6, x7, rfl, hr, hs⟩ := hx
  have Hr := hid_ hr
  have Hs := hid_ hs
  obtain ⟨a1, n1, c1, a2, n2, c2, a3, n3, c3, e1, h1, h2, h3⟩ := hr
  obtain ⟨b1, m1, d1, b2, m2, d2, b3, m3, d3, e2, h4, h5, h6⟩ := hs
  clear h1 h2 h3 h4 h5 h6
  injection e1 with e1; injection e1 with e1; injection e1 with y0 e1; injection e1 with y1 e1; injection e1 with y2 e1; injection e1 with y3 e1
  injection e2 with e2; injection e2 with e2; injection e2 with y4 e2; injection e2 with y5 e2; injection e2 with y6 e2; injection e2 with y7 e2
  subst y0 y1 y2 y3 y4 y5 y6 y7
  clear e1 e2
  obtain ⟨w1, hw1⟩ : ∃ w1, w.alloc (.cells #[.int .i64 R.f, .slice a1 n1 c1, .slice a2 n2 c2, .slice a3 n3 c3, .int .i64 S.f, .slice b1 m1 d1, .slice b2 m2 d2, .slice b3 m3 d3] 43) = w1 := ⟨_, rfl⟩
  have Hb1 : Hid (Below w.heap.size w w1) := hid_ (by rw [← hw1]; exact below_alloc _ _)
  have HW1 := hid_ hw1
  have HQ := hid_ (fun W (hW : Below w1.heap.size w1 W) => box8 HW1.out hW)
  have HR := hid_ (fun W (hW : Below w1.heap.size w1 W) => (Hr.out.below Hb1.out (Nat.le_refl _)).below hW (Nat.le_refl _))
  have HS := hid_ (fun W (hW : Below w1.heap.size w1 W) => (Hs.out.below Hb1.out (Nat.le_refl _)).below hW (Nat.le_refl _))
  have HK := hid_ known_calls
  have hb1 : Below w1.heap.size w1 w1 := Below.refl _ _
  obtain ⟨q0, q1, q2, q3, q4, q5, q6, q7⟩ := HQ.out w1 hb1
  have HI := hid_ (fun W (hW : Below w1.heap.size w1 W) => (h.below Hb1.out (Nat.le_refl _)).below hW (Nat.le_refl _))
  clear h
  have HG0 : Hid (∀ W, Below w1.heap.size w1 W → Calls Try.prog 28 #[.agg #[.int .i64 R.f, .slice a1 n1 c1, .slice a2 n2 c2, .slice a3 n3 c3]] W fun e w' => e = .returned (.bool (bigR R)) ∧ Below W.heap.size W w') := hid_ (fun W hW => long_calls _ R W (HR.out W hW))
  have HG1 : Hid (∀ W, Below w1.heap.size w1 W → Calls Try.prog 28 #[.agg #[.int .i64 S.f, .slice b1 m1 d1, .slice b2 m2 d2, .slice b3 m3 d3]] W fun e w' => e = .returned (.bool (bigR S)) ∧ Below W.heap.size W w') := hid_ (fun W hW => long_calls _ S W (HS.out W hW))
  have HG2 : Hid (∀ W, Below w1.heap.size w1 W → Calls Try.prog 29 #[.slice a n c] W fun e w' => e = .returned (.bool (bigOne l)) ∧ Below W.heap.size W w') := hid_ (fun W hW => (large_calls a n c l W (HI.out W hW)).mono (fun _ _ ⟨he, hm⟩ => ⟨he, below_same hm⟩))
  cases hg0 : bigR R with
  | true =>
    rw [hg0] at HG0
    go_enter Try.func9, Try.ntmps9
    go_wp2_with (first
      | (go_at_call 28; (with_reducible refine (HG0.out _ hb1).mono ?_); rintro e wg0 ⟨rfl, hcg0⟩; have hbg0 := hcg0)
      | (go_at_call 30; refine (HK.out _).mono ?_; rintro e wk ⟨rfl, hck⟩))
    go_ret
    exact ⟨rfl, Hb1.out.trans ((hbg0.trans (hck.mono hbg0.size)).mono Hb1.out.size)⟩
  | false =>
    rw [hg0] at HG0
    cases hg1 : bigR S with
    | true =>
      rw [hg1] at HG1
      go_enter Try.func9, Try.ntmps9
      go_wp2_with (first
        | (go_at_call 28; (with_reducible refine (HG0.out _ hb1).mono ?_); rintro e wg0 ⟨rfl, hcg0⟩; have hbg0 := hcg0; obtain ⟨q0, q1, q2, q3, q4, q5, q6, q7⟩ := HQ.out wg0 hbg0)
        | (go_at_call 28; (with_reducible refine (HG1.out _ hbg0).mono ?_); rintro e wg1 ⟨rfl, hcg1⟩; have hbg1 := hbg0.trans (hcg1.mono hbg0.size))
        | (go_at_call 30; refine (HK.out _).mono ?_; rintro e wk ⟨rfl, hck⟩))
      go_ret
      exact ⟨rfl, Hb1.out.trans ((hbg1.trans (hck.mono hbg1.size)).mono Hb1.out.size)⟩
    | false =>
      rw [hg1] at HG1
      cases hg2 : bigOne l with
      | true =>
        rw [hg2] at HG2
        go_enter Try.func9, Try.ntmps9
        go_wp2_with (first
          | (go_at_call 28; (with_reducible refine (HG0.out _ hb1).mono ?_); rintro e wg0 ⟨rfl, hcg0⟩; have hbg0 := hcg0; obtain ⟨q0, q1, q2, q3, q4, q5, q6, q7⟩ := HQ.out wg0 hbg0)
          | (go_at_call 28; (with_reducible refine (HG1.out _ hbg0).mono ?_); rintro e wg1 ⟨rfl, hcg1⟩; have hbg1 := hbg0.trans (hcg1.mono hbg0.size); obtain ⟨q0, q1, q2, q3, q4, q5, q6, q7⟩ := HQ.out wg1 hbg1)
          | (go_at_call 29; (with_reducible refine (HG2.out _ hbg1).mono ?_); rintro e wg2 ⟨rfl, hcg2⟩; have hbg2 := hbg1.trans (hcg2.mono hbg1.size))
          | (go_at_call 30; refine (HK.out _).mono ?_; rintro e wk ⟨rfl, hck⟩))
        go_ret
        exact ⟨rfl, Hb1.out.trans ((hbg2.trans (hck.mono hbg2.size)).mono Hb1.out.size)⟩
      | false =>
        rw [hg2] at HG2
        have HP := hid_ (fun W hW => ruIsSpecial_calls _ _ R S W (HR.out W hW) (HS.out W hW))
        have HF := hid_ (fun W hW => r2IsSpecial_calls _ _ R S W (HR.out W hW) (HS.out W hW))
        have HA := hid_ (fun W hW => ruPlaces_calls _ R a n c l W (HR.out W hW) (HI.out W hW))
        have HB := hid_ (fun W hW => ruPlaces_calls _ S a n c l W (HS.out W hW) (HI.out W hW))
        have HM := hid_ (@spc_part R S l)
        generalize errTwo R S = z1 at *
        cases hsp : isSpc R S with
        | false =>
          rw [hsp] at HP HF
          clear hsp HM
          generalize resPlaces R l = P1 at *
          generalize resPlaces S l = P2 at *
          generalize err2 R l = z2 at *
          generalize err2 S l = z3 at *
          go_enter Try.func9, Try.ntmps9
          go_wp2_with (first
            | (go_at_call 28; (with_reducible refine (HG0.out _ hb1).mono ?_); rintro e wg0 ⟨rfl, hcg0⟩; have hbg0 := hcg0; obtain ⟨q0, q1, q2, q3, q4, q5, q6, q7⟩ := HQ.out wg0 hbg0)
            | (go_at_call 28; (with_reducible refine (HG1.out _ hbg0).mono ?_); rintro e wg1 ⟨rfl, hcg1⟩; have hbg1 := hbg0.trans (hcg1.mono hbg0.size); obtain ⟨q0, q1, q2, q3, q4, q5, q6, q7⟩ := HQ.out wg1 hbg1)
            | (go_at_call 29; (with_reducible refine (HG2.out _ hbg1).mono ?_); rintro e wg2 ⟨rfl, hcg2⟩; have hbg2 := hbg1.trans (hcg2.mono hbg1.size); obtain ⟨q0, q1, q2, q3, q4, q5, q6, q7⟩ := HQ.out wg2 hbg2)
            | (go_at_call 48; (with_reducible refine (HP.out _ hbg2).mono ?_); rintro e w4 ⟨rfl, hc4⟩; have hb4 : Below w1.heap.size w1 w4 := hbg2.trans (hc4.mono hbg2.size); obtain ⟨q0, q1, q2, q3, q4, q5, q6, q7⟩ := HQ.out w4 hb4)
            | (go_at_call 49; (with_reducible refine (HF.out _ hb4).mono ?_); rintro e w5 ⟨rfl, hc5⟩; have hb5 : Below w1.heap.size w1 w5 := hb4.trans (hc5.mono hb4.size); obtain ⟨q0, q1, q2, q3, q4, q5, q6, q7⟩ := HQ.out w5 hb5)
            | (go_at_call 31; (with_reducible refine (HA.out _ hb5).mono ?_); rintro e w6 ⟨v6, rfl, hm6⟩; have hb6 : Below w1.heap.size w1 w6 := hb5.trans (hm6.bel.mono hb5.size); obtain ⟨q0, q1, q2, q3, q4, q5, q6, q7⟩ := HQ.out w6 hb6; obtain ⟨ax, cx, rfl, hix⟩ := hm6.at_; have Hx := hid_ hix; clear hix)
            | (go_at_call 31; (with_reducible refine (HB.out _ hb6).mono ?_); rintro e w7 ⟨v7, rfl, hm7⟩; have hb7 : Below w1.heap.size w1 w7 := hb6.trans (hm7.bel.mono hb6.size); obtain ⟨q0, q1, q2, q3, q4, q5, q6, q7⟩ := HQ.out w7 hb7; obtain ⟨ay, cy, rfl, hiy⟩ := hm7.at_; have Hy := hid_ hiy; clear hiy)
            | (go_at_call 30; (refine (HK.out _).mono ?_); rintro e wk ⟨rfl, hck⟩))
          go_ret
          exact ⟨rfl, Hb1.out.trans ((hb7.trans (hck.mono hb7.size)).mono Hb1.out.size)⟩
        | true =>
          rw [hsp] at HP HF
          by_cases he : err2 R l = 0
          · obtain ⟨e1, e2⟩ := HM.out hsp he
            have p1 : resPlaces R l = plP R l := if_pos he
            have p2 : resPlaces S l = plP S l := if_pos e1
            rw [he, p1] at HA
            rw [e1, p2] at HB
            clear he e1 p1 p2 hsp HM
            generalize plP R l = P1 at *
            generalize plP S l = P2 at *
            have HPt := hid_ (fun W a c a' c' (h : IntsAt W a P1.length c P1) (h' : IntsAt W a' P2.length c' P2) => part_calls a _ c P1 a' _ c' P2 W h h')
            rw [e2] at HPt
            clear e2
            go_enter Try.func9, Try.ntmps9
            go_wp2_with (first
              | (go_at_call 28; (with_reducible refine (HG0.out _ hb1).mono ?_); rintro e wg0 ⟨rfl, hcg0⟩; have hbg0 := hcg0; obtain ⟨q0, q1, q2, q3, q4, q5, q6, q7⟩ := HQ.out wg0 hbg0)
              | (go_at_call 28; (with_reducible refine (HG1.out _ hbg0).mono ?_); rintro e wg1 ⟨rfl, hcg1⟩; have hbg1 := hbg0.trans (hcg1.mono hbg0.size); obtain ⟨q0, q1, q2, q3, q4, q5, q6, q7⟩ := HQ.out wg1 hbg1)
              | (go_at_call 29; (with_reducible refine (HG2.out _ hbg1).mono ?_); rintro e wg2 ⟨rfl, hcg2⟩; have hbg2 := hbg1.trans (hcg2.mono hbg1.size); obtain ⟨q0, q1, q2, q3, q4, q5, q6, q7⟩ := HQ.out wg2 hbg2)
              | (go_at_call 48; (with_reducible refine (HP.out _ hbg2).mono ?_); rintro e w4 ⟨rfl, hc4⟩; have hb4 : Below w1.heap.size w1 w4 := hbg2.trans (hc4.mono hbg2.size); obtain ⟨q0, q1, q2, q3, q4, q5, q6, q7⟩ := HQ.out w4 hb4)
              | (go_at_call 49; (with_reducible refine (HF.out _ hb4).mono ?_); rintro e w5 ⟨rfl, hc5⟩; have hb5 : Below w1.heap.size w1 w5 := hb4.trans (hc5.mono hb4.size); obtain ⟨q0, q1, q2, q3, q4, q5, q6, q7⟩ := HQ.out w5 hb5)
              | (go_at_call 31; (with_reducible refine (HA.out _ hb5).mono ?_); rintro e w6 ⟨v6, rfl, hm6⟩; have hb6 : Below w1.heap.size w1 w6 := hb5.trans (hm6.bel.mono hb5.size); obtain ⟨q0, q1, q2, q3, q4, q5, q6, q7⟩ := HQ.out w6 hb6; obtain ⟨ax, cx, rfl, hix⟩ := hm6.at_; have Hx := hid_ hix; clear hix)
              | (go_at_call 31; (with_reducible refine (HB.out _ hb6).mono ?_); rintro e w7 ⟨v7, rfl, hm7⟩; have hb7 : Below w1.heap.size w1 w7 := hb6.trans (hm7.bel.mono hb6.size); obtain ⟨q0, q1, q2, q3, q4, q5, q6, q7⟩ := HQ.out w7 hb7; obtain ⟨ay, cy, rfl, hiy⟩ := hm7.at_; have Hy := hid_ hiy; clear hiy)
              | (go_at_call 50; (with_reducible refine (HPt.out _ _ _ _ _ (Hx.out.below hm7.bel (Nat.le_refl _)) Hy.out).mono ?_); rintro e w8 ⟨rfl, rfl⟩)
              | (go_at_call 30; (refine (HK.out _).mono ?_); rintro e wk ⟨rfl, hck⟩))
            go_ret
            exact ⟨rfl, Hb1.out.trans ((hb7.trans (hck.mono hb7.size)).mono Hb1.out.size)⟩
          · have hq : (err2 R l != 0) = true := by simpa using he
            clear hsp HM he
            generalize resPlaces R l = P1 at *
            generalize resPlaces S l = P2 at *
            generalize err2 R l = z2 at *
            generalize err2 S l = z3 at *
            go_enter Try.func9, Try.ntmps9
            go_wp2_with (first
              | (go_at_call 28; (with_reducible refine (HG0.out _ hb1).mono ?_); rintro e wg0 ⟨rfl, hcg0⟩; have hbg0 := hcg0; obtain ⟨q0, q1, q2, q3, q4, q5, q6, q7⟩ := HQ.out wg0 hbg0)
              | (go_at_call 28; (with_reducible refine (HG1.out _ hbg0).mono ?_); rintro e wg1 ⟨rfl, hcg1⟩; have hbg1 := hbg0.trans (hcg1.mono hbg0.size); obtain ⟨q0, q1, q2, q3, q4, q5, q6, q7⟩ := HQ.out wg1 hbg1)
              | (go_at_call 29; (with_reducible refine (HG2.out _ hbg1).mono ?_); rintro e wg2 ⟨rfl, hcg2⟩; have hbg2 := hbg1.trans (hcg2.mono hbg1.size); obtain ⟨q0, q1, q2, q3, q4, q5, q6, q7⟩ := HQ.out wg2 hbg2)
              | (go_at_call 48; (with_reducible refine (HP.out _ hbg2).mono ?_); rintro e w4 ⟨rfl, hc4⟩; have hb4 : Below w1.heap.size w1 w4 := hbg2.trans (hc4.mono hbg2.size); obtain ⟨q0, q1, q2, q3, q4, q5, q6, q7⟩ := HQ.out w4 hb4)
              | (go_at_call 49; (with_reducible refine (HF.out _ hb4).mono ?_); rintro e w5 ⟨rfl, hc5⟩; have hb5 : Below w1.heap.size w1 w5 := hb4.trans (hc5.mono hb4.size); obtain ⟨q0, q1, q2, q3, q4, q5, q6, q7⟩ := HQ.out w5 hb5)
              | (go_at_call 31; (with_reducible refine (HA.out _ hb5).mono ?_); rintro e w6 ⟨v6, rfl, hm6⟩; have hb6 : Below w1.heap.size w1 w6 := hb5.trans (hm6.bel.mono hb5.size); obtain ⟨q0, q1, q2, q3, q4, q5, q6, q7⟩ := HQ.out w6 hb6; obtain ⟨ax, cx, rfl, hix⟩ := hm6.at_; have Hx := hid_ hix; clear hix)
              | (go_at_call 31; (with_reducible refine (HB.out _ hb6).mono ?_); rintro e w7 ⟨v7, rfl, hm7⟩; have hb7 : Below w1.heap.size w1 w7 := hb6.trans (hm7.bel.mono hb6.size); obtain ⟨q0, q1, q2, q3, q4, q5, q6, q7⟩ := HQ.out w7 hb7; obtain ⟨ay, cy, rfl, hiy⟩ := hm7.at_; have Hy := hid_ hiy; clear hiy)
              | (go_at_call 30; (refine (HK.out _).mono ?_); rintro e wk ⟨rfl, hck⟩))
            go_ret
            exact ⟨rfl, Hb1.out.trans ((hb7.trans (hck.mono hb7.size)).mono Hb1.out.size)⟩
end Go.Proofs.Ytnpdhmejnoplcaa
