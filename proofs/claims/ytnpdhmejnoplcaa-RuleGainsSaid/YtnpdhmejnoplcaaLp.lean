import Derived.Test.YtnpdhmejnoplcaaLk
import Derived.Test.YtnpdhmejnoplcaaPu
import Derived.Test.YtnpdhmejnoplcaaRt
namespace Go.Proofs.Ytnpdhmejnoplcaa
open Go.RowKit Go.Proofs.Kv

theorem gain_ok {R S : Rl} {l : List Int} {p : Int} (h : errGain R S l p = 0) :
    errApply R l p = 0 ∧ err2 S l = 0 ∧ err2 S (resApply R l p) = 0 ∧ resGain R S l p = ((plP S (resApply R l p)).length : Int) - (plP S l).length ∧ (resApply R l p).length ≤ 8 ∧ l.length ≤ 8 := by
  have hg : resGain R S l p = ((plP S (resApply R l p)).length : Int) - (plP S l).length := by rw [resGain, if_pos h]
  have ht : errTwo R S = 0 := by
    by_cases ht : errTwo R S = 0
    · exact ht
    · rw [errGain, if_neg ht] at h; exact absurd h ht
  have ha : errApply R l p = 0 := by rwa [errGain, if_pos ht] at h
  have he : err2 R l = 0 := by
    by_cases he : err2 R l = 0
    · exact he
    · rw [errApply, if_neg he] at ha; exact absurd ha he
  have hw := (err2_ok he).2
  have h3 : apE R l p = 0 := by rwa [errApply, if_pos he] at ha
  have hr : resApply R l p = apV R l p := by rw [resApply, if_pos he]
  obtain ⟨k1, k2⟩ := apV_ok h3 (validR_ok (err2_ok he).1).2.2.2.1 (validW_ok hw).2
  have hv : validW (apV R l p) = 0 := by rw [validW, if_neg (by omega), k1]; rfl
  have hs := (errTwo_ok ht).2
  exact ⟨ha, by rw [err2, if_pos hs]; exact hw, by rw [err2, if_pos hs, hr]; exact hv, hg, by rw [hr]; exact k2, (validW_ok hw).1⟩

set_option maxRecDepth 100000 in
set_option maxHeartbeats 4000000 in
theorem ruleGains_calls (v : Value) (R S : Rl) (a : Option Addr) (n c : Nat) (l : List Int) (p : Int) (w : World) (hx : TwoAt w v R S) (h : IntsAt w a n c l) :
    Calls Try.prog 12 #[v, .slice a n c, .int .i64 p] w fun e w' => e = .returned (.bool true) ∧ Below w.heap.size w w' := by
  obtain ⟨x0, x1, x2, x3, x4, x5, x6, x7, rfl, hr, hs⟩ := hx
  have Hr := hid_ hr
  have Hs := hid_ hs
  obtain ⟨a1, n1, c1, a2, n2, c2, a3, n3, c3, e1, h1, h2, h3⟩ := hr
  obtain ⟨b1, m1, d1, b2, m2, d2, b3, m3, d3, e2, h4, h5, h6⟩ := hs
  clear h1 h2 h3 h4 h5 h6
  injection e1 with e1; injection e1 with e1; injection e1 with y0 e1; injection e1 with y1 e1; injection e1 with y2 e1; injection e1 with y3 e1
  injection e2 with e2; injection e2 with e2; injection e2 with y4 e2; injection e2 with y5 e2; injection e2 with y6 e2; injection e2 with y7 e2
  subst y0 y1 y2 y3 y4 y5 y6 y7
  clear e1 e2
  obtain ⟨w1, hw1⟩ : ∃ w1, w.alloc (.cells #[.int .i64 R.f, .slice a1 n1 c1, .slice a2 n2 c2, .slice a3 n3 c3, .int .i64 S.f, .slice b1 m1 d1, .slice b2 m2 d2, .slice b3 m3 d3] 43) = w1 := ⟨_, rfl⟩
  have Hb1 : Hid (Below w.heap.size w w1) := hid_ (by rw [← hw1]; exact below_alloc _ _)
  have HW1 := hid_ hw1
  have HQ := hid_ (fun W (hW : Below w1.heap.size w1 W) => box8 HW1.out hW)
  have HR := hid_ (fun W (hW : Below w1.heap.size w1 W) => (Hr.out.below Hb1.out (Nat.le_refl _)).below hW (Nat.le_refl _))
  have HS := hid_ (fun W (hW : Below w1.heap.size w1 W) => (Hs.out.below Hb1.out (Nat.le_refl _)).below hW (Nat.le_refl _))
  have HK := hid_ known_calls
  have hb1 : Below w1.heap.size w1 w1 := Below.refl _ _
  obtain ⟨q0, q1, q2, q3, q4, q5, q6, q7⟩ := HQ.out w1 hb1
  have HI := hid_ (fun W (hW : Below w1.heap.size w1 W) => (h.below Hb1.out (Nat.le_refl _)).below hW (Nat.le_refl _))
  clear h
  have HG0 : Hid (∀ W, Below w1.heap.size w1 W → Calls Try.prog 28 #[.agg #[.int .i64 R.f, .slice a1 n1 c1, .slice a2 n2 c2, .slice a3 n3 c3]] W fun e w' => e = .returned (.bool (bigR R)) ∧ Below W.heap.size W w') := hid_ (fun W hW => long_calls _ R W (HR.out W hW))
  have HG1 : Hid (∀ W, Below w1.heap.size w1 W → Calls Try.prog 28 #[.agg #[.int .i64 S.f, .slice b1 m1 d1, .slice b2 m2 d2, .slice b3 m3 d3]] W fun e w' => e = .returned (.bool (bigR S)) ∧ Below W.heap.size W w') := hid_ (fun W hW => long_calls _ S W (HS.out W hW))
  have HG2 : Hid (∀ W, Below w1.heap.size w1 W → Calls Try.prog 29 #[.slice a n c] W fun e w' => e = .returned (.bool (bigOne l)) ∧ Below W.heap.size W w') := hid_ (fun W hW => (large_calls a n c l W (HI.out W hW)).mono (fun _ _ ⟨he, hm⟩ => ⟨he, below_same hm⟩))
  cases hg0 : bigR R with
  | true =>
    rw [hg0] at HG0
    go_enter Try.func12, Try.ntmps12
    go_wp2_with (first
      | (go_at_call 28; (with_reducible refine (HG0.out _ hb1).mono ?_); rintro e wg0 ⟨rfl, hcg0⟩; have hbg0 := hcg0)
      | (go_at_call 30; refine (HK.out _).mono ?_; rintro e wk ⟨rfl, hck⟩))
    go_ret
    exact ⟨rfl, Hb1.out.trans ((hbg0.trans (hck.mono hbg0.size)).mono Hb1.out.size)⟩
  | false =>
    rw [hg0] at HG0
    cases hg1 : bigR S with
    | true =>
      rw [hg1] at HG1
      go_enter Try.func12, Try.ntmps12
      go_wp2_with (first
        | (go_at_call 28; (with_reducible refine (HG0.out _ hb1).mono ?_); rintro e wg0 ⟨rfl, hcg0⟩; have hbg0 := hcg0; obtain ⟨q0, q1, q2, q3, q4, q5, q6, q7⟩ := HQ.out wg0 hbg0)
        | (go_at_call 28; (with_reducible refine (HG1.out _ hbg0).mono ?_); rintro e wg1 ⟨rfl, hcg1⟩; have hbg1 := hbg0.trans (hcg1.mono hbg0.size))
        | (go_at_call 30; refine (HK.out _).mono ?_; rintro e wk ⟨rfl, hck⟩))
      go_ret
      exact ⟨rfl, Hb1.out.trans ((hbg1.trans (hck.mono hbg1.size)).mono Hb1.out.size)⟩
    | false =>
      rw [hg1] at HG1
      cases hg2 : bigOne l with
      | true =>
        rw [hg2] at HG2
        go_enter Try.func12, Try.ntmps12
        go_wp2_with (first
          | (go_at_call 28; (with_reducible refine (HG0.out _ hb1).mono ?_); rintro e wg0 ⟨rfl, hcg0⟩; have hbg0 := hcg0; obtain ⟨q0, q1, q2, q3, q4, q5, q6, q7⟩ := HQ.out wg0 hbg0)
          | (go_at_call 28; (with_reducible refine (HG1.out _ hbg0).mono ?_); rintro e wg1 ⟨rfl, hcg1⟩; have hbg1 := hbg0.trans (hcg1.mono hbg0.size); obtain ⟨q0, q1, q2, q3, q4, q5, q6, q7⟩ := HQ.out wg1 hbg1)
          | (go_at_call 29; (with_reducible refine (HG2.out _ hbg1).mono ?_); rintro e wg2 ⟨rfl, hcg2⟩; have hbg2 := hbg1.trans (hcg2.mono hbg1.size))
          | (go_at_call 30; refine (HK.out _).mono ?_; rintro e wk ⟨rfl, hck⟩))
        go_ret
        exact ⟨rfl, Hb1.out.trans ((hbg2.trans (hck.mono hbg2.size)).mono Hb1.out.size)⟩
      | false =>
        rw [hg2] at HG2
        have HP := hid_ (fun W hW => ruGain_calls _ _ R S a n c l p W (HR.out W hW) (HS.out W hW) (HI.out W hW))
        have HF := hid_ (fun W hW => r2Gain_calls _ _ R S a n c l p W (HR.out W hW) (HS.out W hW) (HI.out W hW))
        by_cases he : errGain R S l p = 0
        · obtain ⟨y1, y2, y3, y4, y5, y6⟩ := gain_ok he
          have HA := hid_ (fun W hW => ruApply_calls _ R a n c l p W (HR.out W hW) (HI.out W hW))
          have HB := hid_ (fun W hW => ruPlaces_calls _ S a n c l W (HS.out W hW) (HI.out W hW))
          have HC := hid_ (fun W hW a c (hi : IntsAt W a (resApply R l p).length c (resApply R l p)) => ruPlaces_calls _ S a _ c (resApply R l p) W (HS.out W hW) hi)
          have p1 : resPlaces S l = plP S l := if_pos y2
          have p2 : resPlaces S (resApply R l p) = plP S (resApply R l p) := if_pos y3
          have hl1 : (plP S (resApply R l p)).length ≤ 9 := Nat.le_trans plP_len (by omega)
          have hl2 : (plP S l).length ≤ 9 := Nat.le_trans plP_len (by omega)
          rw [he, y4] at HP HF
          rw [y1] at HA
          rw [y2, p1] at HB
          rw [y3, p2] at HC
          clear he y1 y2 y3 y4 y5 y6 p1 p2
          generalize plP S (resApply R l p) = M at *
          generalize plP S l = L at *
          generalize resApply R l p = V at *
          have hwr : IntKind.i64.wrap ((M.length : Int) - (L.length : Int)) = (M.length : Int) - (L.length : Int) := IntWalk.i64_in _ (by omega)
          go_enter Try.func12, Try.ntmps12
          go_wp2_with (first
            | (go_at_call 28; (with_reducible refine (HG0.out _ hb1).mono ?_); rintro e wg0 ⟨rfl, hcg0⟩; have hbg0 := hcg0; obtain ⟨q0, q1, q2, q3, q4, q5, q6, q7⟩ := HQ.out wg0 hbg0)
            | (go_at_call 28; (with_reducible refine (HG1.out _ hbg0).mono ?_); rintro e wg1 ⟨rfl, hcg1⟩; have hbg1 := hbg0.trans (hcg1.mono hbg0.size); obtain ⟨q0, q1, q2, q3, q4, q5, q6, q7⟩ := HQ.out wg1 hbg1)
            | (go_at_call 29; (with_reducible refine (HG2.out _ hbg1).mono ?_); rintro e wg2 ⟨rfl, hcg2⟩; have hbg2 := hbg1.trans (hcg2.mono hbg1.size); obtain ⟨q0, q1, q2, q3, q4, q5, q6, q7⟩ := HQ.out wg2 hbg2)
            | (go_at_call 55; (with_reducible refine (HP.out _ hbg2).mono ?_); rintro e w4 ⟨rfl, hc4⟩; have hb4 : Below w1.heap.size w1 w4 := hbg2.trans (hc4.mono hbg2.size); obtain ⟨q0, q1, q2, q3, q4, q5, q6, q7⟩ := HQ.out w4 hb4)
            | (go_at_call 56; (with_reducible refine (HF.out _ hb4).mono ?_); rintro e w5 ⟨rfl, hc5⟩; have hb5 : Below w1.heap.size w1 w5 := hb4.trans (hc5.mono hb4.size); obtain ⟨q0, q1, q2, q3, q4, q5, q6, q7⟩ := HQ.out w5 hb5)
            | (go_at_call 38; (with_reducible refine (HA.out _ hb5).mono ?_); rintro e w6 ⟨v6, rfl, hm6⟩; have hb6 : Below w1.heap.size w1 w6 := hb5.trans (hm6.bel.mono hb5.size); obtain ⟨q0, q1, q2, q3, q4, q5, q6, q7⟩ := HQ.out w6 hb6; obtain ⟨ax, cx, rfl, hix⟩ := hm6.at_; have Hx := hid_ hix; clear hix)
            | (go_at_call 31; (with_reducible refine (HB.out _ hb6).mono ?_); rintro e w7 ⟨v7, rfl, hm7⟩; have hb7 : Below w1.heap.size w1 w7 := hb6.trans (hm7.bel.mono hb6.size); obtain ⟨q0, q1, q2, q3, q4, q5, q6, q7⟩ := HQ.out w7 hb7; obtain ⟨ay, cy, rfl, hiy⟩ := hm7.at_; have Hy := hid_ hiy; clear hiy)
            | (go_at_call 31; (with_reducible refine (HC.out _ hb7 _ _ (Hx.out.below hm7.bel (Nat.le_refl _))).mono ?_); rintro e w8 ⟨v8, rfl, hm8⟩; have hb8 : Below w1.heap.size w1 w8 := hb7.trans (hm8.bel.mono hb7.size); obtain ⟨q0, q1, q2, q3, q4, q5, q6, q7⟩ := HQ.out w8 hb8; obtain ⟨az, cz, rfl, hiz⟩ := hm8.at_; have Hz := hid_ hiz; clear hiz)
            | (go_at_call 30; (refine (HK.out _).mono ?_); rintro e wk ⟨rfl, hck⟩))
          go_ret
          exact ⟨rfl, Hb1.out.trans ((hb8.trans (hck.mono hb8.size)).mono Hb1.out.size)⟩
        · have hq : (errGain R S l p != 0) = true := by simpa using he
          generalize errGain R S l p = z1 at *
          generalize resGain R S l p = z2 at *
          clear he
          go_enter Try.func12, Try.ntmps12
          go_wp2_with (first
            | (go_at_call 28; (with_reducible refine (HG0.out _ hb1).mono ?_); rintro e wg0 ⟨rfl, hcg0⟩; have hbg0 := hcg0; obtain ⟨q0, q1, q2, q3, q4, q5, q6, q7⟩ := HQ.out wg0 hbg0)
            | (go_at_call 28; (with_reducible refine (HG1.out _ hbg0).mono ?_); rintro e wg1 ⟨rfl, hcg1⟩; have hbg1 := hbg0.trans (hcg1.mono hbg0.size); obtain ⟨q0, q1, q2, q3, q4, q5, q6, q7⟩ := HQ.out wg1 hbg1)
            | (go_at_call 29; (with_reducible refine (HG2.out _ hbg1).mono ?_); rintro e wg2 ⟨rfl, hcg2⟩; have hbg2 := hbg1.trans (hcg2.mono hbg1.size); obtain ⟨q0, q1, q2, q3, q4, q5, q6, q7⟩ := HQ.out wg2 hbg2)
            | (go_at_call 55; (with_reducible refine (HP.out _ hbg2).mono ?_); rintro e w4 ⟨rfl, hc4⟩; have hb4 : Below w1.heap.size w1 w4 := hbg2.trans (hc4.mono hbg2.size); obtain ⟨q0, q1, q2, q3, q4, q5, q6, q7⟩ := HQ.out w4 hb4)
            | (go_at_call 56; (with_reducible refine (HF.out _ hb4).mono ?_); rintro e w5 ⟨rfl, hc5⟩; have hb5 : Below w1.heap.size w1 w5 := hb4.trans (hc5.mono hb4.size); obtain ⟨q0, q1, q2, q3, q4, q5, q6, q7⟩ := HQ.out w5 hb5)
            | (go_at_call 30; (refine (HK.out _).mono ?_); rintro e wk ⟨rfl, hck⟩))
          go_ret
          exact ⟨rfl, Hb1.out.trans ((hb5.trans (hck.mono hb5.size)).mono Hb1.out.size)⟩
end Go.Proofs.Ytnpdhmejnoplcaa
