import Derived.Test.YteaggabafeedhaaLa
import Derived.Test.YteaggabafeedhaaLd
import Derived.Test.YteaggabafeedhaaRn
import Derived.Test.YteaggabafeedhaaMa
namespace Go.Proofs.Yteaggabafeedhaa
open Go.RowKit Go.Proofs.Kv

set_option maxRecDepth 100000 in
set_option maxHeartbeats 4000000 in
theorem ruleAlong_calls (v : Value) (R : Rl) (a : Option Addr) (n c : Nat) (l : List Int) (w : World) (hr : RuleAt w v R) (h : IntsAt w a n c l) :
    Calls Try.prog 7 #[v, .slice a n c] w fun e w' => e = .returned (.bool true) ∧ Below w.heap.size w w' := by
  have Hr := hid_ hr
  obtain ⟨a1, n1, c1, a2, n2, c2, a3, n3, c3, rfl, h1, h2, h3⟩ := hr
  clear h1 h2 h3
  obtain ⟨w1, hw1⟩ : ∃ w1, w.alloc (.cells #[.int .i64 R.f, .slice a1 n1 c1, .slice a2 n2 c2, .slice a3 n3 c3] 24) = w1 := ⟨_, rfl⟩
  have Hb1 : Hid (Below w.heap.size w w1) := hid_ (by rw [← hw1]; exact below_alloc _ _)
  have HW1 := hid_ hw1
  have HQ := hid_ (fun W (hW : Below w1.heap.size w1 W) => box4 HW1.out hW)
  have HR := hid_ (fun W (hW : Below w1.heap.size w1 W) => (Hr.out.below Hb1.out (Nat.le_refl _)).below hW (Nat.le_refl _))
  have HK := hid_ known_calls
  have hb1 : Below w1.heap.size w1 w1 := Below.refl _ _
  obtain ⟨q0, q1, q2, q3⟩ := HQ.out w1 hb1
  have HL2 : Hid (R.le.length = n2) := hid_ (by obtain ⟨_, _, _, _, _, _, _, _, _, e, _, h2, _⟩ := Hr.out; injection e with e; simp at e; have := h2.len; omega)
  have HL3 : Hid (R.ri.length = n3) := hid_ (by obtain ⟨_, _, _, _, _, _, _, _, _, e, _, _, h3⟩ := Hr.out; injection e with e; simp at e; have := h3.len; omega)
  have HI := hid_ (fun W (hW : Below w1.heap.size w1 W) => (h.below Hb1.out (Nat.le_refl _)).below hW (Nat.le_refl _))
  clear h
  have HG0 : Hid (∀ W, Below w1.heap.size w1 W → Calls Try.prog 18 #[.agg #[.int .i64 R.f, .slice a1 n1 c1, .slice a2 n2 c2, .slice a3 n3 c3]] W fun e w' => e = .returned (.bool (bigR R)) ∧ Below W.heap.size W w') := hid_ (fun W hW => long_calls _ R W (HR.out W hW))
  have HG1 : Hid (∀ W, Below w1.heap.size w1 W → Calls Try.prog 19 #[.slice a n c] W fun e w' => e = .returned (.bool (bigOne l)) ∧ Below W.heap.size W w') := hid_ (fun W hW => (large_calls a n c l W (HI.out W hW)).mono (fun _ _ ⟨he, hm⟩ => ⟨he, below_same hm⟩))
  cases hg0 : bigR R with
  | true =>
    rw [hg0] at HG0
    go_enter Try.func7, Try.ntmps7
    go_wp2_with (first
      | (go_at_call 18; refine (HG0.out _ hb1).mono ?_; rintro e wg0 ⟨rfl, hcg0⟩; have hbg0 := hcg0)
      | (go_at_call 20; refine (HK.out _).mono ?_; rintro e wk ⟨rfl, hck⟩))
    go_ret
    exact ⟨rfl, Hb1.out.trans ((hbg0.trans (hck.mono hbg0.size)).mono Hb1.out.size)⟩
  | false =>
    rw [hg0] at HG0
    cases hg1 : bigOne l with
    | true =>
      rw [hg1] at HG1
      go_enter Try.func7, Try.ntmps7
      go_wp2_with (first
        | (go_at_call 18; refine (HG0.out _ hb1).mono ?_; rintro e wg0 ⟨rfl, hcg0⟩; have hbg0 := hcg0; obtain ⟨q0, q1, q2, q3⟩ := HQ.out wg0 hbg0)
        | (go_at_call 19; refine (HG1.out _ hbg0).mono ?_; rintro e wg1 ⟨rfl, hcg1⟩; have hbg1 := hbg0.trans (hcg1.mono hbg0.size))
        | (go_at_call 20; refine (HK.out _).mono ?_; rintro e wk ⟨rfl, hck⟩))
      go_ret
      exact ⟨rfl, Hb1.out.trans ((hbg1.trans (hck.mono hbg1.size)).mono Hb1.out.size)⟩
    | false =>
      rw [hg1] at HG1
      have HP := hid_ (fun W hW => ruAlong_calls _ R a n c l W (HR.out W hW) (HI.out W hW))
      have HF := hid_ (fun W hW => refAlong_calls _ R a n c l W (HR.out W hW) (HI.out W hW))
      have HA := hid_ (fun W hW => ruAtAll_calls _ R a n c l W (HR.out W hW) (HI.out W hW))
      have HSm := hid_ (fun W a n c l a' n' c' h h' => sameT_calls a n c l a' n' c' W h h')
      by_cases hf : R.f < 0
      · generalize resAlong R l = m1 at *
        generalize errAlong R l = x1 at *
        generalize resAll R l = m2 at *
        generalize errAll R l = x2 at *
        go_enter Try.func7, Try.ntmps7
        go_wp2_with (first
          | (go_at_call 18; refine (HG0.out _ hb1).mono ?_; rintro e wg0 ⟨rfl, hcg0⟩; have hbg0 := hcg0; obtain ⟨q0, q1, q2, q3⟩ := HQ.out wg0 hbg0)
          | (go_at_call 19; refine (HG1.out _ hbg0).mono ?_; rintro e wg1 ⟨rfl, hcg1⟩; have hbg1 := hbg0.trans (hcg1.mono hbg0.size); obtain ⟨q0, q1, q2, q3⟩ := HQ.out wg1 hbg1)
          | (go_at_call 34; refine (HP.out _ hbg1).mono ?_; rintro e w4 ⟨v4, rfl, hm4⟩; have hb4 : Below w1.heap.size w1 w4 := hbg1.trans (hm4.bel.mono hbg1.size); obtain ⟨q0, q1, q2, q3⟩ := HQ.out w4 hb4; obtain ⟨ax, cx, rfl, hix⟩ := hm4.at_; have Hx := hid_ hix; clear hix)
          | (go_at_call 35; refine (HF.out _ hb4).mono ?_; rintro e w5 ⟨v5, rfl, hm5⟩; have hb5 : Below w1.heap.size w1 w5 := hb4.trans (hm5.bel.mono hb4.size); obtain ⟨q0, q1, q2, q3⟩ := HQ.out w5 hb5; obtain ⟨ay, cy, rfl, hiy⟩ := hm5.at_; have Hy := hid_ hiy; clear hiy)
          | (go_at_call 27; with_reducible refine (HSm.out _ _ _ _ _ _ _ _ (Hx.out.below hm5.bel (Nat.le_refl _)) Hy.out).mono ?_; rintro e w6 ⟨rfl, hc6⟩; have hb6 := hb5.trans (hc6.mono hb5.size); obtain ⟨q0, q1, q2, q3⟩ := HQ.out w6 hb6)
          | (go_at_call 32; refine (HA.out _ hb6).mono ?_; rintro e w7 ⟨v7, rfl, hm7⟩; have hb7 : Below w1.heap.size w1 w7 := hb6.trans (hm7.bel.mono hb6.size); obtain ⟨q0, q1, q2, q3⟩ := HQ.out w7 hb7; obtain ⟨az, cz, rfl, hiz⟩ := hm7.at_; have Hz := hid_ hiz; clear hiz)
          | (go_at_call 20; refine (HK.out _).mono ?_; rintro e wk ⟨rfl, hck⟩))
        go_ret
        exact ⟨rfl, Hb1.out.trans ((hb7.trans (hck.mono hb7.size)).mono Hb1.out.size)⟩
      · by_cases hl : 0 < n2
        · generalize resAlong R l = m1 at *
          generalize errAlong R l = x1 at *
          generalize resAll R l = m2 at *
          generalize errAll R l = x2 at *
          have hl' : (0 : Int) < (n2 : Int) := by omega
          go_enter Try.func7, Try.ntmps7
          go_wp2_with (first
            | (go_at_call 18; refine (HG0.out _ hb1).mono ?_; rintro e wg0 ⟨rfl, hcg0⟩; have hbg0 := hcg0; obtain ⟨q0, q1, q2, q3⟩ := HQ.out wg0 hbg0)
            | (go_at_call 19; refine (HG1.out _ hbg0).mono ?_; rintro e wg1 ⟨rfl, hcg1⟩; have hbg1 := hbg0.trans (hcg1.mono hbg0.size); obtain ⟨q0, q1, q2, q3⟩ := HQ.out wg1 hbg1)
            | (go_at_call 34; refine (HP.out _ hbg1).mono ?_; rintro e w4 ⟨v4, rfl, hm4⟩; have hb4 : Below w1.heap.size w1 w4 := hbg1.trans (hm4.bel.mono hbg1.size); obtain ⟨q0, q1, q2, q3⟩ := HQ.out w4 hb4; obtain ⟨ax, cx, rfl, hix⟩ := hm4.at_; have Hx := hid_ hix; clear hix)
            | (go_at_call 35; refine (HF.out _ hb4).mono ?_; rintro e w5 ⟨v5, rfl, hm5⟩; have hb5 : Below w1.heap.size w1 w5 := hb4.trans (hm5.bel.mono hb4.size); obtain ⟨q0, q1, q2, q3⟩ := HQ.out w5 hb5; obtain ⟨ay, cy, rfl, hiy⟩ := hm5.at_; have Hy := hid_ hiy; clear hiy)
            | (go_at_call 27; with_reducible refine (HSm.out _ _ _ _ _ _ _ _ (Hx.out.below hm5.bel (Nat.le_refl _)) Hy.out).mono ?_; rintro e w6 ⟨rfl, hc6⟩; have hb6 := hb5.trans (hc6.mono hb5.size); obtain ⟨q0, q1, q2, q3⟩ := HQ.out w6 hb6)
            | (go_at_call 32; refine (HA.out _ hb6).mono ?_; rintro e w7 ⟨v7, rfl, hm7⟩; have hb7 : Below w1.heap.size w1 w7 := hb6.trans (hm7.bel.mono hb6.size); obtain ⟨q0, q1, q2, q3⟩ := HQ.out w7 hb7; obtain ⟨az, cz, rfl, hiz⟩ := hm7.at_; have Hz := hid_ hiz; clear hiz)
            | (go_at_call 20; refine (HK.out _).mono ?_; rintro e wk ⟨rfl, hck⟩))
          go_ret
          exact ⟨rfl, Hb1.out.trans ((hb7.trans (hck.mono hb7.size)).mono Hb1.out.size)⟩
        · by_cases hr3 : 0 < n3
          · generalize resAlong R l = m1 at *
            generalize errAlong R l = x1 at *
            generalize resAll R l = m2 at *
            generalize errAll R l = x2 at *
            have hl' : ¬ (0 : Int) < (n2 : Int) := by omega
            have hr3' : (0 : Int) < (n3 : Int) := by omega
            go_enter Try.func7, Try.ntmps7
            go_wp2_with (first
              | (go_at_call 18; refine (HG0.out _ hb1).mono ?_; rintro e wg0 ⟨rfl, hcg0⟩; have hbg0 := hcg0; obtain ⟨q0, q1, q2, q3⟩ := HQ.out wg0 hbg0)
              | (go_at_call 19; refine (HG1.out _ hbg0).mono ?_; rintro e wg1 ⟨rfl, hcg1⟩; have hbg1 := hbg0.trans (hcg1.mono hbg0.size); obtain ⟨q0, q1, q2, q3⟩ := HQ.out wg1 hbg1)
              | (go_at_call 34; refine (HP.out _ hbg1).mono ?_; rintro e w4 ⟨v4, rfl, hm4⟩; have hb4 : Below w1.heap.size w1 w4 := hbg1.trans (hm4.bel.mono hbg1.size); obtain ⟨q0, q1, q2, q3⟩ := HQ.out w4 hb4; obtain ⟨ax, cx, rfl, hix⟩ := hm4.at_; have Hx := hid_ hix; clear hix)
              | (go_at_call 35; refine (HF.out _ hb4).mono ?_; rintro e w5 ⟨v5, rfl, hm5⟩; have hb5 : Below w1.heap.size w1 w5 := hb4.trans (hm5.bel.mono hb4.size); obtain ⟨q0, q1, q2, q3⟩ := HQ.out w5 hb5; obtain ⟨ay, cy, rfl, hiy⟩ := hm5.at_; have Hy := hid_ hiy; clear hiy)
              | (go_at_call 27; with_reducible refine (HSm.out _ _ _ _ _ _ _ _ (Hx.out.below hm5.bel (Nat.le_refl _)) Hy.out).mono ?_; rintro e w6 ⟨rfl, hc6⟩; have hb6 := hb5.trans (hc6.mono hb5.size); obtain ⟨q0, q1, q2, q3⟩ := HQ.out w6 hb6)
              | (go_at_call 32; refine (HA.out _ hb6).mono ?_; rintro e w7 ⟨v7, rfl, hm7⟩; have hb7 : Below w1.heap.size w1 w7 := hb6.trans (hm7.bel.mono hb6.size); obtain ⟨q0, q1, q2, q3⟩ := HQ.out w7 hb7; obtain ⟨az, cz, rfl, hiz⟩ := hm7.at_; have Hz := hid_ hiz; clear hiz)
              | (go_at_call 20; refine (HK.out _).mono ?_; rintro e wk ⟨rfl, hck⟩))
            go_ret
            exact ⟨rfl, Hb1.out.trans ((hb7.trans (hck.mono hb7.size)).mono Hb1.out.size)⟩
          · obtain ⟨y1, y2⟩ := along_all (R := R) (by omega) (List.eq_nil_of_length_eq_zero (by have := HL2.out; omega)) (List.eq_nil_of_length_eq_zero (by have := HL3.out; omega)) l
            rw [y1, y2] at HP HF
            clear y1 y2
            generalize resAll R l = m2 at *
            generalize errAll R l = x2 at *
            have hl' : ¬ (0 : Int) < (n2 : Int) := by omega
            have hr3' : ¬ (0 : Int) < (n3 : Int) := by omega
            go_enter Try.func7, Try.ntmps7
            go_wp2_with (first
              | (go_at_call 18; refine (HG0.out _ hb1).mono ?_; rintro e wg0 ⟨rfl, hcg0⟩; have hbg0 := hcg0; obtain ⟨q0, q1, q2, q3⟩ := HQ.out wg0 hbg0)
              | (go_at_call 19; refine (HG1.out _ hbg0).mono ?_; rintro e wg1 ⟨rfl, hcg1⟩; have hbg1 := hbg0.trans (hcg1.mono hbg0.size); obtain ⟨q0, q1, q2, q3⟩ := HQ.out wg1 hbg1)
              | (go_at_call 34; refine (HP.out _ hbg1).mono ?_; rintro e w4 ⟨v4, rfl, hm4⟩; have hb4 : Below w1.heap.size w1 w4 := hbg1.trans (hm4.bel.mono hbg1.size); obtain ⟨q0, q1, q2, q3⟩ := HQ.out w4 hb4; obtain ⟨ax, cx, rfl, hix⟩ := hm4.at_; have Hx := hid_ hix; clear hix)
              | (go_at_call 35; refine (HF.out _ hb4).mono ?_; rintro e w5 ⟨v5, rfl, hm5⟩; have hb5 : Below w1.heap.size w1 w5 := hb4.trans (hm5.bel.mono hb4.size); obtain ⟨q0, q1, q2, q3⟩ := HQ.out w5 hb5; obtain ⟨ay, cy, rfl, hiy⟩ := hm5.at_; have Hy := hid_ hiy; clear hiy)
              | (go_at_call 27; with_reducible refine (HSm.out _ _ _ _ _ _ _ _ (Hx.out.below hm5.bel (Nat.le_refl _)) Hy.out).mono ?_; rintro e w6 ⟨rfl, hc6⟩; have hb6 := hb5.trans (hc6.mono hb5.size); obtain ⟨q0, q1, q2, q3⟩ := HQ.out w6 hb6)
              | (go_at_call 32; refine (HA.out _ hb6).mono ?_; rintro e w7 ⟨v7, rfl, hm7⟩; have hb7 : Below w1.heap.size w1 w7 := hb6.trans (hm7.bel.mono hb6.size); obtain ⟨q0, q1, q2, q3⟩ := HQ.out w7 hb7; obtain ⟨az, cz, rfl, hiz⟩ := hm7.at_; have Hz := hid_ hiz; clear hiz)
              | (go_at_call 27; with_reducible refine (HSm.out _ _ _ _ _ _ _ _ (((Hx.out.below hm5.bel (Nat.le_refl _)).below hc6 (Nat.le_refl _)).below hm7.bel (Nat.le_refl _)) Hz.out).mono ?_; rintro e w8 ⟨rfl, hc8⟩; have hb8 := hb7.trans (hc8.mono hb7.size))
              | (go_at_call 20; refine (HK.out _).mono ?_; rintro e wk ⟨rfl, hck⟩))
            go_ret
            exact ⟨rfl, Hb1.out.trans ((hb8.trans (hck.mono hb8.size)).mono Hb1.out.size)⟩
end Go.Proofs.Yteaggabafeedhaa
