import Derived.Test.YteaggabafeedhaaLa
import Derived.Test.YteaggabafeedhaaRh
namespace Go.Proofs.Yteaggabafeedhaa
open Go.RowKit Go.Proofs.Kv

set_option maxRecDepth 100000 in
set_option maxHeartbeats 4000000 in
theorem rulePlaces_calls (v : Value) (R : Rl) (a : Option Addr) (n c : Nat) (l : List Int) (w : World) (hr : RuleAt w v R) (h : IntsAt w a n c l) :
    Calls Try.prog 3 #[v, .slice a n c] w fun e w' => e = .returned (.bool true) ∧ Below w.heap.size w w' := by
  have Hr := hid_ hr
  obtain ⟨a1, n1, c1, a2, n2, c2, a3, n3, c3, rfl, h1, h2, h3⟩ := hr
  clear h1 h2 h3
  obtain ⟨w1, hw1⟩ : ∃ w1, w.alloc (.cells #[.int .i64 R.f, .slice a1 n1 c1, .slice a2 n2 c2, .slice a3 n3 c3] 24) = w1 := ⟨_, rfl⟩
  have Hb1 : Hid (Below w.heap.size w w1) := hid_ (by rw [← hw1]; exact below_alloc _ _)
  have HW1 := hid_ hw1
  have HQ := hid_ (fun W (hW : Below w1.heap.size w1 W) => box4 HW1.out hW)
  have HR := hid_ (fun W (hW : Below w1.heap.size w1 W) => (Hr.out.below Hb1.out (Nat.le_refl _)).below hW (Nat.le_refl _))
  have HK := hid_ known_calls
  have hb1 : Below w1.heap.size w1 w1 := Below.refl _ _
  obtain ⟨q0, q1, q2, q3⟩ := HQ.out w1 hb1
  have HI := hid_ (fun W (hW : Below w1.heap.size w1 W) => (h.below Hb1.out (Nat.le_refl _)).below hW (Nat.le_refl _))
  clear h
  have HG0 : Hid (∀ W, Below w1.heap.size w1 W → Calls Try.prog 18 #[.agg #[.int .i64 R.f, .slice a1 n1 c1, .slice a2 n2 c2, .slice a3 n3 c3]] W fun e w' => e = .returned (.bool (bigR R)) ∧ Below W.heap.size W w') := hid_ (fun W hW => long_calls _ R W (HR.out W hW))
  have HG1 : Hid (∀ W, Below w1.heap.size w1 W → Calls Try.prog 19 #[.slice a n c] W fun e w' => e = .returned (.bool (bigOne l)) ∧ Below W.heap.size W w') := hid_ (fun W hW => (large_calls a n c l W (HI.out W hW)).mono (fun _ _ ⟨he, hm⟩ => ⟨he, below_same hm⟩))
  cases hg0 : bigR R with
  | true =>
    rw [hg0] at HG0
    go_enter Try.func3, Try.ntmps3
    go_wp2_with (first
      | (go_at_call 18; refine (HG0.out _ hb1).mono ?_; rintro e wg0 ⟨rfl, hcg0⟩; have hbg0 := hcg0)
      | (go_at_call 20; refine (HK.out _).mono ?_; rintro e wk ⟨rfl, hck⟩))
    go_ret
    exact ⟨rfl, Hb1.out.trans ((hbg0.trans (hck.mono hbg0.size)).mono Hb1.out.size)⟩
  | false =>
    rw [hg0] at HG0
    cases hg1 : bigOne l with
    | true =>
      rw [hg1] at HG1
      go_enter Try.func3, Try.ntmps3
      go_wp2_with (first
        | (go_at_call 18; refine (HG0.out _ hb1).mono ?_; rintro e wg0 ⟨rfl, hcg0⟩; have hbg0 := hcg0; obtain ⟨q0, q1, q2, q3⟩ := HQ.out wg0 hbg0)
        | (go_at_call 19; refine (HG1.out _ hbg0).mono ?_; rintro e wg1 ⟨rfl, hcg1⟩; have hbg1 := hbg0.trans (hcg1.mono hbg0.size))
        | (go_at_call 20; refine (HK.out _).mono ?_; rintro e wk ⟨rfl, hck⟩))
      go_ret
      exact ⟨rfl, Hb1.out.trans ((hbg1.trans (hck.mono hbg1.size)).mono Hb1.out.size)⟩
    | false =>
      rw [hg1] at HG1
      have HP := hid_ (fun W hW => ruPlaces_calls _ R a n c l W (HR.out W hW) (HI.out W hW))
      have HF := hid_ (fun W hW => refPlaces_calls _ R a n c l W (HR.out W hW) (HI.out W hW))
      have HV := hid_ (fun W hW => ruValidate_calls _ R W (HR.out W hW))
      have HVr := hid_ (fun W hW => validate_calls _ R W (HR.out W hW))
      have HVw := hid_ (fun W hW => ruValidateWord_calls a n c l W (HI.out W hW))
      have HVs := hid_ (fun W hW => validateWord_calls a n c l W (HI.out W hW))
      go_enter Try.func3, Try.ntmps3
      go_wp2_with (first
        | (go_at_call 18; refine (HG0.out _ hb1).mono ?_; rintro e wg0 ⟨rfl, hcg0⟩; have hbg0 := hcg0; obtain ⟨q0, q1, q2, q3⟩ := HQ.out wg0 hbg0)
        | (go_at_call 19; refine (HG1.out _ hbg0).mono ?_; rintro e wg1 ⟨rfl, hcg1⟩; have hbg1 := hbg0.trans (hcg1.mono hbg0.size); obtain ⟨q0, q1, q2, q3⟩ := HQ.out wg1 hbg1)
        | (go_at_call 21; refine (HP.out _ hbg1).mono ?_; rintro e w4 ⟨v4, rfl, hm4⟩; have hb4 : Below w1.heap.size w1 w4 := hbg1.trans (hm4.bel.mono hbg1.size); obtain ⟨q0, q1, q2, q3⟩ := HQ.out w4 hb4; obtain ⟨ax, cx, rfl, hix⟩ := hm4.at_; have Hx := hid_ hix; clear hix)
        | (go_at_call 22; refine (HF.out _ hb4).mono ?_; rintro e w5 ⟨v5, rfl, hm5⟩; have hb5 : Below w1.heap.size w1 w5 := hb4.trans (hm5.bel.mono hb4.size); obtain ⟨q0, q1, q2, q3⟩ := HQ.out w5 hb5; obtain ⟨ay, cy, rfl, hiy⟩ := hm5.at_; have Hy := hid_ hiy; clear hiy))
      have S1 := hid_ (fun d os => HV.out _ (hb5.trans ((below_regrown w5 d os).mono hb5.size)))
      have S2 := hid_ (fun d os => HVr.out _ (hb5.trans ((below_regrown w5 d os).mono hb5.size)))
      have S3 := hid_ (fun d os => grow_same (HVw.out _ (hb5.trans ((below_regrown w5 d os).mono hb5.size))))
      have S4 := hid_ (fun d os => grow_same (HVs.out _ (hb5.trans ((below_regrown w5 d os).mono hb5.size))))
      have hxy : Same (resPlaces R l) (resPlaces R l) = true := by simp [Same]
      have S5 := hid_ (fun d os => grow_drew (same_calls _ _ _ _ _ _ _ _ _ ((Hx.out.below hm5.bel (Nat.le_refl _)).grown d os) (Hy.out.grown d os)))
      rw [hxy] at S5
      clear hm4 hm5
      generalize validR R = x1 at *
      generalize validW l = x2 at *
      generalize err2 R l = x3 at *
      have e0 := cell_regrown q0
      have e1 := cell_regrown q1
      have e2 := cell_regrown q2
      have e3 := cell_regrown q3
      refine wp_region_quiet_below (by kernel_rfl) (by kernel_rfl) ?_
      repeat (first
        | go_big_quiet_skip
        | (go_big_quiet_want; go_big_quiet_op; first | go_big_quiet_on | go_big_quiet_call ((first
          | (go_at_call 23; with_reducible exact Calls.regrown_of (S1.out _ _))
          | (go_at_call 24; with_reducible exact Calls.regrown_of (S2.out _ _))
          | (go_at_call 25; with_reducible exact Calls.regrown_of (S3.out _ _))
          | (go_at_call 26; with_reducible exact Calls.regrown_of (S4.out _ _))
          | (go_at_call 27; with_reducible exact Calls.regrown_of (S5.out _ _))
          | (go_at_call 20; with_reducible exact Calls.regrown_of (HK.out _)))))) 
      refine wpQuiet_nil ?_
      rintro wq ⟨pq, hpq⟩
      have hbq := below_wq hpq
      clear hpq
      go_wp2
      go_ret
      exact ⟨rfl, Hb1.out.trans ((hb5.trans (hbq.mono hb5.size)).mono Hb1.out.size)⟩
end Go.Proofs.Yteaggabafeedhaa
