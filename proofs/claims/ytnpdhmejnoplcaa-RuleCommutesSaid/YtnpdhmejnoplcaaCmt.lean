import Derived.Test.YtnpdhmejnoplcaaPv
import Derived.Deep.RegionHeld3
import Derived.Test.YtnpdhmejnoplcaaPst
import Derived.Test.YtnpdhmejnoplcaaRgn
namespace Go.Proofs.Ytnpdhmejnoplcaa
open Go.RowKit Go.Proofs.Kv

/-! ### Commute -/
set_option maxRecDepth 100000 in
set_option maxHeartbeats 4000000 in
theorem ruCommute_calls (v u : Value) (R S : Rl) (a : Option Addr) (n c : Nat) (l : List Int) (w : World) (hr : RuleAt w v R) (hs : RuleAt w u S) (h : IntsAt w a n c l) :
    Calls Try.prog 57 #[v, u, .slice a n c] w fun e w' => e = .returned (.tuple #[.bool (comB R S l), .int .i64 (comE R S l)]) ∧ Below w.heap.size w w' := by
  have Hr := hid_ hr
  have Hs := hid_ hs
  obtain ⟨a1, n1, c1, a2, n2, c2, a3, n3, c3, rfl, h1, h2, h3⟩ := hr
  obtain ⟨b1, m1, d1, b2, m2, d2, b3, m3, d3, rfl, h4, h5, h6⟩ := hs
  obtain ⟨w0, hw0⟩ : ∃ w0, w.alloc (.cells #[.int .i64 R.f, .slice a1 n1 c1, .slice a2 n2 c2, .slice a3 n3 c3] 24) = w0 := ⟨_, rfl⟩
  have hz0 : w0.heap.size = w.heap.size + 1 := by rw [← hw0]; simp
  have Hb0 : Hid (Below w.heap.size w w0) := hid_ (by rw [← hw0]; exact below_alloc _ _)
  obtain ⟨w1, hw1⟩ : ∃ w1, w0.alloc (.cells #[.int .i64 S.f, .slice b1 m1 d1, .slice b2 m2 d2, .slice b3 m3 d3] 24) = w1 := ⟨_, rfl⟩
  have Hb01 : Hid (Below w0.heap.size w0 w1) := hid_ (by rw [← hw1]; exact below_alloc _ _)
  have Hb1 : Hid (Below w.heap.size w w1) := hid_ (Hb0.out.trans (Hb01.out.mono Hb0.out.size))
  have HW0 := hid_ hw0
  have HW1 := hid_ hw1
  have HZ0 := hid_ hz0
  have HZ1 : Hid (w1.heap.size = w.heap.size + 2) := hid_ (by rw [← hw1]; simp [HZ0.out])
  have HQ : Hid (∀ W, Below w1.heap.size w1 W → (W.cell? ⟨w.heap.size, 0, none⟩ = some (.int .i64 R.f) ∧ W.cell? ⟨w.heap.size, 1, none⟩ = some (.slice a1 n1 c1) ∧ W.cell? ⟨w.heap.size, 2, none⟩ = some (.slice a2 n2 c2) ∧ W.cell? ⟨w.heap.size, 3, none⟩ = some (.slice a3 n3 c3)) ∧ W.cell? ⟨w.heap.size + 1, 0, none⟩ = some (.int .i64 S.f) ∧ W.cell? ⟨w.heap.size + 1, 1, none⟩ = some (.slice b1 m1 d1) ∧ W.cell? ⟨w.heap.size + 1, 2, none⟩ = some (.slice b2 m2 d2) ∧ W.cell? ⟨w.heap.size + 1, 3, none⟩ = some (.slice b3 m3 d3)) := hid_ (fun W hW => ⟨box4 HW0.out (Hb01.out.trans (hW.mono Hb01.out.size)), by have := box4 HW1.out hW; rwa [HZ0.out] at this⟩)
  have HR := hid_ (fun W (hW : Below w1.heap.size w1 W) => (Hr.out.below Hb1.out (Nat.le_refl _)).below hW (Nat.le_refl _))
  have HS := hid_ (fun W (hW : Below w1.heap.size w1 W) => (Hs.out.below Hb1.out (Nat.le_refl _)).below hW (Nat.le_refl _))
  have hb1 : Below w1.heap.size w1 w1 := Below.refl _ _
  obtain ⟨⟨q0, q1, q2, q3⟩, s0, s1, s2, s3⟩ := HQ.out w1 hb1

  have HI := hid_ (fun W (hW : Below w1.heap.size w1 W) => (h.below Hb1.out (Nat.le_refl _)).below hW (Nat.le_refl _))
  have hnl := hid_ h.len
  clear h h1 h2 h3 h4 h5 h6
  have HV := hid_ (fun d os => ruValidate_calls _ R _ ((HR.out w1 hb1).grown d os))
  have HU := hid_ (fun d os => ruValidate_calls _ S _ ((HS.out w1 hb1).grown d os))
  have HW := hid_ (fun d os => grow_same (ruValidateWord_calls a n c l _ ((HI.out w1 hb1).grown d os)))
  have Hor := hid_ (or3_calls R S l)
  have e0 := cell_regrown q0
  have e1 := cell_regrown q1
  have e2 := cell_regrown q2
  have e3 := cell_regrown q3
  have e4 := cell_regrown s0
  have e5 := cell_regrown s1
  have e6 := cell_regrown s2
  have e7 := cell_regrown s3
  clear q0 q1 q2 q3 s0 s1 s2 s3
  by_cases he : err3 R S l = 0
  · obtain ⟨y3, y4⟩ := err3_ok he
    have vR := (errTwo_ok y3).1
    have vS := (errTwo_ok y3).2
    obtain ⟨k1, k2⟩ := validW_ok y4
    have HT1 : Hid (∀ W, Below w1.heap.size w1 W → ∀ T, Calls Try.prog 137 #[.slice a n c, .slice (some ⟨W.heap.size, 0, none⟩) 2 2] (W.alloc (.cells #[.int .i64 R.f, .slice a1 n1 c1, .slice a2 n2 c2, .slice a3 n3 c3, .int .i64 S.f, .slice b1 m1 d1, .slice b2 m2 d2, .slice b3 m3 d3] T)) (TurnPost (W.alloc (.cells #[.int .i64 R.f, .slice a1 n1 c1, .slice a2 n2 c2, .slice a3 n3 c3, .int .i64 S.f, .slice b1 m1 d1, .slice b2 m2 d2, .slice b3 m3 d3] T)) (turnE [R, S] l) (turnV [R, S] l))) := hid_ (fun W hW T => inTurn_calls a n c l _ 2 2 [R, S] _ ((HI.out W hW).below (below_alloc W _) (Nat.le_refl _)) (RulesAt.two T (HR.out W hW) (HS.out W hW)) (by omega) (fun X hX => by simp at hX; rcases hX with rfl | rfl; exact vR; exact vS) k2 k1)
    have HT2 : Hid (∀ W, Below w1.heap.size w1 W → ∀ T, Calls Try.prog 137 #[.slice a n c, .slice (some ⟨W.heap.size, 0, none⟩) 2 2] (W.alloc (.cells #[.int .i64 S.f, .slice b1 m1 d1, .slice b2 m2 d2, .slice b3 m3 d3, .int .i64 R.f, .slice a1 n1 c1, .slice a2 n2 c2, .slice a3 n3 c3] T)) (TurnPost (W.alloc (.cells #[.int .i64 S.f, .slice b1 m1 d1, .slice b2 m2 d2, .slice b3 m3 d3, .int .i64 R.f, .slice a1 n1 c1, .slice a2 n2 c2, .slice a3 n3 c3] T)) (turnE [S, R] l) (turnV [S, R] l))) := hid_ (fun W hW T => inTurn_calls a n c l _ 2 2 [S, R] _ ((HI.out W hW).below (below_alloc W _) (Nat.le_refl _)) (RulesAt.two T (HS.out W hW) (HR.out W hW)) (by omega) (fun X hX => by simp at hX; rcases hX with rfl | rfl; exact vS; exact vR) k2 k1)
    have HEq := hid_ (fun W a n c a' n' c' (h : IntsAt W a n c (turnV [R, S] l)) (h' : IntsAt W a' n' c' (turnV [S, R] l)) => grow_drew (equal_calls a n c _ a' n' c' _ W h h'))
    have HCE : Hid (comE R S l = if turnE [R, S] l = 0 then turnE [S, R] l else turnE [R, S] l) := hid_ (if_pos he)
    have HCB : Hid (comB R S l = if comE R S l = 0 then Same (turnV [R, S] l) (turnV [S, R] l) else false) := hid_ rfl
    rw [he] at Hor
    clear he y3 y4 vR vS k1 k2
    generalize comB R S l = cb at *
    generalize comE R S l = ce at *
    generalize turnE [R, S] l = z1 at *
    generalize turnE [S, R] l = z2 at *
    generalize turnV [R, S] l = m1 at *
    generalize turnV [S, R] l = m2 at *
    generalize Same m1 m2 = sm at *
    generalize validR R = x1 at *
    generalize validR S = x2 at *
    generalize validW l = x3 at *
    by_cases hz1 : z1 = 0
    · subst hz1
      by_cases hz2 : z2 = 0
      · subst hz2
        have hce : ce = 0 := by rw [HCE.out, if_pos rfl]
        subst hce
        have hcb : cb = sm := by rw [HCB.out, if_pos rfl]
        subst hcb
        clear HCE HCB
        go_enter Try.func57, Try.ntmps57
        go_wp2
        refine wp_region_tail 6 (by kernel_rfl) (by kernel_rfl) ?_
        simp only [List.take_succ_cons, List.take_zero, List.drop_succ_cons, List.drop_zero]
        repeat (first
          | go_big_quiet_skip
          | (go_big_quiet_want; go_big_quiet_op; first | go_big_quiet_on | go_big_quiet_call ((first
            | (go_at_call 33; with_reducible exact Calls.regrown_of (HV.out _ _))
            | (go_at_call 33; with_reducible exact Calls.regrown_of (HU.out _ _))
            | (go_at_call 35; with_reducible exact Calls.regrown_of (HW.out _ _)))))) 
        refine wpQuiet_nil ?_
        rintro wq ⟨pq, hpq⟩
        have hbq := below_wq hpq
        clear hpq
        go_wp2_with (first
          | (go_at_call 109; (refine (Hor.out _ _).mono ?_); rintro e w5 ⟨rfl, hw5⟩; have hb5 : Below w1.heap.size w1 w5 := (by rw [← hw5]; exact hbq.trans ((below_alloc wq _).mono hbq.size)); clear hw5; obtain ⟨⟨q0, q1, q2, q3⟩, s0, s1, s2, s3⟩ := HQ.out w5 hb5)
          | (go_at_call 137; (with_reducible refine (HT1.out _ hb5 _).mono ?_); rintro e w6 ⟨a6, n6, k6, rfl, hi6, hc6⟩; have hb6 := hb5.trans (((below_alloc w5 _).trans (hc6.mono (by simp))).mono hb5.size); clear q0 q1 q2 q3 s0 s1 s2 s3; obtain ⟨⟨q0, q1, q2, q3⟩, s0, s1, s2, s3⟩ := HQ.out w6 hb6; have Hx := hid_ hi6; have hl6 := hid_ hi6.small; clear hi6)
          | (go_at_call 137; (with_reducible refine (HT2.out _ hb6 _).mono ?_); rintro e w7 ⟨a7, n7, k7, rfl, hi7, hc7⟩; have hb7 := hb6.trans (((below_alloc w6 _).trans (hc7.mono (by simp))).mono hb6.size); clear q0 q1 q2 q3 s0 s1 s2 s3; obtain ⟨⟨q0, q1, q2, q3⟩, s0, s1, s2, s3⟩ := HQ.out w7 hb7; have Hy := hid_ hi7; have hl7 := hid_ hi7.small; clear hi7)
          | (go_at_call 138; (with_reducible refine (HEq.out _ _ _ _ _ _ _ (Hx.out.below ((below_alloc w6 _).trans (hc7.mono (by simp))) (Nat.le_refl _)) Hy.out).mono ?_); rintro e w8 ⟨rfl, hc8⟩; have hb8 := hb7.trans (hc8.mono hb7.size)))
        go_ret2
        exact ⟨rfl, Hb1.out.trans (hb8.mono Hb1.out.size)⟩
      · have hce : ce = z2 := by rw [HCE.out, if_pos rfl]
        subst hce
        have hcb : cb = false := by rw [HCB.out, if_neg hz2]
        subst hcb
        have hq2 : (ce != 0) = true := by simpa using hz2
        clear HCE HCB hz2
        go_enter Try.func57, Try.ntmps57
        go_wp2
        refine wp_region_tail 6 (by kernel_rfl) (by kernel_rfl) ?_
        simp only [List.take_succ_cons, List.take_zero, List.drop_succ_cons, List.drop_zero]
        repeat (first
          | go_big_quiet_skip
          | (go_big_quiet_want; go_big_quiet_op; first | go_big_quiet_on | go_big_quiet_call ((first
            | (go_at_call 33; with_reducible exact Calls.regrown_of (HV.out _ _))
            | (go_at_call 33; with_reducible exact Calls.regrown_of (HU.out _ _))
            | (go_at_call 35; with_reducible exact Calls.regrown_of (HW.out _ _)))))) 
        refine wpQuiet_nil ?_
        rintro wq ⟨pq, hpq⟩
        have hbq := below_wq hpq
        clear hpq
        go_wp2_with (first
          | (go_at_call 109; (refine (Hor.out _ _).mono ?_); rintro e w5 ⟨rfl, hw5⟩; have hb5 : Below w1.heap.size w1 w5 := (by rw [← hw5]; exact hbq.trans ((below_alloc wq _).mono hbq.size)); clear hw5; obtain ⟨⟨q0, q1, q2, q3⟩, s0, s1, s2, s3⟩ := HQ.out w5 hb5)
          | (go_at_call 137; (with_reducible refine (HT1.out _ hb5 _).mono ?_); rintro e w6 ⟨a6, n6, k6, rfl, hi6, hc6⟩; have hb6 := hb5.trans (((below_alloc w5 _).trans (hc6.mono (by simp))).mono hb5.size); clear q0 q1 q2 q3 s0 s1 s2 s3; obtain ⟨⟨q0, q1, q2, q3⟩, s0, s1, s2, s3⟩ := HQ.out w6 hb6; have Hx := hid_ hi6; have hl6 := hid_ hi6.small; clear hi6)
          | (go_at_call 137; (with_reducible refine (HT2.out _ hb6 _).mono ?_); rintro e w7 ⟨a7, n7, k7, rfl, hi7, hc7⟩; have hb7 := hb6.trans (((below_alloc w6 _).trans (hc7.mono (by simp))).mono hb6.size); clear q0 q1 q2 q3 s0 s1 s2 s3; obtain ⟨⟨q0, q1, q2, q3⟩, s0, s1, s2, s3⟩ := HQ.out w7 hb7; have Hy := hid_ hi7; have hl7 := hid_ hi7.small; clear hi7))
        go_ret2
        exact ⟨rfl, Hb1.out.trans (hb7.mono Hb1.out.size)⟩
    · have hce : ce = z1 := by rw [HCE.out, if_neg hz1]
      subst hce
      have hcb : cb = false := by rw [HCB.out, if_neg hz1]
      subst hcb
      have hq1 : (ce != 0) = true := by simpa using hz1
      clear HCE HCB hz1
      go_enter Try.func57, Try.ntmps57
      go_wp2
      refine wp_region_tail 6 (by kernel_rfl) (by kernel_rfl) ?_
      simp only [List.take_succ_cons, List.take_zero, List.drop_succ_cons, List.drop_zero]
      repeat (first
        | go_big_quiet_skip
        | (go_big_quiet_want; go_big_quiet_op; first | go_big_quiet_on | go_big_quiet_call ((first
          | (go_at_call 33; with_reducible exact Calls.regrown_of (HV.out _ _))
          | (go_at_call 33; with_reducible exact Calls.regrown_of (HU.out _ _))
          | (go_at_call 35; with_reducible exact Calls.regrown_of (HW.out _ _)))))) 
      refine wpQuiet_nil ?_
      rintro wq ⟨pq, hpq⟩
      have hbq := below_wq hpq
      clear hpq
      go_wp2_with (first
        | (go_at_call 109; (refine (Hor.out _ _).mono ?_); rintro e w5 ⟨rfl, hw5⟩; have hb5 : Below w1.heap.size w1 w5 := (by rw [← hw5]; exact hbq.trans ((below_alloc wq _).mono hbq.size)); clear hw5; obtain ⟨⟨q0, q1, q2, q3⟩, s0, s1, s2, s3⟩ := HQ.out w5 hb5)
        | (go_at_call 137; (with_reducible refine (HT1.out _ hb5 _).mono ?_); rintro e w6 ⟨a6, n6, k6, rfl, hi6, hc6⟩; have hb6 := hb5.trans (((below_alloc w5 _).trans (hc6.mono (by simp))).mono hb5.size); clear q0 q1 q2 q3 s0 s1 s2 s3; obtain ⟨⟨q0, q1, q2, q3⟩, s0, s1, s2, s3⟩ := HQ.out w6 hb6; have Hx := hid_ hi6; have hl6 := hid_ hi6.small; clear hi6))
      go_ret2
      exact ⟨rfl, Hb1.out.trans (hb6.mono Hb1.out.size)⟩
  · obtain ⟨y1, y2⟩ := com_no he
    rw [y1, y2]
    have hq : (err3 R S l != 0) = true := by simpa using he
    generalize validR R = x1 at *
    generalize validR S = x2 at *
    generalize validW l = x3 at *
    generalize err3 R S l = er at *
    clear he y1 y2
    go_enter Try.func57, Try.ntmps57
    go_wp2
    refine wp_region_tail 6 (by kernel_rfl) (by kernel_rfl) ?_
    simp only [List.take_succ_cons, List.take_zero, List.drop_succ_cons, List.drop_zero]
    repeat (first
      | go_big_quiet_skip
      | (go_big_quiet_want; go_big_quiet_op; first | go_big_quiet_on | go_big_quiet_call ((first
        | (go_at_call 33; with_reducible exact Calls.regrown_of (HV.out _ _))
        | (go_at_call 33; with_reducible exact Calls.regrown_of (HU.out _ _))
        | (go_at_call 35; with_reducible exact Calls.regrown_of (HW.out _ _)))))) 
    refine wpQuiet_nil ?_
    rintro wq ⟨pq, hpq⟩
    have hbq := below_wq hpq
    clear hpq
    go_wp2_with (go_at_call 109; (refine (Hor.out _ _).mono ?_); rintro e w5 ⟨rfl, hw5⟩; have hb5 : Below w1.heap.size w1 w5 := (by rw [← hw5]; exact hbq.trans ((below_alloc wq _).mono hbq.size)); clear hw5; obtain ⟨⟨q0, q1, q2, q3⟩, s0, s1, s2, s3⟩ := HQ.out w5 hb5)
    go_ret2
    exact ⟨rfl, Hb1.out.trans (hb5.mono Hb1.out.size)⟩
end Go.Proofs.Ytnpdhmejnoplcaa
namespace Go.Proofs.Ytnpdhmejnoplcaa
open Go.RowKit Go.Proofs.Kv

/-! ### the reference's Commute -/
set_option maxRecDepth 100000 in
set_option maxHeartbeats 4000000 in
theorem r2Commute_calls (v u : Value) (R S : Rl) (a : Option Addr) (n c : Nat) (l : List Int) (w : World) (hr : RuleAt w v R) (hs : RuleAt w u S) (h : IntsAt w a n c l) :
    Calls Try.prog 58 #[v, u, .slice a n c] w fun e w' => e = .returned (.tuple #[.bool (comB R S l), .int .i64 (comE R S l)]) ∧ Below w.heap.size w w' := by
  have Hr := hid_ hr
  have Hs := hid_ hs
  obtain ⟨a1, n1, c1, a2, n2, c2, a3, n3, c3, rfl, h1, h2, h3⟩ := hr
  obtain ⟨b1, m1, d1, b2, m2, d2, b3, m3, d3, rfl, h4, h5, h6⟩ := hs
  obtain ⟨w0, hw0⟩ : ∃ w0, w.alloc (.cells #[.int .i64 R.f, .slice a1 n1 c1, .slice a2 n2 c2, .slice a3 n3 c3] 24) = w0 := ⟨_, rfl⟩
  have hz0 : w0.heap.size = w.heap.size + 1 := by rw [← hw0]; simp
  have Hb0 : Hid (Below w.heap.size w w0) := hid_ (by rw [← hw0]; exact below_alloc _ _)
  obtain ⟨w1, hw1⟩ : ∃ w1, w0.alloc (.cells #[.int .i64 S.f, .slice b1 m1 d1, .slice b2 m2 d2, .slice b3 m3 d3] 24) = w1 := ⟨_, rfl⟩
  have Hb01 : Hid (Below w0.heap.size w0 w1) := hid_ (by rw [← hw1]; exact below_alloc _ _)
  have Hb1 : Hid (Below w.heap.size w w1) := hid_ (Hb0.out.trans (Hb01.out.mono Hb0.out.size))
  have HW0 := hid_ hw0
  have HW1 := hid_ hw1
  have HZ0 := hid_ hz0
  have HZ1 : Hid (w1.heap.size = w.heap.size + 2) := hid_ (by rw [← hw1]; simp [HZ0.out])
  have HQ : Hid (∀ W, Below w1.heap.size w1 W → (W.cell? ⟨w.heap.size, 0, none⟩ = some (.int .i64 R.f) ∧ W.cell? ⟨w.heap.size, 1, none⟩ = some (.slice a1 n1 c1) ∧ W.cell? ⟨w.heap.size, 2, none⟩ = some (.slice a2 n2 c2) ∧ W.cell? ⟨w.heap.size, 3, none⟩ = some (.slice a3 n3 c3)) ∧ W.cell? ⟨w.heap.size + 1, 0, none⟩ = some (.int .i64 S.f) ∧ W.cell? ⟨w.heap.size + 1, 1, none⟩ = some (.slice b1 m1 d1) ∧ W.cell? ⟨w.heap.size + 1, 2, none⟩ = some (.slice b2 m2 d2) ∧ W.cell? ⟨w.heap.size + 1, 3, none⟩ = some (.slice b3 m3 d3)) := hid_ (fun W hW => ⟨box4 HW0.out (Hb01.out.trans (hW.mono Hb01.out.size)), by have := box4 HW1.out hW; rwa [HZ0.out] at this⟩)
  have HR := hid_ (fun W (hW : Below w1.heap.size w1 W) => (Hr.out.below Hb1.out (Nat.le_refl _)).below hW (Nat.le_refl _))
  have HS := hid_ (fun W (hW : Below w1.heap.size w1 W) => (Hs.out.below Hb1.out (Nat.le_refl _)).below hW (Nat.le_refl _))
  have hb1 : Below w1.heap.size w1 w1 := Below.refl _ _
  obtain ⟨⟨q0, q1, q2, q3⟩, s0, s1, s2, s3⟩ := HQ.out w1 hb1

  have HI := hid_ (fun W (hW : Below w1.heap.size w1 W) => (h.below Hb1.out (Nat.le_refl _)).below hW (Nat.le_refl _))
  have hnl := hid_ h.len
  clear h h1 h2 h3 h4 h5 h6
  have HT := hid_ (two_calls _ _ R S w1 (HR.out w1 hb1) (HS.out w1 hb1))
  have HVW := hid_ (fun W hW => validateWord_calls a n c l W (HI.out W hW))
  by_cases ht : errTwo R S = 0
  · by_cases hv : validW l = 0
    · have he : err3 R S l = 0 := by rw [err3, if_pos ht]; exact hv
      obtain ⟨y1, y2⟩ := com_ref he
      obtain ⟨f1, o1, -, -, -, -⟩ := validR_ok (errTwo_ok ht).1
      have oR := (validR_ok (errTwo_ok ht).1).2.2.1
      obtain ⟨f2, o2, -, -, -, -⟩ := validR_ok (errTwo_ok ht).2
      have oS := (validR_ok (errTwo_ok ht).2).2.2.1
      obtain ⟨k1, k2⟩ := validW_ok hv
      have hn8 : n ≤ 8 := by rw [← hnl.out]; exact k1
      have hl8 : l.length ≤ 8 := k1
      have lR := stp_len (R := R) (l := l) oR
      have lS := stp_len (R := S) (l := l) oS
      have lRS := stp_len (R := S) (l := stp R l) oS
      have lSR := stp_len (R := R) (l := stp S l) oR
      have HA1 := hid_ (fun W hW => refAll_calls _ R a n c l W (HR.out W hW) (HI.out W hW) (by omega) f1 oR)
      have HA2 := hid_ (fun W hW => refAll_calls _ S a n c l W (HS.out W hW) (HI.out W hW) (by omega) f2 oS)
      have HA3 := hid_ (fun W hW a c (hi : IntsAt W a (stp R l).length c (stp R l)) => refAll_calls _ S a _ c (stp R l) W (HS.out W hW) hi (by omega) f2 oS)
      have HA4 := hid_ (fun W hW a c (hi : IntsAt W a (stp S l).length c (stp S l)) => refAll_calls _ R a _ c (stp S l) W (HR.out W hW) hi (by omega) f1 oR)
      have HSm := hid_ (fun W a n c a' n' c' (h : IntsAt W a n c (stp S (stp R l))) (h' : IntsAt W a' n' c' (stp R (stp S l))) => grow_drew (same_calls a n c _ a' n' c' _ W h h'))
      have HSq := hid_ (fun W (hW : Below w1.heap.size w1 W) => (⟨(HQ.out W hW).1, (HQ.out W hW).2, hW⟩ : (W.cell? ⟨w.heap.size, 0, none⟩ = some (.int .i64 R.f) ∧ W.cell? ⟨w.heap.size, 1, none⟩ = some (.slice a1 n1 c1) ∧ W.cell? ⟨w.heap.size, 2, none⟩ = some (.slice a2 n2 c2) ∧ W.cell? ⟨w.heap.size, 3, none⟩ = some (.slice a3 n3 c3)) ∧ (W.cell? ⟨w.heap.size + 1, 0, none⟩ = some (.int .i64 S.f) ∧ W.cell? ⟨w.heap.size + 1, 1, none⟩ = some (.slice b1 m1 d1) ∧ W.cell? ⟨w.heap.size + 1, 2, none⟩ = some (.slice b2 m2 d2) ∧ W.cell? ⟨w.heap.size + 1, 3, none⟩ = some (.slice b3 m3 d3)) ∧ Below w1.heap.size w1 W))
      have HF : Hid (fourB R S l = (decide (8 < (stp R l).length) || (decide (8 < (stp S l).length) || (decide (8 < (stp S (stp R l)).length) || decide (8 < (stp R (stp S l)).length))))) := hid_ rfl
      rw [ht] at HT
      rw [hv] at HVW
      have Y1 := hid_ y1
      have Y2 := hid_ y2
      change Hid (∀ W hW, Calls _ _ _ W fun e w' => ∃ v', e = .returned v' ∧ Made _ W w' v' (stp R l)) at HA1
      change Hid (∀ W hW, Calls _ _ _ W fun e w' => ∃ v', e = .returned v' ∧ Made _ W w' v' (stp S l)) at HA2
      change Hid (∀ W hW a c (hi : IntsAt W a (stp R l).length c (stp R l)), Calls _ _ _ W fun e w' => ∃ v', e = .returned v' ∧ Made _ W w' v' (stp S (stp R l))) at HA3
      change Hid (∀ W hW a c (hi : IntsAt W a (stp S l).length c (stp S l)), Calls _ _ _ W fun e w' => ∃ v', e = .returned v' ∧ Made _ W w' v' (stp R (stp S l))) at HA4
      clear ht hv he y1 y2 f1 o1 oR f2 o2 oS k1 k2
      generalize stp S (stp R l) = M3 at *
      generalize stp R (stp S l) = M4 at *
      generalize stp R l = M1 at *
      generalize stp S l = M2 at *
      generalize comB R S l = cb at *
      generalize comE R S l = ce at *
      generalize fourB R S l = fb at *
      generalize Same M3 M4 = sm at *
      have lm1 : M1.length ≤ 26 := by omega
      have lm2 : M2.length ≤ 26 := by omega
      have lm3 : M3.length ≤ 100 := by omega
      have lm4 : M4.length ≤ 100 := by omega
      clear lR lS lRS lSR
      go_enter Try.func58, Try.ntmps58
      go_wp2_with (first
        | (go_at_call 133; ((with_reducible refine (HT.out).mono ?_); rintro e w5 ⟨rfl, hb5⟩; clear q0 q1 q2 q3 s0 s1 s2 s3; obtain ⟨⟨q0, q1, q2, q3⟩, s0, s1, s2, s3⟩ := HQ.out w5 hb5))
        | (go_at_call 36; ((with_reducible refine (HVW.out _ hb5).mono ?_); rintro e w6 ⟨rfl, rfl⟩)))
      have hbd : Below w1.heap.size w1 w5.drew := Below.drew hb5
      go_region_held3 (fun W => (W.cell? ⟨w.heap.size, 0, none⟩ = some (.int .i64 R.f) ∧ W.cell? ⟨w.heap.size, 1, none⟩ = some (.slice a1 n1 c1) ∧ W.cell? ⟨w.heap.size, 2, none⟩ = some (.slice a2 n2 c2) ∧ W.cell? ⟨w.heap.size, 3, none⟩ = some (.slice a3 n3 c3)) ∧ (W.cell? ⟨w.heap.size + 1, 0, none⟩ = some (.int .i64 S.f) ∧ W.cell? ⟨w.heap.size + 1, 1, none⟩ = some (.slice b1 m1 d1) ∧ W.cell? ⟨w.heap.size + 1, 2, none⟩ = some (.slice b2 m2 d2) ∧ W.cell? ⟨w.heap.size + 1, 3, none⟩ = some (.slice b3 m3 d3)) ∧ Below w1.heap.size w1 W) ((refine HSq.out _ ?_; assumption))
        (first
          | ((go_at_call 125; (with_reducible refine (HA1.out _ hbd).mono ?_); rintro e w7 ⟨v7, rfl, hm7⟩; have hc7 := hm7.bel; have hb7 := hbd.trans (hm7.bel.mono hbd.size); obtain ⟨a7, k7, rfl, hi7⟩ := hm7.at_; have hl7 := hid_ hi7.small; have H7 := hid_ hi7; clear hm7 hi7))
          | ((go_at_call 125; (with_reducible refine (HA2.out _ hb7).mono ?_); rintro e w8 ⟨v8, rfl, hm8⟩; have hc8 := hm8.bel; have hb8 := hb7.trans (hm8.bel.mono hb7.size); obtain ⟨a8, k8, rfl, hi8⟩ := hm8.at_; have hl8 := hid_ hi8.small; have H8 := hid_ hi8; clear hm8 hi8)))
      go_wp2_with fail
      clear q0 q1 q2 q3 s0 s1 s2 s3
      obtain ⟨⟨q0, q1, q2, q3⟩, s0, s1, s2, s3⟩ := HQ.out w8 hb8
      have hbd8 : Below w1.heap.size w1 w8.drew := Below.drew hb8
      have hdd : Below w8.heap.size w8 w8.drew := Below.drew (Below.refl _ _)
      go_region_held3 (fun W => (W.cell? ⟨w.heap.size, 0, none⟩ = some (.int .i64 R.f) ∧ W.cell? ⟨w.heap.size, 1, none⟩ = some (.slice a1 n1 c1) ∧ W.cell? ⟨w.heap.size, 2, none⟩ = some (.slice a2 n2 c2) ∧ W.cell? ⟨w.heap.size, 3, none⟩ = some (.slice a3 n3 c3)) ∧ (W.cell? ⟨w.heap.size + 1, 0, none⟩ = some (.int .i64 S.f) ∧ W.cell? ⟨w.heap.size + 1, 1, none⟩ = some (.slice b1 m1 d1) ∧ W.cell? ⟨w.heap.size + 1, 2, none⟩ = some (.slice b2 m2 d2) ∧ W.cell? ⟨w.heap.size + 1, 3, none⟩ = some (.slice b3 m3 d3)) ∧ Below w1.heap.size w1 W) ((refine HSq.out _ ?_; assumption))
        (first
          | ((go_at_call 125; (with_reducible refine (HA3.out _ hbd8 _ _ ((H7.out.below hc8 (Nat.le_refl _)).below hdd (Nat.le_refl _))).mono ?_); rintro e w9 ⟨v9, rfl, hm9⟩; have hc9 := hm9.bel; have hb9 := hbd8.trans (hm9.bel.mono hbd8.size); obtain ⟨a9, k9, rfl, hi9⟩ := hm9.at_; have hl9 := hid_ hi9.small; have H9 := hid_ hi9; clear hm9 hi9))
          | ((go_at_call 125; (with_reducible refine (HA4.out _ hb9 _ _ ((H8.out.below hdd (Nat.le_refl _)).below hc9 (Nat.le_refl _))).mono ?_); rintro e w10 ⟨v10, rfl, hm10⟩; have hc10 := hm10.bel; have hb10 := hb9.trans (hm10.bel.mono hb9.size); obtain ⟨a10, k10, rfl, hi10⟩ := hm10.at_; have hl10 := hid_ hi10.small; have H10 := hid_ hi10; clear hm10 hi10)))
      clear q0 q1 q2 q3 s0 s1 s2 s3
      by_cases hM1 : 8 < M1.length
      · have hfb : fb = true := by rw [HF.out]; simp [hM1]
        rw [hfb] at Y1 Y2
        clear hfb HF
        go_wp2
        go_ret2
        exact ⟨by rw [Y1.out, Y2.out]; rfl, Hb1.out.trans (hb10.mono Hb1.out.size)⟩
      ·
        by_cases hM2 : 8 < M2.length
        · have hfb : fb = true := by rw [HF.out]; simp [hM1, hM2]
          rw [hfb] at Y1 Y2
          clear hfb HF
          go_wp2
          go_ret2
          exact ⟨by rw [Y1.out, Y2.out]; rfl, Hb1.out.trans (hb10.mono Hb1.out.size)⟩
        ·
          by_cases hM3 : 8 < M3.length
          · have hfb : fb = true := by rw [HF.out]; simp [hM1, hM2, hM3]
            rw [hfb] at Y1 Y2
            clear hfb HF
            go_wp2
            go_ret2
            exact ⟨by rw [Y1.out, Y2.out]; rfl, Hb1.out.trans (hb10.mono Hb1.out.size)⟩
          ·
            by_cases hM4 : 8 < M4.length
            · have hfb : fb = true := by rw [HF.out]; simp [hM1, hM2, hM3, hM4]
              rw [hfb] at Y1 Y2
              clear hfb HF
              go_wp2
              go_ret2
              exact ⟨by rw [Y1.out, Y2.out]; rfl, Hb1.out.trans (hb10.mono Hb1.out.size)⟩
            ·
              have hfb : fb = false := by rw [HF.out]; simp [hM1, hM2, hM3, hM4]
              rw [hfb] at Y1 Y2
              clear hfb HF
              go_wp2_with (go_at_call 37; (with_reducible refine (HSm.out _ _ _ _ _ _ _ (H9.out.below hc10 (Nat.le_refl _)) H10.out).mono ?_); rintro e w11 ⟨rfl, hc11⟩; have hb11 := hb10.trans (hc11.mono hb10.size))
              go_ret2
              exact ⟨by rw [Y1.out, Y2.out]; rfl, Hb1.out.trans (hb11.mono Hb1.out.size)⟩
    · have he : err3 R S l = validW l := by rw [err3, if_pos ht]
      obtain ⟨y1, y2⟩ := com_no (l := l) (R := R) (S := S) (by rw [he]; exact hv)
      rw [y1, y2, he]
      rw [ht] at HT
      have hq : (validW l != 0) = true := by simpa using hv
      generalize validW l = er at *
      clear he y1 y2 ht hv
      go_enter Try.func58, Try.ntmps58
      go_wp2_with (first
        | (go_at_call 133; ((with_reducible refine (HT.out).mono ?_); rintro e w5 ⟨rfl, hb5⟩; clear q0 q1 q2 q3 s0 s1 s2 s3; obtain ⟨⟨q0, q1, q2, q3⟩, s0, s1, s2, s3⟩ := HQ.out w5 hb5))
        | (go_at_call 36; ((with_reducible refine (HVW.out _ hb5).mono ?_); rintro e w6 ⟨rfl, rfl⟩)))
      go_ret2
      exact ⟨rfl, Hb1.out.trans (hb5.mono Hb1.out.size)⟩
  · have he : err3 R S l = errTwo R S := by rw [err3, if_neg ht]
    obtain ⟨y1, y2⟩ := com_no (l := l) (R := R) (S := S) (by rw [he]; exact ht)
    rw [y1, y2, he]
    have hq : (errTwo R S != 0) = true := by simpa using ht
    generalize errTwo R S = er at *
    clear he y1 y2 ht
    go_enter Try.func58, Try.ntmps58
    go_wp2_with (go_at_call 133; ((with_reducible refine (HT.out).mono ?_); rintro e w5 ⟨rfl, hb5⟩; clear q0 q1 q2 q3 s0 s1 s2 s3; obtain ⟨⟨q0, q1, q2, q3⟩, s0, s1, s2, s3⟩ := HQ.out w5 hb5))
    go_ret2
    exact ⟨rfl, Hb1.out.trans (hb5.mono Hb1.out.size)⟩
end Go.Proofs.Ytnpdhmejnoplcaa
