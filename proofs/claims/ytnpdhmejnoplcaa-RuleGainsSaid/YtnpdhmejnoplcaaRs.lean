import Derived.Test.YtnpdhmejnoplcaaPt
namespace Go.Proofs.Ytnpdhmejnoplcaa
open Go.RowKit Go.Proofs.Kv

/-! ### CanMeet -/
set_option maxRecDepth 100000 in
set_option maxHeartbeats 2000000 in
theorem ruCanMeet_calls (v u : Value) (R S : Rl) (w : World) (hr : RuleAt w v R) (hs : RuleAt w u S) :
    Calls Try.prog 53 #[v, u] w fun e w' => e = .returned (.tuple #[.bool (isBoth R S), .int .i64 (errTwo R S)]) ∧ Below w.heap.size w w' := by
  have Hr := hid_ hr
  have Hs := hid_ hs
  obtain ⟨a1, n1, c1, a2, n2, c2, a3, n3, c3, rfl, h1, h2, h3⟩ := hr
  obtain ⟨b1, m1, d1, b2, m2, d2, b3, m3, d3, rfl, h4, h5, h6⟩ := hs
  obtain ⟨w0, hw0⟩ : ∃ w0, w.alloc (.cells #[.int .i64 R.f, .slice a1 n1 c1, .slice a2 n2 c2, .slice a3 n3 c3] 24) = w0 := ⟨_, rfl⟩
  have hz0 : w0.heap.size = w.heap.size + 1 := by rw [← hw0]; simp
  have Hb0 : Hid (Below w.heap.size w w0) := hid_ (by rw [← hw0]; exact below_alloc _ _)
  obtain ⟨w1, hw1⟩ : ∃ w1, w0.alloc (.cells #[.int .i64 S.f, .slice b1 m1 d1, .slice b2 m2 d2, .slice b3 m3 d3] 24) = w1 := ⟨_, rfl⟩
  have Hb01 : Hid (Below w0.heap.size w0 w1) := hid_ (by rw [← hw1]; exact below_alloc _ _)
  have Hb1 : Hid (Below w.heap.size w w1) := hid_ (Hb0.out.trans (Hb01.out.mono Hb0.out.size))
  have HW0 := hid_ hw0
  have HW1 := hid_ hw1
  have HZ0 := hid_ hz0
  have HZ1 : Hid (w1.heap.size = w.heap.size + 2) := hid_ (by rw [← hw1]; simp [HZ0.out])
  have HQ : Hid (∀ W, Below w1.heap.size w1 W → (W.cell? ⟨w.heap.size, 0, none⟩ = some (.int .i64 R.f) ∧ W.cell? ⟨w.heap.size, 1, none⟩ = some (.slice a1 n1 c1) ∧ W.cell? ⟨w.heap.size, 2, none⟩ = some (.slice a2 n2 c2) ∧ W.cell? ⟨w.heap.size, 3, none⟩ = some (.slice a3 n3 c3)) ∧ W.cell? ⟨w.heap.size + 1, 0, none⟩ = some (.int .i64 S.f) ∧ W.cell? ⟨w.heap.size + 1, 1, none⟩ = some (.slice b1 m1 d1) ∧ W.cell? ⟨w.heap.size + 1, 2, none⟩ = some (.slice b2 m2 d2) ∧ W.cell? ⟨w.heap.size + 1, 3, none⟩ = some (.slice b3 m3 d3)) := hid_ (fun W hW => ⟨box4 HW0.out (Hb01.out.trans (hW.mono Hb01.out.size)), by have := box4 HW1.out hW; rwa [HZ0.out] at this⟩)
  have HR := hid_ (fun W (hW : Below w1.heap.size w1 W) => (Hr.out.below Hb1.out (Nat.le_refl _)).below hW (Nat.le_refl _))
  have HS := hid_ (fun W (hW : Below w1.heap.size w1 W) => (Hs.out.below Hb1.out (Nat.le_refl _)).below hW (Nat.le_refl _))
  have hb1 : Below w1.heap.size w1 w1 := Below.refl _ _
  obtain ⟨⟨q0, q1, q2, q3⟩, s0, s1, s2, s3⟩ := HQ.out w1 hb1

  clear h1 h2 h3 h4 h5 h6
  have HB := hid_ (ruBoth_calls _ _ R S w1 (HR.out w1 hb1) (HS.out w1 hb1))
  generalize bothL R S = l1 at *
  generalize bothR R S = l2 at *
  generalize isBoth R S = x1 at *
  generalize errTwo R S = x2 at *
  go_enter Try.func53, Try.ntmps53
  go_wp2_with (go_at_call 51; (with_reducible refine (HB.out).mono ?_); rintro e w5 ⟨v1, v2, rfl, -, -, hb5⟩)
  go_ret2
  exact ⟨rfl, Hb1.out.trans (hb5.mono Hb1.out.size)⟩
/-! ### the reference's IsSpecial, Both, CanMeet -/
set_option maxRecDepth 100000 in
set_option maxHeartbeats 2000000 in
theorem r2IsSpecial_calls (v u : Value) (R S : Rl) (w : World) (hr : RuleAt w v R) (hs : RuleAt w u S) :
    Calls Try.prog 49 #[v, u] w fun e w' => e = .returned (.tuple #[.bool (isSpc R S), .int .i64 (errTwo R S)]) ∧ Below w.heap.size w w' := by
  have Hr := hid_ hr
  have Hs := hid_ hs
  obtain ⟨a1, n1, c1, a2, n2, c2, a3, n3, c3, rfl, h1, h2, h3⟩ := hr
  obtain ⟨b1, m1, d1, b2, m2, d2, b3, m3, d3, rfl, h4, h5, h6⟩ := hs
  obtain ⟨w0, hw0⟩ : ∃ w0, w.alloc (.cells #[.int .i64 R.f, .slice a1 n1 c1, .slice a2 n2 c2, .slice a3 n3 c3] 24) = w0 := ⟨_, rfl⟩
  have hz0 : w0.heap.size = w.heap.size + 1 := by rw [← hw0]; simp
  have Hb0 : Hid (Below w.heap.size w w0) := hid_ (by rw [← hw0]; exact below_alloc _ _)
  obtain ⟨w1, hw1⟩ : ∃ w1, w0.alloc (.cells #[.int .i64 S.f, .slice b1 m1 d1, .slice b2 m2 d2, .slice b3 m3 d3] 24) = w1 := ⟨_, rfl⟩
  have Hb01 : Hid (Below w0.heap.size w0 w1) := hid_ (by rw [← hw1]; exact below_alloc _ _)
  have Hb1 : Hid (Below w.heap.size w w1) := hid_ (Hb0.out.trans (Hb01.out.mono Hb0.out.size))
  have HW0 := hid_ hw0
  have HW1 := hid_ hw1
  have HZ0 := hid_ hz0
  have HZ1 : Hid (w1.heap.size = w.heap.size + 2) := hid_ (by rw [← hw1]; simp [HZ0.out])
  have HQ : Hid (∀ W, Below w1.heap.size w1 W → (W.cell? ⟨w.heap.size, 0, none⟩ = some (.int .i64 R.f) ∧ W.cell? ⟨w.heap.size, 1, none⟩ = some (.slice a1 n1 c1) ∧ W.cell? ⟨w.heap.size, 2, none⟩ = some (.slice a2 n2 c2) ∧ W.cell? ⟨w.heap.size, 3, none⟩ = some (.slice a3 n3 c3)) ∧ W.cell? ⟨w.heap.size + 1, 0, none⟩ = some (.int .i64 S.f) ∧ W.cell? ⟨w.heap.size + 1, 1, none⟩ = some (.slice b1 m1 d1) ∧ W.cell? ⟨w.heap.size + 1, 2, none⟩ = some (.slice b2 m2 d2) ∧ W.cell? ⟨w.heap.size + 1, 3, none⟩ = some (.slice b3 m3 d3)) := hid_ (fun W hW => ⟨box4 HW0.out (Hb01.out.trans (hW.mono Hb01.out.size)), by have := box4 HW1.out hW; rwa [HZ0.out] at this⟩)
  have HR := hid_ (fun W (hW : Below w1.heap.size w1 W) => (Hr.out.below Hb1.out (Nat.le_refl _)).below hW (Nat.le_refl _))
  have HS := hid_ (fun W (hW : Below w1.heap.size w1 W) => (Hs.out.below Hb1.out (Nat.le_refl _)).below hW (Nat.le_refl _))
  have hb1 : Below w1.heap.size w1 w1 := Below.refl _ _
  obtain ⟨⟨q0, q1, q2, q3⟩, s0, s1, s2, s3⟩ := HQ.out w1 hb1

  have HT := hid_ (two_calls _ _ R S w1 (HR.out w1 hb1) (HS.out w1 hb1))
  by_cases he : errTwo R S = 0
  · have HI : Hid (isSpc R S = spcB R S) := hid_ (if_pos he)
    have HA := hid_ (fun W (hW : Below w1.heap.size w1 W) => inside_calls a2 n2 c2 R.le b2 m2 d2 S.le W ((h2.below Hb1.out (Nat.le_refl _)).below hW (Nat.le_refl _)) ((h5.below Hb1.out (Nat.le_refl _)).below hW (Nat.le_refl _)))
    have HB := hid_ (fun W (hW : Below w1.heap.size w1 W) => inside_calls a3 n3 c3 R.ri b3 m3 d3 S.ri W ((h3.below Hb1.out (Nat.le_refl _)).below hW (Nat.le_refl _)) ((h6.below Hb1.out (Nat.le_refl _)).below hW (Nat.le_refl _)))
    clear h1 h2 h3 h4 h5 h6
    rw [he] at HT ⊢
    clear he
    by_cases hf : R.f = S.f
    · have hq : (R.f == S.f) = true := by simpa using hf
      have HE : Hid (isSpc R S = (insideB R.le S.le && insideB R.ri S.ri)) := hid_ (by rw [HI.out, spcB, decide_eq_true hf]; rfl)
      clear hf HI
      generalize insideB R.le S.le = y1 at *
      generalize insideB R.ri S.ri = y2 at *
      cases y1
      · go_enter Try.func49, Try.ntmps49
        go_wp2_with (first
          | (go_at_call 133; with_reducible refine (HT.out).mono ?_; rintro e w5 ⟨rfl, hb5⟩; clear q0 q1 q2 q3 s0 s1 s2 s3; obtain ⟨⟨q0, q1, q2, q3⟩, s0, s1, s2, s3⟩ := HQ.out w5 hb5)
          | (go_at_call 134; with_reducible refine (HA.out _ hb5).mono ?_; rintro e w6 ⟨rfl, rfl⟩))
        go_ret2
        exact ⟨by rw [HE.out]; rfl, Hb1.out.trans (hb5.mono Hb1.out.size)⟩
      · go_enter Try.func49, Try.ntmps49
        go_wp2_with (first
          | (go_at_call 133; with_reducible refine (HT.out).mono ?_; rintro e w5 ⟨rfl, hb5⟩; clear q0 q1 q2 q3 s0 s1 s2 s3; obtain ⟨⟨q0, q1, q2, q3⟩, s0, s1, s2, s3⟩ := HQ.out w5 hb5)
          | (go_at_call 134; with_reducible refine (HA.out _ hb5).mono ?_; rintro e w6 ⟨rfl, rfl⟩)
          | (go_at_call 134; with_reducible refine (HB.out _ hb5).mono ?_; rintro e w6 ⟨rfl, rfl⟩))
        go_ret2
        exact ⟨by rw [HE.out]; rfl, Hb1.out.trans (hb5.mono Hb1.out.size)⟩
    · have hq : (R.f == S.f) = false := by simpa using hf
      have HE : Hid (isSpc R S = false) := hid_ (by rw [HI.out, spcB, decide_eq_false hf]; rfl)
      clear hf HI
      go_enter Try.func49, Try.ntmps49
      go_wp2_with (go_at_call 133; with_reducible refine (HT.out).mono ?_; rintro e w5 ⟨rfl, hb5⟩; clear q0 q1 q2 q3 s0 s1 s2 s3; obtain ⟨⟨q0, q1, q2, q3⟩, s0, s1, s2, s3⟩ := HQ.out w5 hb5)
      go_ret2
      exact ⟨by rw [HE.out]; rfl, Hb1.out.trans (hb5.mono Hb1.out.size)⟩
  · have HE : Hid (isSpc R S = false) := hid_ (if_neg he)
    generalize errTwo R S = er at *
    have hq : (er != 0) = true := by simpa using he
    clear he h1 h2 h3 h4 h5 h6
    go_enter Try.func49, Try.ntmps49
    go_wp2_with (go_at_call 133; with_reducible refine (HT.out).mono ?_; rintro e w5 ⟨rfl, hb5⟩; clear q0 q1 q2 q3 s0 s1 s2 s3; obtain ⟨⟨q0, q1, q2, q3⟩, s0, s1, s2, s3⟩ := HQ.out w5 hb5)
    go_ret2
    exact ⟨by rw [HE.out]; rfl, Hb1.out.trans (hb5.mono Hb1.out.size)⟩
set_option maxRecDepth 100000 in
set_option maxHeartbeats 4000000 in
theorem r2Both_calls (v u : Value) (R S : Rl) (w : World) (hr : RuleAt w v R) (hs : RuleAt w u S) :
    Calls Try.prog 52 #[v, u] w (BothPost w (bothL R S) (bothR R S) (isBoth R S) (errTwo R S)) := by
  have Hr := hid_ hr
  have Hs := hid_ hs
  obtain ⟨a1, n1, c1, a2, n2, c2, a3, n3, c3, rfl, h1, h2, h3⟩ := hr
  obtain ⟨b1, m1, d1, b2, m2, d2, b3, m3, d3, rfl, h4, h5, h6⟩ := hs
  obtain ⟨w0, hw0⟩ : ∃ w0, w.alloc (.cells #[.int .i64 R.f, .slice a1 n1 c1, .slice a2 n2 c2, .slice a3 n3 c3] 24) = w0 := ⟨_, rfl⟩
  have hz0 : w0.heap.size = w.heap.size + 1 := by rw [← hw0]; simp
  have Hb0 : Hid (Below w.heap.size w w0) := hid_ (by rw [← hw0]; exact below_alloc _ _)
  obtain ⟨w1, hw1⟩ : ∃ w1, w0.alloc (.cells #[.int .i64 S.f, .slice b1 m1 d1, .slice b2 m2 d2, .slice b3 m3 d3] 24) = w1 := ⟨_, rfl⟩
  have Hb01 : Hid (Below w0.heap.size w0 w1) := hid_ (by rw [← hw1]; exact below_alloc _ _)
  have Hb1 : Hid (Below w.heap.size w w1) := hid_ (Hb0.out.trans (Hb01.out.mono Hb0.out.size))
  have HW0 := hid_ hw0
  have HW1 := hid_ hw1
  have HZ0 := hid_ hz0
  have HZ1 : Hid (w1.heap.size = w.heap.size + 2) := hid_ (by rw [← hw1]; simp [HZ0.out])
  have HQ : Hid (∀ W, Below w1.heap.size w1 W → (W.cell? ⟨w.heap.size, 0, none⟩ = some (.int .i64 R.f) ∧ W.cell? ⟨w.heap.size, 1, none⟩ = some (.slice a1 n1 c1) ∧ W.cell? ⟨w.heap.size, 2, none⟩ = some (.slice a2 n2 c2) ∧ W.cell? ⟨w.heap.size, 3, none⟩ = some (.slice a3 n3 c3)) ∧ W.cell? ⟨w.heap.size + 1, 0, none⟩ = some (.int .i64 S.f) ∧ W.cell? ⟨w.heap.size + 1, 1, none⟩ = some (.slice b1 m1 d1) ∧ W.cell? ⟨w.heap.size + 1, 2, none⟩ = some (.slice b2 m2 d2) ∧ W.cell? ⟨w.heap.size + 1, 3, none⟩ = some (.slice b3 m3 d3)) := hid_ (fun W hW => ⟨box4 HW0.out (Hb01.out.trans (hW.mono Hb01.out.size)), by have := box4 HW1.out hW; rwa [HZ0.out] at this⟩)
  have HR := hid_ (fun W (hW : Below w1.heap.size w1 W) => (Hr.out.below Hb1.out (Nat.le_refl _)).below hW (Nat.le_refl _))
  have HS := hid_ (fun W (hW : Below w1.heap.size w1 W) => (Hs.out.below Hb1.out (Nat.le_refl _)).below hW (Nat.le_refl _))
  have hb1 : Below w1.heap.size w1 w1 := Below.refl _ _
  obtain ⟨⟨q0, q1, q2, q3⟩, s0, s1, s2, s3⟩ := HQ.out w1 hb1

  have HT := hid_ (two_calls _ _ R S w1 (HR.out w1 hb1) (HS.out w1 hb1))
  by_cases he : errTwo R S = 0
  · have HI : Hid (isBoth R S = okBoth R S) := hid_ (if_pos he)
    have HA := hid_ (fun W (hW : Below w1.heap.size w1 W) => refCommon_calls a2 n2 c2 R.le b2 m2 d2 S.le W ((h2.below Hb1.out (Nat.le_refl _)).below hW (Nat.le_refl _)) ((h5.below Hb1.out (Nat.le_refl _)).below hW (Nat.le_refl _)))
    have HB := hid_ (fun W (hW : Below w1.heap.size w1 W) => refCommon_calls a3 n3 c3 R.ri b3 m3 d3 S.ri W ((h3.below Hb1.out (Nat.le_refl _)).below hW (Nat.le_refl _)) ((h6.below Hb1.out (Nat.le_refl _)).below hW (Nat.le_refl _)))
    clear h1 h2 h3 h4 h5 h6
    have HSq := hid_ (fun W (hW : Below w1.heap.size w1 W) => (⟨(HQ.out W hW).1, (HQ.out W hW).2, hW⟩ : (W.cell? ⟨w.heap.size, 0, none⟩ = some (.int .i64 R.f) ∧ W.cell? ⟨w.heap.size, 1, none⟩ = some (.slice a1 n1 c1) ∧ W.cell? ⟨w.heap.size, 2, none⟩ = some (.slice a2 n2 c2) ∧ W.cell? ⟨w.heap.size, 3, none⟩ = some (.slice a3 n3 c3)) ∧ (W.cell? ⟨w.heap.size + 1, 0, none⟩ = some (.int .i64 S.f) ∧ W.cell? ⟨w.heap.size + 1, 1, none⟩ = some (.slice b1 m1 d1) ∧ W.cell? ⟨w.heap.size + 1, 2, none⟩ = some (.slice b2 m2 d2) ∧ W.cell? ⟨w.heap.size + 1, 3, none⟩ = some (.slice b3 m3 d3)) ∧ Below w1.heap.size w1 W))
    have HBL : Hid (bothL R S = bif isBoth R S then comL R.le S.le else []) := hid_ rfl
    have HBR : Hid (bothR R S = bif isBoth R S then comL R.ri S.ri else []) := hid_ rfl
    have HOK : Hid (okBoth R S = (decide (R.f = S.f) && (!(comL R.le S.le).isEmpty && !(comL R.ri S.ri).isEmpty))) := hid_ rfl
    rw [he] at HT ⊢
    clear he
    generalize bothL R S = BL at *
    generalize bothR R S = BR at *
    generalize isBoth R S = ib at *
    generalize okBoth R S = ob at *
    generalize comL R.le S.le = l1 at *
    generalize comL R.ri S.ri = l2 at *
    go_enter Try.func52, Try.ntmps52
    go_wp2_with (go_at_call 133; with_reducible refine (HT.out).mono ?_; rintro e w5 ⟨rfl, hb5⟩; clear q0 q1 q2 q3 s0 s1 s2 s3; obtain ⟨⟨q0, q1, q2, q3⟩, s0, s1, s2, s3⟩ := HQ.out w5 hb5)
    have hbd : Below w1.heap.size w1 w5.drew := Below.drew hb5
    go_region_held3 (fun W => (W.cell? ⟨w.heap.size, 0, none⟩ = some (.int .i64 R.f) ∧ W.cell? ⟨w.heap.size, 1, none⟩ = some (.slice a1 n1 c1) ∧ W.cell? ⟨w.heap.size, 2, none⟩ = some (.slice a2 n2 c2) ∧ W.cell? ⟨w.heap.size, 3, none⟩ = some (.slice a3 n3 c3)) ∧ (W.cell? ⟨w.heap.size + 1, 0, none⟩ = some (.int .i64 S.f) ∧ W.cell? ⟨w.heap.size + 1, 1, none⟩ = some (.slice b1 m1 d1) ∧ W.cell? ⟨w.heap.size + 1, 2, none⟩ = some (.slice b2 m2 d2) ∧ W.cell? ⟨w.heap.size + 1, 3, none⟩ = some (.slice b3 m3 d3)) ∧ Below w1.heap.size w1 W) ((refine HSq.out _ ?_; assumption))
      (first
        | ((go_at_call 136; (with_reducible refine (HA.out _ hbd).mono ?_); rintro e w9 ⟨v9, rfl, hm9⟩; have hb9 := hbd.trans (hm9.bel.mono hbd.size); obtain ⟨a9, k9, rfl, hi9⟩ := hm9.at_; have HM9 := hid_ hm9; clear hm9 hi9))
        | ((go_at_call 136; (with_reducible refine (HB.out _ hb9).mono ?_); rintro e w10 ⟨v10, rfl, hm10⟩; have hb10 := hb9.trans (hm10.bel.mono hb9.size); obtain ⟨a10, k10, rfl, hi10⟩ := hm10.at_; have HM10 := hid_ hm10; clear hm10 hi10)))
    clear q0 q1 q2 q3 s0 s1 s2 s3
    obtain ⟨⟨q0, q1, q2, q3⟩, s0, s1, s2, s3⟩ := HQ.out w10 hb10
    have hne : ∀ l : List Int, l ≠ [] → ((l.length : Int) == 0) = false ∧ l.isEmpty = false := fun l hl => by cases l <;> simp at hl ⊢; omega
    have HN := hid_ hne; clear hne
    by_cases hf : R.f = S.f
    · have hq : (R.f != S.f) = false := by simpa using hf
      have HO : Hid (ob = (!l1.isEmpty && !l2.isEmpty)) := hid_ (by rw [HOK.out, decide_eq_true hf]; rfl)
      clear hf HOK
      by_cases hl1 : l1 = []
      · subst hl1
        have hib : ib = false := by rw [HI.out, HO.out]; rfl
        subst hib
        have hbl : BL = [] := HBL.out
        have hbr : BR = [] := HBR.out
        subst hbl hbr
        go_wp2
        refine bodyPost_ret (v := .tuple #[.slice none 0 0, .slice none 0 0, .bool false, .int .i64 0]) (by simp [results, Try.results52, go_sem]) rfl (BothPost.none_ _ ?_)
        exact Hb1.out.trans (hb10.mono Hb1.out.size)
      · obtain ⟨z1, z2⟩ := HN.out l1 hl1
        by_cases hl2 : l2 = []
        · subst hl2
          have hib : ib = false := by rw [HI.out, HO.out, z2]; rfl
          subst hib
          have hbl : BL = [] := HBL.out
          have hbr : BR = [] := HBR.out
          subst hbl hbr
          clear z2 hl1
          go_wp2
          refine bodyPost_ret (v := .tuple #[.slice none 0 0, .slice none 0 0, .bool false, .int .i64 0]) (by simp [results, Try.results52, go_sem]) rfl (BothPost.none_ _ ?_)
          exact Hb1.out.trans (hb10.mono Hb1.out.size)
        · obtain ⟨z3, z4⟩ := HN.out l2 hl2
          have hib : ib = true := by rw [HI.out, HO.out, z2, z4]; rfl
          subst hib
          have hbl : BL = l1 := HBL.out
          have hbr : BR = l2 := HBR.out
          have Hbl := hid_ hbl
          have Hbr := hid_ hbr
          clear z2 z4 hl1 hl2 hbl hbr HBL HBR
          go_wp2
          refine bodyPost_ret (v := .tuple #[.slice a9 l1.length k9, .slice a10 l2.length k10, .bool true, .int .i64 0]) (by simp [results, Try.results52, go_sem]) rfl ⟨_, _, rfl, ?_, ?_, ?_⟩
          · rw [Hbl.out]; exact own_base (own_below HM9.out.own HM10.out.bel (Nat.le_refl _)) (Nat.le_trans Hb1.out.size hbd.size)
          · rw [Hbr.out]; exact own_base HM10.out.own (Nat.le_trans Hb1.out.size hb9.size)
          exact Hb1.out.trans (hb10.mono Hb1.out.size)
    · have hq : (R.f != S.f) = true := by simpa using hf
      have hib : ib = false := by rw [HI.out, HOK.out, decide_eq_false hf]; rfl
      subst hib
      have hbl : BL = [] := HBL.out
      have hbr : BR = [] := HBR.out
      subst hbl hbr
      clear hf
      go_wp2
      refine bodyPost_ret (v := .tuple #[.slice none 0 0, .slice none 0 0, .bool false, .int .i64 0]) (by simp [results, Try.results52, go_sem]) rfl (BothPost.none_ _ ?_)
      exact Hb1.out.trans (hb10.mono Hb1.out.size)
  · have HE : Hid (isBoth R S = false) := hid_ (if_neg he)
    have HL : Hid (bothL R S = []) := hid_ (by rw [bothL, HE.out]; rfl)
    have HRR : Hid (bothR R S = []) := hid_ (by rw [bothR, HE.out]; rfl)
    generalize errTwo R S = er at *
    have hq : (er != 0) = true := by simpa using he
    clear he h1 h2 h3 h4 h5 h6
    go_enter Try.func52, Try.ntmps52
    go_wp2_with (go_at_call 133; with_reducible refine (HT.out).mono ?_; rintro e w5 ⟨rfl, hb5⟩; clear q0 q1 q2 q3 s0 s1 s2 s3; obtain ⟨⟨q0, q1, q2, q3⟩, s0, s1, s2, s3⟩ := HQ.out w5 hb5)
    rw [HE.out, HL.out, HRR.out]
    refine bodyPost_ret (v := .tuple #[.slice none 0 0, .slice none 0 0, .bool false, .int .i64 er]) (by simp [results, Try.results52, go_sem]) rfl (BothPost.none_ _ ?_)
    exact Hb1.out.trans (hb5.mono Hb1.out.size)
set_option maxRecDepth 100000 in
set_option maxHeartbeats 2000000 in
theorem r2CanMeet_calls (v u : Value) (R S : Rl) (w : World) (hr : RuleAt w v R) (hs : RuleAt w u S) :
    Calls Try.prog 54 #[v, u] w fun e w' => e = .returned (.tuple #[.bool (isBoth R S), .int .i64 (errTwo R S)]) ∧ Below w.heap.size w w' := by
  have Hr := hid_ hr
  have Hs := hid_ hs
  obtain ⟨a1, n1, c1, a2, n2, c2, a3, n3, c3, rfl, h1, h2, h3⟩ := hr
  obtain ⟨b1, m1, d1, b2, m2, d2, b3, m3, d3, rfl, h4, h5, h6⟩ := hs
  obtain ⟨w0, hw0⟩ : ∃ w0, w.alloc (.cells #[.int .i64 R.f, .slice a1 n1 c1, .slice a2 n2 c2, .slice a3 n3 c3] 24) = w0 := ⟨_, rfl⟩
  have hz0 : w0.heap.size = w.heap.size + 1 := by rw [← hw0]; simp
  have Hb0 : Hid (Below w.heap.size w w0) := hid_ (by rw [← hw0]; exact below_alloc _ _)
  obtain ⟨w1, hw1⟩ : ∃ w1, w0.alloc (.cells #[.int .i64 S.f, .slice b1 m1 d1, .slice b2 m2 d2, .slice b3 m3 d3] 24) = w1 := ⟨_, rfl⟩
  have Hb01 : Hid (Below w0.heap.size w0 w1) := hid_ (by rw [← hw1]; exact below_alloc _ _)
  have Hb1 : Hid (Below w.heap.size w w1) := hid_ (Hb0.out.trans (Hb01.out.mono Hb0.out.size))
  have HW0 := hid_ hw0
  have HW1 := hid_ hw1
  have HZ0 := hid_ hz0
  have HZ1 : Hid (w1.heap.size = w.heap.size + 2) := hid_ (by rw [← hw1]; simp [HZ0.out])
  have HQ : Hid (∀ W, Below w1.heap.size w1 W → (W.cell? ⟨w.heap.size, 0, none⟩ = some (.int .i64 R.f) ∧ W.cell? ⟨w.heap.size, 1, none⟩ = some (.slice a1 n1 c1) ∧ W.cell? ⟨w.heap.size, 2, none⟩ = some (.slice a2 n2 c2) ∧ W.cell? ⟨w.heap.size, 3, none⟩ = some (.slice a3 n3 c3)) ∧ W.cell? ⟨w.heap.size + 1, 0, none⟩ = some (.int .i64 S.f) ∧ W.cell? ⟨w.heap.size + 1, 1, none⟩ = some (.slice b1 m1 d1) ∧ W.cell? ⟨w.heap.size + 1, 2, none⟩ = some (.slice b2 m2 d2) ∧ W.cell? ⟨w.heap.size + 1, 3, none⟩ = some (.slice b3 m3 d3)) := hid_ (fun W hW => ⟨box4 HW0.out (Hb01.out.trans (hW.mono Hb01.out.size)), by have := box4 HW1.out hW; rwa [HZ0.out] at this⟩)
  have HR := hid_ (fun W (hW : Below w1.heap.size w1 W) => (Hr.out.below Hb1.out (Nat.le_refl _)).below hW (Nat.le_refl _))
  have HS := hid_ (fun W (hW : Below w1.heap.size w1 W) => (Hs.out.below Hb1.out (Nat.le_refl _)).below hW (Nat.le_refl _))
  have hb1 : Below w1.heap.size w1 w1 := Below.refl _ _
  obtain ⟨⟨q0, q1, q2, q3⟩, s0, s1, s2, s3⟩ := HQ.out w1 hb1

  clear h1 h2 h3 h4 h5 h6
  have HB := hid_ (r2Both_calls _ _ R S w1 (HR.out w1 hb1) (HS.out w1 hb1))
  generalize bothL R S = l1 at *
  generalize bothR R S = l2 at *
  generalize isBoth R S = x1 at *
  generalize errTwo R S = x2 at *
  go_enter Try.func54, Try.ntmps54
  go_wp2_with (go_at_call 52; (with_reducible refine (HB.out).mono ?_); rintro e w5 ⟨v1, v2, rfl, -, -, hb5⟩)
  go_ret2
  exact ⟨rfl, Hb1.out.trans (hb5.mono Hb1.out.size)⟩
end Go.Proofs.Ytnpdhmejnoplcaa
