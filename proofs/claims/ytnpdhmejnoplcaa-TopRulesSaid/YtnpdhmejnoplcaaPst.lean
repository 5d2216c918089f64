import Derived.Test.YtnpdhmejnoplcaaPmo
import Derived.Deep.RegionHeld3
import Derived.Laws.EntriesVeiled
namespace Go.Proofs.Ytnpdhmejnoplcaa
open Go.RowKit Go.Proofs.Kv

/-! ### IsSpecial -/
theorem bcell {W w1 : World} (hb : Below W.heap.size W w1) : (∀ b o, b < W.heap.size → w1.cell? ⟨b, o, none⟩ = W.cell? ⟨b, o, none⟩) ∧ (∀ b o, b < W.heap.size → w1.frozen? ⟨b, o, none⟩ = W.frozen? ⟨b, o, none⟩) :=
  ⟨fun b o h => hb.cell (p := ⟨b, o, none⟩) h, fun b o h => hb.frozen (p := ⟨b, o, none⟩) h⟩
/-- the value of a function that tells what a neighbor may be -/
def nbF (s : List Int) : Value := .func (.func 182) #[.agg (nbV s)] #[]
def spcB (R S : Rl) : Bool := decide (R.f = S.f) && (insideB R.le S.le && insideB R.ri S.ri)
def isSpc (R S : Rl) : Bool := if errTwo R S = 0 then spcB R S else false
theorem errTwo_ok {R S : Rl} (h : errTwo R S = 0) : validR R = 0 ∧ validR S = 0 := by
  unfold errTwo at h
  by_cases h1 : validR R = 0
  · rw [if_pos h1] at h; exact ⟨h1, h⟩
  · rw [if_neg h1] at h; exact absurd h h1
/-- block b was just laid down: two nil functions -/
structure Fresh (W : World) (b : Nat) : Prop where
  c : ∀ i, i < 2 → W.cell? ⟨b, i, none⟩ = some .nilFunc
  f : ∀ i, W.frozen? ⟨b, i, none⟩ = false
  lt : b < W.heap.size
theorem Fresh.new {T : TypeId} (W : World) : Fresh (W.alloc (.cells #[.nilFunc, .nilFunc] T)) W.heap.size :=
  ⟨fun i hi => by rw [cells_alloc]; (rcases i with _ | _ | i); rfl; rfl; omega, fun i => World.frozen?_alloc_at _ _ _ _ (by simp), by simp⟩
theorem Fresh.below {W w' : World} {b : Nat} (h : Fresh W b) (hc : Below W.heap.size W w') : Fresh w' b :=
  ⟨fun i hi => (hc.cell (p := ⟨b, i, none⟩) h.lt).trans (h.c i hi), fun i => (hc.frozen (p := ⟨b, i, none⟩) h.lt).trans (h.f i), Nat.lt_of_lt_of_le h.lt hc.size⟩
theorem Fresh.alloc {W : World} {b : Nat} (h : Fresh W b) (o : Obj) : Fresh (W.alloc o) b := h.below (below_alloc _ _)
theorem Fresh.drew {W : World} {b : Nat} (h : Fresh W b) : Fresh W.drew b := h.below (Below.drew (Below.refl _ _))
theorem Fresh.use {W : World} {b : Nat} (h : Fresh W b) : W.cell? ⟨b, 0, none⟩ = some .nilFunc ∧ W.cell? ⟨b, 1, none⟩ = some .nilFunc ∧ W.frozen? ⟨b, 0, none⟩ = false ∧ W.frozen? ⟨b, 1, none⟩ = false ∧ b ≠ W.heap.size ∧ W.heap.size ≠ b ∧ b < W.heap.size :=
  ⟨h.c 0 (by omega), h.c 1 (by omega), h.f 0, h.f 1, Nat.ne_of_lt h.lt, Nat.ne_of_gt h.lt, h.lt⟩
def TwoSides (w1 : World) (R S : Rl) (s7 s8 : Value) (wx : World) : Prop :=
  ∃ p q : Nat, s7 = .pointer (some ⟨p, 0, none⟩) ∧ s8 = .pointer (some ⟨q, 0, none⟩) ∧ wx.cell? ⟨p, 0, none⟩ = some (nbF R.le) ∧ wx.cell? ⟨p, 1, none⟩ = some (nbF R.ri) ∧ wx.cell? ⟨q, 0, none⟩ = some (nbF S.le) ∧ wx.cell? ⟨q, 1, none⟩ = some (nbF S.ri) ∧ Below w1.heap.size w1 wx
set_option maxRecDepth 100000 in
set_option maxHeartbeats 4000000 in
theorem ruIsSpecial_calls (v u : Value) (R S : Rl) (w : World) (hr : RuleAt w v R) (hs : RuleAt w u S) :
    Calls Try.prog 48 #[v, u] w fun e w' => e = .returned (.tuple #[.bool (isSpc R S), .int .i64 (errTwo R S)]) ∧ Below w.heap.size w w' := by
  have Hr := hid_ hr
  have Hs := hid_ hs
  obtain ⟨a1, n1, c1, a2, n2, c2, a3, n3, c3, rfl, h1, h2, h3⟩ := hr
  obtain ⟨b1, m1, d1, b2, m2, d2, b3, m3, d3, rfl, h4, h5, h6⟩ := hs
  obtain ⟨w0, hw0⟩ : ∃ w0, w.alloc (.cells #[.int .i64 R.f, .slice a1 n1 c1, .slice a2 n2 c2, .slice a3 n3 c3] 24) = w0 := ⟨_, rfl⟩
  have hz0 : w0.heap.size = w.heap.size + 1 := by rw [← hw0]; simp
  have Hb0 : Hid (Below w.heap.size w w0) := hid_ (by rw [← hw0]; exact below_alloc _ _)
  obtain ⟨w1, hw1⟩ : ∃ w1, w0.alloc (.cells #[.int .i64 S.f, .slice b1 m1 d1, .slice b2 m2 d2, .slice b3 m3 d3] 24) = w1 := ⟨_, rfl⟩
  have Hb01 : Hid (Below w0.heap.size w0 w1) := hid_ (by rw [← hw1]; exact below_alloc _ _)
  have Hb1 : Hid (Below w.heap.size w w1) := hid_ (Hb0.out.trans (Hb01.out.mono Hb0.out.size))
  have HW0 := hid_ hw0
  have HW1 := hid_ hw1
  have HZ0 := hid_ hz0
  have HZ1 : Hid (w1.heap.size = w.heap.size + 2) := hid_ (by rw [← hw1]; simp [HZ0.out])
  have HQ : Hid (∀ W, Below w1.heap.size w1 W → (W.cell? ⟨w.heap.size, 0, none⟩ = some (.int .i64 R.f) ∧ W.cell? ⟨w.heap.size, 1, none⟩ = some (.slice a1 n1 c1) ∧ W.cell? ⟨w.heap.size, 2, none⟩ = some (.slice a2 n2 c2) ∧ W.cell? ⟨w.heap.size, 3, none⟩ = some (.slice a3 n3 c3)) ∧ W.cell? ⟨w.heap.size + 1, 0, none⟩ = some (.int .i64 S.f) ∧ W.cell? ⟨w.heap.size + 1, 1, none⟩ = some (.slice b1 m1 d1) ∧ W.cell? ⟨w.heap.size + 1, 2, none⟩ = some (.slice b2 m2 d2) ∧ W.cell? ⟨w.heap.size + 1, 3, none⟩ = some (.slice b3 m3 d3)) := hid_ (fun W hW => ⟨box4 HW0.out (Hb01.out.trans (hW.mono Hb01.out.size)), by have := box4 HW1.out hW; rwa [HZ0.out] at this⟩)
  have HR := hid_ (fun W (hW : Below w1.heap.size w1 W) => (Hr.out.below Hb1.out (Nat.le_refl _)).below hW (Nat.le_refl _))
  have HS := hid_ (fun W (hW : Below w1.heap.size w1 W) => (Hs.out.below Hb1.out (Nat.le_refl _)).below hW (Nat.le_refl _))
  have hb1 : Below w1.heap.size w1 w1 := Below.refl _ _
  obtain ⟨⟨q0, q1, q2, q3⟩, s0, s1, s2, s3⟩ := HQ.out w1 hb1

  clear h1 h2 h3 h4 h5 h6
  have HV := hid_ (fun d os => ruValidate_calls _ R _ ((HR.out w1 hb1).grown d os))
  have HU := hid_ (fun d os => ruValidate_calls _ S _ ((HS.out w1 hb1).grown d os))
  have Hor := hid_ (show ∀ (w : World) (T : TypeId), Calls Try.prog 109 #[.slice (some ⟨w.heap.size, 0, none⟩) 2 2] (w.alloc (.cells #[.int .i64 (validR R), .int .i64 (validR S)] T)) fun e w' => e = .returned (.int .i64 (errTwo R S)) ∧ w.alloc (.cells #[.int .i64 (validR R), .int .i64 (validR S)] T) = w' from fun w T => or2_calls _ _ w T)
  have e0 := cell_regrown q0
  have e1 := cell_regrown q1
  have e2 := cell_regrown q2
  have e3 := cell_regrown q3
  have e4 := cell_regrown s0
  have e5 := cell_regrown s1
  have e6 := cell_regrown s2
  have e7 := cell_regrown s3
  clear q0 q1 q2 q3 s0 s1 s2 s3
  by_cases he : errTwo R S = 0
  · obtain ⟨y1, y2⟩ := errTwo_ok he
    obtain ⟨-, -, -, -, g5, g6⟩ := validR_ok y1
    obtain ⟨-, -, -, -, g7, g8⟩ := validR_ok y2
    have HI : Hid (isSpc R S = spcB R S) := hid_ (if_pos he)
    have HSR := hid_ (fun W hW => sidesOf_calls _ R W (HR.out W hW) g5 g6)
    have HSS := hid_ (fun W hW => sidesOf_calls _ S W (HS.out W hW) g7 g8)
    have HSq := hid_ (fun W (hW : Below w1.heap.size w1 W) => (⟨(HQ.out W hW).1, (HQ.out W hW).2, hW⟩ : (W.cell? ⟨w.heap.size, 0, none⟩ = some (.int .i64 R.f) ∧ W.cell? ⟨w.heap.size, 1, none⟩ = some (.slice a1 n1 c1) ∧ W.cell? ⟨w.heap.size, 2, none⟩ = some (.slice a2 n2 c2) ∧ W.cell? ⟨w.heap.size, 3, none⟩ = some (.slice a3 n3 c3)) ∧ (W.cell? ⟨w.heap.size + 1, 0, none⟩ = some (.int .i64 S.f) ∧ W.cell? ⟨w.heap.size + 1, 1, none⟩ = some (.slice b1 m1 d1) ∧ W.cell? ⟨w.heap.size + 1, 2, none⟩ = some (.slice b2 m2 d2) ∧ W.cell? ⟨w.heap.size + 1, 3, none⟩ = some (.slice b3 m3 d3)) ∧ Below w1.heap.size w1 W))
    rw [he] at Hor ⊢
    clear he y1 y2 g5 g6 g7 g8
    generalize validR R = x1 at *
    generalize validR S = x2 at *
    by_cases hf : R.f = S.f
    · have hq : (R.f != S.f) = false := by simpa using hf
      have HE : Hid (isSpc R S = (insideB R.le S.le && insideB R.ri S.ri)) := hid_ (by rw [HI.out, spcB, decide_eq_true hf]; rfl)
      clear hf HI
      go_enter Try.func48, Try.ntmps48
      go_wp2
      refine wp_region_tail 4 (by kernel_rfl) (by kernel_rfl) ?_
      simp only [List.take_succ_cons, List.take_zero, List.drop_succ_cons, List.drop_zero]
      repeat (first
        | go_big_quiet_skip
        | (go_big_quiet_want; go_big_quiet_op; first | go_big_quiet_on | go_big_quiet_call ((first
          | (go_at_call 33; with_reducible exact Calls.regrown_of (HV.out _ _))
          | (go_at_call 33; with_reducible exact Calls.regrown_of (HU.out _ _)))))) 
      refine wpQuiet_nil ?_
      rintro wq ⟨pq, hpq⟩
      have hbq := below_wq hpq
      clear hpq
      go_wp2_with (go_at_call 109; refine (Hor.out _ _).mono ?_; rintro e w5 ⟨rfl, hw5⟩; have hb5 : Below w1.heap.size w1 w5 := (by rw [← hw5]; exact hbq.trans ((below_alloc wq _).mono hbq.size)); clear hw5; obtain ⟨⟨q0, q1, q2, q3⟩, s0, s1, s2, s3⟩ := HQ.out w5 hb5)
      have hz5 := hb5.size
      go_cut [7, 8] (fun s7 s8 wx => TwoSides w1 R S s7 s8 wx)
      case first =>
        go_region_held3 (fun W => (W.cell? ⟨w.heap.size, 0, none⟩ = some (.int .i64 R.f) ∧ W.cell? ⟨w.heap.size, 1, none⟩ = some (.slice a1 n1 c1) ∧ W.cell? ⟨w.heap.size, 2, none⟩ = some (.slice a2 n2 c2) ∧ W.cell? ⟨w.heap.size, 3, none⟩ = some (.slice a3 n3 c3)) ∧ (W.cell? ⟨w.heap.size + 1, 0, none⟩ = some (.int .i64 S.f) ∧ W.cell? ⟨w.heap.size + 1, 1, none⟩ = some (.slice b1 m1 d1) ∧ W.cell? ⟨w.heap.size + 1, 2, none⟩ = some (.slice b2 m2 d2) ∧ W.cell? ⟨w.heap.size + 1, 3, none⟩ = some (.slice b3 m3 d3)) ∧ Below w1.heap.size w1 W) ((refine HSq.out _ ?_; (repeat (first | assumption | (with_reducible refine Below.setCell ?_ (by first | omega | (simp; omega)) _) | (with_reducible refine Below.alloc ?_ (by first | omega | (simp; omega)) _) | (with_reducible refine Below.drew ?_)))))
          (first
            | ((go_at_call 127; (with_reducible refine (HSR.out _ ?_).mono ?_); (focus (repeat (first | assumption | (with_reducible refine Below.setCell ?_ (by first | omega | (simp; omega)) _) | (with_reducible refine Below.alloc ?_ (by first | omega | (simp; omega)) _) | (with_reducible refine Below.drew ?_)))); rintro e w6 ⟨rfl, hc6⟩; have hb6 : Below w1.heap.size w1 w6 := below_then (by (repeat (first | assumption | (with_reducible refine Below.setCell ?_ (by first | omega | (simp; omega)) _) | (with_reducible refine Below.alloc ?_ (by first | omega | (simp; omega)) _) | (with_reducible refine Below.drew ?_)))) hc6; have hz6 := hb6.size; have hy6 := hc6.size; (try simp at hy6); (first | (have Fa := Fresh.below (((Fresh.new _).alloc _).drew) hc6; have Fb := Fresh.below ((Fresh.new _).drew) hc6; simp only [size_alloc_one] at Fb; obtain ⟨ra0, ra1, fa0, fa1, na, ma, la⟩ := Fa.use; obtain ⟨rb0, rb1, fb0, fb1, nb, mb, lb⟩ := Fb.use) | (have Fa := Fresh.below ((Fresh.new _).drew) hc6; obtain ⟨ra0, ra1, fa0, fa1, na, ma, la⟩ := Fa.use) | skip)))
            | ((go_at_call 127; (with_reducible refine (HSS.out _ ?_).mono ?_); (focus (repeat (first | assumption | (with_reducible refine Below.setCell ?_ (by first | omega | (simp; omega)) _) | (with_reducible refine Below.alloc ?_ (by first | omega | (simp; omega)) _) | (with_reducible refine Below.drew ?_)))); rintro e w7 ⟨rfl, hc7⟩; have hb7 : Below w1.heap.size w1 w7 := below_then (by (repeat (first | assumption | (with_reducible refine Below.setCell ?_ (by first | omega | (simp; omega)) _) | (with_reducible refine Below.alloc ?_ (by first | omega | (simp; omega)) _) | (with_reducible refine Below.drew ?_)))) hc7; have hz7 := hb7.size; have hy7 := hc7.size; (try simp at hy7); (first | (have Fc := Fresh.below Fa hc7; have Fd := Fresh.below Fb hc7; obtain ⟨rc0, rc1, fc0, fc1, nc, mc, lc⟩ := Fc.use; obtain ⟨rd0, rd1, fd0, fd1, nd, md, ld⟩ := Fd.use) | (have Fc := Fresh.below (Fa.alloc _) hc7; have Fd := Fresh.below (Fresh.new _) hc7; obtain ⟨rc0, rc1, fc0, fc1, nc, mc, lc⟩ := Fc.use; obtain ⟨rd0, rd1, fd0, fd1, nd, md, ld⟩ := Fd.use) | (have Fc := Fresh.below Fa hc7; obtain ⟨rc0, rc1, fc0, fc1, nc, mc, lc⟩ := Fc.use) | (have Fc := Fresh.below ((Fresh.new _).alloc _) hc7; have Fd := Fresh.below (Fresh.new _) hc7; simp only [size_alloc_one] at Fd; obtain ⟨rc0, rc1, fc0, fc1, nc, mc, lc⟩ := Fc.use; obtain ⟨rd0, rd1, fd0, fd1, nd, md, ld⟩ := Fd.use) | (have Fc := Fresh.below (Fresh.new _) hc7; obtain ⟨rc0, rc1, fc0, fc1, nc, mc, lc⟩ := Fc.use) | skip))))
        all_goals (go_wp2_with fail; go_meet; refine ⟨_, _, rfl, rfl, ?_, ?_, ?_, ?_, ?_⟩)
        all_goals (first | (simp [go_sem, nbF, *]; done) | skip)
      case rest =>
        obtain ⟨p, q, rfl, rfl, c0', c1', c2', c3', hb8⟩ := hcut
        have HA := hid_ (show ∀ w, Calls Try.prog 132 #[nbF R.le, nbF S.le] w fun e w' => e = .returned (.bool (insideB R.le S.le)) ∧ Below w.heap.size w w' from isWithin_calls R.le S.le)
        have HB := hid_ (show ∀ w, Calls Try.prog 132 #[nbF R.ri, nbF S.ri] w fun e w' => e = .returned (.bool (insideB R.ri S.ri)) ∧ Below w.heap.size w w' from isWithin_calls R.ri S.ri)
        clear HSq HSR HSS q0 q1 q2 q3 s0 s1 s2 s3
        have hix := sides_left
        have hiy := sides_right
        generalize insideB R.le S.le = y1 at *
        generalize insideB R.ri S.ri = y2 at *
        generalize nbF R.le = n1 at *
        generalize nbF R.ri = n2 at *
        generalize nbF S.le = n3 at *
        generalize nbF S.ri = n4 at *
        cases y1
        · go_wp2_with (go_at_call 132; with_reducible refine (HA.out _).mono ?_; rintro e w9 ⟨rfl, hb9⟩)
          go_ret2
          exact ⟨by rw [HE.out]; rfl, Hb1.out.trans ((hb8.trans (hb9.mono hb8.size)).mono Hb1.out.size)⟩
        · go_wp2_with (first
            | (go_at_call 132; with_reducible refine (HA.out _).mono ?_; rintro e w9 ⟨rfl, hb9⟩; have c1'' := (hb9.cell (World.block_lt_of_cell? _ _ c1')).trans c1'; have c3'' := (hb9.cell (World.block_lt_of_cell? _ _ c3')).trans c3')
            | (go_at_call 132; with_reducible refine (HB.out _).mono ?_; rintro e w10 ⟨rfl, hb10⟩))
          go_ret2
          exact ⟨by rw [HE.out]; rfl, Hb1.out.trans ((hb8.trans ((hb9.trans (hb10.mono hb9.size)).mono hb8.size)).mono Hb1.out.size)⟩
    · have hq : (R.f != S.f) = true := by simpa using hf
      have HE : Hid (isSpc R S = false) := hid_ (by rw [HI.out, spcB, decide_eq_false hf]; rfl)
      clear hf HI
      go_enter Try.func48, Try.ntmps48
      go_wp2
      refine wp_region_tail 4 (by kernel_rfl) (by kernel_rfl) ?_
      simp only [List.take_succ_cons, List.take_zero, List.drop_succ_cons, List.drop_zero]
      repeat (first
        | go_big_quiet_skip
        | (go_big_quiet_want; go_big_quiet_op; first | go_big_quiet_on | go_big_quiet_call ((first
          | (go_at_call 33; with_reducible exact Calls.regrown_of (HV.out _ _))
          | (go_at_call 33; with_reducible exact Calls.regrown_of (HU.out _ _)))))) 
      refine wpQuiet_nil ?_
      rintro wq ⟨pq, hpq⟩
      have hbq := below_wq hpq
      clear hpq
      go_wp2_with (go_at_call 109; refine (Hor.out _ _).mono ?_; rintro e w5 ⟨rfl, hw5⟩; have hb5 : Below w1.heap.size w1 w5 := (by rw [← hw5]; exact hbq.trans ((below_alloc wq _).mono hbq.size)); clear hw5; obtain ⟨⟨q0, q1, q2, q3⟩, s0, s1, s2, s3⟩ := HQ.out w5 hb5)
      go_ret2
      exact ⟨by rw [HE.out]; rfl, Hb1.out.trans (hb5.mono Hb1.out.size)⟩
  · have HE : Hid (isSpc R S = false) := hid_ (if_neg he)
    generalize validR R = x1 at *
    generalize validR S = x2 at *
    generalize errTwo R S = er at *
    have hq : (er != 0) = true := by simpa using he
    clear he
    go_enter Try.func48, Try.ntmps48
    go_wp2
    refine wp_region_tail 4 (by kernel_rfl) (by kernel_rfl) ?_
    simp only [List.take_succ_cons, List.take_zero, List.drop_succ_cons, List.drop_zero]
    repeat (first
      | go_big_quiet_skip
      | (go_big_quiet_want; go_big_quiet_op; first | go_big_quiet_on | go_big_quiet_call ((first
        | (go_at_call 33; with_reducible exact Calls.regrown_of (HV.out _ _))
        | (go_at_call 33; with_reducible exact Calls.regrown_of (HU.out _ _)))))) 
    refine wpQuiet_nil ?_
    rintro wq ⟨pq, hpq⟩
    have hbq := below_wq hpq
    clear hpq
    go_wp2_with (go_at_call 109; refine (Hor.out _ _).mono ?_; rintro e w5 ⟨rfl, hw5⟩; have hb5 : Below w1.heap.size w1 w5 := (by rw [← hw5]; exact hbq.trans ((below_alloc wq _).mono hbq.size)); clear hw5; obtain ⟨⟨q0, q1, q2, q3⟩, s0, s1, s2, s3⟩ := HQ.out w5 hb5)
    go_ret2
    exact ⟨by rw [HE.out]; rfl, Hb1.out.trans (hb5.mono Hb1.out.size)⟩
end Go.Proofs.Ytnpdhmejnoplcaa
namespace Go.Proofs.Ytnpdhmejnoplcaa
open Go.RowKit Go.Proofs.Kv

/-! ### Both, CanMeet -/
def okBoth (R S : Rl) : Bool := decide (R.f = S.f) && (!(comL R.le S.le).isEmpty && !(comL R.ri S.ri).isEmpty)
def isBoth (R S : Rl) : Bool := if errTwo R S = 0 then okBoth R S else false
def bothL (R S : Rl) : List Int := bif isBoth R S then comL R.le S.le else []
def bothR (R S : Rl) : List Int := bif isBoth R S then comL R.ri S.ri else []
/-- what Both returns: two lists in new memory -/
def BothPost (w : World) (l1 l2 : List Int) (b : Bool) (er : Int) (e : Ending) (w' : World) : Prop :=
  ∃ v1 v2, e = .returned (.tuple #[v1, v2, .bool b, .int .i64 er]) ∧ w'.ownsRow w.heap.size 3 1 v1 l1.length (l1.map (Value.int .i64)) ∧ w'.ownsRow w.heap.size 3 1 v2 l2.length (l2.map (Value.int .i64)) ∧ Below w.heap.size w w'
theorem BothPost.none_ {w w' : World} (er : Int) (hb : Below w.heap.size w w') : BothPost w [] [] false er (.returned (.tuple #[.slice none 0 0, .slice none 0 0, .bool false, .int .i64 er])) w' :=
  ⟨_, _, rfl, World.ownsRow_nil _ _ _ _, World.ownsRow_nil _ _ _ _, hb⟩
set_option maxRecDepth 100000 in
set_option maxHeartbeats 4000000 in
theorem ruBoth_calls (v u : Value) (R S : Rl) (w : World) (hr : RuleAt w v R) (hs : RuleAt w u S) :
    Calls Try.prog 51 #[v, u] w (BothPost w (bothL R S) (bothR R S) (isBoth R S) (errTwo R S)) := by
  have Hr := hid_ hr
  have Hs := hid_ hs
  obtain ⟨a1, n1, c1, a2, n2, c2, a3, n3, c3, rfl, h1, h2, h3⟩ := hr
  obtain ⟨b1, m1, d1, b2, m2, d2, b3, m3, d3, rfl, h4, h5, h6⟩ := hs
  obtain ⟨w0, hw0⟩ : ∃ w0, w.alloc (.cells #[.int .i64 R.f, .slice a1 n1 c1, .slice a2 n2 c2, .slice a3 n3 c3] 24) = w0 := ⟨_, rfl⟩
  have hz0 : w0.heap.size = w.heap.size + 1 := by rw [← hw0]; simp
  have Hb0 : Hid (Below w.heap.size w w0) := hid_ (by rw [← hw0]; exact below_alloc _ _)
  obtain ⟨w1, hw1⟩ : ∃ w1, w0.alloc (.cells #[.int .i64 S.f, .slice b1 m1 d1, .slice b2 m2 d2, .slice b3 m3 d3] 24) = w1 := ⟨_, rfl⟩
  have Hb01 : Hid (Below w0.heap.size w0 w1) := hid_ (by rw [← hw1]; exact below_alloc _ _)
  have Hb1 : Hid (Below w.heap.size w w1) := hid_ (Hb0.out.trans (Hb01.out.mono Hb0.out.size))
  have HW0 := hid_ hw0
  have HW1 := hid_ hw1
  have HZ0 := hid_ hz0
  have HZ1 : Hid (w1.heap.size = w.heap.size + 2) := hid_ (by rw [← hw1]; simp [HZ0.out])
  have HQ : Hid (∀ W, Below w1.heap.size w1 W → (W.cell? ⟨w.heap.size, 0, none⟩ = some (.int .i64 R.f) ∧ W.cell? ⟨w.heap.size, 1, none⟩ = some (.slice a1 n1 c1) ∧ W.cell? ⟨w.heap.size, 2, none⟩ = some (.slice a2 n2 c2) ∧ W.cell? ⟨w.heap.size, 3, none⟩ = some (.slice a3 n3 c3)) ∧ W.cell? ⟨w.heap.size + 1, 0, none⟩ = some (.int .i64 S.f) ∧ W.cell? ⟨w.heap.size + 1, 1, none⟩ = some (.slice b1 m1 d1) ∧ W.cell? ⟨w.heap.size + 1, 2, none⟩ = some (.slice b2 m2 d2) ∧ W.cell? ⟨w.heap.size + 1, 3, none⟩ = some (.slice b3 m3 d3)) := hid_ (fun W hW => ⟨box4 HW0.out (Hb01.out.trans (hW.mono Hb01.out.size)), by have := box4 HW1.out hW; rwa [HZ0.out] at this⟩)
  have HR := hid_ (fun W (hW : Below w1.heap.size w1 W) => (Hr.out.below Hb1.out (Nat.le_refl _)).below hW (Nat.le_refl _))
  have HS := hid_ (fun W (hW : Below w1.heap.size w1 W) => (Hs.out.below Hb1.out (Nat.le_refl _)).below hW (Nat.le_refl _))
  have hb1 : Below w1.heap.size w1 w1 := Below.refl _ _
  obtain ⟨⟨q0, q1, q2, q3⟩, s0, s1, s2, s3⟩ := HQ.out w1 hb1

  clear h1 h2 h3 h4 h5 h6
  have HV := hid_ (fun d os => ruValidate_calls _ R _ ((HR.out w1 hb1).grown d os))
  have HU := hid_ (fun d os => ruValidate_calls _ S _ ((HS.out w1 hb1).grown d os))
  have Hor := hid_ (show ∀ (w : World) (T : TypeId), Calls Try.prog 109 #[.slice (some ⟨w.heap.size, 0, none⟩) 2 2] (w.alloc (.cells #[.int .i64 (validR R), .int .i64 (validR S)] T)) fun e w' => e = .returned (.int .i64 (errTwo R S)) ∧ w.alloc (.cells #[.int .i64 (validR R), .int .i64 (validR S)] T) = w' from fun w T => or2_calls _ _ w T)
  have e0 := cell_regrown q0
  have e1 := cell_regrown q1
  have e2 := cell_regrown q2
  have e3 := cell_regrown q3
  have e4 := cell_regrown s0
  have e5 := cell_regrown s1
  have e6 := cell_regrown s2
  have e7 := cell_regrown s3
  clear q0 q1 q2 q3 s0 s1 s2 s3
  by_cases he : errTwo R S = 0
  · obtain ⟨y1, y2⟩ := errTwo_ok he
    obtain ⟨-, -, -, -, g5, g6⟩ := validR_ok y1
    obtain ⟨-, -, -, -, g7, g8⟩ := validR_ok y2
    have HI : Hid (isBoth R S = okBoth R S) := hid_ (if_pos he)
    have HSR := hid_ (fun W hW => sidesOf_calls _ R W (HR.out W hW) g5 g6)
    have HSS := hid_ (fun W hW => sidesOf_calls _ S W (HS.out W hW) g7 g8)
    have HSq := hid_ (fun W (hW : Below w1.heap.size w1 W) => (⟨(HQ.out W hW).1, (HQ.out W hW).2, hW⟩ : (W.cell? ⟨w.heap.size, 0, none⟩ = some (.int .i64 R.f) ∧ W.cell? ⟨w.heap.size, 1, none⟩ = some (.slice a1 n1 c1) ∧ W.cell? ⟨w.heap.size, 2, none⟩ = some (.slice a2 n2 c2) ∧ W.cell? ⟨w.heap.size, 3, none⟩ = some (.slice a3 n3 c3)) ∧ (W.cell? ⟨w.heap.size + 1, 0, none⟩ = some (.int .i64 S.f) ∧ W.cell? ⟨w.heap.size + 1, 1, none⟩ = some (.slice b1 m1 d1) ∧ W.cell? ⟨w.heap.size + 1, 2, none⟩ = some (.slice b2 m2 d2) ∧ W.cell? ⟨w.heap.size + 1, 3, none⟩ = some (.slice b3 m3 d3)) ∧ Below w1.heap.size w1 W))
    have HBL : Hid (bothL R S = bif isBoth R S then comL R.le S.le else []) := hid_ rfl
    have HBR : Hid (bothR R S = bif isBoth R S then comL R.ri S.ri else []) := hid_ rfl
    have HOK : Hid (okBoth R S = (decide (R.f = S.f) && (!(comL R.le S.le).isEmpty && !(comL R.ri S.ri).isEmpty))) := hid_ rfl
    rw [he] at Hor ⊢
    clear he y1 y2 g5 g6 g7 g8
    generalize validR R = x1 at *
    generalize validR S = x2 at *
    generalize bothL R S = BL at *
    generalize bothR R S = BR at *
    generalize isBoth R S = ib at *
    generalize okBoth R S = ob at *
    go_enter Try.func51, Try.ntmps51
    go_wp2
    refine wp_region_tail 4 (by kernel_rfl) (by kernel_rfl) ?_
    simp only [List.take_succ_cons, List.take_zero, List.drop_succ_cons, List.drop_zero]
    repeat (first
      | go_big_quiet_skip
      | (go_big_quiet_want; go_big_quiet_op; first | go_big_quiet_on | go_big_quiet_call ((first
        | (go_at_call 33; with_reducible exact Calls.regrown_of (HV.out _ _))
        | (go_at_call 33; with_reducible exact Calls.regrown_of (HU.out _ _)))))) 
    refine wpQuiet_nil ?_
    rintro wq ⟨pq, hpq⟩
    have hbq := below_wq hpq
    clear hpq
    go_wp2_with (go_at_call 109; refine (Hor.out _ _).mono ?_; rintro e w5 ⟨rfl, hw5⟩; have hb5 : Below w1.heap.size w1 w5 := (by rw [← hw5]; exact hbq.trans ((below_alloc wq _).mono hbq.size)); clear hw5; obtain ⟨⟨q0, q1, q2, q3⟩, s0, s1, s2, s3⟩ := HQ.out w5 hb5)
    have hz5 := hb5.size
    go_cut [9, 10] (fun s7 s8 wx => TwoSides w1 R S s7 s8 wx)
    case first =>
      go_region_held3 (fun W => (W.cell? ⟨w.heap.size, 0, none⟩ = some (.int .i64 R.f) ∧ W.cell? ⟨w.heap.size, 1, none⟩ = some (.slice a1 n1 c1) ∧ W.cell? ⟨w.heap.size, 2, none⟩ = some (.slice a2 n2 c2) ∧ W.cell? ⟨w.heap.size, 3, none⟩ = some (.slice a3 n3 c3)) ∧ (W.cell? ⟨w.heap.size + 1, 0, none⟩ = some (.int .i64 S.f) ∧ W.cell? ⟨w.heap.size + 1, 1, none⟩ = some (.slice b1 m1 d1) ∧ W.cell? ⟨w.heap.size + 1, 2, none⟩ = some (.slice b2 m2 d2) ∧ W.cell? ⟨w.heap.size + 1, 3, none⟩ = some (.slice b3 m3 d3)) ∧ Below w1.heap.size w1 W) ((refine HSq.out _ ?_; (repeat (first | assumption | (with_reducible refine Below.setCell ?_ (by first | omega | (simp; omega)) _) | (with_reducible refine Below.alloc ?_ (by first | omega | (simp; omega)) _) | (with_reducible refine Below.drew ?_)))))
        (first
          | ((go_at_call 127; (with_reducible refine (HSR.out _ ?_).mono ?_); (focus (repeat (first | assumption | (with_reducible refine Below.setCell ?_ (by first | omega | (simp; omega)) _) | (with_reducible refine Below.alloc ?_ (by first | omega | (simp; omega)) _) | (with_reducible refine Below.drew ?_)))); rintro e w6 ⟨rfl, hc6⟩; have hb6 : Below w1.heap.size w1 w6 := below_then (by (repeat (first | assumption | (with_reducible refine Below.setCell ?_ (by first | omega | (simp; omega)) _) | (with_reducible refine Below.alloc ?_ (by first | omega | (simp; omega)) _) | (with_reducible refine Below.drew ?_)))) hc6; have hz6 := hb6.size; have hy6 := hc6.size; (try simp at hy6); (first | (have Fa := Fresh.below (((Fresh.new _).alloc _).drew) hc6; have Fb := Fresh.below ((Fresh.new _).drew) hc6; simp only [size_alloc_one] at Fb; obtain ⟨ra0, ra1, fa0, fa1, na, ma, la⟩ := Fa.use; obtain ⟨rb0, rb1, fb0, fb1, nb, mb, lb⟩ := Fb.use) | (have Fa := Fresh.below ((Fresh.new _).drew) hc6; obtain ⟨ra0, ra1, fa0, fa1, na, ma, la⟩ := Fa.use) | skip)))
          | ((go_at_call 127; (with_reducible refine (HSS.out _ ?_).mono ?_); (focus (repeat (first | assumption | (with_reducible refine Below.setCell ?_ (by first | omega | (simp; omega)) _) | (with_reducible refine Below.alloc ?_ (by first | omega | (simp; omega)) _) | (with_reducible refine Below.drew ?_)))); rintro e w7 ⟨rfl, hc7⟩; have hb7 : Below w1.heap.size w1 w7 := below_then (by (repeat (first | assumption | (with_reducible refine Below.setCell ?_ (by first | omega | (simp; omega)) _) | (with_reducible refine Below.alloc ?_ (by first | omega | (simp; omega)) _) | (with_reducible refine Below.drew ?_)))) hc7; have hz7 := hb7.size; have hy7 := hc7.size; (try simp at hy7); (first | (have Fc := Fresh.below Fa hc7; have Fd := Fresh.below Fb hc7; obtain ⟨rc0, rc1, fc0, fc1, nc, mc, lc⟩ := Fc.use; obtain ⟨rd0, rd1, fd0, fd1, nd, md, ld⟩ := Fd.use) | (have Fc := Fresh.below (Fa.alloc _) hc7; have Fd := Fresh.below (Fresh.new _) hc7; obtain ⟨rc0, rc1, fc0, fc1, nc, mc, lc⟩ := Fc.use; obtain ⟨rd0, rd1, fd0, fd1, nd, md, ld⟩ := Fd.use) | (have Fc := Fresh.below Fa hc7; obtain ⟨rc0, rc1, fc0, fc1, nc, mc, lc⟩ := Fc.use) | (have Fc := Fresh.below ((Fresh.new _).alloc _) hc7; have Fd := Fresh.below (Fresh.new _) hc7; simp only [size_alloc_one] at Fd; obtain ⟨rc0, rc1, fc0, fc1, nc, mc, lc⟩ := Fc.use; obtain ⟨rd0, rd1, fd0, fd1, nd, md, ld⟩ := Fd.use) | (have Fc := Fresh.below (Fresh.new _) hc7; obtain ⟨rc0, rc1, fc0, fc1, nc, mc, lc⟩ := Fc.use) | skip))))
      all_goals (go_wp2_with fail; go_meet; refine ⟨_, _, rfl, rfl, ?_, ?_, ?_, ?_, ?_⟩)
      all_goals (first | (simp [go_sem, nbF, *]; done) | skip)
    case rest =>
      obtain ⟨p, q, rfl, rfl, c0', c1', c2', c3', hb8⟩ := hcut
      have HA := hid_ (show ∀ w, Calls Try.prog 135 #[nbF R.le, nbF S.le] w fun e w' => ∃ v', e = .returned v' ∧ Made 3 w w' v' (comL R.le S.le) from common_calls R.le S.le)
      have HB := hid_ (show ∀ w, Calls Try.prog 135 #[nbF R.ri, nbF S.ri] w fun e w' => ∃ v', e = .returned v' ∧ Made 3 w w' v' (comL R.ri S.ri) from common_calls R.ri S.ri)
      clear HSq HSR HSS q0 q1 q2 q3 s0 s1 s2 s3
      have hix := sides_left
      have hiy := sides_right
      generalize comL R.le S.le = l1 at *
      generalize comL R.ri S.ri = l2 at *
      generalize nbF R.le = n1 at *
      generalize nbF R.ri = n2 at *
      generalize nbF S.le = n3 at *
      generalize nbF S.ri = n4 at *
      have hne : ∀ l : List Int, l ≠ [] → ((l.length : Int) == 0) = false ∧ l.isEmpty = false := fun l hl => by cases l <;> simp at hl ⊢; omega
      have HN := hid_ hne; clear hne
      by_cases hf : R.f = S.f
      · have hq : (R.f != S.f) = false := by simpa using hf
        have HO : Hid (ob = (!l1.isEmpty && !l2.isEmpty)) := hid_ (by rw [HOK.out, decide_eq_true hf]; rfl)
        clear hf HOK
        by_cases hl1 : l1 = []
        · subst hl1
          have hib : ib = false := by rw [HI.out, HO.out]; rfl
          subst hib
          have hbl : BL = [] := HBL.out
          have hbr : BR = [] := HBR.out
          subst hbl hbr
          go_wp2_with (first
            | (go_at_call 135; with_reducible refine (HA.out _).mono ?_; rintro e w9 ⟨v9, rfl, hm9⟩; have hb9 := hb8.trans (hm9.bel.mono hb8.size); obtain ⟨a9, k9, rfl, hi9⟩ := hm9.at_; have c1'' := (hm9.bel.cell (World.block_lt_of_cell? _ _ c1')).trans c1'; have c3'' := (hm9.bel.cell (World.block_lt_of_cell? _ _ c3')).trans c3'; have HM9 := hid_ hm9; have hl9 := hid_ hi9.small; clear hm9 hi9)
            | (go_at_call 135; with_reducible refine (HB.out _).mono ?_; rintro e w10 ⟨v10, rfl, hm10⟩; have hb10 := hb9.trans (hm10.bel.mono hb9.size); obtain ⟨a10, k10, rfl, hi10⟩ := hm10.at_; have HM10 := hid_ hm10; clear hm10 hi10; obtain ⟨⟨q0, q1, q2, q3⟩, s0, s1, s2, s3⟩ := HQ.out w10 hb10))
          refine bodyPost_ret (v := .tuple #[.slice none 0 0, .slice none 0 0, .bool false, .int .i64 0]) (by simp [results, Try.results51, go_sem]) rfl (BothPost.none_ _ ?_)
          exact Hb1.out.trans (hb10.mono Hb1.out.size)
        · obtain ⟨z1, z2⟩ := HN.out l1 hl1
          by_cases hl2 : l2 = []
          · subst hl2
            have hib : ib = false := by rw [HI.out, HO.out, z2]; rfl
            subst hib
            have hbl : BL = [] := HBL.out
            have hbr : BR = [] := HBR.out
            subst hbl hbr
            clear z2 hl1
            generalize hlen : l1.length = N1 at *
            go_wp2_with (first
              | (go_at_call 135; with_reducible refine (HA.out _).mono ?_; rintro e w9 ⟨v9, rfl, hm9⟩; have hb9 := hb8.trans (hm9.bel.mono hb8.size); obtain ⟨a9, k9, rfl, hi9⟩ := hm9.at_; have c1'' := (hm9.bel.cell (World.block_lt_of_cell? _ _ c1')).trans c1'; have c3'' := (hm9.bel.cell (World.block_lt_of_cell? _ _ c3')).trans c3'; have HM9 := hid_ hm9; have hl9 := hid_ hi9.small; clear hm9 hi9)
              | (go_at_call 135; with_reducible refine (HB.out _).mono ?_; rintro e w10 ⟨v10, rfl, hm10⟩; have hb10 := hb9.trans (hm10.bel.mono hb9.size); obtain ⟨a10, k10, rfl, hi10⟩ := hm10.at_; have HM10 := hid_ hm10; clear hm10 hi10; obtain ⟨⟨q0, q1, q2, q3⟩, s0, s1, s2, s3⟩ := HQ.out w10 hb10))
            refine bodyPost_ret (v := .tuple #[.slice none 0 0, .slice none 0 0, .bool false, .int .i64 0]) (by simp [results, Try.results51, go_sem]) rfl (BothPost.none_ _ ?_)
            exact Hb1.out.trans (hb10.mono Hb1.out.size)
          · obtain ⟨z3, z4⟩ := HN.out l2 hl2
            have hib : ib = true := by rw [HI.out, HO.out, z2, z4]; rfl
            subst hib
            have hbl : BL = l1 := HBL.out
            have hbr : BR = l2 := HBR.out
            have Hbl := hid_ hbl
            have Hbr := hid_ hbr
            clear z2 z4 hl1 hl2 hbl hbr HBL HBR
            go_wp2_with (first
              | (go_at_call 135; with_reducible refine (HA.out _).mono ?_; rintro e w9 ⟨v9, rfl, hm9⟩; have hb9 := hb8.trans (hm9.bel.mono hb8.size); obtain ⟨a9, k9, rfl, hi9⟩ := hm9.at_; have c1'' := (hm9.bel.cell (World.block_lt_of_cell? _ _ c1')).trans c1'; have c3'' := (hm9.bel.cell (World.block_lt_of_cell? _ _ c3')).trans c3'; have HM9 := hid_ hm9; have hl9 := hid_ hi9.small; clear hm9 hi9)
              | (go_at_call 135; with_reducible refine (HB.out _).mono ?_; rintro e w10 ⟨v10, rfl, hm10⟩; have hb10 := hb9.trans (hm10.bel.mono hb9.size); obtain ⟨a10, k10, rfl, hi10⟩ := hm10.at_; have HM10 := hid_ hm10; clear hm10 hi10; obtain ⟨⟨q0, q1, q2, q3⟩, s0, s1, s2, s3⟩ := HQ.out w10 hb10))
            refine bodyPost_ret (v := .tuple #[.slice a9 l1.length k9, .slice a10 l2.length k10, .bool true, .int .i64 0]) (by simp [results, Try.results51, go_sem]) rfl ⟨_, _, rfl, ?_, ?_, ?_⟩
            · rw [Hbl.out]; exact own_base (own_below HM9.out.own HM10.out.bel (Nat.le_refl _)) (Nat.le_trans Hb1.out.size hb8.size)
            · rw [Hbr.out]; exact own_base HM10.out.own (Nat.le_trans Hb1.out.size hb9.size)
            exact Hb1.out.trans (hb10.mono Hb1.out.size)
      · have hq : (R.f != S.f) = true := by simpa using hf
        have hib : ib = false := by rw [HI.out, HOK.out, decide_eq_false hf]; rfl
        subst hib
        have hbl : BL = [] := HBL.out
        have hbr : BR = [] := HBR.out
        subst hbl hbr
        clear hf
        go_wp2_with (first
          | (go_at_call 135; with_reducible refine (HA.out _).mono ?_; rintro e w9 ⟨v9, rfl, hm9⟩; have hb9 := hb8.trans (hm9.bel.mono hb8.size); obtain ⟨a9, k9, rfl, hi9⟩ := hm9.at_; have c1'' := (hm9.bel.cell (World.block_lt_of_cell? _ _ c1')).trans c1'; have c3'' := (hm9.bel.cell (World.block_lt_of_cell? _ _ c3')).trans c3'; have HM9 := hid_ hm9; have hl9 := hid_ hi9.small; clear hm9 hi9)
          | (go_at_call 135; with_reducible refine (HB.out _).mono ?_; rintro e w10 ⟨v10, rfl, hm10⟩; have hb10 := hb9.trans (hm10.bel.mono hb9.size); obtain ⟨a10, k10, rfl, hi10⟩ := hm10.at_; have HM10 := hid_ hm10; clear hm10 hi10; obtain ⟨⟨q0, q1, q2, q3⟩, s0, s1, s2, s3⟩ := HQ.out w10 hb10))
        refine bodyPost_ret (v := .tuple #[.slice none 0 0, .slice none 0 0, .bool false, .int .i64 0]) (by simp [results, Try.results51, go_sem]) rfl (BothPost.none_ _ ?_)
        exact Hb1.out.trans (hb10.mono Hb1.out.size)
  · have HE : Hid (isBoth R S = false) := hid_ (if_neg he)
    have HL : Hid (bothL R S = []) := hid_ (by rw [bothL, HE.out]; rfl)
    have HRR : Hid (bothR R S = []) := hid_ (by rw [bothR, HE.out]; rfl)
    generalize validR R = x1 at *
    generalize validR S = x2 at *
    generalize errTwo R S = er at *
    have hq : (er != 0) = true := by simpa using he
    clear he
    go_enter Try.func51, Try.ntmps51
    go_wp2
    refine wp_region_tail 4 (by kernel_rfl) (by kernel_rfl) ?_
    simp only [List.take_succ_cons, List.take_zero, List.drop_succ_cons, List.drop_zero]
    repeat (first
      | go_big_quiet_skip
      | (go_big_quiet_want; go_big_quiet_op; first | go_big_quiet_on | go_big_quiet_call ((first
        | (go_at_call 33; with_reducible exact Calls.regrown_of (HV.out _ _))
        | (go_at_call 33; with_reducible exact Calls.regrown_of (HU.out _ _)))))) 
    refine wpQuiet_nil ?_
    rintro wq ⟨pq, hpq⟩
    have hbq := below_wq hpq
    clear hpq
    go_wp2_with (go_at_call 109; refine (Hor.out _ _).mono ?_; rintro e w5 ⟨rfl, hw5⟩; have hb5 : Below w1.heap.size w1 w5 := (by rw [← hw5]; exact hbq.trans ((below_alloc wq _).mono hbq.size)); clear hw5; obtain ⟨⟨q0, q1, q2, q3⟩, s0, s1, s2, s3⟩ := HQ.out w5 hb5)
    rw [HE.out, HL.out, HRR.out]
    refine bodyPost_ret (v := .tuple #[.slice none 0 0, .slice none 0 0, .bool false, .int .i64 er]) (by simp [results, Try.results51, go_sem]) rfl (BothPost.none_ _ ?_)
    exact Hb1.out.trans (hb5.mono Hb1.out.size)
end Go.Proofs.Ytnpdhmejnoplcaa
namespace Go.Proofs.Ytnpdhmejnoplcaa
open Go.RowKit Go.Proofs.Kv

/-! ### CanMeet -/
set_option maxRecDepth 100000 in
set_option maxHeartbeats 2000000 in
theorem ruCanMeet_calls (v u : Value) (R S : Rl) (w : World) (hr : RuleAt w v R) (hs : RuleAt w u S) :
    Calls Try.prog 53 #[v, u] w fun e w' => e = .returned (.tuple #[.bool (isBoth R S), .int .i64 (errTwo R S)]) ∧ Below w.heap.size w w' := by
  have Hr := hid_ hr
  have Hs := hid_ hs
  obtain ⟨a1, n1, c1, a2, n2, c2, a3, n3, c3, rfl, h1, h2, h3⟩ := hr
  obtain ⟨b1, m1, d1, b2, m2, d2, b3, m3, d3, rfl, h4, h5, h6⟩ := hs
  obtain ⟨w0, hw0⟩ : ∃ w0, w.alloc (.cells #[.int .i64 R.f, .slice a1 n1 c1, .slice a2 n2 c2, .slice a3 n3 c3] 24) = w0 := ⟨_, rfl⟩
  have hz0 : w0.heap.size = w.heap.size + 1 := by rw [← hw0]; simp
  have Hb0 : Hid (Below w.heap.size w w0) := hid_ (by rw [← hw0]; exact below_alloc _ _)
  obtain ⟨w1, hw1⟩ : ∃ w1, w0.alloc (.cells #[.int .i64 S.f, .slice b1 m1 d1, .slice b2 m2 d2, .slice b3 m3 d3] 24) = w1 := ⟨_, rfl⟩
  have Hb01 : Hid (Below w0.heap.size w0 w1) := hid_ (by rw [← hw1]; exact below_alloc _ _)
  have Hb1 : Hid (Below w.heap.size w w1) := hid_ (Hb0.out.trans (Hb01.out.mono Hb0.out.size))
  have HW0 := hid_ hw0
  have HW1 := hid_ hw1
  have HZ0 := hid_ hz0
  have HZ1 : Hid (w1.heap.size = w.heap.size + 2) := hid_ (by rw [← hw1]; simp [HZ0.out])
  have HQ : Hid (∀ W, Below w1.heap.size w1 W → (W.cell? ⟨w.heap.size, 0, none⟩ = some (.int .i64 R.f) ∧ W.cell? ⟨w.heap.size, 1, none⟩ = some (.slice a1 n1 c1) ∧ W.cell? ⟨w.heap.size, 2, none⟩ = some (.slice a2 n2 c2) ∧ W.cell? ⟨w.heap.size, 3, none⟩ = some (.slice a3 n3 c3)) ∧ W.cell? ⟨w.heap.size + 1, 0, none⟩ = some (.int .i64 S.f) ∧ W.cell? ⟨w.heap.size + 1, 1, none⟩ = some (.slice b1 m1 d1) ∧ W.cell? ⟨w.heap.size + 1, 2, none⟩ = some (.slice b2 m2 d2) ∧ W.cell? ⟨w.heap.size + 1, 3, none⟩ = some (.slice b3 m3 d3)) := hid_ (fun W hW => ⟨box4 HW0.out (Hb01.out.trans (hW.mono Hb01.out.size)), by have := box4 HW1.out hW; rwa [HZ0.out] at this⟩)
  have HR := hid_ (fun W (hW : Below w1.heap.size w1 W) => (Hr.out.below Hb1.out (Nat.le_refl _)).below hW (Nat.le_refl _))
  have HS := hid_ (fun W (hW : Below w1.heap.size w1 W) => (Hs.out.below Hb1.out (Nat.le_refl _)).below hW (Nat.le_refl _))
  have hb1 : Below w1.heap.size w1 w1 := Below.refl _ _
  obtain ⟨⟨q0, q1, q2, q3⟩, s0, s1, s2, s3⟩ := HQ.out w1 hb1

  clear h1 h2 h3 h4 h5 h6
  have HB := hid_ (ruBoth_calls _ _ R S w1 (HR.out w1 hb1) (HS.out w1 hb1))
  generalize bothL R S = l1 at *
  generalize bothR R S = l2 at *
  generalize isBoth R S = x1 at *
  generalize errTwo R S = x2 at *
  go_enter Try.func53, Try.ntmps53
  go_wp2_with (go_at_call 51; (with_reducible refine (HB.out).mono ?_); rintro e w5 ⟨v1, v2, rfl, -, -, hb5⟩)
  go_ret2
  exact ⟨rfl, Hb1.out.trans (hb5.mono Hb1.out.size)⟩
/-! ### the reference's IsSpecial, Both, CanMeet -/
set_option maxRecDepth 100000 in
set_option maxHeartbeats 2000000 in
theorem r2IsSpecial_calls (v u : Value) (R S : Rl) (w : World) (hr : RuleAt w v R) (hs : RuleAt w u S) :
    Calls Try.prog 49 #[v, u] w fun e w' => e = .returned (.tuple #[.bool (isSpc R S), .int .i64 (errTwo R S)]) ∧ Below w.heap.size w w' := by
  have Hr := hid_ hr
  have Hs := hid_ hs
  obtain ⟨a1, n1, c1, a2, n2, c2, a3, n3, c3, rfl, h1, h2, h3⟩ := hr
  obtain ⟨b1, m1, d1, b2, m2, d2, b3, m3, d3, rfl, h4, h5, h6⟩ := hs
  obtain ⟨w0, hw0⟩ : ∃ w0, w.alloc (.cells #[.int .i64 R.f, .slice a1 n1 c1, .slice a2 n2 c2, .slice a3 n3 c3] 24) = w0 := ⟨_, rfl⟩
  have hz0 : w0.heap.size = w.heap.size + 1 := by rw [← hw0]; simp
  have Hb0 : Hid (Below w.heap.size w w0) := hid_ (by rw [← hw0]; exact below_alloc _ _)
  obtain ⟨w1, hw1⟩ : ∃ w1, w0.alloc (.cells #[.int .i64 S.f, .slice b1 m1 d1, .slice b2 m2 d2, .slice b3 m3 d3] 24) = w1 := ⟨_, rfl⟩
  have Hb01 : Hid (Below w0.heap.size w0 w1) := hid_ (by rw [← hw1]; exact below_alloc _ _)
  have Hb1 : Hid (Below w.heap.size w w1) := hid_ (Hb0.out.trans (Hb01.out.mono Hb0.out.size))
  have HW0 := hid_ hw0
  have HW1 := hid_ hw1
  have HZ0 := hid_ hz0
  have HZ1 : Hid (w1.heap.size = w.heap.size + 2) := hid_ (by rw [← hw1]; simp [HZ0.out])
  have HQ : Hid (∀ W, Below w1.heap.size w1 W → (W.cell? ⟨w.heap.size, 0, none⟩ = some (.int .i64 R.f) ∧ W.cell? ⟨w.heap.size, 1, none⟩ = some (.slice a1 n1 c1) ∧ W.cell? ⟨w.heap.size, 2, none⟩ = some (.slice a2 n2 c2) ∧ W.cell? ⟨w.heap.size, 3, none⟩ = some (.slice a3 n3 c3)) ∧ W.cell? ⟨w.heap.size + 1, 0, none⟩ = some (.int .i64 S.f) ∧ W.cell? ⟨w.heap.size + 1, 1, none⟩ = some (.slice b1 m1 d1) ∧ W.cell? ⟨w.heap.size + 1, 2, none⟩ = some (.slice b2 m2 d2) ∧ W.cell? ⟨w.heap.size + 1, 3, none⟩ = some (.slice b3 m3 d3)) := hid_ (fun W hW => ⟨box4 HW0.out (Hb01.out.trans (hW.mono Hb01.out.size)), by have := box4 HW1.out hW; rwa [HZ0.out] at this⟩)
  have HR := hid_ (fun W (hW : Below w1.heap.size w1 W) => (Hr.out.below Hb1.out (Nat.le_refl _)).below hW (Nat.le_refl _))
  have HS := hid_ (fun W (hW : Below w1.heap.size w1 W) => (Hs.out.below Hb1.out (Nat.le_refl _)).below hW (Nat.le_refl _))
  have hb1 : Below w1.heap.size w1 w1 := Below.refl _ _
  obtain ⟨⟨q0, q1, q2, q3⟩, s0, s1, s2, s3⟩ := HQ.out w1 hb1

  have HT := hid_ (two_calls _ _ R S w1 (HR.out w1 hb1) (HS.out w1 hb1))
  by_cases he : errTwo R S = 0
  · have HI : Hid (isSpc R S = spcB R S) := hid_ (if_pos he)
    have HA := hid_ (fun W (hW : Below w1.heap.size w1 W) => inside_calls a2 n2 c2 R.le b2 m2 d2 S.le W ((h2.below Hb1.out (Nat.le_refl _)).below hW (Nat.le_refl _)) ((h5.below Hb1.out (Nat.le_refl _)).below hW (Nat.le_refl _)))
    have HB := hid_ (fun W (hW : Below w1.heap.size w1 W) => inside_calls a3 n3 c3 R.ri b3 m3 d3 S.ri W ((h3.below Hb1.out (Nat.le_refl _)).below hW (Nat.le_refl _)) ((h6.below Hb1.out (Nat.le_refl _)).below hW (Nat.le_refl _)))
    clear h1 h2 h3 h4 h5 h6
    rw [he] at HT ⊢
    clear he
    by_cases hf : R.f = S.f
    · have hq : (R.f == S.f) = true := by simpa using hf
      have HE : Hid (isSpc R S = (insideB R.le S.le && insideB R.ri S.ri)) := hid_ (by rw [HI.out, spcB, decide_eq_true hf]; rfl)
      clear hf HI
      generalize insideB R.le S.le = y1 at *
      generalize insideB R.ri S.ri = y2 at *
      cases y1
      · go_enter Try.func49, Try.ntmps49
        go_wp2_with (first
          | (go_at_call 133; with_reducible refine (HT.out).mono ?_; rintro e w5 ⟨rfl, hb5⟩; clear q0 q1 q2 q3 s0 s1 s2 s3; obtain ⟨⟨q0, q1, q2, q3⟩, s0, s1, s2, s3⟩ := HQ.out w5 hb5)
          | (go_at_call 134; with_reducible refine (HA.out _ hb5).mono ?_; rintro e w6 ⟨rfl, rfl⟩))
        go_ret2
        exact ⟨by rw [HE.out]; rfl, Hb1.out.trans (hb5.mono Hb1.out.size)⟩
      · go_enter Try.func49, Try.ntmps49
        go_wp2_with (first
          | (go_at_call 133; with_reducible refine (HT.out).mono ?_; rintro e w5 ⟨rfl, hb5⟩; clear q0 q1 q2 q3 s0 s1 s2 s3; obtain ⟨⟨q0, q1, q2, q3⟩, s0, s1, s2, s3⟩ := HQ.out w5 hb5)
          | (go_at_call 134; with_reducible refine (HA.out _ hb5).mono ?_; rintro e w6 ⟨rfl, rfl⟩)
          | (go_at_call 134; with_reducible refine (HB.out _ hb5).mono ?_; rintro e w6 ⟨rfl, rfl⟩))
        go_ret2
        exact ⟨by rw [HE.out]; rfl, Hb1.out.trans (hb5.mono Hb1.out.size)⟩
    · have hq : (R.f == S.f) = false := by simpa using hf
      have HE : Hid (isSpc R S = false) := hid_ (by rw [HI.out, spcB, decide_eq_false hf]; rfl)
      clear hf HI
      go_enter Try.func49, Try.ntmps49
      go_wp2_with (go_at_call 133; with_reducible refine (HT.out).mono ?_; rintro e w5 ⟨rfl, hb5⟩; clear q0 q1 q2 q3 s0 s1 s2 s3; obtain ⟨⟨q0, q1, q2, q3⟩, s0, s1, s2, s3⟩ := HQ.out w5 hb5)
      go_ret2
      exact ⟨by rw [HE.out]; rfl, Hb1.out.trans (hb5.mono Hb1.out.size)⟩
  · have HE : Hid (isSpc R S = false) := hid_ (if_neg he)
    generalize errTwo R S = er at *
    have hq : (er != 0) = true := by simpa using he
    clear he h1 h2 h3 h4 h5 h6
    go_enter Try.func49, Try.ntmps49
    go_wp2_with (go_at_call 133; with_reducible refine (HT.out).mono ?_; rintro e w5 ⟨rfl, hb5⟩; clear q0 q1 q2 q3 s0 s1 s2 s3; obtain ⟨⟨q0, q1, q2, q3⟩, s0, s1, s2, s3⟩ := HQ.out w5 hb5)
    go_ret2
    exact ⟨by rw [HE.out]; rfl, Hb1.out.trans (hb5.mono Hb1.out.size)⟩
set_option maxRecDepth 100000 in
set_option maxHeartbeats 4000000 in
theorem r2Both_calls (v u : Value) (R S : Rl) (w : World) (hr : RuleAt w v R) (hs : RuleAt w u S) :
    Calls Try.prog 52 #[v, u] w (BothPost w (bothL R S) (bothR R S) (isBoth R S) (errTwo R S)) := by
  have Hr := hid_ hr
  have Hs := hid_ hs
  obtain ⟨a1, n1, c1, a2, n2, c2, a3, n3, c3, rfl, h1, h2, h3⟩ := hr
  obtain ⟨b1, m1, d1, b2, m2, d2, b3, m3, d3, rfl, h4, h5, h6⟩ := hs
  obtain ⟨w0, hw0⟩ : ∃ w0, w.alloc (.cells #[.int .i64 R.f, .slice a1 n1 c1, .slice a2 n2 c2, .slice a3 n3 c3] 24) = w0 := ⟨_, rfl⟩
  have hz0 : w0.heap.size = w.heap.size + 1 := by rw [← hw0]; simp
  have Hb0 : Hid (Below w.heap.size w w0) := hid_ (by rw [← hw0]; exact below_alloc _ _)
  obtain ⟨w1, hw1⟩ : ∃ w1, w0.alloc (.cells #[.int .i64 S.f, .slice b1 m1 d1, .slice b2 m2 d2, .slice b3 m3 d3] 24) = w1 := ⟨_, rfl⟩
  have Hb01 : Hid (Below w0.heap.size w0 w1) := hid_ (by rw [← hw1]; exact below_alloc _ _)
  have Hb1 : Hid (Below w.heap.size w w1) := hid_ (Hb0.out.trans (Hb01.out.mono Hb0.out.size))
  have HW0 := hid_ hw0
  have HW1 := hid_ hw1
  have HZ0 := hid_ hz0
  have HZ1 : Hid (w1.heap.size = w.heap.size + 2) := hid_ (by rw [← hw1]; simp [HZ0.out])
  have HQ : Hid (∀ W, Below w1.heap.size w1 W → (W.cell? ⟨w.heap.size, 0, none⟩ = some (.int .i64 R.f) ∧ W.cell? ⟨w.heap.size, 1, none⟩ = some (.slice a1 n1 c1) ∧ W.cell? ⟨w.heap.size, 2, none⟩ = some (.slice a2 n2 c2) ∧ W.cell? ⟨w.heap.size, 3, none⟩ = some (.slice a3 n3 c3)) ∧ W.cell? ⟨w.heap.size + 1, 0, none⟩ = some (.int .i64 S.f) ∧ W.cell? ⟨w.heap.size + 1, 1, none⟩ = some (.slice b1 m1 d1) ∧ W.cell? ⟨w.heap.size + 1, 2, none⟩ = some (.slice b2 m2 d2) ∧ W.cell? ⟨w.heap.size + 1, 3, none⟩ = some (.slice b3 m3 d3)) := hid_ (fun W hW => ⟨box4 HW0.out (Hb01.out.trans (hW.mono Hb01.out.size)), by have := box4 HW1.out hW; rwa [HZ0.out] at this⟩)
  have HR := hid_ (fun W (hW : Below w1.heap.size w1 W) => (Hr.out.below Hb1.out (Nat.le_refl _)).below hW (Nat.le_refl _))
  have HS := hid_ (fun W (hW : Below w1.heap.size w1 W) => (Hs.out.below Hb1.out (Nat.le_refl _)).below hW (Nat.le_refl _))
  have hb1 : Below w1.heap.size w1 w1 := Below.refl _ _
  obtain ⟨⟨q0, q1, q2, q3⟩, s0, s1, s2, s3⟩ := HQ.out w1 hb1

  have HT := hid_ (two_calls _ _ R S w1 (HR.out w1 hb1) (HS.out w1 hb1))
  by_cases he : errTwo R S = 0
  · have HI : Hid (isBoth R S = okBoth R S) := hid_ (if_pos he)
    have HA := hid_ (fun W (hW : Below w1.heap.size w1 W) => refCommon_calls a2 n2 c2 R.le b2 m2 d2 S.le W ((h2.below Hb1.out (Nat.le_refl _)).below hW (Nat.le_refl _)) ((h5.below Hb1.out (Nat.le_refl _)).below hW (Nat.le_refl _)))
    have HB := hid_ (fun W (hW : Below w1.heap.size w1 W) => refCommon_calls a3 n3 c3 R.ri b3 m3 d3 S.ri W ((h3.below Hb1.out (Nat.le_refl _)).below hW (Nat.le_refl _)) ((h6.below Hb1.out (Nat.le_refl _)).below hW (Nat.le_refl _)))
    clear h1 h2 h3 h4 h5 h6
    have HSq := hid_ (fun W (hW : Below w1.heap.size w1 W) => (⟨(HQ.out W hW).1, (HQ.out W hW).2, hW⟩ : (W.cell? ⟨w.heap.size, 0, none⟩ = some (.int .i64 R.f) ∧ W.cell? ⟨w.heap.size, 1, none⟩ = some (.slice a1 n1 c1) ∧ W.cell? ⟨w.heap.size, 2, none⟩ = some (.slice a2 n2 c2) ∧ W.cell? ⟨w.heap.size, 3, none⟩ = some (.slice a3 n3 c3)) ∧ (W.cell? ⟨w.heap.size + 1, 0, none⟩ = some (.int .i64 S.f) ∧ W.cell? ⟨w.heap.size + 1, 1, none⟩ = some (.slice b1 m1 d1) ∧ W.cell? ⟨w.heap.size + 1, 2, none⟩ = some (.slice b2 m2 d2) ∧ W.cell? ⟨w.heap.size + 1, 3, none⟩ = some (.slice b3 m3 d3)) ∧ Below w1.heap.size w1 W))
    have HBL : Hid (bothL R S = bif isBoth R S then comL R.le S.le else []) := hid_ rfl
    have HBR : Hid (bothR R S = bif isBoth R S then comL R.ri S.ri else []) := hid_ rfl
    have HOK : Hid (okBoth R S = (decide (R.f = S.f) && (!(comL R.le S.le).isEmpty && !(comL R.ri S.ri).isEmpty))) := hid_ rfl
    rw [he] at HT ⊢
    clear he
    generalize bothL R S = BL at *
    generalize bothR R S = BR at *
    generalize isBoth R S = ib at *
    generalize okBoth R S = ob at *
    generalize comL R.le S.le = l1 at *
    generalize comL R.ri S.ri = l2 at *
    go_enter Try.func52, Try.ntmps52
    go_wp2_with (go_at_call 133; with_reducible refine (HT.out).mono ?_; rintro e w5 ⟨rfl, hb5⟩; clear q0 q1 q2 q3 s0 s1 s2 s3; obtain ⟨⟨q0, q1, q2, q3⟩, s0, s1, s2, s3⟩ := HQ.out w5 hb5)
    have hbd : Below w1.heap.size w1 w5.drew := Below.drew hb5
    go_region_held3 (fun W => (W.cell? ⟨w.heap.size, 0, none⟩ = some (.int .i64 R.f) ∧ W.cell? ⟨w.heap.size, 1, none⟩ = some (.slice a1 n1 c1) ∧ W.cell? ⟨w.heap.size, 2, none⟩ = some (.slice a2 n2 c2) ∧ W.cell? ⟨w.heap.size, 3, none⟩ = some (.slice a3 n3 c3)) ∧ (W.cell? ⟨w.heap.size + 1, 0, none⟩ = some (.int .i64 S.f) ∧ W.cell? ⟨w.heap.size + 1, 1, none⟩ = some (.slice b1 m1 d1) ∧ W.cell? ⟨w.heap.size + 1, 2, none⟩ = some (.slice b2 m2 d2) ∧ W.cell? ⟨w.heap.size + 1, 3, none⟩ = some (.slice b3 m3 d3)) ∧ Below w1.heap.size w1 W) ((refine HSq.out _ ?_; assumption))
      (first
        | ((go_at_call 136; (with_reducible refine (HA.out _ hbd).mono ?_); rintro e w9 ⟨v9, rfl, hm9⟩; have hb9 := hbd.trans (hm9.bel.mono hbd.size); obtain ⟨a9, k9, rfl, hi9⟩ := hm9.at_; have HM9 := hid_ hm9; clear hm9 hi9))
        | ((go_at_call 136; (with_reducible refine (HB.out _ hb9).mono ?_); rintro e w10 ⟨v10, rfl, hm10⟩; have hb10 := hb9.trans (hm10.bel.mono hb9.size); obtain ⟨a10, k10, rfl, hi10⟩ := hm10.at_; have HM10 := hid_ hm10; clear hm10 hi10)))
    clear q0 q1 q2 q3 s0 s1 s2 s3
    obtain ⟨⟨q0, q1, q2, q3⟩, s0, s1, s2, s3⟩ := HQ.out w10 hb10
    have hne : ∀ l : List Int, l ≠ [] → ((l.length : Int) == 0) = false ∧ l.isEmpty = false := fun l hl => by cases l <;> simp at hl ⊢; omega
    have HN := hid_ hne; clear hne
    by_cases hf : R.f = S.f
    · have hq : (R.f != S.f) = false := by simpa using hf
      have HO : Hid (ob = (!l1.isEmpty && !l2.isEmpty)) := hid_ (by rw [HOK.out, decide_eq_true hf]; rfl)
      clear hf HOK
      by_cases hl1 : l1 = []
      · subst hl1
        have hib : ib = false := by rw [HI.out, HO.out]; rfl
        subst hib
        have hbl : BL = [] := HBL.out
        have hbr : BR = [] := HBR.out
        subst hbl hbr
        go_wp2
        refine bodyPost_ret (v := .tuple #[.slice none 0 0, .slice none 0 0, .bool false, .int .i64 0]) (by simp [results, Try.results52, go_sem]) rfl (BothPost.none_ _ ?_)
        exact Hb1.out.trans (hb10.mono Hb1.out.size)
      · obtain ⟨z1, z2⟩ := HN.out l1 hl1
        by_cases hl2 : l2 = []
        · subst hl2
          have hib : ib = false := by rw [HI.out, HO.out, z2]; rfl
          subst hib
          have hbl : BL = [] := HBL.out
          have hbr : BR = [] := HBR.out
          subst hbl hbr
          clear z2 hl1
          go_wp2
          refine bodyPost_ret (v := .tuple #[.slice none 0 0, .slice none 0 0, .bool false, .int .i64 0]) (by simp [results, Try.results52, go_sem]) rfl (BothPost.none_ _ ?_)
          exact Hb1.out.trans (hb10.mono Hb1.out.size)
        · obtain ⟨z3, z4⟩ := HN.out l2 hl2
          have hib : ib = true := by rw [HI.out, HO.out, z2, z4]; rfl
          subst hib
          have hbl : BL = l1 := HBL.out
          have hbr : BR = l2 := HBR.out
          have Hbl := hid_ hbl
          have Hbr := hid_ hbr
          clear z2 z4 hl1 hl2 hbl hbr HBL HBR
          go_wp2
          refine bodyPost_ret (v := .tuple #[.slice a9 l1.length k9, .slice a10 l2.length k10, .bool true, .int .i64 0]) (by simp [results, Try.results52, go_sem]) rfl ⟨_, _, rfl, ?_, ?_, ?_⟩
          · rw [Hbl.out]; exact own_base (own_below HM9.out.own HM10.out.bel (Nat.le_refl _)) (Nat.le_trans Hb1.out.size hbd.size)
          · rw [Hbr.out]; exact own_base HM10.out.own (Nat.le_trans Hb1.out.size hb9.size)
          exact Hb1.out.trans (hb10.mono Hb1.out.size)
    · have hq : (R.f != S.f) = true := by simpa using hf
      have hib : ib = false := by rw [HI.out, HOK.out, decide_eq_false hf]; rfl
      subst hib
      have hbl : BL = [] := HBL.out
      have hbr : BR = [] := HBR.out
      subst hbl hbr
      clear hf
      go_wp2
      refine bodyPost_ret (v := .tuple #[.slice none 0 0, .slice none 0 0, .bool false, .int .i64 0]) (by simp [results, Try.results52, go_sem]) rfl (BothPost.none_ _ ?_)
      exact Hb1.out.trans (hb10.mono Hb1.out.size)
  · have HE : Hid (isBoth R S = false) := hid_ (if_neg he)
    have HL : Hid (bothL R S = []) := hid_ (by rw [bothL, HE.out]; rfl)
    have HRR : Hid (bothR R S = []) := hid_ (by rw [bothR, HE.out]; rfl)
    generalize errTwo R S = er at *
    have hq : (er != 0) = true := by simpa using he
    clear he h1 h2 h3 h4 h5 h6
    go_enter Try.func52, Try.ntmps52
    go_wp2_with (go_at_call 133; with_reducible refine (HT.out).mono ?_; rintro e w5 ⟨rfl, hb5⟩; clear q0 q1 q2 q3 s0 s1 s2 s3; obtain ⟨⟨q0, q1, q2, q3⟩, s0, s1, s2, s3⟩ := HQ.out w5 hb5)
    rw [HE.out, HL.out, HRR.out]
    refine bodyPost_ret (v := .tuple #[.slice none 0 0, .slice none 0 0, .bool false, .int .i64 er]) (by simp [results, Try.results52, go_sem]) rfl (BothPost.none_ _ ?_)
    exact Hb1.out.trans (hb5.mono Hb1.out.size)
set_option maxRecDepth 100000 in
set_option maxHeartbeats 2000000 in
theorem r2CanMeet_calls (v u : Value) (R S : Rl) (w : World) (hr : RuleAt w v R) (hs : RuleAt w u S) :
    Calls Try.prog 54 #[v, u] w fun e w' => e = .returned (.tuple #[.bool (isBoth R S), .int .i64 (errTwo R S)]) ∧ Below w.heap.size w w' := by
  have Hr := hid_ hr
  have Hs := hid_ hs
  obtain ⟨a1, n1, c1, a2, n2, c2, a3, n3, c3, rfl, h1, h2, h3⟩ := hr
  obtain ⟨b1, m1, d1, b2, m2, d2, b3, m3, d3, rfl, h4, h5, h6⟩ := hs
  obtain ⟨w0, hw0⟩ : ∃ w0, w.alloc (.cells #[.int .i64 R.f, .slice a1 n1 c1, .slice a2 n2 c2, .slice a3 n3 c3] 24) = w0 := ⟨_, rfl⟩
  have hz0 : w0.heap.size = w.heap.size + 1 := by rw [← hw0]; simp
  have Hb0 : Hid (Below w.heap.size w w0) := hid_ (by rw [← hw0]; exact below_alloc _ _)
  obtain ⟨w1, hw1⟩ : ∃ w1, w0.alloc (.cells #[.int .i64 S.f, .slice b1 m1 d1, .slice b2 m2 d2, .slice b3 m3 d3] 24) = w1 := ⟨_, rfl⟩
  have Hb01 : Hid (Below w0.heap.size w0 w1) := hid_ (by rw [← hw1]; exact below_alloc _ _)
  have Hb1 : Hid (Below w.heap.size w w1) := hid_ (Hb0.out.trans (Hb01.out.mono Hb0.out.size))
  have HW0 := hid_ hw0
  have HW1 := hid_ hw1
  have HZ0 := hid_ hz0
  have HZ1 : Hid (w1.heap.size = w.heap.size + 2) := hid_ (by rw [← hw1]; simp [HZ0.out])
  have HQ : Hid (∀ W, Below w1.heap.size w1 W → (W.cell? ⟨w.heap.size, 0, none⟩ = some (.int .i64 R.f) ∧ W.cell? ⟨w.heap.size, 1, none⟩ = some (.slice a1 n1 c1) ∧ W.cell? ⟨w.heap.size, 2, none⟩ = some (.slice a2 n2 c2) ∧ W.cell? ⟨w.heap.size, 3, none⟩ = some (.slice a3 n3 c3)) ∧ W.cell? ⟨w.heap.size + 1, 0, none⟩ = some (.int .i64 S.f) ∧ W.cell? ⟨w.heap.size + 1, 1, none⟩ = some (.slice b1 m1 d1) ∧ W.cell? ⟨w.heap.size + 1, 2, none⟩ = some (.slice b2 m2 d2) ∧ W.cell? ⟨w.heap.size + 1, 3, none⟩ = some (.slice b3 m3 d3)) := hid_ (fun W hW => ⟨box4 HW0.out (Hb01.out.trans (hW.mono Hb01.out.size)), by have := box4 HW1.out hW; rwa [HZ0.out] at this⟩)
  have HR := hid_ (fun W (hW : Below w1.heap.size w1 W) => (Hr.out.below Hb1.out (Nat.le_refl _)).below hW (Nat.le_refl _))
  have HS := hid_ (fun W (hW : Below w1.heap.size w1 W) => (Hs.out.below Hb1.out (Nat.le_refl _)).below hW (Nat.le_refl _))
  have hb1 : Below w1.heap.size w1 w1 := Below.refl _ _
  obtain ⟨⟨q0, q1, q2, q3⟩, s0, s1, s2, s3⟩ := HQ.out w1 hb1

  clear h1 h2 h3 h4 h5 h6
  have HB := hid_ (r2Both_calls _ _ R S w1 (HR.out w1 hb1) (HS.out w1 hb1))
  generalize bothL R S = l1 at *
  generalize bothR R S = l2 at *
  generalize isBoth R S = x1 at *
  generalize errTwo R S = x2 at *
  go_enter Try.func54, Try.ntmps54
  go_wp2_with (go_at_call 52; (with_reducible refine (HB.out).mono ?_); rintro e w5 ⟨v1, v2, rfl, -, -, hb5⟩)
  go_ret2
  exact ⟨rfl, Hb1.out.trans (hb5.mono Hb1.out.size)⟩
end Go.Proofs.Ytnpdhmejnoplcaa
