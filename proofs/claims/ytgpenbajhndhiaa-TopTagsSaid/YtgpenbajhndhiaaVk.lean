import Derived.Test.YtgpenbajhndhiaaVj
namespace Go.Proofs.Kv
open Go.RowKit Go
/-- .. what a slice's end is -/
theorem IntsAt.dropIf {w : World} {b off n c : Nat} {l : List Int} (h : IntsAt w (some ⟨b, off, none⟩) n c l) {k : Nat} (hk : k ≤ n) : IntsAt w (if c = k then some ⟨b, off, none⟩ else some ⟨b, off + k, none⟩) (n - k) (c - k) (l.drop k) := by
  have hle := h.le
  have hs := h.small
  have hl : (l.drop k).length = n - k := by rw [List.length_drop, h.len]
  split
  · exact ⟨hl, by omega, by omega, fun i hi => absurd hi (by omega)⟩
  · refine ⟨hl, by omega, by omega, fun i hi => ?_⟩
    obtain ⟨b', off', e, hb, hc⟩ := h.cells (k + i) (by omega)
    injection e with e; injection e with e1 e2; subst e1; subst e2
    refine ⟨b, off + k, rfl, hb, ?_⟩
    rw [Nat.add_assoc, hc]
    simp [List.getD]
/-- pairs of numbers in a block -/
def CellsAt (w : World) (g n : Nat) (f : Nat → Int × Int) : Prop := ∀ j, j < n → w.cell? ⟨g, j * 2, none⟩ = some (.int .i64 (f j).1) ∧ w.cell? ⟨g, j * 2 + 1, none⟩ = some (.int .i64 (f j).2) ∧ w.frozen? ⟨g, j * 2, none⟩ = false ∧ w.frozen? ⟨g, j * 2 + 1, none⟩ = false
theorem CellsAt.below {w w' : World} {B g n : Nat} {f : Nat → Int × Int} (h : CellsAt w g n f) (hb : Below B w w') (hB : g < B) : CellsAt w' g n f := fun j hj => by
  obtain ⟨h1, h2, h3, h4⟩ := h j hj
  exact ⟨(hb.cell (p := ⟨g, j * 2, none⟩) hB).trans h1, (hb.cell (p := ⟨g, j * 2 + 1, none⟩) hB).trans h2, (hb.frozen (p := ⟨g, j * 2, none⟩) hB).trans h3, (hb.frozen (p := ⟨g, j * 2 + 1, none⟩) hB).trans h4⟩
theorem CellsAt.congr {w : World} {g n : Nat} {f f' : Nat → Int × Int} (h : CellsAt w g n f) (e : ∀ j, j < n → f j = f' j) : CellsAt w g n f' := fun j hj => by rw [← e j hj]; exact h j hj
end Go.Proofs.Kv
namespace Go.Proofs.Ytgpenbajhndhiaa
open Go.RowKit Go.Proofs.Kv Go

/-! ### where a word ends -/
set_option maxRecDepth 100000 in
set_option maxHeartbeats 2000000 in
theorem isEnd_calls (a : Option Addr) (n c : Nat) (x : List Int) (a2 : Option Addr) (n2 c2 : Nat) (l : List Int) (w : World) (h : IntsAt w a n c x) (h2 : IntsAt w a2 n2 c2 l) (h1 : 1 ≤ n) (hs : n ≤ 1000 ∧ n2 ≤ 1000) :
    Calls Try.prog 49 #[.slice a n c, .slice a2 n2 c2] w fun e w' => e = .returned (.bool (decide (n ≤ n2) && decide (l.drop (n2 - n) = x))) ∧ ∃ q, w' = w.drewN q := by
  obtain ⟨hs1, hs2⟩ := hs
  by_cases hle : n ≤ n2
  · obtain ⟨k, hk⟩ : ∃ k, n2 = k + n := ⟨n2 - n, by omega⟩
    have hkk : n2 - n = k := by omega
    obtain ⟨b, off, rfl, -, -⟩ := h2.cells 0 (by omega)
    have HD := hid_ (h2.dropIf (show k ≤ n2 by omega))
    have hwr : IntKind.i64.wrap ((n2 : Int) - (n : Int)) = (k : Int) := by rw [IntKind.wrap_i64]; omega
    have hge : decide ((k : Int) ≥ 0) = true := decide_eq_true (by omega)
    have hkn : k ≤ n2 := by omega
    have hkc : k ≤ c2 := by have := h2.le; omega
    have hle2 := h2.le
    have hsm2 := h2.small
    have HE := hid_ (equal8_calls a n c x _ _ _ _ w h HD.out)
    rw [decide_eq_true hle, hkk, Bool.true_and]
    have Hc : Hid (decide (l.drop k = x) = decide (x = l.drop k)) := hid_ (decide_eq_decide.2 ⟨fun e => e.symm, fun e => e.symm⟩)
    have Hk := hid_ hk; have Hkk := hid_ hkk
    clear h h2 hk hkk
    go_enter Try.func49, Try.ntmps49
    go_wp2_with (go_at_call 37; (with_reducible refine HE.out.mono ?_); rintro e w2 ⟨rfl, q, rfl⟩)
    all_goals (go_ret; exact ⟨by rw [Hc.out]; rfl, _, rfl⟩)
  · obtain ⟨z, hz⟩ : ∃ z : Int, (n2 : Int) - (n : Int) = z := ⟨_, rfl⟩
    have hwr : IntKind.i64.wrap ((n2 : Int) - (n : Int)) = z := by rw [hz]; exact IntWalk.i64_in _ (by omega)
    have hge : decide (z ≥ 0) = false := decide_eq_false (by omega)
    rw [decide_eq_false hle, Bool.false_and]
    clear h h2 hle hz
    go_enter Try.func49, Try.ntmps49
    go_wp2
    go_ret
    exact ⟨rfl, 0, rfl⟩
/-! ### adding up -/
set_option maxRecDepth 100000 in
set_option maxHeartbeats 2000000 in
theorem add_calls (xb : Nat) (c1 l1 c2 l2 m : Int) (w : World) (q0 : w.cell? ⟨xb, 0, none⟩ = some (.int .i64 c1)) (q1 : w.cell? ⟨xb, 1, none⟩ = some (.int .i64 l1)) (f0 : w.frozen? ⟨xb, 0, none⟩ = false) (f1 : w.frozen? ⟨xb, 1, none⟩ = false)
    (hc : 0 ≤ c1 + c2 ∧ c1 + c2 ≤ 1000000000000) (hm : 0 ≤ l2 + m ∧ l2 + m ≤ 1000000) :
    Calls Try.prog 48 #[.pointer (some ⟨xb, 0, none⟩), .agg #[.int .i64 c2, .int .i64 l2], .int .i64 m] w fun e w' => e = .returned (.tuple #[]) ∧ Below xb w w' ∧ w'.cell? ⟨xb, 0, none⟩ = some (.int .i64 (c1 + c2)) ∧ w'.cell? ⟨xb, 1, none⟩ = some (.int .i64 (min l1 (l2 + m))) ∧ w'.frozen? ⟨xb, 0, none⟩ = false ∧ w'.frozen? ⟨xb, 1, none⟩ = false := by
  have hlt : xb < w.heap.size := World.block_lt_of_cell? w _ q0
  obtain ⟨w1, hw1⟩ : ∃ w1, w.alloc (.cells #[.int .i64 c2, .int .i64 l2] 56) = w1 := ⟨_, rfl⟩
  have cb : Below w.heap.size w w1 := by rw [← hw1]; exact below_alloc _ _
  have y0 : w1.cell? ⟨w.heap.size, 0, none⟩ = some (.int .i64 c2) := by rw [← hw1]; exact cells_alloc _ _ _ 0
  have y1 : w1.cell? ⟨w.heap.size, 1, none⟩ = some (.int .i64 l2) := by rw [← hw1]; exact cells_alloc _ _ _ 1
  have x0 := cell_below q0 cb; have x1 := cell_below q1 cb
  have hwc : IntKind.i64.wrap (c1 + c2) = c1 + c2 := IntWalk.i64_in _ (by omega)
  have hwm : IntKind.i64.wrap (l2 + m) = l2 + m := IntWalk.i64_in _ (by omega)
  have Hlt := hid_ hlt
  clear hlt
  go_enter Try.func48, Try.ntmps48
  have gA := cell_regrown x0; have gB := cell_regrown y0
  go_wp2_with fail
  refine wp_region_tail 9 (by kernel_rfl) (by kernel_rfl) ?_
  simp only [List.take_succ_cons, List.take_zero, List.drop_succ_cons, List.drop_zero]
  repeat (first | go_big_quiet_skip | (go_big_quiet_want; go_big_quiet_op; first | go_big_quiet_on | go_big_quiet_call (fail)))
  refine wpQuiet_nil ?_
  rintro wq ⟨pq, hpq⟩
  have hbq := below_wq hpq
  have Hbq := hid_ (cb.trans (hbq.mono cb.size))
  have z0 := cell_below x0 hbq; have z1 := cell_below x1 hbq; have z3 := cell_below y1 hbq
  have g0 : wq.frozen? ⟨xb, 0, none⟩ = false := (Hbq.out.frozen (p := ⟨xb, 0, none⟩) Hlt.out).trans f0
  have g1 : wq.frozen? ⟨xb, 1, none⟩ = false := (Hbq.out.frozen (p := ⟨xb, 1, none⟩) Hlt.out).trans f1
  clear hpq hbq gA gB
  have Hg0 := hid_ g0; have Hg1 := hid_ g1; have Hz0 := hid_ z0; have Hz1 := hid_ z1; have Hz3 := hid_ z3
  obtain ⟨W3, hW3⟩ : ∃ W3, wq.setCell ⟨xb, 0, none⟩ (.int .i64 (c1 + c2)) = W3 := ⟨_, rfl⟩
  have u0 : W3.cell? ⟨xb, 0, none⟩ = some (.int .i64 (c1 + c2)) := by rw [← hW3]; exact World.cell?_setCell_same _ _ _ z0
  have u1 : W3.cell? ⟨xb, 1, none⟩ = some (.int .i64 l1) := by rw [← hW3, World.cell?_setCell_other _ _ _ _ (by simp)]; exact z1
  have u3 : W3.cell? ⟨w.heap.size, 1, none⟩ = some (.int .i64 l2) := by rw [← hW3, World.cell?_setCell_other _ _ _ _ (by intro e; injection e with e1; have := Hlt.out; omega)]; exact z3
  have v0 : W3.frozen? ⟨xb, 0, none⟩ = false := by rw [← hW3, World.frozen?_setCell]; exact g0
  have v1 : W3.frozen? ⟨xb, 1, none⟩ = false := by rw [← hW3, World.frozen?_setCell]; exact g1
  have HbW := hid_ (show Below xb w W3 by rw [← hW3]; exact Below.setCell (p := ⟨xb, 0, none⟩) (Hbq.out.mono (Nat.le_of_lt Hlt.out)) (Nat.le_refl _) _)
  clear z1 z3 g1
  go_wp2
  have gC := cell_regrown u1; have gD := cell_regrown u3
  clear z0 g0
  go_wp2_with fail
  refine wp_region_tail 12 (by kernel_rfl) (by kernel_rfl) ?_
  simp only [List.take_succ_cons, List.take_zero, List.drop_succ_cons, List.drop_zero]
  repeat (first | go_big_quiet_skip | (go_big_quiet_want; go_big_quiet_op; first | go_big_quiet_on | go_big_quiet_call (fail)))
  refine wpQuiet_nil ?_
  rintro wq ⟨pq, hpq⟩
  have hbq2 := below_wq hpq
  have t1 := cell_below u1 hbq2; have t0 := cell_below u0 hbq2
  have hlt3 : xb < W3.heap.size := World.block_lt_of_cell? W3 _ u0
  have s0 : wq.frozen? ⟨xb, 0, none⟩ = false := (hbq2.frozen (p := ⟨xb, 0, none⟩) hlt3).trans v0
  have s1 : wq.frozen? ⟨xb, 1, none⟩ = false := (hbq2.frozen (p := ⟨xb, 1, none⟩) hlt3).trans v1
  have Hb2 := hid_ (HbW.out.trans (hbq2.mono (Nat.le_of_lt hlt3)))
  have Ht0 := hid_ t0; have Ht1 := hid_ t1; have Hs0 := hid_ s0; have Hs1 := hid_ s1
  clear hpq hbq2 gC gD hlt3 t0 s0 u0 u1 u3 v0 v1
  go_wp2
  all_goals refine bodyPost_end (results_none rfl _ _ _) rfl ⟨rfl, Below.setCell (p := ⟨xb, 1, none⟩) Hb2.out (Nat.le_refl _) _, ?_, ?_, ?_, ?_⟩
  all_goals first
    | (rw [World.cell?_setCell_other _ _ _ _ (by simp)]; exact Ht0.out)
    | (rw [World.cell?_setCell_same _ _ _ Ht1.out]; congr 2; omega)
    | (rw [World.frozen?_setCell]; exact Hs0.out)
    | (rw [World.frozen?_setCell]; exact Hs1.out)
end Go.Proofs.Ytgpenbajhndhiaa
