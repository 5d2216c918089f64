import Derived.Test.YteaggabafeedhaaPh
import Derived.Test.YteaggabafeedhaaRh
namespace Go.Proofs.Yteaggabafeedhaa
open Go.RowKit Go.Proofs.Kv

/-! ### Measure -/
def meaV (R : Rl) : Int := if validR R = 0 then (R.o.length : Int) + R.le.length + R.ri.length + tkN R else 0
set_option maxRecDepth 100000 in
set_option maxHeartbeats 2000000 in
theorem ruMeasure_calls (v : Value) (R : Rl) (w : World) (hr : RuleAt w v R) (l1 : R.o.length ≤ 100) (l2 : R.le.length ≤ 100) (l3 : R.ri.length ≤ 100) :
    Calls Try.prog 58 #[v] w fun e w' => e = .returned (.tuple #[.int .i64 (meaV R), .int .i64 (validR R)]) ∧ Below w.heap.size w w' := by
  have Hr := hid_ hr
  obtain ⟨a1, n1, c1, a2, n2, c2, a3, n3, c3, rfl, h1, h2, h3⟩ := hr
  obtain ⟨w1, hw1⟩ : ∃ w1, w.alloc (.cells #[.int .i64 R.f, .slice a1 n1 c1, .slice a2 n2 c2, .slice a3 n3 c3] 24) = w1 := ⟨_, rfl⟩
  have Hb1 : Hid (Below w.heap.size w w1) := hid_ (by rw [← hw1]; exact below_alloc _ _)
  obtain ⟨k0, k1, k2, k3⟩ := box4 hw1 (Below.refl _ _)
  have HW1 := hid_ hw1
  have HR1 := hid_ (fun W (hW : Below w1.heap.size w1 W) => (Hr.out.below Hb1.out (Nat.le_refl _)).below hW (Nat.le_refl _))
  have HV := hid_ (ruValidate_calls _ R w1 (Hr.out.below Hb1.out (Nat.le_refl _)))
  have hn1 : n1 ≤ 100 := by have := h1.len; omega
  have hn2 : n2 ≤ 100 := by have := h2.len; omega
  have hn3 : n3 ≤ 100 := by have := h3.len; omega
  by_cases he : validR R = 0
  · have HE : Hid (meaV R = (n1 : Int) + n2 + n3 + tkN R) := hid_ (by rw [meaV, if_pos he, h1.len, h2.len, h3.len])
    obtain ⟨g1, -⟩ := validR_ok he
    rw [he] at HV ⊢
    have x1 : IntKind.i64.wrap ((n1 : Int) + n2) = (n1 : Int) + n2 := IntWalk.i64_in _ (by omega)
    have x2 : IntKind.i64.wrap ((n1 : Int) + n2 + n3) = (n1 : Int) + n2 + n3 := IntWalk.i64_in _ (by omega)
    clear h1 h2 h3 he
    have htk : tkN R ≤ 1 := by unfold tkN; split <;> omega
    have x3 : IntKind.i64.wrap ((n1 : Int) + n2 + n3 + tkN R) = (n1 : Int) + n2 + n3 + tkN R := IntWalk.i64_in _ (by omega)
    have HT := hid_ (fun W hW => taken_calls _ R W (HR1.out W hW))
    rw [tk_eq] at HT
    generalize tkN R = T at *
    go_enter Try.func58, Try.ntmps58
    go_wp2_with (go_at_call 23; refine HV.out.mono ?_; rintro e w4 ⟨rfl, hb2⟩; obtain ⟨q0, q1, q2, q3⟩ := box4 HW1.out hb2)
    have e0 := cell_regrown q0
    have e1 := cell_regrown q1
    have e2 := cell_regrown q2
    have e3 := cell_regrown q3
    have HT2 := hid_ (fun d os => HT.out (Go.Sort.grow (redrawn w4 d) os) (hb2.trans ((below_regrown w4 d os).mono hb2.size)))
    clear q0 q1 q2 q3
    refine wp_region_quiet_below (by kernel_rfl) (by kernel_rfl) ?_
    repeat (first | go_big_quiet_skip | (go_big_quiet_want; go_big_quiet_op; first | go_big_quiet_on | go_big_quiet_call ((go_at_call 81; exact Calls.regrown_of (HT2.out _ _)))))
    refine wpQuiet_nil ?_
    rintro wq ⟨pq, hpq⟩
    have hbq := below_wq hpq
    clear hpq e0 e1 e2 e3
    go_wp2
    go_ret2
    exact ⟨by rw [HE.out]; rfl, Hb1.out.trans ((hb2.trans (hbq.mono hb2.size)).mono Hb1.out.size)⟩
  · have HE : Hid (meaV R = 0) := hid_ (if_neg he)
    have hq : (validR R != 0) = true := by simpa using he
    clear h1 h2 h3
    generalize validR R = x1 at *
    clear he
    go_enter Try.func58, Try.ntmps58
    go_wp2_with (go_at_call 23; refine HV.out.mono ?_; rintro e w4 ⟨rfl, hb2⟩; obtain ⟨q0, q1, q2, q3⟩ := box4 HW1.out hb2)
    go_ret2
    exact ⟨by rw [HE.out]; rfl, Hb1.out.trans (hb2.mono Hb1.out.size)⟩
set_option maxRecDepth 100000 in
set_option maxHeartbeats 2000000 in
theorem r2Measure_calls (v : Value) (R : Rl) (w : World) (hr : RuleAt w v R) (l1 : R.o.length ≤ 100) (l2 : R.le.length ≤ 100) (l3 : R.ri.length ≤ 100) :
    Calls Try.prog 59 #[v] w fun e w' => e = .returned (.tuple #[.int .i64 (meaV R), .int .i64 (validR R)]) ∧ Below w.heap.size w w' := by
  have Hr := hid_ hr
  obtain ⟨a1, n1, c1, a2, n2, c2, a3, n3, c3, rfl, h1, h2, h3⟩ := hr
  obtain ⟨w1, hw1⟩ : ∃ w1, w.alloc (.cells #[.int .i64 R.f, .slice a1 n1 c1, .slice a2 n2 c2, .slice a3 n3 c3] 24) = w1 := ⟨_, rfl⟩
  have Hb1 : Hid (Below w.heap.size w w1) := hid_ (by rw [← hw1]; exact below_alloc _ _)
  obtain ⟨k0, k1, k2, k3⟩ := box4 hw1 (Below.refl _ _)
  have HW1 := hid_ hw1
  have HR1 := hid_ (fun W (hW : Below w1.heap.size w1 W) => (Hr.out.below Hb1.out (Nat.le_refl _)).below hW (Nat.le_refl _))
  have HV := hid_ (validate_calls _ R w1 (Hr.out.below Hb1.out (Nat.le_refl _)))
  have hn1 : n1 ≤ 100 := by have := h1.len; omega
  have hn2 : n2 ≤ 100 := by have := h2.len; omega
  have hn3 : n3 ≤ 100 := by have := h3.len; omega
  by_cases he : validR R = 0
  · have HE : Hid (meaV R = (n1 : Int) + n2 + n3 + tkN R) := hid_ (by rw [meaV, if_pos he, h1.len, h2.len, h3.len])
    obtain ⟨g1, -⟩ := validR_ok he
    rw [he] at HV ⊢
    have x1 : IntKind.i64.wrap ((n1 : Int) + n2) = (n1 : Int) + n2 := IntWalk.i64_in _ (by omega)
    have x2 : IntKind.i64.wrap ((n1 : Int) + n2 + n3) = (n1 : Int) + n2 + n3 := IntWalk.i64_in _ (by omega)
    clear h1 h2 h3 he
    by_cases hf : R.f < 0
    · have HT : Hid (meaV R = (n1 : Int) + n2 + n3) := hid_ (by rw [HE.out, tkN, if_pos (by omega)]; simp)
      have hf' : ¬ (0 : Int) ≤ R.f := by omega
      go_enter Try.func59, Try.ntmps59
      go_wp2_with (go_at_call 24; refine HV.out.mono ?_; rintro e w4 ⟨rfl, hb2⟩; obtain ⟨q0, q1, q2, q3⟩ := box4 HW1.out hb2)
      go_ret2
      exact ⟨by rw [HT.out]; rfl, Hb1.out.trans (hb2.mono Hb1.out.size)⟩
    · have HT : Hid (meaV R = (n1 : Int) + n2 + n3 + 1) := hid_ (by rw [HE.out, tkN, if_neg (by omega)]; rfl)
      have x3 : IntKind.i64.wrap ((n1 : Int) + n2 + n3 + 1) = (n1 : Int) + n2 + n3 + 1 := IntWalk.i64_in _ (by omega)
      have hf' : (0 : Int) ≤ R.f := by omega
      go_enter Try.func59, Try.ntmps59
      go_wp2_with (go_at_call 24; refine HV.out.mono ?_; rintro e w4 ⟨rfl, hb2⟩; obtain ⟨q0, q1, q2, q3⟩ := box4 HW1.out hb2)
      go_ret2
      exact ⟨by rw [HT.out]; rfl, Hb1.out.trans (hb2.mono Hb1.out.size)⟩
  · have HE : Hid (meaV R = 0) := hid_ (if_neg he)
    have hq : (validR R != 0) = true := by simpa using he
    clear h1 h2 h3
    generalize validR R = x1 at *
    clear he
    go_enter Try.func59, Try.ntmps59
    go_wp2_with (go_at_call 24; refine HV.out.mono ?_; rintro e w4 ⟨rfl, hb2⟩; obtain ⟨q0, q1, q2, q3⟩ := box4 HW1.out hb2)
    go_ret2
    exact ⟨by rw [HE.out]; rfl, Hb1.out.trans (hb2.mono Hb1.out.size)⟩
end Go.Proofs.Yteaggabafeedhaa
