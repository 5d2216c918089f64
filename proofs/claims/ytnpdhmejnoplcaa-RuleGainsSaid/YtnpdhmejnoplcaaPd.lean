import Derived.Test.YtnpdhmejnoplcaaPb
import Derived.Test.YtnpdhmejnoplcaaPc
import Derived.Test.YtnpdhmejnoplcaaQt
import Derived.Laws.EntriesVeiled
namespace Go.Proofs.Ytnpdhmejnoplcaa
open Go.RowKit Go.Proofs.Kv

theorem has7_calls (s : List Int) (x : Int) (w : World) (h0 : -1 ≤ x) (h5 : x ≤ 5) :
    Calls Try.prog 182 #[.agg (nbV s), .int .i64 x] w fun e w' => e = .returned (.bool (mayL s x)) ∧ Below w.heap.size w w' := by
  have : x = -1 ∨ x = 0 ∨ x = 1 ∨ x = 2 ∨ x = 3 ∨ x = 4 ∨ x = 5 := by omega
  clear h0 h5
  unfold nbV
  rcases this with rfl | rfl | rfl | rfl | rfl | rfl | rfl
  all_goals
    go_enter Try.func182, Try.ntmps182
    go_wp2
    go_ret
    exact ⟨rfl, below_alloc _ _⟩
set_option maxRecDepth 100000 in
theorem sidesOf_calls (v : Value) (R : Rl) (w : World) (h : RuleAt w v R) (hl : setN R.le = true) (hr : setN R.ri = true) :
    Calls Try.prog 127 #[v] w fun e w' => e = .returned (.agg #[.func (.func 182) #[.agg (nbV R.le)] #[], .func (.func 182) #[.agg (nbV R.ri)] #[]]) ∧ Below w.heap.size w w' := by
  obtain ⟨a, n, c, a', n', c', a'', n'', c'', rfl, h1, h2, h3⟩ := h
  obtain ⟨f, o, le, ri⟩ := R
  dsimp only at h1 h2 h3 hl hr ⊢
  have Hl := hid_ hl; clear hl
  have Hr := hid_ hr; clear hr
  go_enter Try.func127, Try.ntmps127
  go_wp2
  obtain ⟨w1, hw1⟩ : ∃ w1, (w.alloc (.cells #[.int .i64 f, .slice a n c, .slice a' n' c', .slice a'' n'' c''] 24)).alloc (.cells #[.nilFunc, .nilFunc] 107) = w1 := ⟨_, rfl⟩
  have hb1 : Below w.heap.size w w1 := by rw [← hw1]; exact (below_alloc _ _).alloc (by simp) _
  have c2 : w1.cell? ⟨w.heap.size, 2, none⟩ = some (.slice a' n' c') := by rw [← hw1]; simp
  have c3 : w1.cell? ⟨w.heap.size, 3, none⟩ = some (.slice a'' n'' c'') := by rw [← hw1]; simp
  have r0 : w1.cell? ⟨w.heap.size + 1, 0, none⟩ = some .nilFunc := by rw [← hw1]; simp [World.cell?_alloc_at]
  have r1 : w1.cell? ⟨w.heap.size + 1, 1, none⟩ = some .nilFunc := by rw [← hw1]; simp [World.cell?_alloc_at]
  have z1 : w1.heap.size = w.heap.size + 2 := by rw [← hw1]; simp
  have fz : ∀ i, w1.frozen? ⟨w.heap.size + 1, i, none⟩ = false := fun i => by rw [← hw1]; exact World.frozen?_alloc_at _ _ _ _ (by simp)
  rw [hw1]
  have Hw1 := hid_ hw1; clear hw1
  have Hb1 := hid_ hb1; clear hb1
  have e2 := cell_regrown c2
  have e3 := cell_regrown c3
  have Hz := hid_ z1
  have HR0 := hid_ r0; have HR1 := hid_ r1; have HF := hid_ fz; clear c2 c3 r0 r1 fz z1
  have k2 := hid_ (fun d os => neighborsOf_calls _ _ _ _ _ ((h2.below Hb1.out (Nat.le_refl _)).grown d os) Hl.out)
  have k3 := hid_ (fun d os => neighborsOf_calls _ _ _ _ _ ((h3.below Hb1.out (Nat.le_refl _)).grown d os) Hr.out)
  refine wp_region_tail 9 (by kernel_rfl) (by kernel_rfl) ?_
  simp only [List.take_succ_cons, List.take_zero, List.drop_succ_cons, List.drop_zero]
  repeat (first
    | go_big_quiet_skip
    | (go_big_quiet_want; go_big_quiet_op; first | go_big_quiet_on | go_big_quiet_call ((first
      | (go_at_call 181; with_reducible exact Calls.regrown_of (k2.out _ _))
      | (go_at_call 181; exact Calls.regrown_of (k3.out _ _)))))) 
  refine wpQuiet_nil ?_
  rintro wq ⟨pq, hpq⟩
  have hbq := below_wq hpq
  have r0 : wq.cell? ⟨w.heap.size + 1, 0, none⟩ = some .nilFunc := (hbq.cell (by rw [Hz.out]; simp)).trans HR0.out
  have r1 : wq.cell? ⟨w.heap.size + 1, 1, none⟩ = some .nilFunc := (hbq.cell (by rw [Hz.out]; simp)).trans HR1.out
  have f0 : wq.frozen? ⟨w.heap.size + 1, 0, none⟩ = false := (hbq.frozen (by rw [Hz.out]; simp)).trans (HF.out _)
  have f1 : wq.frozen? ⟨w.heap.size + 1, 1, none⟩ = false := (hbq.frozen (by rw [Hz.out]; simp)).trans (HF.out _)
  have Hbq := hid_ (Hb1.out.trans (hbq.mono Hb1.out.size)); clear hbq hpq
  go_wp2
  refine bodyPost_ret (v := .agg #[.func (.func 182) #[.agg (nbV le)] #[], .func (.func 182) #[.agg (nbV ri)] #[]]) ?_ rfl ⟨rfl, ?_⟩
  · simp [results, Try.results127, go_sem, r0, r1]
  · (repeat (with_reducible refine Below.setCell ?_ (by simp) _)); exact Hbq.out
end Go.Proofs.Ytnpdhmejnoplcaa
