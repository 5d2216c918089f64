import Derived.Test.YtoopgmoopmbfnaaSndJ
import Derived.StillTailTactics
namespace Go.Proofs.Ytoopgmoopmbfnaa
open Go.RowKit Go.Proofs.Kv Go.Proofs.Snd

/-! ### rank.compare -/
def cmpP (x y : Int × Int) : Int := orI [cmpI x.1 y.1, cmpI x.2 y.2]
set_option maxRecDepth 100000 in
theorem rankCmp_calls (x1 x2 y1 y2 : Int) (w : World) :
    Calls Try.prog 129 #[.agg #[.int .i64 x1, .int .i64 x2], .agg #[.int .i64 y1, .int .i64 y2]] w fun e w' => e = .returned (.int .i64 (cmpP (x1, x2) (y1, y2))) ∧ ∃ q os, w' = Go.Sort.grow (w.drewN q) os := by
  obtain ⟨w2, hw2⟩ : ∃ w2, (w.alloc (.cells #[.int .i64 x1, .int .i64 x2] 127)).alloc (.cells #[.int .i64 y1, .int .i64 y2] 127) = w2 := ⟨_, rfl⟩
  have c0 : w2.cell? ⟨w.heap.size, 0, none⟩ = some (.int .i64 x1) := by rw [← hw2, World.cell?_alloc_past _ _ _ (by simp), World.cell?_alloc_at _ _ _ _ rfl]; rfl
  have c1 : w2.cell? ⟨w.heap.size, 1, none⟩ = some (.int .i64 x2) := by rw [← hw2, World.cell?_alloc_past _ _ _ (by simp), World.cell?_alloc_at _ _ _ _ rfl]; rfl
  have c2 : w2.cell? ⟨w.heap.size + 1, 0, none⟩ = some (.int .i64 y1) := by rw [← hw2, World.cell?_alloc_at _ _ _ _ (by simp)]; rfl
  have c3 : w2.cell? ⟨w.heap.size + 1, 1, none⟩ = some (.int .i64 y2) := by rw [← hw2, World.cell?_alloc_at _ _ _ _ (by simp)]; rfl
  have Hw2 : Hid (w2 = Go.Sort.grow w #[.cells #[.int .i64 x1, .int .i64 x2] 127, .cells #[.int .i64 y1, .int .i64 y2] 127]) := hid_ (by rw [← hw2, Go.Sort.alloc_eq_grow, Go.Sort.alloc_eq_grow, Go.Sort.grow_grow]; rfl)
  go_enter Try.func129, Try.ntmps129
  go_wp2
  clear hw2
  have Hor : Hid (∀ (W : World) (B : Nat), IntsAt W (some ⟨B, 0, none⟩) 2 2 [cmpI x1 y1, cmpI x2 y2] → Calls Try.prog 155 #[.slice (some ⟨B, 0, none⟩) 2 2] W fun e w' => e = .returned (.int .i64 (cmpP (x1, x2) (y1, y2))) ∧ W = w') := hid_ fun W B h => orI_calls _ _ _ _ W h
  have Hc1 : Hid (∀ W : World, Calls Try.prog 108 #[.int .i64 x1, .int .i64 y1] W fun e w' => e = .returned (.int .i64 (cmpI x1 y1)) ∧ w' = W) := hid_ fun W => (cmpI_calls x1 y1 W).mono fun _ _ h => ⟨h.1, h.2.symm⟩
  have Hc2 : Hid (∀ W : World, Calls Try.prog 108 #[.int .i64 x2, .int .i64 y2] W fun e w' => e = .returned (.int .i64 (cmpI x2 y2)) ∧ w' = W) := hid_ fun W => (cmpI_calls x2 y2 W).mono fun _ _ h => ⟨h.1, h.2.symm⟩
  have HI : Hid (∀ W : World, IntsAt (W.alloc (.cells #[.int .i64 (cmpI x1 y1), .int .i64 (cmpI x2 y2)] 3)) (some ⟨W.heap.size, 0, none⟩) 2 2 [cmpI x1 y1, cmpI x2 y2]) := hid_ fun W =>
    ⟨rfl, Nat.le_refl _, by omega, fun i hi => ⟨W.heap.size, 0, rfl, by simp, by
      rw [World.cell?_alloc_at _ _ _ _ rfl]
      match i, hi with
      | 0, _ => rfl
      | 1, _ => rfl⟩⟩
  generalize cmpI x1 y1 = z1 at Hor Hc1 HI
  generalize cmpI x2 y2 = z2 at Hor Hc2 HI
  generalize hz : cmpP (x1, x2) (y1, y2) = z at Hor
  have Hz := hid_ hz; clear hz
  refine wp_region_still_tail 10 (by kernel_rfl) (by kernel_rfl) ?_
  simp only [List.take_succ_cons, List.take_zero, List.drop_succ_cons, List.drop_zero]
  iterate 4 still_step
  still_call (Hc1.out _)
  iterate 4 still_step
  still_call (Hc2.out _)
  refine wpStill_nil ?_
  have Hw3 : Hid (w2.drew = Go.Sort.grow (w.drewN 1) #[.cells #[.int .i64 x1, .int .i64 x2] 127, .cells #[.int .i64 y1, .int .i64 y2] 127]) := hid_ (by rw [Hw2.out]; rfl)
  change wpList _ _ _ _ _ w2.drew
  generalize w2.drew = w3 at Hw3
  clear c0 c1 c2 c3 Hw2
  go_wp2_with fail
  refine (Hor.out _ _ (HI.out _)).mono ?_
  rintro e w4 ⟨rfl, rfl⟩
  go_wp2
  go_ret
  exact ⟨retI Hz.out, 1, _, by rw [Go.Sort.alloc_eq_grow, Hw3.out, Go.Sort.grow_grow]⟩
end Go.Proofs.Ytoopgmoopmbfnaa
