import Derived.Test.YtdnlpikfibdjoaaZdc
import Derived.Test.YtdnlpikfibdjoaaZac
namespace Go.Proofs.Ytdnlpikfibdjoaa
open Go.RowKit Go.Proofs.Kv Go

set_option maxRecDepth 100000 in
set_option maxHeartbeats 8000000 in
theorem copiedEntry_calls (a : Option Addr) (n c : Nat) (l : List Int) (f : Int) (w : World) (h : IntsAt w a n c l) (hn : n ≤ 1000) :
    Calls Try.prog 110 #[.agg #[.slice a n c, .int .i64 f]] w fun e w' => ∃ v', e = .returned (.agg #[v', .int .i64 f]) ∧ Made 3 w w' v' l := by
  obtain ⟨w1, hw1⟩ : ∃ w1, w.alloc (.cells #[.slice a n c, .int .i64 f] 39) = w1 := ⟨_, rfl⟩
  obtain ⟨w2, hw2⟩ : ∃ w2, w1.alloc (.cells #[.slice none 0 0, .int .i64 0] 39) = w2 := ⟨_, rfl⟩
  have z1 : w1.heap.size = w.heap.size + 1 := by rw [← hw1]; simp
  have z2 : w2.heap.size = w.heap.size + 2 := by rw [← hw2]; simp [z1]
  have b1 : Below w.heap.size w w1 := by rw [← hw1]; exact below_alloc _ _
  have b2 : Below w1.heap.size w1 w2 := by rw [← hw2]; exact below_alloc _ _
  have b12 := b1.trans (b2.mono b1.size)
  have q0 : w2.cell? ⟨w.heap.size, 0, none⟩ = some (.slice a n c) := cell_below (by rw [← hw1]; exact cells_alloc _ _ _ 0) b2
  have q1 : w2.cell? ⟨w.heap.size, 1, none⟩ = some (.int .i64 f) := cell_below (by rw [← hw1]; exact cells_alloc _ _ _ 1) b2
  have r0 : w2.cell? ⟨w.heap.size + 1, 0, none⟩ = some (.slice none 0 0) := by rw [← z1, ← hw2]; exact cells_alloc _ _ _ 0
  have r1 : w2.cell? ⟨w.heap.size + 1, 1, none⟩ = some (.int .i64 0) := by rw [← z1, ← hw2]; exact cells_alloc _ _ _ 1
  have f0 : ∀ j, w2.frozen? ⟨w.heap.size + 1, j, none⟩ = false := fun j => by rw [← z1, ← hw2]; exact World.frozen?_alloc_at _ _ _ _ (by simp)
  have HC := hid_ (clone_calls a n c l w2.drew ((h.below b12 (Nat.le_refl _)).drewN 1) (by omega))
  have Hb := hid_ b12
  have hbd : Below w2.heap.size w2 w2.drew := Below.drew (Below.refl _ _)
  clear h b1 b2 b12
  go_enter Try.func110, Try.ntmps110
  go_wp2_with fail
  refine wp_region_last (n := 6) (S := fun W' => W'.cell? ⟨w.heap.size, 0, none⟩ = some (.slice a n c) ∧ W'.cell? ⟨w.heap.size, 1, none⟩ = some (.int .i64 f)) (by kernel_rfl) (by kernel_rfl) ⟨q0, q1⟩ (fun hHeld => ?_)
  refine wpAnyH_take (i := 0) (oi := ?oi0h1) (v := ?v0h1) ?hi0h1 (by kernel_rfl) ?hf0h1 (by kernel_rfl) ?hQ0h1 ?hy0h1 (by assumption) ?rest0h1
  case hi0h1 => (simp only [List.getElem?_toArray, List.getElem?_cons_zero]; rfl)
  case hf0h1 => kernel_rfl
  case hQ0h1 => exact fun _ _ _ h => h
  case hy0h1 => (refine Or.inl ⟨by rfl, ?_⟩; intro W hSw; (try dsimp only at hSw); go_simp; try with_reducible rfl)
  try simp only [Act.put, List.setIfInBounds_toArray, List.set_cons_zero, List.set_cons_succ]
  refine wpAnyH_take (i := 1) (oi := ?oi1h2) (v := ?v1h2) ?hi1h2 (by kernel_rfl) ?hf1h2 (by kernel_rfl) ?hQ1h2 ?hy1h2 (by assumption) ?rest1h2
  case hi1h2 => (simp only [List.getElem?_toArray, List.getElem?_cons_succ, List.getElem?_cons_zero]; rfl)
  case hf1h2 => kernel_rfl
  case hQ1h2 => exact fun _ _ _ h => h
  case hy1h2 => (refine Or.inl ⟨by rfl, ?_⟩; intro W hSw; (try dsimp only at hSw); obtain ⟨g0, g1⟩ := hSw; go_simp; try with_reducible rfl)
  try simp only [Act.put, List.setIfInBounds_toArray, List.set_cons_zero, List.set_cons_succ]
  refine wpAnyH_take (i := 3) (oi := ?oi3h3) (v := ?v3h3) ?hi3h3 (by kernel_rfl) ?hf3h3 (by kernel_rfl) ?hQ3h3 ?hy3h3 (by assumption) ?rest3h3
  case hi3h3 => (simp only [List.getElem?_toArray, List.getElem?_cons_succ, List.getElem?_cons_zero]; rfl)
  case hf3h3 => kernel_rfl
  case hQ3h3 => exact fun _ _ _ h => h
  case hy3h3 => (refine Or.inl ⟨by rfl, ?_⟩; intro W hSw; (try dsimp only at hSw); go_simp; try with_reducible rfl)
  try simp only [Act.put, List.setIfInBounds_toArray, List.set_cons_zero, List.set_cons_succ]
  refine wpAnyH_take (i := 4) (oi := ?oi4h4) (v := ?v4h4) ?hi4h4 (by kernel_rfl) ?hf4h4 (by kernel_rfl) ?hQ4h4 ?hy4h4 (by assumption) ?rest4h4
  case hi4h4 => (simp only [List.getElem?_toArray, List.getElem?_cons_succ, List.getElem?_cons_zero]; rfl)
  case hf4h4 => kernel_rfl
  case hQ4h4 => exact fun _ _ _ h => h
  case hy4h4 => (refine Or.inl ⟨by rfl, ?_⟩; intro W hSw; (try dsimp only at hSw); obtain ⟨g0, g1⟩ := hSw; go_simp; try with_reducible rfl)
  try simp only [Act.put, List.setIfInBounds_toArray, List.set_cons_zero, List.set_cons_succ]
  refine wpAnyH_ready (rs := [2]) (by kernel_rfl) (by simp) ?_
  refine AllReadyH.cons (o := _) (by (simp only [List.getElem?_toArray, List.getElem?_cons_succ, List.getElem?_cons_zero]; rfl)) (fun K hK => ?_) AllReadyH.nil
  go_simp
  with_reducible refine HC.out.mono ?_; rintro e w5 ⟨v5, rfl, hm5⟩; obtain ⟨a5, c5, rfl, -⟩ := hm5.at_
  refine hK.out _ _ ?_ (fun hHeld => ?_)
  · exact ⟨cell_below (w := w2.drew) q0 hm5.bel, cell_below (w := w2.drew) q1 hm5.bel⟩
  clear hK K
  try simp only [Act.put, List.setIfInBounds_toArray, List.set_cons_zero, List.set_cons_succ]
  refine wpAnyH_take (i := 5) (oi := ?oi5h5) (v := ?v5h5) ?hi5h5 (by kernel_rfl) ?hf5h5 (by kernel_rfl) ?hQ5h5 ?hy5h5 (by assumption) ?rest5h5
  case hi5h5 => (simp only [List.getElem?_toArray, List.getElem?_cons_succ, List.getElem?_cons_zero]; rfl)
  case hf5h5 => kernel_rfl
  case hQ5h5 => exact fun _ _ _ h => h
  case hy5h5 => (refine Or.inl ⟨by rfl, ?_⟩; intro W hSw; (try dsimp only at hSw); go_simp; try with_reducible rfl)
  try simp only [Act.put, List.setIfInBounds_toArray, List.set_cons_zero, List.set_cons_succ]
  have y0 : w5.cell? ⟨w.heap.size + 1, 0, none⟩ = some (.slice none 0 0) := cell_below (w := w2.drew) r0 hm5.bel
  have y1 : w5.cell? ⟨w.heap.size + 1, 1, none⟩ = some (.int .i64 0) := cell_below (w := w2.drew) r1 hm5.bel
  have x0 : w5.frozen? ⟨w.heap.size + 1, 0, none⟩ = false := (hm5.bel.frozen (p := ⟨w.heap.size + 1, 0, none⟩) (by show w.heap.size + 1 < w2.heap.size; omega)).trans (f0 0)
  have x1 : w5.frozen? ⟨w.heap.size + 1, 1, none⟩ = false := (hm5.bel.frozen (p := ⟨w.heap.size + 1, 1, none⟩) (by show w.heap.size + 1 < w2.heap.size; omega)).trans (f0 1)
  refine wpAnyH_done (by kernel_rfl) ?_ _
  clear hHeld
  refine last_of ?_
  refine wpOp_step (o := _) (by (simp only [List.getElem?_toArray, List.getElem?_cons_succ, List.getElem?_cons_zero]; rfl)) (fun K hK => ?_)
  go_simp
  refine hK _ _ ?_
  clear hK K
  try simp only [Act.put, List.setIfInBounds_toArray, List.set_cons_zero, List.set_cons_succ]
  have hd : w2.heap.size = w2.drew.heap.size := rfl
  have hp : Below w2.heap.size w2 w5 := hbd.trans (hm5.bel.mono (Nat.le_of_eq hd))
  have hs5 : w2.heap.size ≤ w5.heap.size := hp.size
  obtain ⟨t0, t1⟩ : (((w5.setCell ⟨w.heap.size + 1, 0, none⟩ (.slice a5 l.length c5)).setCell ⟨w.heap.size + 1, 1, none⟩ (.int .i64 f)).cell? ⟨w.heap.size + 1, 0, none⟩ = some (.slice a5 l.length c5)) ∧ (((w5.setCell ⟨w.heap.size + 1, 0, none⟩ (.slice a5 l.length c5)).setCell ⟨w.heap.size + 1, 1, none⟩ (.int .i64 f)).cell? ⟨w.heap.size + 1, 1, none⟩ = some (.int .i64 f)) := by
    refine ⟨?_, ?_⟩
    · rw [World.cell?_setCell_other _ _ _ _ (by simp), World.cell?_setCell_same _ _ _ y0]
    · rw [World.cell?_setCell_same _ _ _ (by rw [World.cell?_setCell_other _ _ _ _ (by simp)]; exact y1)]
  go_wp2
  refine bodyPost_ret (v := .agg #[.slice a5 l.length c5, .int .i64 f]) ?_ rfl ⟨_, rfl, ⟨?_, ?_⟩⟩
  · simp [results, Try.results110, go_sem, t0, t1]
  · exact own_base (ownsRow_setCell_below (ownsRow_setCell_below hm5.own (by show w.heap.size + 1 < w2.drew.heap.size; omega) _) (by show w.heap.size + 1 < w2.drew.heap.size; omega) _) (by omega)
  · exact ((Hb.out.trans (hp.mono Hb.out.size)).setCell (p := ⟨w.heap.size + 1, 0, none⟩) (by show _ ≤ _ + 1; omega) _).setCell (p := ⟨w.heap.size + 1, 1, none⟩) (by show _ ≤ _ + 1; omega) _
end Go.Proofs.Ytdnlpikfibdjoaa
