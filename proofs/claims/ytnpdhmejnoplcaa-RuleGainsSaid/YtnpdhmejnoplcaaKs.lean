import Derived.Test.YtnpdhmejnoplcaaQt
namespace Go.Proofs.Kv
open Go Go.RowKit

/-- four cells that were boxed read the same while only newer blocks turn -/
theorem box4 {w w1 W : World} {v0 v1 v2 v3 : Value} {T : TypeId} (hw1 : w.alloc (.cells #[v0, v1, v2, v3] T) = w1) (hb : Below w1.heap.size w1 W) :
    W.cell? ⟨w.heap.size, 0, none⟩ = some v0 ∧ W.cell? ⟨w.heap.size, 1, none⟩ = some v1 ∧ W.cell? ⟨w.heap.size, 2, none⟩ = some v2 ∧ W.cell? ⟨w.heap.size, 3, none⟩ = some v3 := by
  have hz : w.heap.size < w1.heap.size := by rw [← hw1]; simp
  refine ⟨(hb.cell (p := ⟨w.heap.size, 0, none⟩) hz).trans ?_, (hb.cell (p := ⟨w.heap.size, 1, none⟩) hz).trans ?_, (hb.cell (p := ⟨w.heap.size, 2, none⟩) hz).trans ?_, (hb.cell (p := ⟨w.heap.size, 3, none⟩) hz).trans ?_⟩ <;> (rw [← hw1, cells_alloc]; rfl)
/-- the numbers below k at which p holds -/
def pl (p : Int → Bool) (k : Nat) : List Int := ((List.range k).map fun i : Nat => (i : Int)).filter p
theorem pl_zero (p : Int → Bool) : pl p 0 = [] := rfl
theorem pl_hit {p : Int → Bool} {k : Nat} (h : p k = true) : pl p (k + 1) = pl p k ++ [(k : Int)] := by simp [pl, List.range_succ, h]
theorem pl_miss {p : Int → Bool} {k : Nat} (h : p k = false) : pl p (k + 1) = pl p k := by simp [pl, List.range_succ, h]
theorem pl_le (p : Int → Bool) (k : Nat) : (pl p k).length ≤ k := by
  unfold pl
  refine Nat.le_trans (List.length_filter_le _ _) ?_
  simp
theorem mem_pl {p : Int → Bool} {k : Nat} {x : Int} : x ∈ pl p k ↔ 0 ≤ x ∧ x < k ∧ p x = true := by
  simp only [pl, List.mem_filter, List.mem_map, List.mem_range]
  constructor
  · rintro ⟨⟨i, hi, rfl⟩, hp⟩
    exact ⟨by omega, by omega, hp⟩
  · rintro ⟨h0, hk, hp⟩
    exact ⟨⟨x.toNat, by omega, by omega⟩, hp⟩
theorem own_grown {w w' : World} {B E size : Nat} {v : Value} {n : Nat} {xs : List Value} (h : w.ownsRow B E size v n xs) (hb : Below w.heap.size w w') : w'.ownsRow B E size v n xs := own_below h hb (Nat.le_refl _)
end Go.Proofs.Kv
