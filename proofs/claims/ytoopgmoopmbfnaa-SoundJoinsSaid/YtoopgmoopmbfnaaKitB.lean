import Derived.Test.YtoopgmoopmbfnaaLists
namespace Go.Proofs.Kv
open Go.RowKit
theorem MadeL.at_ {E : TypeId} {w w' : World} {v : Value} {L : List (List Int)} (h : MadeL E w w' v L) : ∃ a c, v = .slice a L.length c ∧ ListsAt w' a L.length c L := h.own.at_
theorem cell_below {w w' : World} {p : Addr} {v : Value} (h : w.cell? p = some v) (hb : Below w.heap.size w w') : w'.cell? p = some v := (hb.cell (World.block_lt_of_cell? w p h)).trans h
theorem PairsAt.one (w : World) (x y : Int) (E : TypeId) : PairsAt (w.alloc (.cells #[.int .i64 x, .int .i64 y] E)) (some ⟨w.heap.size, 0, none⟩) 1 1 [(x, y)] :=
  ⟨rfl, Nat.le_refl _, by omega, fun i hi => ⟨w.heap.size, 0, rfl, by simp, by
    obtain rfl : i = 0 := by omega
    rw [World.cell?_alloc_at _ _ _ _ (by rfl)]; rfl, by
    obtain rfl : i = 0 := by omega
    rw [World.cell?_alloc_at _ _ _ _ (by rfl)]; rfl⟩⟩
end Go.Proofs.Kv
