import Derived.Test.YtebbmhlkdfmmcaaGreatPmo
import Derived.Deep.RegionHeld3
import Derived.Laws.EntriesVeiled
namespace Go.Proofs.YtebbmhlkdfmmcaaGreat
open Go.RowKit Go.Proofs.Kv

/-! ### IsSpecial -/
theorem bcell {W w1 : World} (hb : Below W.heap.size W w1) : (∀ b o, b < W.heap.size → w1.cell? ⟨b, o, none⟩ = W.cell? ⟨b, o, none⟩) ∧ (∀ b o, b < W.heap.size → w1.frozen? ⟨b, o, none⟩ = W.frozen? ⟨b, o, none⟩) :=
  ⟨fun b o h => hb.cell (p := ⟨b, o, none⟩) h, fun b o h => hb.frozen (p := ⟨b, o, none⟩) h⟩
/-- the value of a function that tells what a neighbor may be -/
def nbF (s : List Int) : Value := .func (.func 114) #[.agg (nbV s)] #[]
def spcB (R S : Rl) : Bool := decide (R.f = S.f) && (insideW R.le S.le && insideW R.ri S.ri)
def isSpc (R S : Rl) : Bool := if errTwo R S = 0 then spcB R S else false
theorem errTwo_ok {R S : Rl} (h : errTwo R S = 0) : validR R = 0 ∧ validR S = 0 := by
  unfold errTwo at h
  by_cases h1 : validR R = 0
  · rw [if_pos h1] at h; exact ⟨h1, h⟩
  · rw [if_neg h1] at h; exact absurd h h1
/-- block b was just laid down: two nil functions -/
structure Fresh (W : World) (b : Nat) : Prop where
  c : ∀ i, i < 2 → W.cell? ⟨b, i, none⟩ = some .nilFunc
  f : ∀ i, W.frozen? ⟨b, i, none⟩ = false
  lt : b < W.heap.size
theorem Fresh.new {T : TypeId} (W : World) : Fresh (W.alloc (.cells #[.nilFunc, .nilFunc] T)) W.heap.size :=
  ⟨fun i hi => by rw [cells_alloc]; (rcases i with _ | _ | i); rfl; rfl; omega, fun i => World.frozen?_alloc_at _ _ _ _ (by simp), by simp⟩
theorem Fresh.below {W w' : World} {b : Nat} (h : Fresh W b) (hc : Below W.heap.size W w') : Fresh w' b :=
  ⟨fun i hi => (hc.cell (p := ⟨b, i, none⟩) h.lt).trans (h.c i hi), fun i => (hc.frozen (p := ⟨b, i, none⟩) h.lt).trans (h.f i), Nat.lt_of_lt_of_le h.lt hc.size⟩
theorem Fresh.alloc {W : World} {b : Nat} (h : Fresh W b) (o : Obj) : Fresh (W.alloc o) b := h.below (below_alloc _ _)
theorem Fresh.drew {W : World} {b : Nat} (h : Fresh W b) : Fresh W.drew b := h.below (Below.drew (Below.refl _ _))
theorem Fresh.use {W : World} {b : Nat} (h : Fresh W b) : W.cell? ⟨b, 0, none⟩ = some .nilFunc ∧ W.cell? ⟨b, 1, none⟩ = some .nilFunc ∧ W.frozen? ⟨b, 0, none⟩ = false ∧ W.frozen? ⟨b, 1, none⟩ = false ∧ b ≠ W.heap.size ∧ W.heap.size ≠ b ∧ b < W.heap.size :=
  ⟨h.c 0 (by omega), h.c 1 (by omega), h.f 0, h.f 1, Nat.ne_of_lt h.lt, Nat.ne_of_gt h.lt, h.lt⟩
def TwoSides (w1 : World) (R S : Rl) (s7 s8 : Value) (wx : World) : Prop :=
  ∃ p q : Nat, s7 = .pointer (some ⟨p, 0, none⟩) ∧ s8 = .pointer (some ⟨q, 0, none⟩) ∧ wx.cell? ⟨p, 0, none⟩ = some (nbF R.le) ∧ wx.cell? ⟨p, 1, none⟩ = some (nbF R.ri) ∧ wx.cell? ⟨q, 0, none⟩ = some (nbF S.le) ∧ wx.cell? ⟨q, 1, none⟩ = some (nbF S.ri) ∧ Below w1.heap.size w1 wx
end Go.Proofs.YtebbmhlkdfmmcaaGreat
namespace Go.Proofs.YtebbmhlkdfmmcaaGreat
open Go.RowKit Go.Proofs.Kv

/-! ### Both, CanMeet -/
def okBoth (R S : Rl) : Bool := decide (R.f = S.f) && (!(comL R.le S.le).isEmpty && !(comL R.ri S.ri).isEmpty)
def isBoth (R S : Rl) : Bool := if errTwo R S = 0 then okBoth R S else false
def bothL (R S : Rl) : List Int := bif isBoth R S then comL R.le S.le else []
def bothR (R S : Rl) : List Int := bif isBoth R S then comL R.ri S.ri else []
/-- what Both returns: two lists in new memory -/
def BothPost (w : World) (l1 l2 : List Int) (b : Bool) (er : Int) (e : Ending) (w' : World) : Prop :=
  ∃ v1 v2, e = .returned (.tuple #[v1, v2, .bool b, .int .i64 er]) ∧ w'.ownsRow w.heap.size 3 1 v1 l1.length (l1.map (Value.int .i64)) ∧ w'.ownsRow w.heap.size 3 1 v2 l2.length (l2.map (Value.int .i64)) ∧ Below w.heap.size w w'
theorem BothPost.none_ {w w' : World} (er : Int) (hb : Below w.heap.size w w') : BothPost w [] [] false er (.returned (.tuple #[.slice none 0 0, .slice none 0 0, .bool false, .int .i64 er])) w' :=
  ⟨_, _, rfl, World.ownsRow_nil _ _ _ _, World.ownsRow_nil _ _ _ _, hb⟩
end Go.Proofs.YtebbmhlkdfmmcaaGreat
namespace Go.Proofs.YtebbmhlkdfmmcaaGreat
open Go.RowKit Go.Proofs.Kv

/-! ### CanMeet -/
/-! ### the reference's IsSpecial, Both, CanMeet -/
end Go.Proofs.YtebbmhlkdfmmcaaGreat
