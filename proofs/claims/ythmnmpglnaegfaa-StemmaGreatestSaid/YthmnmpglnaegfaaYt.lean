import Derived.Test.YthmnmpglnaegfaaYs
import Derived.RegionTactic
import Derived.BigRegion
namespace Go.Proofs.Kv
open Go.RowKit
/-- block g holds the table F, three numbers a node -/
def TabAt (w : World) (g n : Nat) (F : Tab) : Prop := ∀ i, i < n → ∀ r, r < 3 → w.cell? ⟨g, i * 3 + r, none⟩ = some (.int .i64 (F i r : Nat)) ∧ w.frozen? ⟨g, i * 3 + r, none⟩ = false
theorem TabAt.below {w w' : World} {B g n : Nat} {F : Tab} (h : TabAt w g n F) (hb : Below B w w') (hB : g < B) : TabAt w' g n F := fun i hi r hr =>
  ⟨(hb.cell (p := ⟨g, i * 3 + r, none⟩) hB).trans (h i hi r hr).1, (hb.frozen (p := ⟨g, i * 3 + r, none⟩) hB).trans (h i hi r hr).2⟩
theorem TabAt.congr {w : World} {g n : Nat} {F G : Tab} (h : TabAt w g n F) (e : ∀ i, i < n → ∀ r, r < 3 → F i r = G i r) : TabAt w g n G := fun i hi r hr => by rw [← e i hi r hr]; exact h i hi r hr
def setT (F : Tab) (v s y : Nat) : Tab := fun i r => if i = v ∧ r = s then y else F i r
theorem TabAt.set {w : World} {g n : Nat} {F : Tab} (h : TabAt w g n F) {v s : Nat} (hs : s < 3) (y : Nat) {z : Int} (hz : z = (y : Int)) (hv : v < n) : TabAt (w.setCell ⟨g, v * 3 + s, none⟩ (.int .i64 z)) g n (setT F v s y) := by
  subst hz
  intro i hi r hr
  refine ⟨?_, by rw [World.frozen?_setCell]; exact (h i hi r hr).2⟩
  unfold setT
  by_cases e : i = v ∧ r = s
  · rw [if_pos e]
    obtain ⟨rfl, rfl⟩ := e
    exact World.cell?_setCell_same _ _ _ (h i hi r hr).1
  · rw [if_neg e, World.cell?_setCell_other _ _ _ _ (by intro e'; injection e' with _ e'; exact e ⟨by omega, by omega⟩)]
    exact (h i hi r hr).1
end Go.Proofs.Kv
namespace Go.Proofs.Ythmnmpglnaegfaa
open Go.RowKit Go.Proofs.Kv

def parX (X : Tr) (v : Nat) : Nat := (X.par.getD v 0).toNat
def badK (K : List Int) (v r : Nat) : Bool := decide (K.getD v 0 ≠ -1) && decide (K.getD v 0 ≠ (r : Int))
theorem parX_lt {X : Tr} (g : GoodX X) : ∀ v, 0 < v → v < X.par.length → parX X v < v := fun v h0 hv => by
  have := g.par v h0 hv; unfold parX; omega
structure GoodK (K : List Int) (n : Nat) : Prop where
  len : K.length = n
  ok : ∀ v, -1 ≤ K.getD v 0 ∧ K.getD v 0 ≤ 2
theorem badK_good {K : List Int} {n : Nat} (h : GoodK K n) : ∀ v, ∃ s, s < 3 ∧ badK K v s = false := fun v => by
  have := h.ok v
  by_cases e : K.getD v 0 = -1
  · exact ⟨0, by omega, by unfold badK; rw [e]; rfl⟩
  · obtain ⟨s, hs⟩ := nat_of (show 0 ≤ K.getD v 0 by omega)
    exact ⟨s, by omega, by unfold badK; rw [hs]; simp⟩
def ovrS (bad : Nat → Nat → Bool) (v j : Nat) (D : Tab) : Tab := fun i r => if i = v ∧ r < j ∧ bad v r = true then 16 else D i r
def elimS (par : Nat → Nat) (v j : Nat) (D : Tab) : Tab := fun i r => if i = par v ∧ r < j then D i r + mn (D v) (r : Int) else D i r
theorem ovrS_zero (bad : Nat → Nat → Bool) (v : Nat) (D : Tab) : ovrS bad v 0 D = D := by
  funext i r; exact if_neg fun h => absurd h.2.1 (by omega)
theorem ovrS_hit {bad : Nat → Nat → Bool} {v j : Nat} (D : Tab) (h : bad v j = true) : setT (ovrS bad v j D) v j 16 = ovrS bad v (j + 1) D := by
  funext i r
  unfold setT ovrS
  by_cases e : i = v ∧ r = j
  · obtain ⟨rfl, rfl⟩ := e
    rw [if_pos ⟨rfl, rfl⟩, if_pos ⟨rfl, by omega, h⟩]
  · rw [if_neg e]
    by_cases f : i = v ∧ r < j ∧ bad v r = true
    · rw [if_pos f, if_pos ⟨f.1, by omega, f.2.2⟩]
    · rw [if_neg f, if_neg fun h => f ⟨h.1, by have := h.2.1; by_cases e2 : r = j; exact absurd ⟨h.1, e2⟩ e; omega, h.2.2⟩]
theorem ovrS_miss {bad : Nat → Nat → Bool} {v j : Nat} (D : Tab) (h : bad v j = false) : ovrS bad v j D = ovrS bad v (j + 1) D := by
  funext i r
  unfold ovrS
  by_cases f : i = v ∧ r < j ∧ bad v r = true
  · rw [if_pos f, if_pos ⟨f.1, by omega, f.2.2⟩]
  · rw [if_neg f, if_neg fun h' => f ⟨h'.1, by have := h'.2.1; by_cases e2 : r = j; rw [e2] at h'; rw [h] at h'; exact absurd h'.2.2 (by decide); omega, h'.2.2⟩]
theorem ovrS_all (bad : Nat → Nat → Bool) (v : Nat) (D : Tab) : ∀ i r, r < 3 → ovrS bad v 3 D i r = ovr bad v D i r := fun i r hr => by
  unfold ovrS ovr
  by_cases f : i = v ∧ bad v r = true
  · rw [if_pos f, if_pos ⟨f.1, hr, f.2⟩]
  · rw [if_neg f, if_neg fun h => f ⟨h.1, h.2.2⟩]
theorem elimS_zero (par : Nat → Nat) (v : Nat) (D : Tab) : elimS par v 0 D = D := by
  funext i r; exact if_neg fun h => absurd h.2 (by omega)
theorem elimS_step {par : Nat → Nat} {v j y : Nat} (D : Tab) (hy : y = D (par v) j + mn (D v) (j : Int)) : setT (elimS par v j D) (par v) j y = elimS par v (j + 1) D := by
  funext i r
  unfold setT elimS
  by_cases e : i = par v ∧ r = j
  · obtain ⟨rfl, rfl⟩ := e
    rw [if_pos ⟨rfl, rfl⟩, if_pos ⟨rfl, by omega⟩, hy]
  · rw [if_neg e]
    by_cases f : i = par v ∧ r < j
    · rw [if_pos f, if_pos ⟨f.1, by omega⟩]
    · rw [if_neg f, if_neg fun h => f ⟨h.1, by have := h.2; by_cases e2 : r = j; exact absurd ⟨h.1, e2⟩ e; omega⟩]
theorem elimS_all (par : Nat → Nat) (v : Nat) (D : Tab) : ∀ i r, r < 3 → elimS par v 3 D i r = elim par v D i r := fun i r hr => by
  unfold elimS elim
  by_cases f : i = par v
  · rw [if_pos f, if_pos ⟨f, hr⟩]
  · rw [if_neg f, if_neg fun h => f h.1]
theorem elimS_row {par : Nat → Nat} {v j : Nat} (D : Tab) (h : par v < v) : elimS par v j D v = D v := by
  funext r; exact if_neg fun h' => by have := h'.1; omega
end Go.Proofs.Ythmnmpglnaegfaa
