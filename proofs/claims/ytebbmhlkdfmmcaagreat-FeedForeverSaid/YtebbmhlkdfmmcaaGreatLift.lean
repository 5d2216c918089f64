import Derived.Test.YtebbmhlkdfmmcaaGreatRows
import Derived.Test.YtebbmhlkdfmmcaaGreatKit
import Derived.ProofKit
import Derived.OpenShut
import Derived.ShutString
import Derived.ChangeOld
import Derived.Below
import Derived.Deep.Matrix
namespace Go.Proofs.YtebbmhlkdfmmcaaGreat
open Go.ChangeShapes Go.WideShapes Go.ChangeAt Go.RowKit Go.Proofs.Kv
open Go.Deep

theorem own_YtebbmhlkdfmmcaaGreat : ownKnob Tryz.prog.godebug = none := by kernel_rfl
theorem laidOut_YtebbmhlkdfmmcaaGreat : laidOutB Tryz.prog = true := by kernel_rfl

theorem cell_spot {w : World} {b off : Nat} {sp : Option Nat} {v : Value} (h : w.cell? ⟨b, off, sp⟩ = some v) : sp = none := World.cell?_spot h

/-- a list of numbers that came in -/
theorem ints_in {W : World} {x : Addr} {len cap : Nat} {zs : List Int} (hl : len ≤ cap) (hm : cap ≤ maxLen) (hz : zs.length = cap) (hc : ∀ i, i < zs.length → W.cell? (x.add i) = some (.int .i64 (zs.getD i 0))) : IntsAt W (some x) len cap (zs.take len) := by
  obtain ⟨b, off, sp⟩ := x
  refine ⟨by rw [List.length_take]; omega, hl, by unfold maxLen at hm; omega, fun i hi => ?_⟩
  have h0 := hc 0 (by omega)
  have hs : sp = none := cell_spot (b := b) (off := off) (by simpa [Addr.add] using h0)
  subst hs
  have hi' := hc i (by omega)
  have ha : (⟨b, off, none⟩ : Addr).add i = ⟨b, off + i, none⟩ := by unfold Addr.add; split <;> simp_all
  rw [ha] at hi'
  refine ⟨b, off, rfl, World.block_lt_of_cell? W ⟨b, off + i, none⟩ hi', hi'.trans ?_⟩
  simp [List.getD, hi]
/-- lists of numbers that came in -/
theorem lists_in {W : World} {x : Addr} {len cap : Nat} {A : Nat → Option Addr} {Ln C : Nat → Nat} {Z : Nat → List Int} (hl : len ≤ cap) (hm : cap ≤ maxLen)
    (hc : ∀ r, r < cap → W.cell? (x.add r) = some (.slice (A r) (Ln r) (C r)) ∧ Ln r ≤ C r ∧ C r ≤ maxLen ∧ (Z r).length = C r ∧ (∀ n ∈ Z r, (Lit.int .i64 n).wf = true) ∧ (A r = none → C r = 0) ∧
      ∀ a', A r = some a' → 0 ≤ a'.block ∧ ∀ c, c < C r → W.cell? (a'.add c) = some (.int .i64 ((Z r).getD c 0))) :
    ListsAt W (some x) len cap ((List.range len).map fun r => (Z r).take (Ln r)) := by
  obtain ⟨b, off, sp⟩ := x
  refine ⟨by simp, hl, by unfold maxLen at hm; omega, fun i hi => ?_⟩
  have h0 := (hc 0 (by omega)).1
  have hs : sp = none := cell_spot (b := b) (off := off) (by simpa [Addr.add] using h0)
  subst hs
  obtain ⟨h1, h2, h3, h4, -, h6, h7⟩ := hc i (by omega)
  have ha : (⟨b, off, none⟩ : Addr).add i = ⟨b, off + i, none⟩ := by unfold Addr.add; split <;> simp_all
  rw [ha] at h1
  refine ⟨b, off, A i, Ln i, C i, rfl, World.block_lt_of_cell? W ⟨b, off + i, none⟩ h1, h1, ?_⟩
  have hg : ((List.range len).map fun r => (Z r).take (Ln r)).getD i [] = (Z i).take (Ln i) := by simp [List.getD, hi]
  rw [hg]
  cases hA : A i with
  | none =>
    have hC := h6 hA
    have hL : Ln i = 0 := by omega
    rw [hL, hC, List.take_zero]
    exact IntsAt.nil _ _ _ (by omega)
  | some a' => exact ints_in h2 h3 h4 fun c hc' => (h7 a' hA).2 c (by omega)

end Go.Proofs.YtebbmhlkdfmmcaaGreat
