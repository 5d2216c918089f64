import Derived.Test.YtdnlpikfibdjoaaYy
namespace Go.Proofs.Ytdnlpikfibdjoaa
open Go.RowKit Go.Proofs.Kv

/-! ### Apart, of the program and of the document -/
def apN (R S : List Int) : Nat → Nat
  | 0 => 0
  | k + 1 => apN R S k + ne1 (R.getD k 0) (S.getD k 0)
def resApart (T : List (List Int)) (i j : Int) : Int := if copiesE T [i, j] = 0 then (apN (T.getD i.toNat []) (T.getD j.toNat []) (n0 T) : Int) else 0
theorem apN_le (R S : List Int) (k : Nat) : apN R S k ≤ k := by
  induction k with
  | zero => exact Nat.le_refl _
  | succ k ih => unfold apN ne1; split <;> omega
theorem copiesE_pair (T : List (List Int)) (p q : Int) : copiesE T [p, q] = if copiesE T [p] = 0 then copiesE T [q] else copiesE T [p] := by
  simp only [copiesE, numE_one, numE_two]
  by_cases hv : validT T = 0
  · simp only [hv, if_true]
    cases isNum T.length p <;> cases isNum T.length q <;> rfl
  · simp [hv]
end Go.Proofs.Ytdnlpikfibdjoaa
