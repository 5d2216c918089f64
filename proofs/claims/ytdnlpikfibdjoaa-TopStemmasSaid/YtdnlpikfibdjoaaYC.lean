import Derived.Test.YtdnlpikfibdjoaaYB
namespace Go.Proofs.Ytdnlpikfibdjoaa
open Go.RowKit Go.Proofs.Kv

/-! ### the law StemmaAparts -/
theorem ne1_tri (x y z : Int) : ne1 x z ≤ ne1 x y + ne1 y z := by
  unfold ne1
  split
  · omega
  · rename_i h
    by_cases e : x = y
    · subst e; rw [if_neg h]; omega
    · rw [if_neg e]; omega
theorem apN_tri (R Q S : List Int) (m : Nat) : apN R S m ≤ apN R Q m + apN Q S m := by
  induction m with
  | zero => exact Nat.le_refl _
  | succ k ih =>
    have := ne1_tri (R.getD k 0) (Q.getD k 0) (S.getD k 0)
    unfold apN; omega
theorem copiesE_of {T : List (List Int)} {i j : Int} (h : copiesE T [i, j] = 0) {k : Nat} (hk : k < T.length) : copiesE T [i, (k : Int)] = 0 ∧ copiesE T [(k : Int), j] = 0 := by
  have hv : validT T = 0 := by
    rw [copiesE] at h
    split at h
    · assumption
    · exact h
  obtain ⟨-, ⟨h1, h2⟩, h3, h4⟩ := copiesE_two h
  constructor
  · rw [copiesE, if_pos hv, numE_two, if_pos ⟨isNum_iff.2 ⟨h1, h2⟩, isNum_iff.2 ⟨by omega, by omega⟩⟩]
  · rw [copiesE, if_pos hv, numE_two, if_pos ⟨isNum_iff.2 ⟨by omega, by omega⟩, isNum_iff.2 ⟨h3, h4⟩⟩]
theorem resApart_le (T : List (List Int)) (i j : Int) : 0 ≤ resApart T i j ∧ resApart T i j ≤ 6 := by
  rw [resApart]
  split
  · rename_i he
    have g := (copiesE_two he).1.w6
    have := apN_le (T.getD i.toNat []) (T.getD j.toNat []) (n0 T)
    omega
  · omega
theorem resApart_tri {T : List (List Int)} {i j : Int} (h : copiesE T [i, j] = 0) {k : Nat} (hk : k < T.length) : resApart T i j ≤ resApart T i k + resApart T k j := by
  obtain ⟨h1, h2⟩ := copiesE_of h hk
  rw [resApart, resApart, resApart, if_pos h, if_pos h1, if_pos h2, Int.toNat_natCast]
  have := apN_tri (T.getD i.toNat []) (T.getD k []) (T.getD j.toNat []) (n0 T)
  omega
end Go.Proofs.Ytdnlpikfibdjoaa
