import Derived.Test.YtoopgmoopmbfnaaMathB
namespace Go.Proofs.Ytoopgmoopmbfnaa
open Go.RowKit Go.Proofs.Kv Go.Proofs.Snd

theorem foldI_snoc (M : List (List Int)) (x : List Int) : foldI (M ++ [x]) = insertL (foldI M) x := by simp [foldI, List.foldl_append]
theorem foldI_le (M : List (List Int)) : (foldI M).length ≤ M.length := by
  have key : ∀ (M acc : List (List Int)), (M.foldl insertL acc).length ≤ acc.length + M.length := by
    intro M
    induction M with
    | nil => intro acc; simp
    | cons x M ih =>
      intro acc
      have h1 := ih (insertL acc x)
      have h2 := insertL_le acc x
      rw [List.foldl_cons, List.length_cons]; omega
  have := key M []
  simpa [foldI] using this
theorem namesR_len {L : List (List Int)} (h : Good L) : (namesR L).length ≤ 3600 := by
  rw [← namesS_eq h]
  have := names_len h
  simpa [namesS] using this
theorem namesR_at {L : List (List Int)} (h : Good L) {k : Nat} (hk : k < (namesR L).length) : ∃ (x : Int) (y : Nat), (namesR L).getD k (0, 0) = (x, (y : Int)) ∧ y < L.length := by
  have hm : (namesR L).getD k (0, 0) ∈ namesR L := by simp [List.getD, List.getElem?_eq_getElem hk]
  obtain ⟨y, h1, h2, _⟩ := names_in hm h
  exact ⟨((namesR L).getD k (0, 0)).1, y, by rw [← h1], h2⟩

/-! ### the document's Classes -/
def classesRR (L : List (List Int)) : List (List Int) := if validT L = 0 then classesR L else []
theorem classesRR_eq (L : List (List Int)) : classesRes L = classesRR L := by
  unfold classesRes classesRR
  by_cases h : validT L = 0
  · rw [if_pos h, if_pos h, classesS_eq (good_of h)]
  · rw [if_neg h, if_neg h]
end Go.Proofs.Ytoopgmoopmbfnaa
