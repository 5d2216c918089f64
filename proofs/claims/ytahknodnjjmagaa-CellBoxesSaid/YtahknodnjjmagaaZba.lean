import Derived.Test.YtahknodnjjmagaaZm7
import Derived.Test.YtahknodnjjmagaaZ6
import Derived.Test.YtahknodnjjmagaaZ8
namespace Go.Proofs.Ytahknodnjjmagaa
open Go.RowKit Go.Proofs.Kv

/-! ### the cells of a spec are a box -/
theorem hull_fix {L : List (List Int)} {j : Nat} {x : Int} (h0 : ∀ k, k < L.length → (L.getD k []).getD j 0 = x) (hne : 0 < L.length) (hj : j < (L.getD 0 []).length) : ∀ k, k ≤ L.length → (hullK L k).getD j 0 = x
  | 0, _ => h0 0 hne
  | k + 1, hk => by
    have hl : j < (hullK L k).length := by rw [hullK_len]; exact hj
    rw [hullK_succ (by omega), hs, hsK, map_getD _ hl, if_pos hl, if_pos ((h0 k (by omega)).trans (hull_fix h0 hne hj k (by omega)).symm)]
    exact hull_fix h0 hne hj k (by omega)
theorem sizes_two {P : Par} (hv : validP P = 0) : ∀ j, j < P.sizes.length → 2 ≤ P.sizes.getD j 0 := fun j hj => by
  have := List.any_eq_false.1 (validP_ok hv).2.1 _ (getD_mem hj)
  simp [okSize, Within] at this
  exact this.1
theorem cell_in {P : Par} (hv : validP P = 0) {s : List Int} (hs : specB P.sizes s (-1) = true) (t : Nat) (v : Int) (h0 : 0 ≤ v) (h1 : v ≤ 1) :
    ∃ c, c ∈ withL P (hB s) ∧ ∀ j, j < P.sizes.length → c.getD j 0 = if s.getD j 0 = -1 then (if j = t then v else 0) else s.getD j 0 := by
  obtain ⟨ls, rs⟩ := specB_ok hs
  obtain ⟨f, hf⟩ : ∃ f : Nat → Int, f = fun j => if s.getD j 0 = -1 then (if j = t then v else 0) else s.getD j 0 := ⟨_, rfl⟩
  obtain ⟨c, hc⟩ : ∃ c : List Int, c = (List.range P.sizes.length).map f := ⟨_, rfl⟩
  have hcl : c.length = P.sizes.length := by rw [hc]; simp
  have hcd : ∀ j, j < P.sizes.length → c.getD j 0 = f j := fun j hj => by rw [hc]; simp [List.getD, hj]
  refine ⟨c, List.mem_filter.2 ⟨?_, ?_⟩, fun j hj => by rw [hcd j hj, hf]⟩
  · rw [cellsL, mem_cellsK]
    refine ⟨hcl, fun j hj => ?_⟩
    rw [hcd j hj, hf]
    have := sizes_two hv j hj
    have := rs j (by omega)
    dsimp only
    split
    · split <;> omega
    · omega
  · refine hB_iff.2 fun j hj => ?_
    rw [hcd j (by omega), hf]
    dsimp only
    split
    · exact .inl (by assumption)
    · exact .inr rfl
theorem box_spec {P : Par} (hv : validP P = 0) {s : List Int} (hs : specB P.sizes s (-1) = true) :
    errC P (withL P (hB s)) = 0 ∧ errHu P (withL P (hB s)) = 0 ∧ resBox P (withL P (hB s)) = true ∧ resHull P (withL P (hB s)) = s := by
  obtain ⟨ls, rs⟩ := specB_ok hs
  obtain ⟨c0, hc0, -⟩ := cell_in hv hs 0 0 (by omega) (by omega)
  have hrow : ∀ c ∈ withL P (hB s), specB P.sizes c 0 = true ∧ hB s c = true := fun c hc => by
    obtain ⟨h1, h2⟩ := List.mem_filter.1 hc
    exact ⟨mem_cellsL.1 h1, h2⟩
  have hin : ∀ c, c ∈ cellsL P.sizes → hB s c = true → c ∈ withL P (hB s) := fun c h1 h2 => List.mem_filter.2 ⟨h1, h2⟩
  have hci := fun t v h0 h1 => @cell_in P hv s hs t v h0 h1
  generalize withL P (hB s) = L at *
  have h0 : 0 < L.length := List.length_pos_of_mem hc0
  have hat : ∀ k, k < L.length → L.getD k [] ∈ L := fun k hk => by
    rw [show L.getD k [] = L[k] by simp [List.getD, List.getElem?_eq_getElem hk]]
    exact List.getElem_mem hk
  have he : errC P L = 0 := by
    rw [errC, if_pos hv, if_neg]
    rw [Bool.not_eq_true, List.any_eq_false]
    intro c hc
    rw [(hrow c hc).1]; simp
  have hu : errHu P L = 0 := by rw [errHu, if_pos he, if_neg (by omega)]
  have hne : L.length ≠ 0 := by omega
  have hh : hullL L = s := by
    refine ext_getD (hull_len he h0) ls.symm.symm fun j hj => ?_
    by_cases hm : s.getD j 0 = -1
    · obtain ⟨a, ha, hja⟩ := hci j 0 (by omega) (by omega)
      obtain ⟨b, hb, hjb⟩ := hci j 1 (by omega) (by omega)
      have e1 := hja j hj; have e2 := hjb j hj
      rw [if_pos hm, if_pos rfl] at e1 e2
      obtain ⟨x, hx, rfl⟩ := List.mem_iff_getElem.1 ha
      obtain ⟨y, hy, rfl⟩ := List.mem_iff_getElem.1 hb
      have g1 := hB_iff.1 (hull_hB hx) j (by rw [hull_len he h0]; exact hj)
      have g2 := hB_iff.1 (hull_hB hy) j (by rw [hull_len he h0]; exact hj)
      rw [show L.getD x [] = L[x] by simp [List.getD, List.getElem?_eq_getElem hx], e1] at g1
      rw [show L.getD y [] = L[y] by simp [List.getD, List.getElem?_eq_getElem hy], e2] at g2
      rw [hm]
      rcases g1 with g1 | g1
      · exact g1
      · rcases g2 with g2 | g2
        · exact g2
        · omega
    · refine hull_fix (fun k hk => ?_) h0 (by rw [errC_lens he 0 h0]; exact hj) L.length (Nat.le_refl _)
      rcases hB_iff.1 (hrow _ (hat k hk)).2 j (by omega) with g | g
      · exact absurd g hm
      · exact g.symm
  refine ⟨he, hu, ?_, by rw [resHull, if_pos hu]; exact hh⟩
  rw [resBox, if_pos he, if_neg hne, boxB, List.all_eq_true]
  intro c hc
  rw [boxAt, hh]
  cases hx : hB s c with
  | false => rfl
  | true =>
    have : hasL L c = true := List.any_eq_true.2 ⟨c, hin c hc hx, decide_eq_true rfl⟩
    rw [this]; rfl
theorem has_mat {P : Par} {l : List Int} {x : Nat} (hx : x < P.ents.length) : Has (matL P l) (x : Int) = hB (sp P x) l := by
  rw [Bool.eq_iff_iff, Has_iff, matL, matK, List.mem_map]
  constructor
  · rintro ⟨y, hy, e⟩
    obtain ⟨-, h⟩ := List.mem_filter.1 hy
    obtain rfl : y = x := Int.ofNat.inj e
    exact h
  · intro h
    exact ⟨x, List.mem_filter.2 ⟨List.mem_range.2 hx, h⟩, rfl⟩
theorem errC_cell {P : Par} (hv : validP P = 0) {l : List Int} (h : specB P.sizes l 0 = true) : errC P [l] = 0 := by
  rw [errC, if_pos hv, if_neg]
  simp [h]
end Go.Proofs.Ytahknodnjjmagaa
