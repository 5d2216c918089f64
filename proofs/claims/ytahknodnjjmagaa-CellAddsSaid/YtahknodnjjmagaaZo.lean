import Derived.Test.YtahknodnjjmagaaZe
namespace Go.Proofs.Ytahknodnjjmagaa
open Go.RowKit Go.Proofs.Kv

/-! ### all cells -/
def cellsK (sizes : List Int) : Nat → List (List Int)
  | 0 => [[]]
  | k + 1 => (cellsK sizes k).flatMap fun c => (List.range (sizes.getD k 0).toNat).map fun v : Nat => c ++ [(v : Int)]
def cellsL (sizes : List Int) : List (List Int) := cellsK sizes sizes.length
def advC (sizes : List Int) : Nat → List Int → Option (List Int)
  | 0, _ => none
  | k + 1, c => if c.getD k 0 < sizes.getD k 0 - 1 then some (c.set k (c.getD k 0 + 1)) else advC sizes k (c.set k 0)
def chainC (sizes : List Int) : List (List Int) → Bool
  | [] => false
  | [x] => specB sizes x 0 && decide (advC sizes sizes.length x = none)
  | x :: y :: r => specB sizes x 0 && (decide (advC sizes sizes.length x = some y) && chainC sizes (y :: r))
theorem chainC_at {sizes : List Int} : ∀ {L : List (List Int)}, chainC sizes L = true → (∀ k, k < L.length → specB sizes (L.getD k []) 0 = true) ∧ (∀ k, k + 1 < L.length → advC sizes sizes.length (L.getD k []) = some (L.getD (k + 1) [])) ∧ advC sizes sizes.length (L.getD (L.length - 1) []) = none ∧ 0 < L.length
  | [], _ => by contradiction
  | [x], h => by
    simp only [chainC, Bool.and_eq_true, decide_eq_true_eq] at h
    refine ⟨fun k hk => ?_, fun k hk => absurd hk (by simp), by simpa [List.getD] using h.2, by simp⟩
    obtain rfl : k = 0 := by simp at hk; omega
    simpa [List.getD] using h.1
  | x :: y :: r, h => by
    simp only [chainC, Bool.and_eq_true, decide_eq_true_eq] at h
    obtain ⟨h1, h2, h3, _⟩ := chainC_at h.2.2
    refine ⟨fun k hk => ?_, fun k hk => ?_, ?_, by simp⟩
    · cases k with
      | zero => simpa [List.getD] using h.1
      | succ k => simpa [List.getD] using h1 k (by simpa using hk)
    · cases k with
      | zero => simpa [List.getD] using h.2.1
      | succ k => simpa [List.getD] using h2 k (by simpa using hk)
    · simpa [List.getD] using h3
def allSizes : List (List Int) := [[2], [3], [2, 2], [2, 3], [3, 2], [3, 3], [2, 2, 2], [2, 2, 3], [2, 3, 2], [2, 3, 3], [3, 2, 2], [3, 2, 3], [3, 3, 2], [3, 3, 3]]
theorem size_two {x : Int} (h : okSize x = true) : x = 2 ∨ x = 3 := by
  simp [okSize, Within] at h; omega
theorem sizes_mem {l : List Int} (h : 1 ≤ l.length ∧ l.length ≤ 3) (hs : l.any (fun x => !okSize x) = false) : l ∈ allSizes := by
  have hs' := List.any_eq_false.1 hs
  match l, h with
  | [], h => exact absurd h.1 (by simp)
  | [a], _ =>
    rcases size_two (x := a) (by simpa using hs' a (by simp)) with rfl | rfl <;> simp [allSizes]
  | [a, b], _ =>
    rcases size_two (x := a) (by simpa using hs' a (by simp)) with rfl | rfl <;> rcases size_two (x := b) (by simpa using hs' b (by simp)) with rfl | rfl <;> simp [allSizes]
  | [a, b, c], _ =>
    rcases size_two (x := a) (by simpa using hs' a (by simp)) with rfl | rfl <;> rcases size_two (x := b) (by simpa using hs' b (by simp)) with rfl | rfl <;> rcases size_two (x := c) (by simpa using hs' c (by simp)) with rfl | rfl <;> simp [allSizes]
  | _ :: _ :: _ :: _ :: _, h => exact absurd h.2 (by simp)
theorem sizes_all : ∀ s ∈ allSizes, chainC s (cellsL s) = true ∧ (cellsL s).getD 0 [] = s.map (fun _ => 0) ∧ (cellsL s).length ≤ 27 ∧ (∀ k, k ≤ s.length → (cellsK s k).length ≤ 27) := by decide +kernel
theorem cells_chain {P : Par} (h : validP P = 0) : chainC P.sizes (cellsL P.sizes) = true ∧ (cellsL P.sizes).getD 0 [] = P.sizes.map (fun _ => 0) ∧ (cellsL P.sizes).length ≤ 27 ∧ (∀ k, k ≤ P.sizes.length → (cellsK P.sizes k).length ≤ 27) :=
  sizes_all _ (sizes_mem (validP_ok h).1 (validP_ok h).2.1)
theorem cells_spec {P : Par} (h : validP P = 0) {k : Nat} (hk : k < (cellsL P.sizes).length) : specB P.sizes ((cellsL P.sizes).getD k []) 0 = true := (chainC_at (cells_chain h).1).1 k hk

theorem getD_snoc {d : List Int} {v : Int} {j : Nat} : (d ++ [v]).getD j 0 = if j < d.length then d.getD j 0 else if j = d.length then v else 0 := by
  by_cases h : j < d.length
  · rw [if_pos h]; simp [List.getD, List.getElem?_append_left h]
  · rw [if_neg h]
    by_cases e : j = d.length
    · subst e; rw [if_pos rfl]; simp [List.getD]
    · rw [if_neg e]; simp [List.getD, List.getElem?_append_right (Nat.le_of_not_lt h)]
      rw [List.getElem?_eq_none (by simp; omega)]; rfl
theorem mem_cellsK {sizes : List Int} : ∀ {k : Nat} {c : List Int}, c ∈ cellsK sizes k ↔ c.length = k ∧ ∀ j, j < k → 0 ≤ c.getD j 0 ∧ c.getD j 0 ≤ sizes.getD j 0 - 1
  | 0, c => by simp [cellsK]
  | k + 1, c => by
    simp only [cellsK, List.mem_flatMap, List.mem_map, List.mem_range]
    constructor
    · rintro ⟨d, hd, v, hv, rfl⟩
      obtain ⟨hl, h⟩ := mem_cellsK.1 hd
      refine ⟨by simp [hl], fun j hj => ?_⟩
      rw [getD_snoc]
      by_cases h1 : j < d.length
      · rw [if_pos h1]; exact h j (by omega)
      · rw [if_neg h1, if_pos (by omega)]
        obtain rfl : j = k := by omega
        omega
    · rintro ⟨hl, h⟩
      refine ⟨c.take k, mem_cellsK.2 ⟨by simp; omega, fun j hj => ?_⟩, (c.getD k 0).toNat, ?_, ?_⟩
      · have := h j (by omega)
        simpa [List.getD, hj] using this
      · have := h k (by omega); omega
      · have := h k (by omega)
        rw [Int.toNat_of_nonneg this.1, ← take_snoc c 0 k (by omega), List.take_of_length_le (by omega)]
theorem mem_cellsL {sizes c : List Int} : c ∈ cellsL sizes ↔ specB sizes c 0 = true := by
  rw [cellsL, mem_cellsK, specB, Bool.and_eq_true, decide_eq_true_eq, List.all_eq_true]
  constructor
  · rintro ⟨h1, h2⟩
    exact ⟨h1, fun i hi => by have := h2 i (by have := List.mem_range.1 hi; omega); simpa [Within] using this⟩
  · rintro ⟨h1, h2⟩
    exact ⟨h1, fun j hj => by have := h2 j (List.mem_range.2 (by omega)); simpa [Within] using this⟩

/-! ### specs by their cells -/
theorem hB_iff {sp c : List Int} : hB sp c = true ↔ ∀ j, j < sp.length → sp.getD j 0 = -1 ∨ sp.getD j 0 = c.getD j 0 := by
  simp only [hB, List.all_eq_true, List.mem_range, Bool.or_eq_true, decide_eq_true_eq]
def insB (sizes a b : List Int) : Bool := (cellsL sizes).all fun c => !hB a c || hB b c
theorem ins_eq {P : Par} (hv : validP P = 0) {a b : List Int} (ha : specB P.sizes a (-1) = true) (hb : specB P.sizes b (-1) = true) : insB P.sizes a b = hB b a := by
  obtain ⟨la, ra⟩ := specB_ok ha
  obtain ⟨lb, rb⟩ := specB_ok hb
  have hs : ∀ j, j < P.sizes.length → 2 ≤ P.sizes.getD j 0 := fun j hj => by
    have := List.any_eq_false.1 (validP_ok hv).2.1 _ (getD_mem hj)
    simp [okSize, Within] at this
    exact this.1
  cases h : hB b a with
  | true =>
    rw [insB, List.all_eq_true]
    intro c hc
    cases h1 : hB a c with
    | false => rfl
    | true =>
      rw [hB_iff] at h h1
      have : hB b c = true := hB_iff.2 fun j hj => by
        rcases h j hj with h2 | h2
        · exact .inl h2
        · rcases h1 j (by omega) with h3 | h3
          · exact .inl (h2.trans h3)
          · exact .inr (h2.trans h3)
      rw [this]; rfl
  | false =>
    have hn : ¬ ∀ j, j < b.length → b.getD j 0 = -1 ∨ b.getD j 0 = a.getD j 0 := fun hh => by rw [hB_iff.2 hh] at h; cases h
    simp only [Classical.not_forall, not_or] at hn
    obtain ⟨t, ht, h1, h2⟩ := hn
    obtain ⟨f, hf⟩ : ∃ f : Nat → Int, f = fun j => if a.getD j 0 = -1 then (if j = t then (if b.getD t 0 = 0 then 1 else 0) else 0) else a.getD j 0 := ⟨_, rfl⟩
    obtain ⟨c, hc⟩ : ∃ c : List Int, c = (List.range P.sizes.length).map f := ⟨_, rfl⟩
    have hcl : c.length = P.sizes.length := by rw [hc]; simp
    have hcd : ∀ j, j < P.sizes.length → c.getD j 0 = f j := fun j hj => by rw [hc]; simp [List.getD, hj]
    have hmem : c ∈ cellsL P.sizes := by
      rw [cellsL, mem_cellsK]
      refine ⟨hcl, fun j hj => ?_⟩
      rw [hcd j hj, hf]
      have := hs j hj
      have := ra j (by omega)
      dsimp only
      split
      · split
        · split <;> omega
        · omega
      · omega
    have hac : hB a c = true := hB_iff.2 fun j hj => by
      rw [hcd j (by omega), hf]
      dsimp only
      split
      · exact .inl (by assumption)
      · exact .inr rfl
    have hbc : hB b c = false := by
      cases hx : hB b c with
      | false => rfl
      | true =>
        rcases hB_iff.1 hx t ht with h3 | h3
        · exact absurd h3 h1
        · rw [hcd t (by omega), hf] at h3
          dsimp only at h3
          have := rb t ht
          split at h3
          · rw [if_pos rfl] at h3
            split at h3 <;> omega
          · exact absurd h3 h2
    rw [insB, List.all_eq_false]
    exact ⟨c, hmem, by rw [hac, hbc]; simp⟩
end Go.Proofs.Ytahknodnjjmagaa
