import Derived.Test.YtdnlpikfibdjoaaYg6
import Derived.Test.YtdnlpikfibdjoaaYX
namespace Go.Proofs.Ytdnlpikfibdjoaa
open Go.RowKit Go.Proofs.Kv Go

/-! ### before, of the document -/
theorem befL_at : ∀ {l m : List Int} {k : Nat}, (∀ j, j < k → l.getD j 0 = m.getD j 0) → k ≤ l.length → k ≤ m.length → befL l m = befL (l.drop k) (m.drop k)
  | l, m, 0, _, _, _ => rfl
  | x :: l, y :: m, k + 1, h, h1, h2 => by
    have h0 : x = y := by have := h 0 (by omega); simpa [List.getD] using this
    subst h0
    have ih := befL_at (l := l) (m := m) (k := k) (fun j hj => by have := h (j + 1) (by omega); simpa [List.getD] using this) (by simpa using h1) (by simpa using h2)
    rw [List.drop_succ_cons, List.drop_succ_cons, ← ih, befL, if_pos rfl]
  | [], _, k + 1, _, h1, _ => absurd h1 (by simp)
  | _ :: _, [], k + 1, _, _, h2 => absurd h2 (by simp)
theorem befL_nil (l m : List Int) (k : Nat) (h : l.length ≤ k ∨ m.length ≤ k) : befL (l.drop k) (m.drop k) = decide ((l.drop k).length < (m.drop k).length) := by
  rcases h with h | h
  · rw [List.drop_of_length_le h]
    cases m.drop k with
    | nil => rfl
    | cons y t => simp [befL]
  · rw [List.drop_of_length_le h]
    cases l.drop k with
    | nil => rfl
    | cons y t => simp [befL]
/-! ### the sets of the document, while they are made -/
def innS (T : List (List Int)) (p i : Nat) : List (List Int) := calmS T p ++ (((calmS T p).drop i).reverse.filter fun s => fitsS T s p).map fun s => s ++ [(p : Int)]
theorem innS_zero (T : List (List Int)) (p : Nat) : innS T p 0 = calmS T (p + 1) := rfl
theorem innS_all (T : List (List Int)) (p : Nat) {i : Nat} (h : (calmS T p).length ≤ i) : innS T p i = calmS T p := by
  unfold innS; rw [List.drop_of_length_le h]; simp
theorem innS_step (T : List (List Int)) (p : Nat) {i : Nat} (h : i < (calmS T p).length) :
    innS T p i = innS T p (i + 1) ++ (if fitsS T ((calmS T p).getD i []) p = true then [(calmS T p).getD i [] ++ [(p : Int)]] else []) := by
  have e : (calmS T p).drop i = (calmS T p).getD i [] :: (calmS T p).drop (i + 1) := by
    rw [List.drop_eq_getElem_cons h]; simp [List.getD, List.getElem?_eq_getElem h]
  unfold innS
  rw [e, List.reverse_cons, List.filter_append, List.map_append, List.append_assoc]
  congr 2
  by_cases hf : fitsS T ((calmS T p).getD i []) p = true
  · rw [if_pos hf]; simp only [List.filter_cons, hf, if_true]; rfl
  · rw [if_neg hf]; simp only [List.filter_cons, hf]; rfl
theorem innS_at (T : List (List Int)) (p : Nat) {i j : Nat} (h : j < (calmS T p).length) : (innS T p i).getD j [] = (calmS T p).getD j [] := by
  unfold innS; simp [List.getD, List.getElem?_append_left h]
theorem calmS_len (T : List (List Int)) : ∀ p, (calmS T p).length ≤ 2 ^ p
  | 0 => by simp [calmS]
  | p + 1 => by
    have ih := calmS_len T p
    have h1 := List.length_filter_le (fun s => fitsS T s p) (calmS T p).reverse
    rw [List.length_reverse] at h1
    rw [calmS, List.length_append, List.length_map, Nat.pow_succ]; omega
theorem innS_len (T : List (List Int)) (p i : Nat) : (innS T p i).length ≤ (calmS T p).length + (calmS T p).length := by
  have h1 := List.length_filter_le (fun s => fitsS T s p) ((calmS T p).drop i).reverse
  rw [List.length_reverse, List.length_drop] at h1
  rw [innS, List.length_append, List.length_map]; omega
theorem calmS_row (T : List (List Int)) : ∀ p, ∀ s ∈ calmS T p, s.length ≤ p ∧ ∀ x ∈ s, 0 ≤ x ∧ x < p
  | 0, s, h => by rw [calmS, List.mem_singleton] at h; subst h; simp
  | p + 1, s, h => by
    rw [calmS, List.mem_append, List.mem_map] at h
    rcases h with h | ⟨t, ht, rfl⟩
    · obtain ⟨h1, h2⟩ := calmS_row T p s h
      exact ⟨by omega, fun x hx => by have := h2 x hx; omega⟩
    · obtain ⟨h1, h2⟩ := calmS_row T p t (List.mem_reverse.1 (List.mem_filter.1 ht).1)
      refine ⟨by simp; omega, fun x hx => ?_⟩
      rcases List.mem_append.1 hx with hx | hx
      · have := h2 x hx; omega
      · rw [List.mem_singleton] at hx; subst hx; omega
theorem calmS_skip (T : List (List Int)) (p : Nat) (h : splR T p = false) : calmS T (p + 1) = calmS T p := by
  rw [calmS]
  have : ((calmS T p).reverse.filter fun s => fitsS T s p) = [] := List.filter_eq_nil_iff.2 fun s _ => by simp [fitsS, h]
  rw [this]; simp
theorem uq_map {α β : Type} [DecidableEq α] [DecidableEq β] {f : α → β} (hf : ∀ x y, f x = f y → x = y) (l : List α) : uq (l.map f) = (uq l).map f := by
  have key : ∀ (l L : List α), (l.map f).foldl insU (L.map f) = (l.foldl insU L).map f := by
    intro l
    induction l with
    | nil => intro L; rfl
    | cons x l ih =>
      intro L
      have hs : insU (L.map f) (f x) = (insU L x).map f := by
        unfold insU
        by_cases h : x ∈ L
        · rw [if_pos h, if_pos (List.mem_map.2 ⟨x, h, rfl⟩)]
        · rw [if_neg h, if_neg (fun h' => by obtain ⟨y, hy, e⟩ := List.mem_map.1 h'; exact h (hf y x e ▸ hy))]
          simp
      rw [List.map_cons, List.foldl_cons, List.foldl_cons, hs, ih]
  exact key l []
theorem cfR_symm (T : List (List Int)) (p q : Nat) : cfR T p q = cfR T q p := by
  have e : colP T q p = (colP T p q).map fun x => (x.2, x.1) := by simp [colP]
  have h : (uq (colP T q p)).length = (uq (colP T p q)).length := by
    rw [e, uq_map (f := fun x : Int × Int => (x.2, x.1)) (fun x y h => by injection h with h1 h2; exact Prod.ext h2 h1), List.length_map]
  unfold cfR
  rw [h]
  cases splR T p <;> cases splR T q <;> simp
end Go.Proofs.Ytdnlpikfibdjoaa
