import Derived.Test.YtdabgoiipkmpaaaJa
namespace Go.Proofs.Ytdabgoiipkmpaaa
open Go.RowKit Go.Proofs.Kv

theorem asc_unique {α : Type} {lt : α → α → Prop} (irr : ∀ a, ¬ lt a a) (tr : ∀ a b c, lt a b → lt b c → lt a c) :
    ∀ {l m : List α}, l.Pairwise lt → m.Pairwise lt → (∀ x, x ∈ l ↔ x ∈ m) → l = m
  | [], [], _, _, _ => rfl
  | [], b :: m, _, _, h => absurd ((h b).2 (by simp)) (by simp)
  | a :: l, [], _, _, h => absurd ((h a).1 (by simp)) (by simp)
  | a :: l, b :: m, hl, hm, h => by
    rw [List.pairwise_cons] at hl hm
    have e : a = b := by
      rcases List.mem_cons.1 ((h a).1 (by simp)) with e | ha
      · exact e
      · rcases List.mem_cons.1 ((h b).2 (by simp)) with e | hb
        · exact e.symm
        · exact absurd (tr _ _ _ (hl.1 _ hb) (hm.1 _ ha)) (irr _)
    subst e
    congr 1
    refine asc_unique irr tr hl.2 hm.2 fun x => ?_
    constructor
    · intro hx
      rcases List.mem_cons.1 ((h x).1 (List.mem_cons_of_mem _ hx)) with e | hx'
      · exact absurd (e ▸ hl.1 _ hx) (irr _)
      · exact hx'
    · intro hx
      rcases List.mem_cons.1 ((h x).2 (List.mem_cons_of_mem _ hx)) with e | hx'
      · exact absurd (e ▸ hm.1 _ hx) (irr _)
      · exact hx'

def LtL (x y : List Int) : Prop := ltL x y = true
theorem LtL_irr (a : List Int) : ¬ LtL a a := by unfold LtL; rw [swoL.irrefl]; simp
theorem LtL_tr (a b c : List Int) : LtL a b → LtL b c → LtL a c := fun h k => swoL.trans _ _ _ h k
theorem before_lt : ∀ l m : List Int, beforeL l m = ltL l m
  | [], [] => rfl
  | [], _ :: _ => rfl
  | _ :: _, [] => rfl
  | x :: l, y :: m => by
    have ih := before_lt l m
    rw [beforeL, ltL, cmpL]
    rcases cmpI_cases x y with ⟨h0, h1⟩ | ⟨h0, h1⟩ | ⟨h0, h1⟩
    · rw [if_neg (by omega), h1]; simpa using h0
    · rw [if_neg (by omega), h1]; simp; omega
    · rw [if_pos h0, if_pos h1, ih]; rfl
theorem insertL_nil (x : List Int) : insertL [] x = [x] := rfl
theorem insertL_cons (y : List Int) (L : List (List Int)) (x : List Int) : insertL (y :: L) x = if beforeL y x then y :: insertL L x else if y = x then y :: L else x :: y :: L := by
  unfold insertL insAt
  cases h : beforeL y x with
  | true =>
    simp only [List.takeWhile_cons, h, if_true, List.length_cons, Nat.add_lt_add_iff_right, List.take_succ_cons, List.drop_succ_cons, List.cons_append]
    have : (y :: L).getD ((L.takeWhile fun y => beforeL y x).length + 1) [] = L.getD (L.takeWhile fun y => beforeL y x).length [] := by simp [List.getD]
    rw [this]
    split <;> rfl
  | false =>
    simp only [List.takeWhile_cons, h, List.length_cons]
    by_cases e : y = x
    · subst e; simp [List.getD]
    · simp [List.getD, e]
theorem mem_insertL {L : List (List Int)} {x z : List Int} : z ∈ insertL L x ↔ z = x ∨ z ∈ L := by
  induction L with
  | nil => simp [insertL_nil]
  | cons y L ih =>
    rw [insertL_cons]
    split
    · rw [List.mem_cons, ih, List.mem_cons]
      constructor
      · rintro (h | h | h)
        · exact .inr (.inl h)
        · exact .inl h
        · exact .inr (.inr h)
      · rintro (h | h | h)
        · exact .inr (.inl h)
        · exact .inl h
        · exact .inr (.inr h)
    · split
      · rename_i e; subst e; simp
      · simp
theorem asc_insertL {L : List (List Int)} (x : List Int) (h : L.Pairwise LtL) : (insertL L x).Pairwise LtL := by
  induction L with
  | nil => simp [insertL_nil]
  | cons y L ih =>
    obtain ⟨h1, h2⟩ := List.pairwise_cons.1 h
    rw [insertL_cons]
    cases hb : beforeL y x with
    | true =>
      simp only [if_true]
      refine List.pairwise_cons.2 ⟨fun z hz => ?_, ih h2⟩
      rcases mem_insertL.1 hz with e | hz
      · rw [e]; unfold LtL; rw [← before_lt]; exact hb
      · exact h1 z hz
    | false =>
      simp only [Bool.false_eq_true, if_false]
      by_cases e : y = x
      · rw [if_pos e]; exact h
      · rw [if_neg e]
        have hxy : LtL x y := by
          unfold LtL
          cases hh : ltL x y with
          | true => rfl
          | false => exact absurd (ltL_anti x y hh (by rw [← before_lt]; exact hb)).symm e
        refine List.pairwise_cons.2 ⟨fun z hz => ?_, h⟩
        rcases List.mem_cons.1 hz with e | hz
        · rw [e]; exact hxy
        · exact LtL_tr _ _ _ hxy (h1 z hz)
theorem fold_ins : ∀ (M : List (List Int)) {acc : List (List Int)}, acc.Pairwise LtL → (M.foldl insertL acc).Pairwise LtL ∧ ∀ z, z ∈ M.foldl insertL acc ↔ z ∈ acc ∨ z ∈ M
  | [], acc, h => ⟨h, fun z => by simp⟩
  | x :: M, acc, h => by
    obtain ⟨h1, h2⟩ := fold_ins M (asc_insertL x h)
    refine ⟨h1, fun z => ?_⟩
    rw [List.foldl_cons, h2, mem_insertL, List.mem_cons]
    constructor
    · rintro ((h | h) | h)
      · exact .inr (.inl h)
      · exact .inl h
      · exact .inr (.inr h)
    · rintro (h | h | h)
      · exact .inl (.inr h)
      · exact .inl (.inl h)
      · exact .inr h
def foldI (M : List (List Int)) : List (List Int) := M.foldl insertL []
theorem leL_total (a b : List Int) : (leL a b || leL b a) = true := by
  simp only [leL]
  cases h : ltL b a with
  | false => simp
  | true =>
    cases h' : ltL a b with
    | false => simp
    | true =>
      have := swoL.trans _ _ _ h h'
      rw [swoL.irrefl] at this; cases this
theorem leL_tr (a b c : List Int) : leL a b = true → leL b c = true → leL a c = true := by
  simp only [leL, Bool.not_eq_true']
  exact fun h1 h2 => swoL.ntrans c b a h2 h1
theorem sortL_asc {M : List (List Int)} (h : M.Nodup) : (M.mergeSort leL).Pairwise LtL := by
  have hs : (M.mergeSort leL).Pairwise fun a b => leL a b = true := List.pairwise_mergeSort leL_tr leL_total M
  refine (hs.and ((List.mergeSort_perm M leL).symm.nodup h)).imp ?_
  rintro a b ⟨h1, h2⟩
  simp only [leL, Bool.not_eq_true'] at h1
  unfold LtL
  cases hh : ltL a b with
  | true => rfl
  | false => exact absurd (ltL_anti a b hh h1) h2
/-- lists that are sorted, and lists that are put one by one, are the same if none is twice -/
theorem sortL_eq {M : List (List Int)} (h : M.Nodup) : M.mergeSort leL = foldI M := by
  obtain ⟨h1, h2⟩ := fold_ins M (acc := []) List.Pairwise.nil
  exact asc_unique LtL_irr LtL_tr (sortL_asc h) h1 fun x => by
    unfold foldI
    rw [h2, (List.mergeSort_perm M leL).mem_iff]; simp
end Go.Proofs.Ytdabgoiipkmpaaa
