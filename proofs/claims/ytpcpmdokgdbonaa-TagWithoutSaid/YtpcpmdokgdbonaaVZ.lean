import Derived.Test.YtpcpmdokgdbonaaVY
namespace Go.Proofs.Ytpcpmdokgdbonaa
open Go.RowKit Go.Proofs.Kv Go

/-! ### everything may follow -/
theorem zerR_at (r : List Int) (j : Nat) : (zerR r).getD j 0 = 0 := by
  unfold zerR
  simp only [List.getD, List.getElem?_map]
  cases r[j]? <;> rfl
theorem free_fv (L : Lx) (a b : Int) : fvI (freeL L) a b = 0 := by
  unfold fvI follV freeL
  show ((L.follow.map zerR).getD _ []).getD _ 0 = 0
  simp only [List.getD, List.getElem?_map]
  cases L.follow[((L.items[a.toNat]?).getD I0).kind.toNat]? with
  | none => rfl
  | some r => exact zerR_at r _
theorem free_ok (L : Lx) (s : List Int) : okF (freeL L) s = true := okF_yes rfl fun k _ => by
  unfold okC; rw [free_fv]; simp
theorem free_good {L : Lx} (g : GoodL L) : GoodL (freeL L) where
  ge := g.ge
  le := g.le
  word := g.word
  kind := g.kind
  cost := g.cost
  rows := by show (L.follow.map zerR).length = 4; rw [List.length_map]; exact g.rows
  row k hk := by
    have hl := g.rows
    have e : (freeL L).follow.getD k [] = zerR (L.follow.getD k []) := by
      show (L.follow.map zerR).getD k [] = _
      simp only [List.getD, List.getElem?_map]
      rw [List.getElem?_eq_getElem (show k < L.follow.length by omega)]; rfl
    rw [e]
    obtain ⟨r1, r2⟩ := g.row k hk
    refine ⟨by simp [zerR]; exact r1, ?_⟩
    rw [zerR_rep r1]; decide
theorem itemsB_app {L : Lx} {s s' : List Int} : itemsB L (s ++ s') = true ↔ itemsB L s = true ∧ itemsB L s' = true := by
  unfold itemsB areB; rw [List.all_append, Bool.and_eq_true]
theorem wordsL_app (L : Lx) (s s' : List Int) : wordsL L (s ++ s') = wordsL L s ++ wordsL L s' := by simp [wordsL]
theorem cut_same {L : Lx} (g : GoodL L) {s d s' d' : List Int} (hs : itemsB L s = true) (hs' : itemsB L s' = true) (hw : wordsL L s = wordsL L s') (h : s ++ d = s' ++ d') : s = s' := by
  rcases List.append_eq_append_iff.1 h with ⟨e, h1, h2⟩ | ⟨e, h1, h2⟩
  · subst h1
    have h3 := (itemsB_app.1 hs').2
    rw [wordsL_app] at hw
    have h4 : wordsL L e = [] := by
      have := congrArg List.length hw
      rw [List.length_append] at this
      exact List.length_eq_zero_iff.1 (by omega)
    have h5 := itemsB_len g e.length rfl h3
    rw [h4] at h5
    have : e = [] := List.length_eq_zero_iff.1 (by simpa using h5)
    rw [this, List.append_nil]
  · subst h1
    have h3 := (itemsB_app.1 hs).2
    rw [wordsL_app] at hw
    have h4 : wordsL L e = [] := by
      have := congrArg List.length hw
      rw [List.length_append] at this
      exact List.length_eq_zero_iff.1 (by omega)
    have h5 := itemsB_len g e.length rfl h3
    rw [h4] at h5
    have : e = [] := List.length_eq_zero_iff.1 (by simpa using h5)
    rw [this, List.append_nil]
theorem len_prod {A B C : List (List Int)} (hA : A.Nodup) (hB : B.Nodup) (hC : ∀ a ∈ A, ∀ b ∈ B, a ++ b ∈ C) (hi : ∀ a ∈ A, ∀ a' ∈ A, ∀ b ∈ B, ∀ b' ∈ B, a ++ b = a' ++ b' → a = a') : A.length * B.length ≤ C.length := by
  have hn : (A.flatMap fun a => B.map fun b => a ++ b).Nodup := by
    unfold List.Nodup
    rw [List.pairwise_flatMap]
    refine ⟨fun a _ => ?_, ?_⟩
    · rw [List.pairwise_map]
      exact hB.imp fun hne e => hne (List.append_cancel_left e)
    · refine hA.imp_of_mem fun {a a'} ha ha' hne x hx y hy e => ?_
      obtain ⟨b, hb, rfl⟩ := List.mem_map.1 hx
      obtain ⟨b', hb', rfl⟩ := List.mem_map.1 hy
      exact hne (hi a ha a' ha' b hb b' hb' e)
  have hl : (A.flatMap fun a => B.map fun b => a ++ b).length = A.length * B.length := by
    clear hn hA hC hi
    induction A with
    | nil => simp
    | cons a A ih => rw [List.flatMap_cons, List.length_append, ih, List.length_map, List.length_cons, Nat.add_mul, Nat.one_mul, Nat.add_comm]
  rw [← hl]
  exact len_le_sub8 hn fun x hx => by
    obtain ⟨a, ha, hx⟩ := List.mem_flatMap.1 hx
    obtain ⟨b, hb, rfl⟩ := List.mem_map.1 hx
    exact hC a ha b hb
theorem free_prod {L : Lx} (g : GoodL L) (u v : List Int) : cntA (freeL L) u * cntA (freeL L) v ≤ cntA (freeL L) (u ++ v) := by
  have g' := free_good g
  have h := len_prod (C := allS (freeL L) (u ++ v)) (nodup_allS g' u) (nodup_allS g' v) (fun a ha b hb => by
    obtain ⟨a1, a2, -⟩ := (mem_allS g' u a).1 ha
    obtain ⟨b1, b2, -⟩ := (mem_allS g' v b).1 hb
    exact (mem_allS g' (u ++ v) _).2 ⟨itemsB_app.2 ⟨a1, b1⟩, by rw [wordsL_app, a2, b2], free_ok L _⟩) (fun a ha a' ha' b _ b' _ e => by
    obtain ⟨a1, a2, -⟩ := (mem_allS g' u a).1 ha
    obtain ⟨b1, b2, -⟩ := (mem_allS g' u a').1 ha'
    exact cut_same g' a1 b1 (a2.trans b2.symm) e)
  unfold cntA
  exact_mod_cast h
theorem cntA_small {L : Lx} (g : GoodL L) {t : List Int} (ht : t.length ≤ 12) : 0 ≤ cntA L t ∧ cntA L t ≤ 549755813888 := by
  refine ⟨by unfold cntA; omega, ?_⟩
  unfold cntA allS
  by_cases h0 : t.length = 0
  · rw [if_pos h0]; simp
  · rw [if_neg h0]
    have h := len_allP g t ht L.items.length (Nat.le_refl _)
    have := g.le
    show ((allP L t L.items.length).length : Int) ≤ _
    omega
theorem free_facts {L : Lx} (h : validL L = 0) (u v : List Int) (h2 : textE (freeL L) (u ++ v) = 0) : 0 ≤ countV (freeL L) u ∧ 0 ≤ countV (freeL L) v ∧ countV (freeL L) u * countV (freeL L) v ≤ countV (freeL L) (u ++ v) ∧ countV (freeL L) (u ++ v) ≤ 549755813888 := by
  have g := validL_ok h
  have g' := free_good g
  obtain ⟨-, h12, hb⟩ := textE_ok h2
  rw [List.length_append] at h12
  have hbu : areB u 0 5 = true ∧ areB v 0 5 = true := by
    unfold areB at hb ⊢; rw [List.all_append, Bool.and_eq_true] at hb; exact hb
  have e1 : textE (freeL L) u = 0 := by unfold textE; rw [validL_yes g', if_pos rfl, if_neg (by omega), if_pos hbu.1]
  have e2 : textE (freeL L) v = 0 := by unfold textE; rw [validL_yes g', if_pos rfl, if_neg (by omega), if_pos hbu.2]
  unfold countV
  rw [if_pos e1, if_pos e2, if_pos h2]
  exact ⟨(cntA_small g' (by omega)).1, (cntA_small g' (by omega)).1, free_prod g u v, (cntA_small g' (by rw [List.length_append]; omega)).2⟩
end Go.Proofs.Ytpcpmdokgdbonaa
