import Derived.Test.YtgpenbajhndhiaaVn
namespace Go.Proofs.Ytgpenbajhndhiaa
open Go.RowKit Go.Proofs.Kv Go

/-! ### what can be left over -/
def wd (L : Lx) (i : Nat) : List Int := (L.items.getD i I0).word
inductive RR (L : Lx) : List Int → Prop
  | start (i j : Nat) (r : List Int) : i < L.items.length → j < L.items.length → i ≠ j → wd L j = wd L i ++ r → RR L r
  | short (i : Nat) (r : List Int) : RR L (wd L i ++ r) → i < L.items.length → RR L r
  | long (i : Nat) (l r : List Int) : RR L l → i < L.items.length → wd L i = l ++ r → RR L r
/-- all that can be left over is in a list -/
structure Shut (L : Lx) (S : List Int → Prop) : Prop where
  start : ∀ i j r, i < L.items.length → j < L.items.length → i ≠ j → wd L j = wd L i ++ r → S r
  short : ∀ i r, S (wd L i ++ r) → i < L.items.length → S r
  long : ∀ i l r, S l → i < L.items.length → wd L i = l ++ r → S r
theorem Shut.all {L : Lx} {S : List Int → Prop} (h : Shut L S) {r : List Int} (hr : RR L r) : S r := by
  induction hr with
  | start i j r hi hj hne e => exact h.start i j r hi hj hne e
  | short i r _ hi ih => exact h.short i r ih hi
  | long i l r _ hi e ih => exact h.long i l r ih hi e
theorem wordsL_cons (L : Lx) (x : Int) (s : List Int) : wordsL L (x :: s) = wordL L x ++ wordsL L s := rfl
theorem itemsB_cons {L : Lx} {s : List Int} {x : Int} : itemsB L (x :: s) = true ↔ (∃ j : Nat, x = (j : Int) ∧ j < L.items.length) ∧ itemsB L s = true := by
  simp only [itemsB, areB, List.all_cons, Bool.and_eq_true, Within, decide_eq_true_eq]
  constructor
  · rintro ⟨⟨h1, h2⟩, h3⟩; exact ⟨⟨x.toNat, by omega, by omega⟩, h3⟩
  · rintro ⟨⟨j, rfl, hj⟩, h3⟩; exact ⟨⟨by omega, by omega⟩, h3⟩
theorem wordL_nat (L : Lx) (j : Nat) : wordL L (j : Int) = wd L j := by rw [wordL, Int.toNat_natCast]; rfl
/-- two lists behind what is left over end in nothing left over -/
theorem RR.run {L : Lx} (g : GoodL L) : ∀ (n : Nat) (s s' r : List Int), s.length + s'.length ≤ n → RR L r → itemsB L s = true → itemsB L s' = true → wordsL L s = r ++ wordsL L s' → RR L []
  | n, [], s', r, _, hr, _, _, e => by
    have : r = [] := by
      have := congrArg List.length e
      simp [wordsL] at this
      exact List.length_eq_zero_iff.1 (by omega)
    rw [this] at hr; exact hr
  | 0, x :: s, s', r, h, _, _, _, _ => absurd h (by simp)
  | n + 1, x :: s, s', r, h, hr, hs, hs', e => by
    obtain ⟨⟨k, rfl, hk⟩, hs1⟩ := itemsB_cons.1 hs
    rw [wordsL_cons, wordL_nat] at e
    rcases List.append_eq_append_iff.1 e with ⟨u, e1, e2⟩ | ⟨u, e1, e2⟩
    · -- r = wd k ++ u
      rw [e1] at hr
      exact RR.run g n s s' u (by simp at h; omega) (RR.short k u hr hk) hs1 hs' e2
    · -- wd k = r ++ u
      exact RR.run g n s' s u (by simp at h; omega) (RR.long k r u hr hk e1) hs' hs1 e2
theorem RR_of_two {L : Lx} (g : GoodL L) : ∀ (s s' : List Int), s ≠ s' → itemsB L s = true → itemsB L s' = true → wordsL L s = wordsL L s' → RR L []
  | [], [], h, _, _, _ => absurd rfl h
  | [], x :: s', _, _, h, e => by
    exfalso
    obtain ⟨⟨k, rfl, hk⟩, -⟩ := itemsB_cons.1 h
    rw [wordsL_cons, wordL_nat] at e
    have e := congrArg List.length e
    have h1 := (g.word k hk).1
    change 1 ≤ (wd L k).length at h1
    rw [List.length_append] at e
    have e : 0 = (wd L k).length + (wordsL L s').length := e
    omega
  | x :: s, [], _, h, _, e => by
    exfalso
    obtain ⟨⟨k, rfl, hk⟩, -⟩ := itemsB_cons.1 h
    rw [wordsL_cons, wordL_nat] at e
    have e := congrArg List.length e
    have h1 := (g.word k hk).1
    change 1 ≤ (wd L k).length at h1
    rw [List.length_append] at e
    have e : (wd L k).length + (wordsL L s).length = 0 := e
    omega
  | x :: s, y :: s', hne, h, h', e => by
    obtain ⟨⟨k, rfl, hk⟩, hs⟩ := itemsB_cons.1 h
    obtain ⟨⟨m, rfl, hm⟩, hs'⟩ := itemsB_cons.1 h'
    by_cases hkm : k = m
    · subst hkm
      rw [wordsL_cons, wordsL_cons] at e
      exact RR_of_two g s s' (fun q => hne (by rw [q])) hs hs' (List.append_cancel_left e)
    · rw [wordsL_cons, wordsL_cons, wordL_nat, wordL_nat] at e
      rcases List.append_eq_append_iff.1 e with ⟨u, e1, e2⟩ | ⟨u, e1, e2⟩
      · exact RR.run g _ s s' u (Nat.le_refl _) (RR.start k m u hk hm hkm e1) hs hs' e2
      · exact RR.run g _ s' s u (Nat.le_refl _) (RR.start m k u hm hk (Ne.symm hkm) e1) hs' hs e2.symm.symm
/-- what can be left over is left over by two lists -/
theorem RR.lists {L : Lx} {r : List Int} (h : RR L r) : ∃ (i j : Nat) (a b : List Int), i ≠ j ∧ itemsB L ((i : Int) :: a) = true ∧ itemsB L ((j : Int) :: b) = true ∧ wordsL L ((i : Int) :: a) ++ r = wordsL L ((j : Int) :: b) := by
  induction h with
  | start i j r hi hj hne e => exact ⟨i, j, [], [], hne, itemsB_cons.2 ⟨⟨i, rfl, hi⟩, rfl⟩, itemsB_cons.2 ⟨⟨j, rfl, hj⟩, rfl⟩, by rw [wordsL_cons, wordsL_cons, wordL_nat, wordL_nat, e]; simp [wordsL]⟩
  | short k r _ hk ih =>
    obtain ⟨i, j, a, b, h1, h2, h3, h4⟩ := ih
    refine ⟨i, j, a ++ [(k : Int)], b, h1, ?_, h3, ?_⟩
    · exact (itemsB_snoc (s := (i : Int) :: a)).2 ⟨h2, by omega, by omega⟩
    · rw [← List.cons_append, wordsL_snoc, wordL_nat, List.append_assoc]; exact h4
  | long k l r _ hk e ih =>
    obtain ⟨i, j, a, b, h1, h2, h3, h4⟩ := ih
    refine ⟨j, i, b, a ++ [(k : Int)], Ne.symm h1, h3, ?_, ?_⟩
    · exact (itemsB_snoc (s := (i : Int) :: a)).2 ⟨h2, by omega, by omega⟩
    · rw [← List.cons_append, wordsL_snoc, wordL_nat, e, ← List.append_assoc, h4]
/-- a lexicon is no code exactly if two lists of items have the same words -/
theorem code_iff {L : Lx} (g : GoodL L) : RR L [] ↔ ∃ s s', s ≠ s' ∧ itemsB L s = true ∧ itemsB L s' = true ∧ wordsL L s = wordsL L s' := by
  constructor
  · intro h
    obtain ⟨i, j, a, b, h1, h2, h3, h4⟩ := h.lists
    exact ⟨_, _, fun e => h1 (by injection e with e1 e2; omega), h2, h3, by rw [← h4, List.append_nil]⟩
  · rintro ⟨s, s', h1, h2, h3, h4⟩; exact RR_of_two g s s' h1 h2 h3 h4
/-- b says whether a lexicon is a code -/
def CodeIs (L : Lx) (b : Bool) : Prop := b = true ↔ ¬ RR L []
theorem CodeIs.uniq {L : Lx} {b b' : Bool} (h : CodeIs L b) (h' : CodeIs L b') : b = b' := by
  rw [Bool.eq_iff_iff]; exact h.trans h'.symm
/-- what is left over is an end of a word -/
def sufs (L : Lx) : List (List Int) := (List.range L.items.length).flatMap fun i => (List.range 7).map fun k => (wd L i).drop k
theorem mem_sufs {L : Lx} (g : GoodL L) {r : List Int} : r ∈ sufs L ↔ ∃ i u, i < L.items.length ∧ wd L i = u ++ r := by
  unfold sufs
  rw [List.mem_flatMap]
  constructor
  · rintro ⟨i, hi, h⟩
    rw [List.mem_map] at h
    obtain ⟨k, -, rfl⟩ := h
    exact ⟨i, (wd L i).take k, List.mem_range.1 hi, (List.take_append_drop _ _).symm⟩
  · rintro ⟨i, u, hi, e⟩
    refine ⟨i, List.mem_range.2 hi, List.mem_map.2 ⟨u.length, List.mem_range.2 ?_, by rw [e, List.drop_left]⟩⟩
    have h6 := (g.word i hi).2.1
    have := congrArg List.length e
    rw [List.length_append] at this
    change (wd L i).length ≤ 6 at h6
    omega
theorem sufs_len {L : Lx} (g : GoodL L) : (sufs L).length ≤ 56 := by
  have key : ∀ n, ((List.range n).flatMap fun i => (List.range 7).map fun k => (wd L i).drop k).length = n * 7 := by
    intro n
    induction n with
    | zero => rfl
    | succ n ih => rw [List.range_succ (n := n), List.flatMap_append, List.length_append, ih]; simp; omega
  unfold sufs
  rw [key]
  have := g.le
  omega
theorem len_le_sub8 {α : Type} [DecidableEq α] : ∀ {l m : List α}, l.Nodup → (∀ x ∈ l, x ∈ m) → l.length ≤ m.length
  | [], _, _, _ => Nat.zero_le _
  | x :: l, m, h, hs => by
    rw [List.nodup_cons] at h
    have hx := hs x (by simp)
    have ih := len_le_sub8 (l := l) (m := m.erase x) h.2 (fun y hy => (List.mem_erase_of_ne (fun e => h.1 (by rw [← e]; exact hy))).2 (hs y (by simp [hy])))
    rw [List.length_erase_of_mem hx] at ih
    have : 0 < m.length := List.length_pos_of_mem hx
    simp only [List.length_cons]; omega
end Go.Proofs.Ytgpenbajhndhiaa
