import Derived.Test.YthmnmpglnaegfaaYg
namespace Go.Proofs.Ythmnmpglnaegfaa
open Go.RowKit Go.Proofs.Kv Go

/-! ### the greatest calm sets -/
/-- a comes before b, of lists of equal length -/
def befL : List Int → List Int → Bool
  | [], [] => false
  | [], _ :: _ => true
  | _ :: _, [] => false
  | x :: a, y :: b => if x = y then befL a b else decide (x < y)
def bettL (s t : List Int) : Bool := decide (t.length < s.length) || (decide (s.length = t.length) && befL s t)
theorem befL_irrefl : ∀ a, befL a a = false
  | [] => rfl
  | x :: a => by unfold befL; rw [if_pos rfl]; exact befL_irrefl a
theorem befL_total : ∀ a b, befL a b = false → befL b a = false → a = b
  | [], [], _, _ => rfl
  | [], _ :: _, h, _ => by cases h
  | _ :: _, [], _, h => by cases h
  | x :: a, y :: b, h1, h2 => by
    unfold befL at h1 h2
    by_cases e : x = y
    · subst e
      rw [if_pos rfl] at h1 h2
      rw [befL_total a b h1 h2]
    · rw [if_neg e] at h1
      rw [if_neg (Ne.symm e)] at h2
      have := of_decide_eq_false h1
      have := of_decide_eq_false h2
      omega
theorem befL_trans : ∀ a b c, befL a b = true → befL b c = true → befL a c = true
  | [], [], _, h, _ => by cases h
  | [], _ :: _, [], _, h => by cases h
  | [], _ :: _, _ :: _, _, _ => rfl
  | _ :: _, [], _, h, _ => by cases h
  | _ :: _, _ :: _, [], _, h => by cases h
  | x :: a, y :: b, z :: c, h1, h2 => by
    unfold befL at h1 h2 ⊢
    by_cases e : x = y
    · subst e
      rw [if_pos rfl] at h1
      by_cases e2 : x = z
      · subst e2
        rw [if_pos rfl] at h2 ⊢
        exact befL_trans a b c h1 h2
      · rw [if_neg e2] at h2 ⊢; exact h2
    · rw [if_neg e] at h1
      have h3 := of_decide_eq_true h1
      by_cases e2 : y = z
      · subst e2; rw [if_neg e]; exact h1
      · rw [if_neg e2] at h2
        have h4 := of_decide_eq_true h2
        rw [if_neg (by omega)]
        exact decide_eq_true (by omega)
theorem bettL_irrefl (a : List Int) : bettL a a = false := by simp [bettL, befL_irrefl]
theorem bettL_total {a b : List Int} (h1 : bettL a b = false) (h2 : bettL b a = false) : a = b := by
  rw [bettL, Bool.or_eq_false_iff] at h1 h2
  have h3 := of_decide_eq_false h1.1
  have h4 := of_decide_eq_false h2.1
  have e : a.length = b.length := by omega
  have k1 := h1.2
  have k2 := h2.2
  rw [decide_eq_true e, Bool.true_and] at k1
  rw [decide_eq_true e.symm, Bool.true_and] at k2
  exact befL_total a b k1 k2
theorem bettL_trans {a b c : List Int} (h1 : bettL a b = true) (h2 : bettL b c = true) : bettL a c = true := by
  rw [bettL, Bool.or_eq_true, Bool.and_eq_true, decide_eq_true_eq, decide_eq_true_eq] at h1 h2 ⊢
  rcases h1 with h1 | ⟨h1, k1⟩ <;> rcases h2 with h2 | ⟨h2, k2⟩
  · exact .inl (by omega)
  · exact .inl (by omega)
  · exact .inl (by omega)
  · exact .inr ⟨by omega, befL_trans a b c k1 k2⟩
/-- B is a best one of those with P -/
def Best (P : List Int → Prop) (B : List Int) : Prop := P B ∧ ∀ s, P s → bettL s B = false
theorem Best.uniq {P : List Int → Prop} {B C : List Int} (h : Best P B) (h' : Best P C) : B = C := bettL_total (h'.2 B h.1) (h.2 C h'.1)
/-- one more is looked at -/
theorem Best.next {P P' : List Int → Prop} {B s : List Int} (h : Best P B) (hP : ∀ t, P' t ↔ P t ∨ t = s) : Best P' (if bettL s B = true then s else B) := by
  by_cases hb : bettL s B = true
  · rw [if_pos hb]
    refine ⟨(hP s).2 (.inr rfl), fun t ht => ?_⟩
    rcases (hP t).1 ht with h1 | rfl
    · cases hc : bettL t s with
      | false => rfl
      | true =>
        have h2 := h.2 t h1
        rw [bettL_trans hc hb] at h2; cases h2
    · exact bettL_irrefl _
  · rw [if_neg hb]
    refine ⟨(hP B).2 (.inl h.1), fun t ht => ?_⟩
    rcases (hP t).1 ht with h1 | rfl
    · exact h.2 t h1
    · cases hc : bettL t B with
      | false => rfl
      | true => exact absurd hc hb
theorem Best.same {P P' : List Int → Prop} {B : List Int} (h : Best P B) (hP : ∀ t, P' t ↔ P t) : Best P' B := ⟨(hP B).2 h.1, fun s hs => h.2 s ((hP s).1 hs)⟩
/-- the places of the bits that are 1, of the first m -/
def memB (m b : Nat) : List Int := ((List.range m).filter fun i => b.testBit i).map fun i : Nat => (i : Int)
theorem memB_succ (m b : Nat) : memB (m + 1) b = if b.testBit m = true then memB m b ++ [(m : Int)] else memB m b := by
  unfold memB
  rw [List.range_succ, List.filter_append, List.map_append]
  by_cases h : b.testBit m = true
  · rw [if_pos h]; simp [h]
  · rw [if_neg h]; simp [h]
theorem memB_mod (m b : Nat) : memB m (b % 2 ^ m) = memB m b := by
  unfold memB
  congr 1
  refine List.filter_congr fun i hi => ?_
  rw [Nat.testBit_mod_two_pow]
  simp [List.mem_range.1 hi]
/-- p stands with all of s -/
def fitsS (T : List (List Int)) (s : List Int) (p : Nat) : Bool := splR T p && s.all fun x => !cfR T p x.toNat
/-- the calm sets of the first p places, in the document's order -/
def calmS (T : List (List Int)) : Nat → List (List Int)
  | 0 => [[]]
  | p + 1 => calmS T p ++ ((calmS T p).reverse.filter fun s => fitsS T s p).map fun s => s ++ [(p : Int)]
/-- all of a set stand together, the later ones with the earlier ones -/
def standS (T : List (List Int)) (m b : Nat) : Bool := (List.range m).all fun i => !b.testBit i || fitsS T (memB i b) i
theorem standS_succ (T : List (List Int)) (m b : Nat) : standS T (m + 1) b = (standS T m b && (!b.testBit m || fitsS T (memB m b) m)) := by
  unfold standS; rw [List.range_succ, List.all_append]; simp
theorem memB_low {i m : Nat} (h : i ≤ m) (b : Nat) : memB i (b % 2 ^ m) = memB i b := by
  unfold memB
  congr 1
  refine List.filter_congr fun j hj => ?_
  have := List.mem_range.1 hj
  rw [Nat.testBit_mod_two_pow, decide_eq_true (show j < m by omega), Bool.true_and]
theorem standS_mod (T : List (List Int)) (m b : Nat) : standS T m (b % 2 ^ m) = standS T m b := by
  have key : ∀ i, i < m → (!(b % 2 ^ m).testBit i || fitsS T (memB i (b % 2 ^ m)) i) = (!b.testBit i || fitsS T (memB i b) i) := fun i hi => by
    rw [memB_low (by omega), Nat.testBit_mod_two_pow, decide_eq_true hi, Bool.true_and]
  unfold standS
  rw [Bool.eq_iff_iff, List.all_eq_true, List.all_eq_true]
  constructor
  · intro h i hi
    rw [← key i (List.mem_range.1 hi)]; exact h i hi
  · intro h i hi
    rw [key i (List.mem_range.1 hi)]; exact h i hi
theorem mem_calmS (T : List (List Int)) : ∀ (m : Nat) (s : List Int), s ∈ calmS T m ↔ ∃ b, b < 2 ^ m ∧ standS T m b = true ∧ s = memB m b
  | 0, s => by simp [calmS, standS, memB]
  | m + 1, s => by
    have hp : 2 ^ (m + 1) = 2 ^ m + 2 ^ m := by rw [Nat.pow_succ]; omega
    have hpos : 0 < 2 ^ m := Nat.two_pow_pos m
    rw [calmS, List.mem_append, List.mem_map, mem_calmS T m s]
    constructor
    · rintro (⟨b, h1, h2, h3⟩ | ⟨t, ht, rfl⟩)
      · have hb := Nat.testBit_lt_two_pow h1
        exact ⟨b, by omega, by rw [standS_succ, h2, hb]; rfl, by rw [memB_succ, if_neg (by rw [hb]; decide)]; exact h3⟩
      · rw [List.mem_filter, List.mem_reverse, mem_calmS T m t] at ht
        obtain ⟨⟨b, h1, h2, rfl⟩, h3⟩ := ht
        have hb : (2 ^ m + b).testBit m = true := by rw [Nat.testBit_two_pow_add_eq, Nat.testBit_lt_two_pow h1]; rfl
        have hm : (2 ^ m + b) % 2 ^ m = b := by rw [Nat.add_mod_left]; exact Nat.mod_eq_of_lt h1
        have e1 : memB m (2 ^ m + b) = memB m b := by rw [← memB_mod, hm]
        have e2 : standS T m (2 ^ m + b) = standS T m b := by rw [← standS_mod, hm]
        exact ⟨2 ^ m + b, by omega, by rw [standS_succ, e2, h2, e1, h3]; simp, by rw [memB_succ, if_pos hb, e1]⟩
    · rintro ⟨b, h1, h2, rfl⟩
      rw [standS_succ, Bool.and_eq_true] at h2
      have hlt := Nat.mod_lt b hpos
      cases hb : b.testBit m with
      | false =>
        exact .inl ⟨b % 2 ^ m, hlt, by rw [standS_mod]; exact h2.1, by rw [memB_succ, if_neg (by rw [hb]; decide), memB_mod]⟩
      | true =>
        refine .inr ⟨memB m b, ?_, by rw [memB_succ, if_pos hb]⟩
        rw [List.mem_filter, List.mem_reverse, mem_calmS T m (memB m b)]
        have h3 := h2.2
        rw [hb] at h3
        exact ⟨⟨b % 2 ^ m, hlt, by rw [standS_mod]; exact h2.1, (memB_mod m b).symm⟩, by simpa using h3⟩
/-- what the program finds behind the first k numbers -/
def greatB (T : List (List Int)) (m : Nat) : Nat → List Int
  | 0 => []
  | k + 1 => if (standS T m k && bettL (memB m k) (greatB T m k)) = true then memB m k else greatB T m k
theorem greatB_best (T : List (List Int)) (m : Nat) : ∀ k, 1 ≤ k → Best (fun s => ∃ b, b < k ∧ standS T m b = true ∧ s = memB m b) (greatB T m k)
  | 0, h => absurd h (by omega)
  | 1, _ => by
    have h0 : memB m 0 = [] := by simp [memB]
    have h1 : standS T m 0 = true := by simp [standS]
    have h2 : greatB T m 1 = [] := by simp [greatB, h0, bettL_irrefl]
    rw [h2]
    refine ⟨⟨0, by omega, h1, h0.symm⟩, ?_⟩
    rintro s ⟨b, hb, -, rfl⟩
    obtain rfl : b = 0 := by omega
    rw [h0]; exact bettL_irrefl _
  | k + 2, _ => by
    have ih := greatB_best T m (k + 1) (by omega)
    have e : greatB T m (k + 2) = if (standS T m (k + 1) && bettL (memB m (k + 1)) (greatB T m (k + 1))) = true then memB m (k + 1) else greatB T m (k + 1) := rfl
    rw [e]
    cases hst : standS T m (k + 1) with
    | true =>
      simp only [Bool.true_and]
      refine ih.next fun t => ⟨?_, ?_⟩
      · rintro ⟨b, hb, h1, h2⟩
        by_cases h : b = k + 1
        · exact .inr (by rw [h2, h])
        · exact .inl ⟨b, by omega, h1, h2⟩
      · rintro (⟨b, hb, h1, h2⟩ | h)
        · exact ⟨b, by omega, h1, h2⟩
        · exact ⟨k + 1, by omega, hst, h⟩
    | false =>
      simp only [Bool.false_and]
      refine ih.same fun t => ⟨?_, ?_⟩
      · rintro ⟨b, hb, h1, h2⟩
        have h : b ≠ k + 1 := fun h => by rw [h, hst] at h1; cases h1
        exact ⟨b, by omega, h1, h2⟩
      · rintro ⟨b, hb, h1, h2⟩
        exact ⟨b, by omega, h1, h2⟩
/-- what the document finds is the same, if it is a best one of its sets -/
theorem great_same {T : List (List Int)} {m : Nat} {B : List Int} (h : Best (fun s => s ∈ calmS T m) B) : greatB T m (2 ^ m) = B :=
  (greatB_best T m (2 ^ m) (Nat.two_pow_pos m)).uniq (h.same fun t => (mem_calmS T m t).symm)
end Go.Proofs.Ythmnmpglnaegfaa
