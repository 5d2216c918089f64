import Derived.Test.YtoopgmoopmbfnaaFx
import Derived.Test.YtoopgmoopmbfnaaSn5
namespace Go.Proofs.Ytoopgmoopmbfnaa
open Go.RowKit Go.Proofs.Kv Go.Proofs.Snd

/-! ### all orders are there; the fewest is least -/
theorem mem_iter {n : Nat} : ∀ (k : Nat) (o : List Int), o.length = k → o.Nodup → (∀ x ∈ o, 0 ≤ x ∧ x < n) → o ∈ ordIter n k
  | 0, o, hl, _, _ => by rw [List.eq_nil_of_length_eq_zero hl]; simp [ordIter]
  | k + 1, o, hl, hn, hr => by
    obtain ⟨p, x, rfl⟩ : ∃ p x, o = p ++ [x] := ⟨o.dropLast, o.getLast (by intro e; rw [e] at hl; simp at hl), (List.dropLast_concat_getLast _).symm⟩
    rw [List.length_append, List.length_singleton] at hl
    obtain ⟨n1, n2⟩ := (nodup_snoc p x).1 hn
    have ih := mem_iter k p (by omega) n1 fun y hy => hr y (by simp [hy])
    obtain ⟨x0, xn⟩ := hr x (by simp)
    show p ++ [x] ∈ ordStep n (ordIter n k)
    unfold ordStep
    rw [List.mem_flatMap]
    refine ⟨p, ih, List.mem_map.2 ⟨x, List.mem_filter.2 ⟨?_, ?_⟩, rfl⟩⟩
    · unfold rangeI
      exact List.mem_map.2 ⟨x.toNat, List.mem_range.2 (by omega), by omega⟩
    · have : Has p x = false := by
        cases h : Has p x with
        | false => rfl
        | true => exact absurd (Has_iff.1 h) n2
      rw [this]; rfl
theorem nodup_of_sub {α : Type} [DecidableEq α] : ∀ {l m : List α}, l.Nodup → (∀ x ∈ l, x ∈ m) → m.length ≤ l.length → m.Nodup
  | [], m, _, _, h => by
    rw [List.length_nil, Nat.le_zero] at h
    rw [List.eq_nil_of_length_eq_zero h]; exact List.nodup_nil
  | a :: l, m, hn, hs, h => (perm_sub hn hs h).symm.nodup hn
theorem rangeI_nodup (n : Nat) : (rangeI n).Nodup := by
  unfold rangeI
  exact nodup_map_on List.nodup_range fun x _ y _ e => by omega
theorem ord_in {m : Int} {o : List Int} (h : IsOrd o m = true) : o ∈ ordersL m.toNat := by
  simp only [IsOrd, Bool.and_eq_true, decide_eq_true_eq, List.all_eq_true, List.mem_range] at h
  obtain ⟨hl, hall⟩ := h
  have hsub : ∀ x ∈ rangeI m.toNat, x ∈ o := by
    intro x hx
    unfold rangeI at hx
    obtain ⟨i, hi, rfl⟩ := List.mem_map.1 hx
    exact Has_iff.1 (hall i (List.mem_range.1 hi))
  have hlen : o.length ≤ (rangeI m.toNat).length := by rw [len_rangeI]; omega
  have hp := perm_sub (rangeI_nodup m.toNat) hsub hlen
  refine mem_iter _ _ (by omega) (hp.symm.nodup (rangeI_nodup _)) fun x hx => ?_
  have := hp.mem_iff.1 hx
  unfold rangeI at this
  obtain ⟨i, hi, rfl⟩ := List.mem_map.1 this
  have := List.mem_range.1 hi
  omega
theorem few_least {F : List (List Int)} : ∀ (O : List (List Int)) (b : Nat), (∀ o ∈ O, 0 < marksR F o) → (0 < b → 0 < O.foldl (frStep F) b ∧ O.foldl (frStep F) b ≤ b) ∧ ∀ o ∈ O, fitsB F o = true → 0 < O.foldl (frStep F) b ∧ O.foldl (frStep F) b ≤ marksR F o
  | [], b, _ => ⟨fun h => ⟨h, Nat.le_refl _⟩, fun o h => by simp at h⟩
  | p :: O, b, hp => by
    rw [List.foldl_cons]
    have h0 := hp p (by simp)
    obtain ⟨i1, i2⟩ := few_least O (frStep F b p) fun o ho => hp o (by simp [ho])
    have hst : (0 < b → 0 < frStep F b p ∧ frStep F b p ≤ b) ∧ (fitsB F p = true → 0 < frStep F b p ∧ frStep F b p ≤ marksR F p) := by
      unfold frStep
      cases hf : fitsB F p with
      | false => exact ⟨fun h => ⟨by simpa using h, by simp⟩, fun h => by cases h⟩
      | true =>
        rw [if_pos rfl]
        by_cases hc : b = 0 ∨ marksR F p < b
        · rw [if_pos hc]; exact ⟨fun h => ⟨h0, by omega⟩, fun _ => ⟨h0, Nat.le_refl _⟩⟩
        · rw [if_neg hc]; exact ⟨fun h => ⟨h, Nat.le_refl _⟩, fun _ => ⟨by omega, by omega⟩⟩
    refine ⟨fun h => ?_, fun o ho hfo => ?_⟩
    · obtain ⟨a1, a2⟩ := hst.1 h
      obtain ⟨b1, b2⟩ := i1 a1
      exact ⟨b1, by omega⟩
    · rcases List.mem_cons.1 ho with rfl | ho
      · obtain ⟨a1, a2⟩ := hst.2 hfo
        obtain ⟨b1, b2⟩ := i1 a1
        exact ⟨b1, by omega⟩
      · exact i2 o ho hfo
theorem mark_facts {m : Int} {F : List (List Int)} {o : List Int} (h : markErr m F o = 0) : famErr m F = 0 ∧ 0 < fewV m F ∧ fewV m F ≤ marksR F o ∧ markRes m F o = (marksR F o : Nat) := by
  obtain ⟨h1, h2⟩ := markErr_ok h
  obtain ⟨h3, h4⟩ := ordErr_ok h1
  have := (few_least (F := F) (ordersL m.toNat) 0 fun o ho => marks_pos (ords_err h3 o ho)).2 o (ord_in h4) h2
  exact ⟨h3, by rw [fewV, if_pos h3]; exact this.1, by rw [fewV, if_pos h3]; exact this.2, if_pos h⟩
end Go.Proofs.Ytoopgmoopmbfnaa
