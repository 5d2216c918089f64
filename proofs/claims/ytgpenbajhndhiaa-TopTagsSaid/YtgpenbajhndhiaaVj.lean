import Derived.Test.YtgpenbajhndhiaaVi
namespace Go.Proofs.Ytgpenbajhndhiaa
open Go.RowKit Go.Proofs.Kv Go

/-! ### smallest costs -/
def minN (l : List Int) : Int := l.foldr min 100000
theorem minN_le : ∀ l, minN l ≤ 100000
  | [] => Int.le_refl _
  | _ :: l => Int.le_trans (Int.min_le_right _ _) (minN_le l)
theorem minN_append : ∀ a b, minN (a ++ b) = min (minN a) (minN b)
  | [], b => by
    have := minN_le b
    show minN b = min 100000 (minN b)
    omega
  | x :: a, b => by
    show min x (minN (a ++ b)) = min (min x (minN a)) (minN b)
    rw [minN_append a b]; omega
theorem minN_mem : ∀ {l : List Int} {x : Int}, x ∈ l → minN l ≤ x
  | y :: l, x, h => by
    show min y (minN l) ≤ x
    rcases List.mem_cons.1 h with rfl | h
    · omega
    · have := minN_mem h; omega
theorem minN_in : ∀ {l : List Int}, l ≠ [] → (∀ x ∈ l, x ≤ 100000) → minN l ∈ l
  | [x], _, h => by
    have := h x (by simp)
    show min x 100000 ∈ [x]
    rw [show min x 100000 = x by omega]; simp
  | x :: y :: l, _, h => by
    have ih := minN_in (l := y :: l) (by simp) (fun z hz => h z (by simp [hz]))
    show min x (minN (y :: l)) ∈ x :: y :: l
    by_cases hx : x ≤ minN (y :: l)
    · rw [show min x (minN (y :: l)) = x by omega]; simp
    · rw [show min x (minN (y :: l)) = minN (y :: l) by omega]; exact List.mem_cons_of_mem _ ih
theorem minN_add (d : Int) (hd : 0 ≤ d) : ∀ {l : List Int}, l ≠ [] → (∀ x ∈ l, x + d ≤ 100000) → minN (l.map fun x => x + d) = minN l + d
  | [x], _, h => by
    have := h x (by simp)
    show min (x + d) 100000 = min x 100000 + d
    omega
  | x :: y :: l, _, h => by
    have ih := minN_add d hd (l := y :: l) (by simp) (fun z hz => h z (by simp [hz]))
    have e : minN ((x :: y :: l).map fun x => x + d) = min (x + d) (minN ((y :: l).map fun x => x + d)) := rfl
    have e2 : minN (x :: y :: l) = min x (minN (y :: l)) := rfl
    rw [e, e2, ih]; omega
theorem itemsB_len {L : Lx} (g : GoodL L) : ∀ (n : Nat) {s : List Int}, s.length = n → itemsB L s = true → n ≤ (wordsL L s).length
  | 0, _, _, _ => Nat.zero_le _
  | n + 1, s, hn, h => by
    rcases snoc_cases s with rfl | ⟨s', x, rfl⟩
    · cases hn
    · obtain ⟨q1, x0, xn⟩ := itemsB_snoc.1 h
      have := itemsB_len g n (s := s') (by simpa using hn) q1
      rw [wordsL_snoc, List.length_append, wordL]
      have := (g.word x.toNat (by omega)).1
      omega
theorem isS_sum {L : Lx} (g : GoodL L) {t s : List Int} (h : isS L t s) (ht : t.length ≤ 12) : s.length ≤ 12 ∧ 0 ≤ sumC L s ∧ sumC L s ≤ 2376 := by
  obtain ⟨q1, q2, q3⟩ := h
  have hl := itemsB_len g s.length rfl q1
  rw [q2] at hl
  have hs := sumK_in g q1 s.length (Nat.le_refl _) (fun j hj => by rw [okF, List.all_eq_true] at q3; exact q3 j (List.mem_range.2 hj))
  exact ⟨by omega, hs.1, by have := hs.2; show sumK L s s.length ≤ 2376; omega⟩
def lstS (L : Lx) (t : List Int) (i j : Nat) : Int := minN ((S8 L t i j).map (sumC L))
def behP (L : Lx) (t : List Int) (i j k : Nat) : List (List Int) := (List.range k).flatMap (behL L t i j)
theorem behP_zero (L : Lx) (t : List Int) (i j : Nat) : behP L t i j 0 = [] := rfl
theorem behP_succ (L : Lx) (t : List Int) (i j k : Nat) : behP L t i j (k + 1) = behP L t i j k ++ behL L t i j k := by
  unfold behP; rw [List.range_succ, List.flatMap_append]; simp
theorem behL_no {L : Lx} {t : List Int} {i j k : Nat} (h : follV L k j < 0) : behL L t i j k = [] := by unfold behL; rw [if_neg (by omega)]
theorem behL_len {L : Lx} {t : List Int} {i j k : Nat} (h : 0 ≤ follV L k j) : (behL L t i j k).length = (S8 L t i k).length := by unfold behL; rw [if_pos h, List.length_map]
theorem behL_cost {L : Lx} (g : GoodL L) {t : List Int} {i j k : Nat} (hi : i ≤ t.length) (hk : k < L.items.length) (h : 0 ≤ follV L k j) :
    (behL L t i j k).map (sumC L) = ((S8 L t i k).map (sumC L)).map fun x => x + (follV L k j + (L.items.getD j I0).cost) := by
  unfold behL; rw [if_pos h, List.map_map, List.map_map]
  refine List.map_congr_left fun s hs => ?_
  obtain ⟨⟨s', rfl⟩, -⟩ := (mem_S8 g t i k hi hk s).1 hs
  show sumC L (s' ++ [(k : Int)] ++ [(j : Int)]) = sumC L (s' ++ [(k : Int)]) + _
  rw [sumC_snoc L (s' ++ [(k : Int)]), List.length_append, List.length_singleton, if_neg (by omega), Nat.add_sub_cancel, getD_snoc_eq, costI, fvI, Int.toNat_natCast, Int.toNat_natCast]
  omega
theorem S8_sum {L : Lx} (g : GoodL L) {t : List Int} (ht : t.length ≤ 12) {i j : Nat} (hi : i ≤ t.length) (hj : j < L.items.length) : ∀ x ∈ (S8 L t i j).map (sumC L), 0 ≤ x ∧ x ≤ 2376 := by
  intro x hx
  obtain ⟨s, hs, rfl⟩ := List.mem_map.1 hx
  have := isS_sum g ((mem_S8 g t i j hi hj s).1 hs).2 (by rw [List.length_take]; omega)
  exact this.2
/-- one more item ahead -/
theorem lst_step {L : Lx} (g : GoodL L) {t : List Int} (ht : t.length ≤ 12) {i j k : Nat} (hi : i ≤ t.length) (hk : k < L.items.length) (hj : j < L.items.length) (h : 0 ≤ follV L k j) :
    minN ((behP L t i j (k + 1)).map (sumC L)) = min (minN ((behP L t i j k).map (sumC L))) (lstS L t i k + (follV L k j + (L.items.getD j I0).cost)) := by
  rw [behP_succ, List.map_append, minN_append, behL_cost g hi hk h]
  have hc := g.cost j hj
  have hf := follV_in g hk hj
  have hb := S8_sum g ht hi hk
  have hle := minN_le ((behP L t i j k).map (sumC L))
  unfold lstS
  by_cases he : (S8 L t i k).map (sumC L) = []
  · rw [he]; show min _ 100000 = min _ (100000 + _); omega
  · rw [minN_add _ (by omega) he (fun x hx => by have := hb x hx; omega)]
theorem lstS_in {L : Lx} (g : GoodL L) {t : List Int} (ht : t.length ≤ 12) {i j : Nat} (hi : i ≤ t.length) (hj : j < L.items.length) : 0 ≤ lstS L t i j ∧ lstS L t i j ≤ 100000 ∧ (S8 L t i j ≠ [] → lstS L t i j ≤ 2376) ∧ (S8 L t i j = [] → lstS L t i j = 100000) := by
  have hb := S8_sum g ht hi hj
  unfold lstS
  refine ⟨?_, minN_le _, fun h => ?_, fun h => by rw [h]; rfl⟩
  · by_cases he : (S8 L t i j).map (sumC L) = []
    · rw [he]; decide
    · exact (hb _ (minN_in he fun x hx => by have := hb x hx; omega)).1
  · have he : (S8 L t i j).map (sumC L) ≠ [] := by simpa using h
    exact (hb _ (minN_in he fun x hx => by have := hb x hx; omega)).2
theorem behP_min {L : Lx} (g : GoodL L) {t : List Int} (ht : t.length ≤ 12) {i j : Nat} (hi : i ≤ t.length) (hj : j < L.items.length) : ∀ k, k ≤ L.items.length → 0 ≤ minN ((behP L t i j k).map (sumC L))
  | 0, _ => by simp [behP, minN]
  | k + 1, hk => by
    have ih := behP_min g ht hi hj k (by omega)
    by_cases hf : 0 ≤ follV L k j
    · rw [lst_step g ht hi (by omega) hj hf]
      have := (lstS_in g ht (i := i) hi (show k < L.items.length by omega)).1
      have := g.cost j hj
      omega
    · rw [behP_succ, behL_no (by omega), List.append_nil]; exact ih
theorem len_S8 {L : Lx} (g : GoodL L) (t : List Int) : ∀ (i j : Nat), j < L.items.length → (S8 L t i j).length ≤ 8 ^ i := by
  intro i
  induction i using Nat.strongRecOn with
  | ind i ih =>
    intro j hj
    have hl : 1 ≤ ln L j := (g.word j hj).1
    rw [S8_eq g t i j hj]
    by_cases he : endB L t i j = true
    · rw [if_pos he]
      by_cases h0 : i - ln L j = 0
      · rw [if_pos h0]; exact Nat.one_le_pow _ _ (by omega)
      · rw [if_neg h0]
        have hk : ∀ k, k ≤ L.items.length → ((List.range k).flatMap (behL L t (i - ln L j) j)).length ≤ k * 8 ^ (i - ln L j) := by
          intro k
          induction k with
          | zero => intro _; simp
          | succ k ihk =>
            intro hk
            rw [List.range_succ, List.flatMap_append, List.length_append]
            have h1 := ihk (by omega)
            have h2 : ([k].flatMap (behL L t (i - ln L j) j)).length ≤ 8 ^ (i - ln L j) := by
              rw [List.flatMap_cons, List.flatMap_nil, List.append_nil]
              by_cases hf : 0 ≤ follV L k j
              · rw [behL_len hf]; exact ih _ (by omega) k (by omega)
              · rw [behL_no (by omega)]; exact Nat.zero_le _
            rw [Nat.succ_mul]; omega
        have h1 := hk L.items.length (Nat.le_refl _)
        have h2 : L.items.length * 8 ^ (i - ln L j) ≤ 8 * 8 ^ (i - 1) := Nat.mul_le_mul g.le (Nat.pow_le_pow_right (by omega) (by omega))
        have h3 : 8 * 8 ^ (i - 1) = 8 ^ i := by rw [show i = (i - 1) + 1 by omega, Nat.pow_succ, Nat.add_sub_cancel]; omega
        omega
    · rw [if_neg he]; exact Nat.zero_le _
theorem len_S8' {L : Lx} (g : GoodL L) (t : List Int) {i j : Nat} (hi : i ≤ 12) (hj : j < L.items.length) : (S8 L t i j).length ≤ 68719476736 :=
by
  have h1 := len_S8 g t i j hj
  have h2 : 8 ^ i ≤ 8 ^ 12 := Nat.pow_le_pow_right (by omega) hi
  rw [show (8 : Nat) ^ 12 = 68719476736 by rfl] at h2
  omega
theorem len_behP {L : Lx} (g : GoodL L) (t : List Int) {i : Nat} (j : Nat) (hi : i ≤ 12) : ∀ k, k ≤ L.items.length → (behP L t i j k).length ≤ k * 68719476736
  | 0, _ => by simp [behP]
  | k + 1, hk => by
    have ih := len_behP g t j hi k (by omega)
    rw [behP_succ, List.length_append]
    by_cases hf : 0 ≤ follV L k j
    · rw [behL_len hf]; have := len_S8' g t hi (show k < L.items.length by omega); omega
    · rw [behL_no (by omega), List.length_nil, Nat.add_zero]; exact Nat.le_trans ih (Nat.mul_le_mul_right _ (by omega))
end Go.Proofs.Ytgpenbajhndhiaa
