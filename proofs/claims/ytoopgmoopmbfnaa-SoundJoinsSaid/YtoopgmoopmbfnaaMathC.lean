import Derived.Test.YtoopgmoopmbfnaaSndU
import Derived.Test.YtoopgmoopmbfnaaRefL
namespace Go.Proofs.Ytoopgmoopmbfnaa
open Go.RowKit Go.Proofs.Kv Go.Proofs.Snd

/-! ### the classes of a joined table -/
theorem valid_of {L : List (List Int)} (h : Good L) : validT L = 0 := by
  unfold validT
  rw [if_neg (by have := h.n1; have := h.n6; omega)]
  have h1 : L.all okRow = true := List.all_eq_true.2 fun r hr => by
    unfold okRow
    rw [Bool.and_eq_true]
    refine ⟨by simpa using h.ne r hr, List.all_eq_true.2 fun x hx => ?_⟩
    obtain ⟨a, b⟩ := h.rg x (List.mem_flatten.2 ⟨r, hr, hx⟩)
    unfold okS; simp [a, b]
  rw [h1, if_neg (by simp), (dup_iff _).2 h.nd]; rfl
theorem joinL_len {L : List (List Int)} {r : Nat} (h : r + 1 < L.length) : (joinL L r).length = L.length - 1 := by
  unfold joinL
  rw [List.length_append, List.length_take, List.length_cons, List.length_drop]; omega
theorem joinL_ne {L : List (List Int)} (hn : ∀ s ∈ L, s ≠ []) {r : Nat} (h : r + 1 < L.length) : ∀ s ∈ joinL L r, s ≠ [] := by
  intro x hx
  unfold joinL at hx
  rcases List.mem_append.1 hx with hx | hx
  · exact hn x (List.mem_of_mem_take hx)
  · rcases List.mem_cons.1 hx with hx | hx
    · rw [hx]
      intro e
      have e1 := (List.append_eq_nil_iff.1 e).1
      exact hn (L.getD r []) (by rw [List.getD, List.getElem?_eq_getElem (by omega), Option.getD_some]; exact List.getElem_mem _) e1
    · exact hn x (List.mem_of_mem_drop hx)
theorem good_join {L : List (List Int)} (hg : Good L) {r : Nat} (h : r + 1 < L.length) : Good (joinL L r) where
  n1 := by rw [joinL_len h]; omega
  n6 := by have := hg.n6; rw [joinL_len h]; omega
  ne := joinL_ne hg.ne h
  nd := by rw [joinL_flat h]; exact hg.nd
  rg := by rw [joinL_flat h]; exact hg.rg
  flat := by rw [joinL_flat h]; exact hg.flat
  row := fun s hs => by
    have h1 := (List.sublist_flatten_of_mem hs).length_le
    rw [joinL_flat h] at h1
    exact Nat.le_trans h1 hg.flat
theorem join_take {L : List (List Int)} {r y : Nat} (h : r + 1 < L.length) (hy : y + 1 < L.length) : ∃ z, z < L.length ∧ ((joinL L r).take (y + 1)).flatten = (L.take (z + 1)).flatten := by
  have hl : (L.take r).length = r := by rw [List.length_take]; omega
  by_cases hyr : y < r
  · refine ⟨y, by omega, ?_⟩
    rw [joinL, List.take_append_of_le_length (by omega), List.take_take, Nat.min_eq_left (by omega)]
  · refine ⟨y + 1, by omega, ?_⟩
    obtain ⟨d, rfl⟩ : ∃ d, y = r + d := ⟨y - r, by omega⟩
    have e := congrArg (fun M => (M.take (r + d + 1 + 1)).flatten) (split_two h)
    refine Eq.trans ?_ e.symm
    show ((joinL L r).take (r + d + 1)).flatten = ((L.take r ++ (L.getD r [] :: L.getD (r + 1) [] :: L.drop (r + 2))).take (r + d + 1 + 1)).flatten
    rw [joinL, List.take_append, List.take_append, hl, show r + d + 1 - r = d + 1 by omega, show r + d + 1 + 1 - r = d + 1 + 1 by omega, List.take_succ_cons, List.take_succ_cons, List.take_succ_cons,
      List.take_of_length_le (show (L.take r).length ≤ r + d + 1 by omega), List.take_of_length_le (show (L.take r).length ≤ r + d + 1 + 1 by omega)]
    simp
theorem names_of {L : List (List Int)} (hg : Good L) {x : Int} {y : Nat} (hy : y < L.length) (hx : x ∈ (L.take (y + 1)).flatten) : (x, (y : Int)) ∈ namesR L := by
  rw [mem_namesR hg, mem_rkTo]
  obtain ⟨s, hs, hxs⟩ := List.mem_flatten.1 hx
  obtain ⟨i, hi, rfl⟩ := List.mem_iff_getElem.1 hs
  rw [List.length_take] at hi
  refine ⟨i, by omega, x, ?_, y, hy, by omega, rfl⟩
  rw [getD_at (by omega)]
  rw [List.getElem_take] at hxs
  exact hxs
theorem mem_classesS {L : List (List Int)} (hg : Good L) {c : List Int} : c ∈ classesS L ↔ ∃ (x : Int) (y : Nat), y < L.length ∧ x ∈ (L.take (y + 1)).flatten ∧ c = sorted (from_ x (L.take (y + 1)).flatten) := by
  unfold classesS
  rw [List.mem_mergeSort, namesS_eq hg, List.mem_map]
  constructor
  · rintro ⟨p, hp, rfl⟩
    obtain ⟨y, e, hy, hx⟩ := names_in hp hg
    exact ⟨p.1, y, hy, hx, by unfold standL; rw [e]; rfl⟩
  · rintro ⟨x, y, hy, hx, rfl⟩
    exact ⟨(x, (y : Int)), names_of hg hy hx, rfl⟩
theorem join_classes {L : List (List Int)} (hg : Good L) {r : Nat} (h : r + 1 < L.length) : ∀ c ∈ classesS (joinL L r), c ∈ classesS L := by
  intro c hc
  obtain ⟨x, y, hy, hx, rfl⟩ := (mem_classesS (good_join hg h)).1 hc
  rw [joinL_len h] at hy
  obtain ⟨z, hz, e⟩ := join_take h (y := y) (by omega)
  rw [e] at hx ⊢
  exact (mem_classesS hg).2 ⟨x, z, hz, hx, rfl⟩

/-! ### a row made two -/
def splitL (L : List (List Int)) (r p : Nat) : List (List Int) := L.take r ++ ((L.getD r []).take p :: (L.getD r []).drop p :: L.drop (r + 1))
theorem split_one {L : List (List Int)} {r : Nat} (h : r < L.length) : L = L.take r ++ (L.getD r [] :: L.drop (r + 1)) := by
  have e1 : L.drop r = L.getD r [] :: L.drop (r + 1) := by
    rw [List.drop_eq_getElem_cons h]; simp [List.getD, h]
  rw [← e1, List.take_append_drop]
theorem splitL_len {L : List (List Int)} {r p : Nat} (h : r < L.length) : (splitL L r p).length = L.length + 1 := by
  unfold splitL
  rw [List.length_append, List.length_take, List.length_cons, List.length_cons, List.length_drop]; omega
theorem splitL_flat {L : List (List Int)} {r p : Nat} (h : r < L.length) : (splitL L r p).flatten = L.flatten := by
  have e := congrArg List.flatten (split_one h)
  refine Eq.trans ?_ e.symm
  unfold splitL
  simp only [List.flatten_append, List.flatten_cons, ← List.append_assoc, List.take_append_drop]
  first | done | rw [List.append_assoc (L.take r).flatten, List.take_append_drop]
theorem good_split {L : List (List Int)} (hg : Good L) {r p : Nat} (h : r < L.length) (h6 : L.length < 6) (h0 : 0 < p) (hp : p < (L.getD r []).length) : Good (splitL L r p) where
  n1 := by rw [splitL_len h]; omega
  n6 := by rw [splitL_len h]; omega
  ne := by
    intro x hx
    unfold splitL at hx
    rcases List.mem_append.1 hx with hx | hx
    · exact hg.ne x (List.mem_of_mem_take hx)
    · rcases List.mem_cons.1 hx with hx | hx
      · rw [hx]; exact List.ne_nil_of_length_pos (by rw [List.length_take]; omega)
      · rcases List.mem_cons.1 hx with hx | hx
        · rw [hx]; exact List.ne_nil_of_length_pos (by rw [List.length_drop]; omega)
        · exact hg.ne x (List.mem_of_mem_drop hx)
  nd := by rw [splitL_flat h]; exact hg.nd
  rg := by rw [splitL_flat h]; exact hg.rg
  flat := by rw [splitL_flat h]; exact hg.flat
  row := fun s hs => by
    have h1 := (List.sublist_flatten_of_mem hs).length_le
    rw [splitL_flat h] at h1
    exact Nat.le_trans h1 hg.flat
theorem join_split {L : List (List Int)} {r p : Nat} (h : r < L.length) : joinL (splitL L r p) r = L := by
  have hl : (L.take r).length = r := by rw [List.length_take]; omega
  unfold joinL splitL
  refine Eq.trans ?_ (split_one h).symm
  have e1 : (L.take r ++ ((L.getD r []).take p :: (L.getD r []).drop p :: L.drop (r + 1))).take r = L.take r := List.take_left' hl
  have e2 : (L.take r ++ ((L.getD r []).take p :: (L.getD r []).drop p :: L.drop (r + 1))).getD r [] = (L.getD r []).take p := by
    rw [List.getD, List.getElem?_append_right (by omega), hl, Nat.sub_self]; rfl
  have e3 : (L.take r ++ ((L.getD r []).take p :: (L.getD r []).drop p :: L.drop (r + 1))).getD (r + 1) [] = (L.getD r []).drop p := by
    rw [List.getD, List.getElem?_append_right (by omega), hl, show r + 1 - r = 1 by omega]; rfl
  have e4 : (L.take r ++ ((L.getD r []).take p :: (L.getD r []).drop p :: L.drop (r + 1))).drop (r + 2) = L.drop (r + 1) := by
    rw [← List.drop_drop, List.drop_left' hl]; rfl
  rw [e1, e2, e3, e4, List.take_append_drop]
theorem split_classes {L : List (List Int)} (hg : Good L) {r p : Nat} (h : r < L.length) (h6 : L.length < 6) (h0 : 0 < p) (hp : p < (L.getD r []).length) : ∀ c ∈ classesS L, c ∈ classesS (splitL L r p) := by
  intro c hc
  have := join_classes (good_split hg h h6 h0 hp) (r := r) (by rw [splitL_len h]; omega) c
  rw [join_split h] at this
  exact this hc
theorem splitL_ends {L : List (List Int)} {r p : Nat} (h : r < L.length) (hp : p ≤ (L.getD r []).length) : endsF 0 (splitL L r p) = (endsF 0 L).take r ++ (((L.take r).flatten.length + p) :: (endsF 0 L).drop r) := by
  have e := congrArg (endsF 0) (split_one h)
  rw [endsF_append, endsF] at e
  have hl : (endsF 0 (L.take r)).length = r := by rw [endsF_len, List.length_take]; omega
  rw [e, List.take_left' hl, List.drop_left' hl, splitL, endsF_append, endsF, endsF, List.length_take, List.length_drop, Nat.min_eq_left hp, Nat.zero_add, show (L.take r).flatten.length + p + ((L.getD r []).length - p) = (L.take r).flatten.length + (L.getD r []).length by omega]
end Go.Proofs.Ytoopgmoopmbfnaa
