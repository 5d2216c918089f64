import Derived.Test.YtoopgmoopmbfnaaTab
namespace Go.Proofs.Ytoopgmoopmbfnaa
open Go.RowKit Go.Proofs.Kv Go.Proofs.Snd

/-! ### an order cut by counting down -/
def cntL (s o : List Int) (i : Nat) : Int := (s.length : Int) - (((o.take i).countP (Has s) : Nat) : Int)
def flagL (F : List (List Int)) (o : List Int) (i k : Nat) : Bool := decide ((i : Int) = (o.length : Int) - 1) || (F.take k).any fun s => Has s (o.getD i 0) && (cntL s o (i + 1) == 0)
def leftL (F : List (List Int)) (o : List Int) (i k : Nat) : List Int := (F.take k).map (fun s => cntL s o (i + 1)) ++ (F.drop k).map (fun s => cntL s o i)
def tendsN (F : List (List Int)) (o : List Int) (i : Nat) : List Nat := ((List.range i).filter fun j => flagL F o j F.length).map (· + 1)
def tcutL (F : List (List Int)) (o : List Int) (i : Nat) : List (List Int) := cutF o 0 (tendsN F o i)
def trowL (F : List (List Int)) (o : List Int) (i : Nat) : List Int := (o.take i).drop (lastF 0 (tendsN F o i))
theorem flag_snoc {F : List (List Int)} {o : List Int} {i k : Nat} (h : k < F.length) : flagL F o i (k + 1) = (flagL F o i k || (Has (F.getD k []) (o.getD i 0) && (cntL (F.getD k []) o (i + 1) == 0))) := by
  rw [flagL, Kv.take_snoc F [] k h, List.any_append]
  simp only [List.any_cons, List.any_nil, Bool.or_false, ← Bool.or_assoc]; rfl
theorem flag_zero (F : List (List Int)) (o : List Int) (i : Nat) : flagL F o i 0 = ((i : Int) == (o.length : Int) - 1) := by
  unfold flagL; rw [Bool.eq_iff_iff]; simp
theorem left_len {F : List (List Int)} {o : List Int} {i k : Nat} (h : k ≤ F.length) : (leftL F o i k).length = F.length := by
  unfold leftL; rw [List.length_append, List.length_map, List.length_map, List.length_take, List.length_drop]; omega
theorem left_next (F : List (List Int)) (o : List Int) (i : Nat) : leftL F o i F.length = leftL F o (i + 1) 0 := by simp [leftL]
theorem left_at {F : List (List Int)} {o : List Int} {i k : Nat} (h : k < F.length) : (leftL F o i k).getD k 0 = cntL (F.getD k []) o i := by
  have hl : ((F.take k).map fun s => cntL s o (i + 1)).length = k := by rw [List.length_map, List.length_take]; omega
  rw [leftL, List.getD, List.getElem?_append_right (by omega), hl, Nat.sub_self, List.drop_eq_getElem_cons h]
  simp [List.getD, h]
theorem left_set {F : List (List Int)} {o : List Int} {i k : Nat} (h : k < F.length) : (leftL F o i k).set k (cntL (F.getD k []) o (i + 1)) = leftL F o i (k + 1) := by
  have hl : ((F.take k).map fun s => cntL s o (i + 1)).length = k := by rw [List.length_map, List.length_take]; omega
  rw [leftL, List.set_append_right _ _ (by omega), hl, Nat.sub_self, List.drop_eq_getElem_cons h, List.map_cons, List.set_cons_zero, leftL, Kv.take_snoc F [] k h, List.map_append]
  simp [List.getD, h]
theorem cnt_hit {s o : List Int} {i : Nat} (hi : i < o.length) (h : Has s (o.getD i 0) = true) : cntL s o (i + 1) = cntL s o i - 1 := by
  unfold cntL
  rw [Kv.take_snoc o 0 i hi, List.countP_append, List.countP_singleton, h]
  simp; omega
theorem cnt_miss {s o : List Int} {i : Nat} (hi : i < o.length) (h : Has s (o.getD i 0) = false) : cntL s o (i + 1) = cntL s o i := by
  unfold cntL
  rw [Kv.take_snoc o 0 i hi, List.countP_append, List.countP_singleton, h]
  simp
theorem left_same {F : List (List Int)} {o : List Int} {i k : Nat} (h : k < F.length) (hi : i < o.length) (hm : Has (F.getD k []) (o.getD i 0) = false) : leftL F o i (k + 1) = leftL F o i k := by
  rw [← left_set h, cnt_miss hi hm, ← left_at (i := i) h]
  have hk : k < (leftL F o i k).length := by rw [left_len (Nat.le_of_lt h)]; exact h
  refine List.ext_getElem (by simp) fun j h1 h2 => ?_
  rw [List.getElem_set]
  split
  · rename_i e; subst e; simp [List.getD, hk]
  · rfl
theorem cnt_bd (s o : List Int) (i : Nat) : -(o.length : Int) ≤ cntL s o i ∧ cntL s o i ≤ s.length := by
  unfold cntL
  have : (o.take i).countP (Has s) ≤ (o.take i).length := List.countP_le_length
  rw [List.length_take] at this
  omega
theorem tends_snoc (F : List (List Int)) (o : List Int) (i : Nat) : tendsN F o (i + 1) = if flagL F o i F.length then tendsN F o i ++ [i + 1] else tendsN F o i := by
  unfold tendsN
  rw [List.range_succ, List.filter_append, List.map_append]
  cases h : flagL F o i F.length <;> simp [h]
theorem cutF_snoc (l : List Int) : ∀ (f : Nat) (N : List Nat) (e : Nat), cutF l f (N ++ [e]) = cutF l f N ++ [(l.take e).drop (lastF f N)]
  | f, [], e => by simp [cutF, lastF]
  | f, a :: N, e => by
    rw [List.cons_append, cutF, cutF, cutF_snoc l a N e, List.cons_append]
    have : lastF f (a :: N) = lastF a N := by unfold lastF; rw [List.getLastD_cons]
    rw [this]
theorem last_le (F : List (List Int)) (o : List Int) (i : Nat) : lastF 0 (tendsN F o i) ≤ i := by
  induction i with
  | zero => simp [tendsN, lastF]
  | succ i ih =>
    rw [tends_snoc]
    split
    · rw [lastF_snoc]; exact Nat.le_refl _
    · omega
theorem row_snoc {F : List (List Int)} {o : List Int} {i : Nat} (hi : i < o.length) : (o.take (i + 1)).drop (lastF 0 (tendsN F o i)) = trowL F o i ++ [o.getD i 0] := by
  rw [trowL, Kv.take_snoc o 0 i hi, List.drop_append_of_le_length]
  rw [List.length_take]; have := last_le F o i; omega
theorem tcut_end {F : List (List Int)} {o : List Int} {i : Nat} (hi : i < o.length) (h : flagL F o i F.length = true) : tcutL F o (i + 1) = tcutL F o i ++ [trowL F o i ++ [o.getD i 0]] ∧ trowL F o (i + 1) = [] := by
  have e := tends_snoc F o i
  rw [h, if_pos rfl] at e
  refine ⟨by rw [tcutL, e, cutF_snoc, row_snoc hi]; rfl, ?_⟩
  rw [trowL, e, lastF_snoc]
  exact List.drop_of_length_le (List.length_take_le _ _)
theorem tcut_on {F : List (List Int)} {o : List Int} {i : Nat} (hi : i < o.length) (h : flagL F o i F.length = false) : tcutL F o (i + 1) = tcutL F o i ∧ trowL F o (i + 1) = trowL F o i ++ [o.getD i 0] := by
  have e := tends_snoc F o i
  rw [h] at e
  simp only [Bool.false_eq_true, if_false] at e
  exact ⟨by rw [tcutL, e]; rfl, by rw [trowL, e, row_snoc hi]⟩
theorem tcut_len (F : List (List Int)) (o : List Int) (i : Nat) : (tcutL F o i).length ≤ i := by
  rw [tcutL, cutF_len, tendsN, List.length_map]
  exact Nat.le_trans (List.length_filter_le _ _) (by rw [List.length_range]; exact Nat.le_refl _)
theorem trow_len (F : List (List Int)) (o : List Int) (i : Nat) : (trowL F o i).length ≤ i := by
  rw [trowL, List.length_drop, List.length_take]; omega
theorem perm_of_eqv {l m : List Int} (hl : l.Nodup) (hm : m.Nodup) (h : ∀ x, x ∈ l ↔ x ∈ m) : l.Perm m := (List.perm_ext_iff_of_nodup hl hm).2 h
theorem perm_count {s o : List Int} (hs : s.Nodup) (ho : o.Nodup) (hsub : ∀ x ∈ s, x ∈ o) : o.countP (Has s) = s.length := by
  rw [List.countP_eq_length_filter]
  refine (perm_of_eqv ?_ ?_ ?_).length_eq
  · exact ho.filter _
  · exact hs
  · intro x
    rw [List.mem_filter, Has_iff]
    exact ⟨fun h => h.2, fun h => ⟨hsub x h, h⟩⟩
theorem endsTo_last {o s : List Int} : ∀ {k : Nat}, 0 ≤ (endsTo o s k).2 → Has s (o.getD (endsTo o s k).2.toNat 0) = true
  | 0, h => by simp [endsTo] at h
  | k + 1, h => by
    simp only [endsTo] at h ⊢
    cases hh : Has s (o.getD k 0) with
    | true => simp only [if_true]; simpa using hh
    | false =>
      rw [hh] at h
      simp only [Bool.false_eq_true, if_false] at h ⊢
      exact endsTo_last h
theorem count_last {m : Int} {F : List (List Int)} {o : List Int} (h : ordErr m F o = 0) {s : List Int} (hs : s ∈ F) {i : Nat} (hi : i < o.length) :
    (Has s (o.getD i 0) && (cntL s o (i + 1) == 0)) = ((ends o s).2 == (i : Int)) := by
  obtain ⟨he, ho⟩ := ordErr_ok h
  obtain ⟨hnd, hrg⟩ := ord_nd ho
  obtain ⟨hne, hb⟩ := (famErr_ok he).2.2 s hs
  have hasc := set_asc (fam_set he s hs)
  have hsnd : s.Nodup := hasc.imp fun h e => by omega
  obtain ⟨l0, ll⟩ := ends_in h s hs
  have hsub : ∀ x ∈ s, x ∈ o := fun x hx => by
    have hx' := hb x hx
    simp only [IsOrd, Bool.and_eq_true, decide_eq_true_eq, List.all_eq_true, List.mem_range] at ho
    have hox := ho.2 x.toNat (by omega)
    rwa [Int.toNat_of_nonneg hx'.1, Has_iff] at hox
  have htot := perm_count hsnd hnd hsub
  have hsplit : o.countP (Has s) = (o.take (i + 1)).countP (Has s) + (o.drop (i + 1)).countP (Has s) := by
    rw [← List.countP_append, List.take_append_drop]
  have hcnt : cntL s o (i + 1) = (((o.drop (i + 1)).countP (Has s) : Nat) : Int) := by unfold cntL; omega
  have hdrop : ∀ j, i < j → j < o.length → Has s (o.getD j 0) = true → 0 < (o.drop (i + 1)).countP (Has s) := fun j hij hj hh => by
    rw [List.countP_pos_iff]
    refine ⟨o.getD j 0, ?_, hh⟩
    have : o.getD j 0 = (o.drop (i + 1))[j - (i + 1)]'(by rw [List.length_drop]; omega) := by
      rw [List.getElem_drop]; simp [List.getD, hj, show i + 1 + (j - (i + 1)) = j by omega]
    rw [this]; exact List.getElem_mem _
  rw [Bool.eq_iff_iff, Bool.and_eq_true, beq_iff_eq, beq_iff_eq, hcnt]
  constructor
  · rintro ⟨h1, h2⟩
    obtain ⟨_, a2⟩ := endsTo_all hi h1
    have hl := endsTo_last (o := o) (s := s) (k := o.length) l0
    unfold ends at l0 ll ⊢
    rcases Int.lt_or_eq_of_le a2 with h3 | h3
    · have := hdrop (endsTo o s o.length).2.toNat (by omega) (by omega) hl
      omega
    · exact h3.symm
  · intro h1
    have hl := endsTo_last (o := o) (s := s) (k := o.length) l0
    unfold ends at h1 l0
    rw [h1, Int.toNat_natCast] at hl
    refine ⟨hl, ?_⟩
    rcases Nat.eq_zero_or_pos ((o.drop (i + 1)).countP (Has s)) with h2 | h2
    · omega
    · obtain ⟨x, hx, hh⟩ := List.countP_pos_iff.1 h2
      obtain ⟨j, hj, rfl⟩ := List.mem_iff_getElem.1 hx
      rw [List.length_drop] at hj
      rw [List.getElem_drop] at hh
      have hj2 : i + 1 + j < o.length := by omega
      obtain ⟨_, a2⟩ := endsTo_all (o := o) (s := s) hj2 (by simpa [List.getD, hj2] using hh)
      omega
theorem flag_mark {m : Int} {F : List (List Int)} {o : List Int} (h : ordErr m F o = 0) {i : Nat} (hi : i < o.length) : flagL F o i F.length = markAt F o i F.length := by
  unfold flagL markAt
  rw [List.take_length]
  congr 1
  rw [Bool.eq_iff_iff, List.any_eq_true, List.any_eq_true]
  constructor
  · rintro ⟨s, hs, e⟩; exact ⟨s, hs, by rw [← count_last h hs hi]; exact e⟩
  · rintro ⟨s, hs, e⟩; exact ⟨s, hs, by rw [count_last h hs hi]; exact e⟩
theorem tcut_tab {m : Int} {F : List (List Int)} {o : List Int} (h : ordErr m F o = 0) : tcutL F o o.length = tabL F o := by
  unfold tcutL tabL tendsN marksN
  congr 2
  exact List.filter_congr fun i hi => flag_mark h (List.mem_range.1 hi)
end Go.Proofs.Ytoopgmoopmbfnaa
