import Derived.Test.YtoopgmoopmbfnaaCkt
namespace Go.Proofs.Ytoopgmoopmbfnaa
open Go.RowKit Go.Proofs.Kv Go.Proofs.Snd

/-! ### an order cut where its sets end -/
def marksN (F : List (List Int)) (o : List Int) : List Nat := ((List.range o.length).filter fun i => markAt F o i F.length).map (· + 1)
def tabL (F : List (List Int)) (o : List Int) : List (List Int) := cutF o 0 (marksN F o)
theorem marksN_int {m : Int} {F : List (List Int)} {o : List Int} (h : ordErr m F o = 0) : marksV F o = (marksN F o).map fun x : Nat => (x : Int) := by
  rw [marksV_eq h, marksN, List.map_map]
  refine List.map_congr_left fun i _ => ?_
  simp
theorem marksN_asc (F : List (List Int)) (o : List Int) : (marksN F o).Pairwise (· < ·) := by
  unfold marksN
  rw [List.pairwise_map]
  exact (List.Pairwise.filter _ List.pairwise_lt_range).imp fun {a b} hab => by omega
theorem mem_marksN {F : List (List Int)} {o : List Int} {x : Nat} : x ∈ marksN F o ↔ ∃ i, i < o.length ∧ markAt F o i F.length = true ∧ x = i + 1 := by
  unfold marksN
  simp only [List.mem_map, List.mem_filter, List.mem_range]
  exact ⟨fun ⟨i, ⟨h1, h2⟩, e⟩ => ⟨i, h1, h2, e.symm⟩, fun ⟨i, h1, h2, e⟩ => ⟨i, ⟨h1, h2⟩, e.symm⟩⟩
theorem asc_of {m : Nat} : ∀ {f : Nat} {N : List Nat}, N.Pairwise (· < ·) → (∀ x ∈ N, f < x ∧ x ≤ m) → Asc m f N
  | _, [], _, _ => trivial
  | f, e :: N, hp, h => by
    rw [List.pairwise_cons] at hp
    exact ⟨(h e (by simp)).1, (h e (by simp)).2, asc_of hp.2 fun x hx => ⟨hp.1 x hx, (h x (by simp [hx])).2⟩⟩
theorem marksN_good (F : List (List Int)) (o : List Int) : Asc o.length 0 (marksN F o) :=
  asc_of (marksN_asc F o) fun x hx => by obtain ⟨i, h1, _, rfl⟩ := mem_marksN.1 hx; omega
theorem cutF_take (l : List Int) : ∀ {f : Nat} {N : List Nat}, Asc l.length f N → ∀ y, y < N.length → ((cutF l f N).take (y + 1)).flatten = (l.take (N.getD y 0)).drop f
  | f, e :: N, h, 0, _ => by simp [cutF, List.getD]
  | f, e :: N, h, y + 1, hy => by
    have ih := cutF_take l h.2.2 y (by simpa using hy)
    rw [cutF, List.take_succ_cons, List.flatten_cons, ih]
    have hg := asc_at h (y + 1) hy
    have hge : e ≤ N.getD y 0 := by
      have h1 := asc_at h.2.2 y (by simpa using hy)
      have : e ≤ lastF e (N.take y) := by
        clear ih hg h1
        have hp : ∀ {f : Nat} {M : List Nat}, Asc l.length f M → ∀ k, f ≤ lastF f (M.take k) := fun {f M} hM k => by
          induction M generalizing f k with
          | nil => simp [lastF]
          | cons a M ih =>
            cases k with
            | zero => simp [lastF]
            | succ k =>
              have := ih hM.2.2 k
              have e1 : lastF f ((a :: M).take (k + 1)) = lastF a (M.take k) := by
                rw [List.take_succ_cons]; unfold lastF
                cases M.take k with
                | nil => rfl
                | cons b M' => rw [List.getLastD_cons, List.getLastD_cons]
              rw [e1]; have := hM.1; omega
        exact hp h.2.2 y
      omega
    have e1 : (e :: N).getD (y + 1) 0 = N.getD y 0 := by simp [List.getD]
    rw [e1]
    generalize N.getD y 0 = g at hge
    have hfe : f ≤ e := Nat.le_of_lt h.1
    have : (l.take g).drop f = ((l.take g).take e).drop f ++ ((l.take g).drop e) := by
      conv => lhs; rw [← List.take_append_drop e (l.take g)]
      rw [List.drop_append_of_le_length]
      rw [List.length_take, List.length_take]; have := h.2.1; omega
    rw [this, List.take_take, Nat.min_eq_left hge]
theorem ord_nd {m : Int} {o : List Int} (h : IsOrd o m = true) : o.Nodup ∧ ∀ x ∈ o, 0 ≤ x ∧ x ≤ m - 1 := by
  have h0 := h
  simp only [IsOrd, Bool.and_eq_true, decide_eq_true_eq, List.all_eq_true, List.mem_range] at h
  obtain ⟨hl, hall⟩ := h
  have hsub : ∀ x ∈ rangeI m.toNat, x ∈ o := by
    intro x hx
    unfold rangeI at hx
    obtain ⟨i, hi, rfl⟩ := List.mem_map.1 hx
    exact Has_iff.1 (hall i (List.mem_range.1 hi))
  have hp := perm_sub (rangeI_nodup m.toNat) hsub (by rw [len_rangeI]; omega)
  refine ⟨hp.symm.nodup (rangeI_nodup _), fun x hx => ?_⟩
  have := hp.mem_iff.1 hx
  unfold rangeI at this
  obtain ⟨i, hi, rfl⟩ := List.mem_map.1 this
  have := List.mem_range.1 hi
  omega
theorem ord_pos {m : Int} {F : List (List Int)} {o : List Int} (h : ordErr m F o = 0) : 0 < o.length ∧ o.length ≤ 6 ∧ (o.length : Int) = m := by
  obtain ⟨he, ho⟩ := ordErr_ok h
  have := (famErr_ok he).1
  simp only [IsOrd, Bool.and_eq_true, decide_eq_true_eq] at ho
  omega
theorem last_mark {m : Int} {F : List (List Int)} {o : List Int} (h : ordErr m F o = 0) : ∃ y, y + 1 = (marksN F o).length ∧ (marksN F o).getD y 0 = o.length := by
  have hp := (ord_pos h).1
  have hm : o.length ∈ marksN F o := mem_marksN.2 ⟨o.length - 1, by omega, by unfold markAt; simp; omega, by omega⟩
  obtain ⟨i, hi, e⟩ := List.mem_iff_getElem.1 hm
  refine ⟨(marksN F o).length - 1, by omega, ?_⟩
  have hle : ∀ x ∈ marksN F o, x ≤ o.length := fun x hx => by obtain ⟨i, h1, _, rfl⟩ := mem_marksN.1 hx; omega
  have hg : (marksN F o).getD ((marksN F o).length - 1) 0 = (marksN F o)[(marksN F o).length - 1]'(by omega) := by simp [List.getD, show (marksN F o).length - 1 < (marksN F o).length by omega]
  rw [hg]
  by_cases e' : i = (marksN F o).length - 1
  · subst e'; exact e
  · have := (List.pairwise_iff_getElem.1 (marksN_asc F o)) i ((marksN F o).length - 1) hi (by omega) (by omega)
    have h2 := hle _ (List.getElem_mem (show (marksN F o).length - 1 < (marksN F o).length by omega))
    omega
theorem tab_len (F : List (List Int)) (o : List Int) : (tabL F o).length = (marksN F o).length := cutF_len _ _ _
theorem tab_flat {m : Int} {F : List (List Int)} {o : List Int} (h : ordErr m F o = 0) : (tabL F o).flatten = o := by
  obtain ⟨y, hy, e⟩ := last_mark h
  have := cutF_take o (marksN_good F o) y (by omega)
  rw [e, List.take_length, List.drop_zero, hy] at this
  rw [← tab_len F o] at this
  rwa [show (cutF o 0 (marksN F o)).take (tabL F o).length = tabL F o from List.take_length] at this
theorem cutF_ne (l : List Int) : ∀ {f : Nat} {N : List Nat}, Asc l.length f N → ∀ s ∈ cutF l f N, s ≠ []
  | f, e :: N, h, s, hs => by
    rw [cutF] at hs
    rcases List.mem_cons.1 hs with rfl | hs
    · refine List.ne_nil_of_length_pos ?_
      rw [List.length_drop, List.length_take]
      have := h.1; have := h.2.1; omega
    · exact cutF_ne l h.2.2 s hs
theorem tab_good {m : Int} {F : List (List Int)} {o : List Int} (h : ordErr m F o = 0) : Good (tabL F o) := by
  obtain ⟨p1, p6, pm⟩ := ord_pos h
  obtain ⟨he, ho⟩ := ordErr_ok h
  obtain ⟨hnd, hrg⟩ := ord_nd ho
  have h6 := (famErr_ok he).1.2
  obtain ⟨y, hy, _⟩ := last_mark h
  have hfl := tab_flat h
  refine ⟨by rw [tab_len]; omega, ?_, cutF_ne o (marksN_good F o), by rw [hfl]; exact hnd, by rw [hfl]; exact fun z hz => by have := hrg z hz; omega, by rw [hfl]; exact p6, fun s hs => ?_⟩
  · rw [tab_len]
    unfold marksN
    rw [List.length_map]
    refine Nat.le_trans (List.length_filter_le _ _) ?_
    rw [List.length_range]; exact p6
  · have h1 := (List.sublist_flatten_of_mem hs).length_le
    rw [hfl] at h1
    exact Nat.le_trans h1 p6
theorem tab_valid {m : Int} {F : List (List Int)} {o : List Int} (h : ordErr m F o = 0) : validT (tabL F o) = 0 := valid_of (tab_good h)

/-! ### each set that stands together is a class -/
theorem endsTo_all {o s : List Int} : ∀ {k j : Nat}, j < k → Has s (o.getD j 0) = true → (endsTo o s k).1 ≤ j ∧ (j : Int) ≤ (endsTo o s k).2
  | k + 1, j, hj, h => by
    have bd := endsTo_bd o s k
    simp only [endsTo]
    by_cases e : j = k
    · subst e
      rw [h]
      simp only [if_true]
      rcases bd with bd | ⟨rfl, bd⟩
      · split <;> simp <;> omega
      · rw [bd]; simp
    · obtain ⟨h1, h2⟩ := endsTo_all (k := k) (by omega) h
      have h0 := endsTo_first (k := k) (by omega) h
      split
      · rw [if_neg (by omega)]; exact ⟨h1, by simp; omega⟩
      · exact ⟨h1, h2⟩
theorem set_asc {s : List Int} {lo hi : Int} (h : IsSet s lo hi = true) : s.Pairwise (· < ·) := by
  have step : ∀ i, i + 1 < s.length → s.getD i 0 < s.getD (i + 1) 0 := fun i hi' => by
    unfold IsSet at h
    have := List.all_eq_true.1 h (i + 1) (List.mem_range.2 hi')
    unfold setBad at this
    simp only [Bool.not_eq_true', Bool.or_eq_false_iff, Bool.and_eq_false_iff, decide_eq_false_iff_not, Nat.add_sub_cancel] at this
    rcases this.2 with h | h
    · omega
    · omega
  have key : ∀ d i, i + d + 1 < s.length → s.getD i 0 < s.getD (i + d + 1) 0 := fun d => by
    induction d with
    | zero => exact fun i hi => step i hi
    | succ d ih =>
      intro i hi
      have a1 := ih i (by omega)
      have a2 := step (i + d + 1) (by omega)
      rw [show i + (d + 1) + 1 = i + d + 1 + 1 by omega]
      omega
  rw [List.pairwise_iff_getElem]
  intro i j hi hj hij
  have := key (j - i - 1) i (by omega)
  rw [show i + (j - i - 1) + 1 = j by omega] at this
  simpa [List.getD, hi, hj] using this
theorem fam_set {m : Int} {F : List (List Int)} (h : famErr m F = 0) : ∀ s ∈ F, IsSet s 0 (m - 1) = true := by
  unfold famErr at h
  cases hw : Within m 1 6 with
  | false => rw [hw] at h; simp at h
  | true =>
    rw [hw] at h
    simp only [Bool.true_eq_false, if_false] at h
    by_cases hl : 6 < F.length
    · rw [if_pos hl] at h; cases h
    · rw [if_neg hl] at h
      cases ha : F.all (famGood m) with
      | false => rw [ha] at h; simp at h
      | true =>
        intro s hs'
        have hg := List.all_eq_true.1 ha s hs'
        simp only [famGood, Bool.and_eq_true, Bool.not_eq_true'] at hg
        exact hg.2
theorem from_drop {o : List Int} (nd : o.Nodup) {k e : Nat} (hk : k < o.length) (hke : k < e) : from_ (o[k]) (o.take e) = (o.take e).drop k := by
  unfold from_
  have hkt : k < (o.take e).length := by rw [List.length_take]; omega
  have hpre : ∀ x ∈ (o.take e).take k, (x != o[k]) = true := fun x hx => by
    rw [List.take_take, Nat.min_eq_left (by omega)] at hx
    obtain ⟨i, hi, rfl⟩ := List.mem_iff_getElem.1 hx
    rw [List.length_take] at hi
    rw [List.getElem_take]
    simp only [bne_iff_ne, ne_eq]
    intro e'
    have := nodup_at nd (by omega) hk e'
    omega
  conv => lhs; rw [← List.take_append_drop k (o.take e)]
  rw [List.dropWhile_append_of_pos hpre, List.drop_eq_getElem_cons hkt, List.dropWhile_cons_of_neg (by simp)]
/-- a set that stands together is the class of one name -/
theorem set_class {m : Int} {F : List (List Int)} {o : List Int} (h : ordErr m F o = 0) {s : List Int} (hs : s ∈ F) (hf : fitOne o s = true) : s ∈ classesS (tabL F o) := by
  have hg := tab_good h
  obtain ⟨he, ho⟩ := ordErr_ok h
  obtain ⟨hnd, hrg⟩ := ord_nd ho
  obtain ⟨hne, hb⟩ := (famErr_ok he).2.2 s hs
  have hasc := set_asc (fam_set he s hs)
  have hsnd : s.Nodup := hasc.imp fun h e => by omega
  obtain ⟨l0, ll⟩ := ends_in h s hs
  have hino : ∀ x ∈ s, ∃ j, ∃ hj : j < o.length, o[j] = x := fun x hx => by
    have hx' := hb x hx
    simp only [IsOrd, Bool.and_eq_true, decide_eq_true_eq, List.all_eq_true, List.mem_range] at ho
    have hox := ho.2 x.toNat (by omega)
    rw [Int.toNat_of_nonneg hx'.1, Has_iff] at hox
    obtain ⟨j, hj, e⟩ := List.mem_iff_getElem.1 hox
    exact ⟨j, hj, e⟩
  have hat : ∀ j (hj : j < o.length), o[j] ∈ s → (ends o s).1 ≤ j ∧ (j : Int) ≤ (ends o s).2 ∧ 0 ≤ (ends o s).1 := fun j hj hx => by
    have hH : Has s (o.getD j 0) = true := by rw [List.getD, List.getElem?_eq_getElem hj, Option.getD_some]; exact Has_iff.2 hx
    obtain ⟨a1, a2⟩ := endsTo_all hj hH
    exact ⟨a1, a2, endsTo_first hj hH⟩
  obtain ⟨x0, hx0⟩ := List.exists_mem_of_ne_nil s hne
  obtain ⟨j0, hj0, e0⟩ := hino x0 hx0
  have hf0 := (hat j0 hj0 (by rw [e0]; exact hx0)).2.2
  have hf1 := (hat j0 hj0 (by rw [e0]; exact hx0)).1
  unfold fitOne at hf
  rw [beq_iff_eq] at hf
  obtain ⟨f, hfe⟩ := Int.eq_ofNat_of_zero_le hf0
  obtain ⟨l, hle⟩ := Int.eq_ofNat_of_zero_le l0
  rw [hfe, hle] at hf
  have hlo : l < o.length := by omega
  have hfl : f ≤ l := by
    have := (hat j0 hj0 (by rw [e0]; exact hx0)).2.1
    omega
  have hseg : ∀ x ∈ s, x ∈ (o.take (l + 1)).drop f := fun x hx => by
    obtain ⟨j, hj, e⟩ := hino x hx
    obtain ⟨a1, a2, _⟩ := hat j hj (by rw [e]; exact hx)
    rw [← e]
    exact (mem_seg hnd hj).2 ⟨by omega, by omega⟩
  have hlen : ((o.take (l + 1)).drop f).length ≤ s.length := by rw [List.length_drop, List.length_take]; omega
  have hp := perm_sub hsnd hseg hlen
  have hlast : l + 1 ∈ marksN F o := mem_marksN.2 ⟨l, hlo, by
    unfold markAt
    rw [List.take_length, Bool.or_eq_true]
    right
    rw [List.any_eq_true]
    exact ⟨s, hs, by rw [beq_iff_eq, hle]⟩, rfl⟩
  obtain ⟨y, hy, ey⟩ := List.mem_iff_getElem.1 hlast
  have hyg : (marksN F o).getD y 0 = l + 1 := by simp [List.getD, hy, ey]
  have ht := cutF_take o (marksN_good F o) y hy
  rw [hyg, List.drop_zero] at ht
  rw [mem_classesS hg]
  refine ⟨o[f]'(by omega), y, by rw [tab_len]; exact hy, ?_, ?_⟩
  · show o[f]'(by omega) ∈ ((cutF o 0 (marksN F o)).take (y + 1)).flatten
    rw [ht]
    have hft : f < (o.take (l + 1)).length := by rw [List.length_take]; omega
    have : (o.take (l + 1))[f]'hft = o[f]'(by omega) := List.getElem_take
    rw [← this]; exact List.getElem_mem _
  · show s = sorted (from_ (o[f]'(by omega)) ((cutF o 0 (marksN F o)).take (y + 1)).flatten)
    rw [ht, from_drop hnd (by omega) (by omega)]
    refine asc_int hasc (sorted_pairwise _) fun x => ?_
    rw [Snd.mem_sorted, hp.mem_iff]
    have h6 := (famErr_ok he).1.2
    exact ⟨fun hx => ⟨hx, by have := hb x hx; omega⟩, fun hx => hx.1⟩
theorem tab_check {m : Int} {F : List (List Int)} {o : List Int} (h : ordErr m F o = 0) (hf : fitsB F o = true) : checkErr m F (tabL F o) = 0 := by
  obtain ⟨he, ho⟩ := ordErr_ok h
  rw [checkErr, if_pos he, if_pos (tab_valid h), tab_flat h, ho]
  have : nameAll F (tabL F o) = true := List.all_eq_true.2 fun s hs => decide_eq_true (set_class h hs (List.all_eq_true.1 hf s hs))
  rw [this]; rfl
end Go.Proofs.Ytoopgmoopmbfnaa
