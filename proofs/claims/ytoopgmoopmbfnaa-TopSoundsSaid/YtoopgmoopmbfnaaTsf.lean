import Derived.Test.YtoopgmoopmbfnaaTcu
namespace Go.Proofs.Ytoopgmoopmbfnaa
open Go.RowKit Go.Proofs.Kv Go.Proofs.Snd

/-! ### what TopSounds asks of an order that fits -/
theorem filter_one {α : Type} {P : α → Bool} {p : α} : ∀ {l : List α}, l.Nodup → p ∈ l → P p = true → (∀ q ∈ l, P q = true → q = p) → l.filter P = [p]
  | [], _, h, _, _ => by simp at h
  | a :: l, hn, hm, hp, hu => by
    rw [List.nodup_cons] at hn
    rcases List.mem_cons.1 hm with e | hm
    · subst e
      rw [List.filter_cons, if_pos hp]
      congr 1
      rw [List.filter_eq_nil_iff]
      intro q hq hpq
      have := hu q (by simp [hq]) hpq
      subst this
      exact hn.1 hq
    · have hna : ¬ P a = true := fun e => by
        have := hu a (by simp) e
        subst this
        exact hn.1 hm
      rw [List.filter_cons, if_neg hna]
      exact filter_one hn.2 hm hp fun q hq => hu q (by simp [hq])
theorem one_name {m : Int} {F : List (List Int)} {o : List Int} (h : ordErr m F o = 0) {s : List Int} (hs : s ∈ F) (hf : fitOne o s = true) :
    ∃ x y : Int, namedErr (tabL F o) s = 0 ∧ namedRes (tabL F o) s = [(x, y)] ∧ standErr (tabL F o) x y = 0 ∧ standRes (tabL F o) x y = s := by
  have hg := tab_good h
  have hv := tab_valid h
  have he := (ordErr_ok h).1
  have hc := set_class h hs hf
  rw [classesS, List.mem_mergeSort, namesS_eq hg, List.mem_map] at hc
  obtain ⟨p, hp, e⟩ := hc
  have hne : namedErr (tabL F o) s = 0 := (named_len hv (set_five he s hs)).1
  refine ⟨p.1, p.2, hne, ?_, ?_, ?_⟩
  · rw [namedRes, if_pos hne]
    unfold namedL
    exact filter_one (nodup_namesR _) hp (by simp [Same, e]) fun q hq hqs => stand_inj hg hq hp (by
      have : standL (tabL F o) q.1 q.2 = s := by simpa [Same] using hqs
      rw [this, e])
  · obtain ⟨y, e2, hy, hx⟩ := names_in hp hg
    obtain ⟨r, hr, hxr⟩ := List.mem_flatten.1 hx
    obtain ⟨i, hi, rfl⟩ := List.mem_iff_getElem.1 hr
    rw [List.length_take] at hi
    rw [List.getElem_take] at hxr
    rw [e2]
    exact stand_err_yes (i := i) hv (rowTo_in (i := i) hg (by omega) (by rw [getD_at (by omega)]; exact hxr)) (by omega) (by omega)
  · have hse : standErr (tabL F o) p.1 p.2 = 0 := by
      obtain ⟨y, e2, hy, hx⟩ := names_in hp hg
      obtain ⟨r, hr, hxr⟩ := List.mem_flatten.1 hx
      obtain ⟨i, hi, rfl⟩ := List.mem_iff_getElem.1 hr
      rw [List.length_take] at hi
      rw [List.getElem_take] at hxr
      rw [e2]
      exact stand_err_yes (i := i) hv (rowTo_in (i := i) hg (by omega) (by rw [getD_at (by omega)]; exact hxr)) (by omega) (by omega)
    rw [standRes, if_pos hse]; exact e
theorem ord_few {m : Int} {F : List (List Int)} (h : famErr m F = 0) : ordOk m F = decide (0 < fewV m F) := by
  rw [ordOk, h, decide_eq_true rfl, Bool.true_and, orderRes_eq h]
  cases hf : (ordersL m.toNat).find? (fitsB F) with
  | none =>
    symm
    refine decide_eq_false fun hp => ?_
    have hr := few_rel h
    rw [fewV, if_pos h] at hp
    cases hy : fwTo F (ordersL m.toNat) with
    | none => rw [hy] at hr; have h0 : fewR F (ordersL m.toNat) = 0 := hr; omega
    | some y =>
      rw [hy] at hr
      obtain ⟨_, h2, h3⟩ := hr
      have := List.find?_eq_none.1 hf y (ord_in (ordErr_ok h2).2)
      exact this h3
  | some o =>
    symm
    have hm := List.mem_of_find?_eq_some hf
    have hp := List.find?_some hf
    have := (few_least (F := F) (ordersL m.toNat) 0 fun o ho => marks_pos (ords_err h o ho)).2 o hm hp
    exact decide_eq_true (by rw [fewV, if_pos h]; exact this.1)
theorem fits_ok {m : Int} {F : List (List Int)} {o : List Int} (h : ordErr m F o = 0) (hf : fitsRes m F o = true) : fitsB F o = true ∧ markErr m F o = 0 := by
  rw [fitsRes, if_pos h] at hf
  exact ⟨hf, by rw [markErr, if_pos h, hf]; rfl⟩
theorem few_lit : fewV 2 [[0], [0, 1]] = 1 ∧ famErr 2 [[0], [0, 1]] = 0 := by decide +kernel
end Go.Proofs.Ytoopgmoopmbfnaa
