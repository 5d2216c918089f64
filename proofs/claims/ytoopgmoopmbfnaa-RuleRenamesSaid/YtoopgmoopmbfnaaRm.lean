import Derived.Test.YtoopgmoopmbfnaaRn7
namespace Go.Proofs.Ytoopgmoopmbfnaa
open Go.RowKit Go.Proofs.Kv

/-! ### a renamed rule is valid, and its places in a renamed word are the same -/
theorem setN_of {l : List Int} (hp : l.Pairwise fun a b => a < b) (hr : ∀ x ∈ l, -1 ≤ x ∧ x ≤ 5) : setN l = true := by
  rw [setN]
  refine IsSet_yes (n := l.length) rfl fun j hj => ?_
  have h1 := hr _ (getD_mem hj)
  have h2 : 0 < j → l.getD (j - 1) 0 < l.getD j 0 := fun h0 => by
    have := List.pairwise_iff_getElem.1 hp (j - 1) j (by omega) hj (by omega)
    simpa [List.getD, List.getElem?_eq_getElem hj, List.getElem?_eq_getElem (show j - 1 < l.length by omega)] using this
  simp only [setBad, Within]
  generalize l.getD j 0 = y at *
  generalize l.getD (j - 1) 0 = z at *
  by_cases h0 : 0 < j
  · have := h2 h0
    simp [h0]; omega
  · simp [h0]; omega
theorem ns_neg (t : List Int) : nsV t (-1) = -1 := if_pos (by omega)
theorem validR_not {R : Rl} (h : validR R = 0) : ¬ (R.f < 0 ∧ R.o.length = 0 ∨ R.o.length = 1 ∧ R.o.getD 0 0 = R.f) := by
  obtain ⟨g1, g2, g3, g4, g5, g6⟩ := validR_ok h
  intro hc
  have hW : Within R.f (-1) 5 = true := by simp [Within]; omega
  rw [validR, if_pos hW, if_neg (by omega), if_pos g4, if_pos g5, if_pos g6, if_pos hc] at h
  cases h
theorem sid_len {t s : List Int} (ht : IsOrd t 6 = true) (hs : setN s = true) : (sidV t s).length = s.length := by rw [← sort_sid ht hs]; simp
theorem sid_set (t s : List Int) : setN (sidV t s) = true := setN_of (sdN_pairwise _ 7) fun x hx => by have := mem_sdN.1 hx; omega
theorem ren_word {t l : List Int} (ht : IsOrd t 6 = true) (h : isWord l = true) : isWord (l.map (nsV t)) = true := by
  rw [isWord, List.all_eq_true] at h ⊢
  intro y hy
  obtain ⟨x, hx, rfl⟩ := List.mem_map.1 hy
  have := h x hx
  simp [Within] at this
  have := ns_range ht (x := x) (by omega) (by omega)
  simp [Within]; omega
theorem renR_eq {R : Rl} {t : List Int} (hv : validR R = 0) (ht : IsOrd t 6 = true) : renE R t = 0 ∧ renR R t = ⟨nsV t R.f, R.o.map (nsV t), sidV t R.le, sidV t R.ri⟩ := by
  have h : renE R t = 0 := by rw [renE, if_pos hv, if_pos ht]
  exact ⟨h, if_pos h⟩
theorem renE_ok {R : Rl} {t : List Int} (h : renE R t = 0) : validR R = 0 ∧ IsOrd t 6 = true := by
  unfold renE at h
  by_cases hv : validR R = 0
  · rw [if_pos hv] at h
    cases ht : IsOrd t 6 with
    | true => exact ⟨hv, rfl⟩
    | false => rw [ht] at h; simp at h
  · rw [if_neg hv] at h; exact absurd h hv
theorem errSp_ok {l t : List Int} (h : errSp l t = 0) : validW l = 0 ∧ IsOrd t 6 = true := by
  unfold errSp at h
  by_cases hv : validW l = 0
  · rw [if_pos hv] at h
    cases ht : IsOrd t 6 with
    | true => exact ⟨hv, rfl⟩
    | false => rw [ht] at h; simp at h
  · rw [if_neg hv] at h; exact absurd h hv
theorem ren_valid {R : Rl} {t : List Int} (hv : validR R = 0) (ht : IsOrd t 6 = true) : validR (renR R t) = 0 := by
  obtain ⟨g1, g2, g3, g4, g5, g6⟩ := validR_ok hv
  have hn := validR_not hv
  rw [(renR_eq hv ht).2]
  obtain ⟨r1, r2, r3⟩ := ns_range ht g1 g2
  have hW : Within (nsV t R.f) (-1) 5 = true := by simp [Within]; omega
  rw [validR]
  dsimp only
  rw [if_pos hW, List.length_map, if_neg (by omega), if_pos (ren_word ht g4), if_pos (sid_set _ _), if_pos (sid_set _ _), if_neg]
  rintro (⟨h1, h2⟩ | ⟨h1, h2⟩)
  · exact hn (.inl ⟨r3.2 h1, h2⟩)
  · refine hn (.inr ⟨h1, ?_⟩)
    obtain ⟨x, hx⟩ : ∃ x, R.o = [x] := List.length_eq_one_iff.1 h1
    have hxw := word_range g4 x (by rw [hx]; simp)
    rw [hx] at h2 ⊢
    exact ns_inj ht hxw.1 hxw.2 g1 g2 h2
theorem may_ren {t s : List Int} (ht : IsOrd t 6 = true) (hs : setN s = true) {x : Int} (h0 : -1 ≤ x) (h5 : x ≤ 5) : mayL (sidV t s) (nsV t x) = mayL s x := by
  have he : ∀ l : List Int, l.isEmpty = decide (l.length = 0) := fun l => by cases l <;> simp
  have hh : Has (sidV t s) (nsV t x) = Has s x := by
    rw [Bool.eq_iff_iff, Has_iff, Has_iff, sidV, mem_sdN]
    have hr := ns_range ht h0 h5
    constructor
    · rintro ⟨h, -⟩
      obtain ⟨y, hy, e⟩ := List.mem_map.1 h
      have hyr := setN_range hs y hy
      rwa [← ns_inj ht hyr.1 hyr.2 h0 h5 e]
    · exact fun h => ⟨List.mem_map.2 ⟨x, h, rfl⟩, by omega, by omega⟩
  rw [mayL, mayL, he, he, sid_len ht hs, hh]
theorem at_ren (t l : List Int) (i : Int) : atL (l.map (nsV t)) i = nsV t (atL l i) := by
  unfold atL
  rw [List.length_map]
  by_cases h : Within i 0 ((l.length : Int) - 1) = true
  · rw [if_pos h, if_pos h]
    have hi : i.toNat < l.length := by simp [Within] at h; omega
    simp [List.getD, List.getElem?_map, List.getElem?_eq_getElem hi]
  · rw [if_neg h, if_neg h, ns_neg]
theorem place_ren {R : Rl} {t l : List Int} (hv : validR R = 0) (ht : IsOrd t 6 = true) (hw : isWord l = true) (i : Int) : plB (nsV t R.f) (sidV t R.le) (sidV t R.ri) (l.map (nsV t)) i = plB R.f R.le R.ri l i := by
  obtain ⟨g1, g2, g3, g4, g5, g6⟩ := validR_ok hv
  have hf : nsV t R.f = -1 ↔ R.f = -1 := ⟨fun h => ns_inj ht g1 g2 (by omega) (by omega) (by rw [ns_neg]; exact h), fun h => by rw [h, ns_neg]⟩
  have hg : rgt (nsV t R.f) (l.map (nsV t)) i = nsV t (rgt R.f l i) := by
    unfold rgt
    by_cases h : R.f = -1
    · rw [if_pos h, if_pos (hf.2 h), at_ren]
    · rw [if_neg h, if_neg (fun hc => h (hf.1 hc)), at_ren]
  have ha : atL (l.map (nsV t)) i = nsV t R.f ↔ atL l i = R.f := by
    rw [at_ren]
    exact ⟨fun h => ns_inj ht (atL_range hw _).1 (atL_range hw _).2 g1 g2 h, fun h => by rw [h]⟩
  rw [Bool.eq_iff_iff, plB_iff, plB_iff, hg, ha, hf, List.length_map, at_ren, may_ren ht g5 (atL_range hw _).1 (atL_range hw _).2, may_ren ht g6 (rgt_range hw _ _).1 (rgt_range hw _ _).2]
theorem ren_places {R : Rl} {t l : List Int} (h : renE R t = 0) (hg : errSp l t = 0) : err2 R l = 0 ∧ err2 (renR R t) (resSp l t) = 0 ∧ resPlaces (renR R t) (resSp l t) = resPlaces R l := by
  obtain ⟨hv, ht⟩ := renE_ok h
  obtain ⟨hl, -⟩ := errSp_ok hg
  obtain ⟨w1, w2⟩ := validW_ok hl
  have hs : resSp l t = l.map (nsV t) := if_pos hg
  have hv' := ren_valid hv ht
  have hl' : validW (l.map (nsV t)) = 0 := by
    rw [validW, List.length_map, if_neg (by omega), if_pos (ren_word ht w2)]
  have e1 : err2 R l = 0 := by rw [err2, if_pos hv]; exact hl
  have e2 : err2 (renR R t) (resSp l t) = 0 := by rw [err2, if_pos hv', hs]; exact hl'
  refine ⟨e1, e2, ?_⟩
  rw [resPlaces, resPlaces, if_pos e1, if_pos e2, hs, (renR_eq hv ht).2, plP, plP, List.length_map]
  have : plB (nsV t R.f) (sidV t R.le) (sidV t R.ri) (l.map (nsV t)) = plB R.f R.le R.ri l := funext fun i => place_ren hv ht w2 i
  dsimp only
  rw [this]
end Go.Proofs.Ytoopgmoopmbfnaa
