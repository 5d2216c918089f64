import Derived.Test.YtnpdhmejnoplcaaPs
import Derived.Test.YtnpdhmejnoplcaaPt
namespace Go.Proofs.Ytnpdhmejnoplcaa
open Go.RowKit Go.Proofs.Kv

/-! ### rules that are special, rules that meet -/
def rgt (f : Int) (l : List Int) (i : Int) : Int := if f = -1 then atL l i else atL l (i + 1)
theorem plB_iff {f : Int} {le ri l : List Int} {i : Int} : plB f le ri l i = true ↔ 0 ≤ i ∧ i ≤ l.length ∧ (f = -1 ∨ atL l i = f) ∧ mayL le (atL l (i - 1)) = true ∧ mayL ri (rgt f l i) = true := by
  unfold plB rgt
  by_cases h0 : i < 0
  · rw [if_pos h0]; exact ⟨fun h => (by cases h), fun h => absurd h.1 (by omega)⟩
  · by_cases h1 : (l.length : Int) < i
    · rw [if_neg h0, if_pos h1]; exact ⟨fun h => (by cases h), fun h => absurd h.2.1 (by omega)⟩
    · rw [if_neg h0, if_neg h1]
      by_cases hf : f = -1
      · rw [if_pos hf, if_pos hf, Bool.and_eq_true]
        exact ⟨fun h => ⟨by omega, by omega, .inl hf, h⟩, fun h => h.2.2.2⟩
      · rw [if_neg hf, if_neg hf, Bool.and_eq_true, Bool.and_eq_true, beq_iff_eq]
        exact ⟨fun h => ⟨by omega, by omega, .inr h.1.1, h.1.2, h.2⟩, fun h => ⟨⟨h.2.2.1.resolve_left hf, h.2.2.2.1⟩, h.2.2.2.2⟩⟩
theorem spcB_iff {R S : Rl} : spcB R S = true ↔ R.f = S.f ∧ insideB R.le S.le = true ∧ insideB R.ri S.ri = true := by
  unfold spcB; simp
theorem rgt_range {l : List Int} (h : isWord l = true) (f i : Int) : -1 ≤ rgt f l i ∧ rgt f l i ≤ 5 := by
  unfold rgt; split <;> exact atL_range h _
theorem spc_place {R S : Rl} {l : List Int} {i : Int} (hs : spcB R S = true) (hw : isWord l = true) (h : plB R.f R.le R.ri l i = true) : plB S.f S.le S.ri l i = true := by
  obtain ⟨hf, h1, h2⟩ := spcB_iff.1 hs
  obtain ⟨a, b, c, d, e⟩ := plB_iff.1 h
  rw [← hf]
  exact plB_iff.2 ⟨a, b, c, insideB_iff.1 h1 _ (atL_range hw _).1 (atL_range hw _).2 d, insideB_iff.1 h2 _ (rgt_range hw _ _).1 (rgt_range hw _ _).2 e⟩
theorem com_ne {a b : List Int} {x : Int} (h0 : -1 ≤ x) (h1 : x ≤ 5) (ha : mayL a x = true) (hb : mayL b x = true) : (comL a b).isEmpty = false := by
  have : x ∈ comL a b := mem_com.2 ⟨h0, h1, ha, hb⟩
  cases hc : comL a b with
  | nil => rw [hc] at this; cases this
  | cons y l => rfl
theorem okBoth_mk {R S : Rl} (hf : R.f = S.f) (h1 : (comL R.le S.le).isEmpty = false) (h2 : (comL R.ri S.ri).isEmpty = false) : okBoth R S = true := by
  rw [okBoth, h1, h2, decide_eq_true hf]; rfl
theorem place_meet {R S : Rl} {l : List Int} {i : Int} (hf : R.f = S.f) (hw : isWord l = true) (h : plB R.f R.le R.ri l i = true) (h' : plB S.f S.le S.ri l i = true) : okBoth R S = true := by
  obtain ⟨a, b, c, d, e⟩ := plB_iff.1 h
  rw [← hf] at h'
  obtain ⟨a', b', c', d', e'⟩ := plB_iff.1 h'
  exact okBoth_mk hf (com_ne (atL_range hw _).1 (atL_range hw _).2 d d') (com_ne (rgt_range hw _ _).1 (rgt_range hw _ _).2 e e')
theorem setN_range {l : List Int} (h : setN l = true) : ∀ x ∈ l, -1 ≤ x ∧ x ≤ 5 := by
  intro x hx
  obtain ⟨k, hk, rfl⟩ := mem_getD hx
  simp only [setN, IsSet, List.all_eq_true, List.mem_range] at h
  have := h k hk
  simp only [setBad, Within] at this
  generalize l.getD k 0 = y at this ⊢
  simp at this
  omega
theorem may_some {s : List Int} (h : setN s = true) : ∃ x, -1 ≤ x ∧ x ≤ 5 ∧ mayL s x = true := by
  cases s with
  | nil => exact ⟨0, by omega, by omega, rfl⟩
  | cons y s =>
    have := setN_range h y (by simp)
    exact ⟨y, this.1, this.2, by simp [mayL, Has]⟩
theorem spc_meet {R S : Rl} (hR : validR R = 0) (hs : spcB R S = true) : okBoth R S = true := by
  obtain ⟨hf, h1, h2⟩ := spcB_iff.1 hs
  obtain ⟨-, -, -, -, g5, g6⟩ := validR_ok hR
  obtain ⟨x, a, b, c⟩ := may_some g5
  obtain ⟨y, a', b', c'⟩ := may_some g6
  exact okBoth_mk hf (com_ne a b c (insideB_iff.1 h1 x a b c)) (com_ne a' b' c' (insideB_iff.1 h2 y a' b' c'))
/-- are all numbers of a list in another one -/
def partB (l m : List Int) : Bool := l.all fun x => Has m x
theorem spc_part {R S : Rl} {l : List Int} (hs : isSpc R S = true) (h : err2 R l = 0) : err2 S l = 0 ∧ partB (plP R l) (plP S l) = true := by
  obtain ⟨h1, h2⟩ := err2_ok h
  unfold isSpc at hs
  by_cases he : errTwo R S = 0
  · rw [if_pos he] at hs
    obtain ⟨y1, y2⟩ := errTwo_ok he
    refine ⟨by rw [err2, if_pos y2]; exact h2, ?_⟩
    rw [partB, List.all_eq_true]
    intro x hx
    obtain ⟨a, b, c⟩ := mem_pl.1 hx
    exact Has_iff.2 (mem_pl.2 ⟨a, b, spc_place hs (validW_ok h2).2 c⟩)
  · rw [if_neg he] at hs; cases hs
theorem errTwo_of {R S : Rl} {l : List Int} (h1 : err2 R l = 0) (h2 : err2 S l = 0) : errTwo R S = 0 := by
  rw [errTwo, if_pos (err2_ok h1).1]; exact (err2_ok h2).1
theorem meet_in {R S : Rl} {l : List Int} {x : Int} (hf : R.f = S.f) (h1 : err2 R l = 0) (h2 : err2 S l = 0) (hx : x ∈ plP R l) (hy : Has (plP S l) x = true) : isBoth R S = true := by
  rw [isBoth, if_pos (errTwo_of h1 h2)]
  exact place_meet hf (validW_ok (err2_ok h1).2).2 (mem_pl.1 hx).2.2 (mem_pl.1 (Has_iff.1 hy)).2.2
theorem spc_can {R S : Rl} (h : isSpc R S = true) : isBoth R S = true := by
  unfold isSpc at h
  by_cases he : errTwo R S = 0
  · rw [if_pos he] at h
    rw [isBoth, if_pos he]
    exact spc_meet (errTwo_ok he).1 h
  · rw [if_neg he] at h; cases h
end Go.Proofs.Ytnpdhmejnoplcaa
