import Derived.Test.YtebbmhlkdfmmcaaGreatPst
import Derived.Test.YtebbmhlkdfmmcaaGreatRgn
import Derived.Test.YtebbmhlkdfmmcaaGreatPgk
import Derived.Test.YtebbmhlkdfmmcaaGreatKa
namespace Go.Proofs.YtebbmhlkdfmmcaaGreat
open Go.RowKit Go.Proofs.Kv

/-! ### rules that are special, rules that meet -/
def rgt (f : Int) (l : List Int) (i : Int) : Int := if f = -1 then atL l i else atL l (i + 1)
theorem plB_iff {f : Int} {le ri l : List Int} {i : Int} : plB f le ri l i = true ↔ 0 ≤ i ∧ i ≤ l.length ∧ (f = -1 ∨ atL l i = f) ∧ mayL le (atL l (i - 1)) = true ∧ mayL ri (rgt f l i) = true := by
  unfold plB rgt
  by_cases h0 : i < 0
  · rw [if_pos h0]; exact ⟨fun h => (by cases h), fun h => absurd h.1 (by omega)⟩
  · by_cases h1 : (l.length : Int) < i
    · rw [if_neg h0, if_pos h1]; exact ⟨fun h => (by cases h), fun h => absurd h.2.1 (by omega)⟩
    · rw [if_neg h0, if_neg h1]
      by_cases hf : f = -1
      · rw [if_pos hf, if_pos hf, Bool.and_eq_true]
        exact ⟨fun h => ⟨by omega, by omega, .inl hf, h⟩, fun h => h.2.2.2⟩
      · rw [if_neg hf, if_neg hf, Bool.and_eq_true, Bool.and_eq_true, beq_iff_eq]
        exact ⟨fun h => ⟨by omega, by omega, .inr h.1.1, h.1.2, h.2⟩, fun h => ⟨⟨h.2.2.1.resolve_left hf, h.2.2.2.1⟩, h.2.2.2.2⟩⟩
theorem spcB_iff {R S : Rl} : spcB R S = true ↔ R.f = S.f ∧ insideW R.le S.le = true ∧ insideW R.ri S.ri = true := by
  unfold spcB; simp
theorem rgt_range {l : List Int} (h : isWord l = true) (f i : Int) : -1 ≤ rgt f l i ∧ rgt f l i ≤ 5 := by
  unfold rgt; split <;> exact atL_range h _
theorem spc_place {R S : Rl} {l : List Int} {i : Int} (hs : spcB R S = true) (hw : isWord l = true) (h : plB R.f R.le R.ri l i = true) : plB S.f S.le S.ri l i = true := by
  obtain ⟨hf, h1, h2⟩ := spcB_iff.1 hs
  obtain ⟨a, b, c, d, e⟩ := plB_iff.1 h
  rw [← hf]
  exact plB_iff.2 ⟨a, b, c, insideB_iff.1 h1 _ (atL_range hw _).1 (atL_range hw _).2 d, insideB_iff.1 h2 _ (rgt_range hw _ _).1 (rgt_range hw _ _).2 e⟩
theorem com_ne {a b : List Int} {x : Int} (h0 : -1 ≤ x) (h1 : x ≤ 5) (ha : mayL a x = true) (hb : mayL b x = true) : (comL a b).isEmpty = false := by
  have : x ∈ comL a b := mem_com.2 ⟨h0, h1, ha, hb⟩
  cases hc : comL a b with
  | nil => rw [hc] at this; cases this
  | cons y l => rfl
theorem okBoth_mk {R S : Rl} (hf : R.f = S.f) (h1 : (comL R.le S.le).isEmpty = false) (h2 : (comL R.ri S.ri).isEmpty = false) : okBoth R S = true := by
  rw [okBoth, h1, h2, decide_eq_true hf]; rfl
theorem place_meet {R S : Rl} {l : List Int} {i : Int} (hf : R.f = S.f) (hw : isWord l = true) (h : plB R.f R.le R.ri l i = true) (h' : plB S.f S.le S.ri l i = true) : okBoth R S = true := by
  obtain ⟨a, b, c, d, e⟩ := plB_iff.1 h
  rw [← hf] at h'
  obtain ⟨a', b', c', d', e'⟩ := plB_iff.1 h'
  exact okBoth_mk hf (com_ne (atL_range hw _).1 (atL_range hw _).2 d d') (com_ne (rgt_range hw _ _).1 (rgt_range hw _ _).2 e e')
theorem setN_range {l : List Int} (h : setN l = true) : ∀ x ∈ l, -1 ≤ x ∧ x ≤ 5 := by
  intro x hx
  obtain ⟨k, hk, rfl⟩ := mem_getD hx
  simp only [setN, IsSet, List.all_eq_true, List.mem_range] at h
  have := h k hk
  simp only [setBad, Within] at this
  generalize l.getD k 0 = y at this ⊢
  simp at this
  omega
theorem may_some {s : List Int} (h : setN s = true) : ∃ x, -1 ≤ x ∧ x ≤ 5 ∧ mayL s x = true := by
  cases s with
  | nil => exact ⟨0, by omega, by omega, rfl⟩
  | cons y s =>
    have := setN_range h y (by simp)
    exact ⟨y, this.1, this.2, by simp [mayL, Has]⟩
theorem spc_meet {R S : Rl} (hR : validR R = 0) (hs : spcB R S = true) : okBoth R S = true := by
  obtain ⟨hf, h1, h2⟩ := spcB_iff.1 hs
  obtain ⟨-, -, -, -, g5, g6⟩ := validR_ok hR
  obtain ⟨x, a, b, c⟩ := may_some g5
  obtain ⟨y, a', b', c'⟩ := may_some g6
  exact okBoth_mk hf (com_ne a b c (insideB_iff.1 h1 x a b c)) (com_ne a' b' c' (insideB_iff.1 h2 y a' b' c'))
/-- are all numbers of a list in another one -/
def partB (l m : List Int) : Bool := l.all fun x => Has m x
theorem spc_part {R S : Rl} {l : List Int} (hs : isSpc R S = true) (h : err2 R l = 0) : err2 S l = 0 ∧ partB (plP R l) (plP S l) = true := by
  obtain ⟨h1, h2⟩ := err2_ok h
  unfold isSpc at hs
  by_cases he : errTwo R S = 0
  · rw [if_pos he] at hs
    obtain ⟨y1, y2⟩ := errTwo_ok he
    refine ⟨by rw [err2, if_pos y2]; exact h2, ?_⟩
    rw [partB, List.all_eq_true]
    intro x hx
    obtain ⟨a, b, c⟩ := mem_pl.1 hx
    exact Has_iff.2 (mem_pl.2 ⟨a, b, spc_place hs (validW_ok h2).2 c⟩)
  · rw [if_neg he] at hs; cases hs
theorem errTwo_of {R S : Rl} {l : List Int} (h1 : err2 R l = 0) (h2 : err2 S l = 0) : errTwo R S = 0 := by
  rw [errTwo, if_pos (err2_ok h1).1]; exact (err2_ok h2).1
theorem meet_in {R S : Rl} {l : List Int} {x : Int} (hf : R.f = S.f) (h1 : err2 R l = 0) (h2 : err2 S l = 0) (hx : x ∈ plP R l) (hy : Has (plP S l) x = true) : isBoth R S = true := by
  rw [isBoth, if_pos (errTwo_of h1 h2)]
  exact place_meet hf (validW_ok (err2_ok h1).2).2 (mem_pl.1 hx).2.2 (mem_pl.1 (Has_iff.1 hy)).2.2
theorem spc_can {R S : Rl} (h : isSpc R S = true) : isBoth R S = true := by
  unfold isSpc at h
  by_cases he : errTwo R S = 0
  · rw [if_pos he] at h
    rw [isBoth, if_pos he]
    exact spc_meet (errTwo_ok he).1 h
  · rw [if_neg he] at h; cases h
end Go.Proofs.YtebbmhlkdfmmcaaGreat
namespace Go.Proofs.YtebbmhlkdfmmcaaGreat
open Go.RowKit Go.Proofs.Kv

/-! ### words that are made are words; what Gain answers -/
theorem isWord_putAll {R : Rl} {l : List Int} (ho : isWord R.o = true) (hl : isWord l = true) : ∀ at_ : List Int, isWord (putAll R at_ l) = true
  | [] => hl
  | _ :: at_ => isWord_put (isWord_putAll ho hl at_) ho
theorem apV_ok {R : Rl} {l : List Int} {p : Int} (h : apE R l p = 0) (ho : isWord R.o = true) (hl : isWord l = true) : isWord (apV R l p) = true ∧ (apV R l p).length ≤ 8 := by
  unfold apE at h
  unfold apV
  cases hp : plB R.f R.le R.ri l p with
  | false => rw [hp] at h; cases h
  | true =>
    rw [hp, if_pos rfl] at h
    rw [if_pos rfl]
    unfold putErr at h
    unfold putRes
    by_cases h8 : 8 < (putAll R [p] l).length
    · rw [if_pos h8] at h; cases h
    · rw [if_neg h8]; exact ⟨isWord_putAll ho hl _, by omega⟩
def errGain (R S : Rl) (l : List Int) (p : Int) : Int := if errTwo R S = 0 then errApply R l p else errTwo R S
def resGain (R S : Rl) (l : List Int) (p : Int) : Int := if errGain R S l p = 0 then ((plP S (resApply R l p)).length : Int) - (plP S l).length else 0
def err3 (R S : Rl) (l : List Int) : Int := if errTwo R S = 0 then validW l else errTwo R S
theorem err3_ok {R S : Rl} {l : List Int} (h : err3 R S l = 0) : errTwo R S = 0 ∧ validW l = 0 := by
  unfold err3 at h
  by_cases h1 : errTwo R S = 0
  · rw [if_pos h1] at h; exact ⟨h1, h⟩
  · rw [if_neg h1] at h; exact absurd h h1
theorem err2_of3 {R S : Rl} {l : List Int} (h : err3 R S l = 0) : err2 R l = 0 := by
  obtain ⟨h1, h2⟩ := err3_ok h
  rw [err2, if_pos (errTwo_ok h1).1]; exact h2
theorem gain_yes {R S : Rl} {l : List Int} {p : Int} (h : err3 R S l = 0) : errGain R S l p = apE R l p ∧ resApply R l p = apV R l p := by
  rw [errGain, if_pos (err3_ok h).1, errApply, if_pos (err2_of3 h), resApply, if_pos (err2_of3 h)]
  exact ⟨rfl, rfl⟩
theorem gain_no {R S : Rl} {l : List Int} {p : Int} (h : err3 R S l ≠ 0) : errGain R S l p = err3 R S l ∧ resGain R S l p = 0 := by
  have : errGain R S l p = err3 R S l := by
    unfold errGain err3
    by_cases h1 : errTwo R S = 0
    · rw [if_pos h1, if_pos h1]
      unfold err3 at h
      rw [if_pos h1] at h
      have : err2 R l = validW l := by rw [err2, if_pos (errTwo_ok h1).1]
      rw [errApply, this, if_neg h]
    · rw [if_neg h1, if_neg h1]
  exact ⟨this, by rw [resGain, this, if_neg h]⟩
theorem or3_eq (a b c : Int) : orL [a, b, c] = if (if a = 0 then b else a) = 0 then c else (if a = 0 then b else a) := by
  simp only [orL]
  by_cases ha : a = 0 <;> by_cases hb : b = 0 <;> by_cases hc : c = 0 <;> simp [ha, hb, hc]
theorem or3_calls (R S : Rl) (l : List Int) (w : World) (T : TypeId) :
    Calls Tryz.prog 97 #[.slice (some ⟨w.heap.size, 0, none⟩) 3 3] (w.alloc (.cells #[.int .i64 (validR R), .int .i64 (validR S), .int .i64 (validW l)] T)) fun e w' => e = .returned (.int .i64 (err3 R S l)) ∧ w.alloc (.cells #[.int .i64 (validR R), .int .i64 (validR S), .int .i64 (validW l)] T) = w' := by
  have := or_calls _ 3 3 [validR R, validR S, validW l] _ (IntsAt.lit w [validR R, validR S, validW l] _ 3 T rfl rfl (by omega))
  rwa [or3_eq] at this
end Go.Proofs.YtebbmhlkdfmmcaaGreat
namespace Go.Proofs.YtebbmhlkdfmmcaaGreat
open Go.RowKit Go.Proofs.Kv

/-! ### rules one after another, each at all of its places -/
def stp (R : Rl) (l : List Int) : List Int := putAll R (plP R l) l
def turnE : List Rl → List Int → Int
  | [], _ => 0
  | R :: Rs, l => if 8 < (stp R l).length then 3 else turnE Rs (stp R l)
def turnV : List Rl → List Int → List Int
  | [], l => l
  | R :: Rs, l => if 8 < (stp R l).length then [] else turnV Rs (stp R l)
theorem stp_err (R : Rl) (l : List Int) : putErr R (plP R l) l = if 8 < (stp R l).length then 3 else 0 := rfl
theorem stp_res (R : Rl) (l : List Int) : putRes R (plP R l) l = if 8 < (stp R l).length then [] else stp R l := rfl
theorem stp_word {R : Rl} {l : List Int} (ho : isWord R.o = true) (hl : isWord l = true) : isWord (stp R l) = true := isWord_putAll ho hl _
theorem stp_len {R : Rl} {l : List Int} (ho : R.o.length ≤ 2) : (stp R l).length ≤ l.length + (l.length + 1) * 2 := by
  have := putAll_len (j := 0) (plP_ok (R := R) (l := l)) ho
  have h2 := plP_len (R := R) (l := l)
  rw [List.drop_zero] at this
  unfold stp
  omega
theorem turn_drop {Ls : List Rl} {k : Nat} (hk : k < Ls.length) (m : List Int) : turnE (Ls.drop k) m = (if 8 < (stp (Ls.getD k ⟨0, [], [], []⟩) m).length then 3 else turnE (Ls.drop (k + 1)) (stp (Ls.getD k ⟨0, [], [], []⟩) m)) ∧
    turnV (Ls.drop k) m = (if 8 < (stp (Ls.getD k ⟨0, [], [], []⟩) m).length then [] else turnV (Ls.drop (k + 1)) (stp (Ls.getD k ⟨0, [], [], []⟩) m)) := by
  have hg : Ls.getD k ⟨0, [], [], []⟩ = Ls[k] := by simp [List.getD, List.getElem?_eq_getElem hk]
  rw [hg, List.drop_eq_getElem_cons hk]
  exact ⟨rfl, rfl⟩
def comE (R S : Rl) (l : List Int) : Int := if err3 R S l = 0 then (if turnE [R, S] l = 0 then turnE [S, R] l else turnE [R, S] l) else err3 R S l
def comB (R S : Rl) (l : List Int) : Bool := if comE R S l = 0 then Same (turnV [R, S] l) (turnV [S, R] l) else false
/-- is one of the four words too long -/
def fourB (R S : Rl) (l : List Int) : Bool := decide (8 < (stp R l).length) || (decide (8 < (stp S l).length) || (decide (8 < (stp S (stp R l)).length) || decide (8 < (stp R (stp S l)).length)))
theorem turn_two (R S : Rl) (l : List Int) : turnE [R, S] l = (if 8 < (stp R l).length then 3 else if 8 < (stp S (stp R l)).length then 3 else 0) ∧ turnV [R, S] l = (if 8 < (stp R l).length then [] else if 8 < (stp S (stp R l)).length then [] else stp S (stp R l)) := ⟨rfl, rfl⟩
theorem com_ref {R S : Rl} {l : List Int} (h : err3 R S l = 0) : comE R S l = (if fourB R S l then 3 else 0) ∧ comB R S l = (if fourB R S l then false else Same (stp S (stp R l)) (stp R (stp S l))) := by
  have hE : comE R S l = (if turnE [R, S] l = 0 then turnE [S, R] l else turnE [R, S] l) := if_pos h
  obtain ⟨a1, a2⟩ := turn_two R S l
  obtain ⟨b1, b2⟩ := turn_two S R l
  have key : comE R S l = (if fourB R S l then 3 else 0) := by
    rw [hE, a1, b1, fourB]
    by_cases h1 : 8 < (stp R l).length <;> by_cases h2 : 8 < (stp S l).length <;> by_cases h3 : 8 < (stp S (stp R l)).length <;> by_cases h4 : 8 < (stp R (stp S l)).length <;> simp [h1, h2, h3, h4]
  refine ⟨key, ?_⟩
  rw [comB, key, a2, b2, fourB]
  by_cases h1 : 8 < (stp R l).length <;> by_cases h2 : 8 < (stp S l).length <;> by_cases h3 : 8 < (stp S (stp R l)).length <;> by_cases h4 : 8 < (stp R (stp S l)).length <;> simp [h1, h2, h3, h4]
theorem fourB_swap (R S : Rl) (l : List Int) : fourB S R l = fourB R S l := by
  unfold fourB
  by_cases h1 : 8 < (stp R l).length <;> by_cases h2 : 8 < (stp S l).length <;> by_cases h3 : 8 < (stp S (stp R l)).length <;> by_cases h4 : 8 < (stp R (stp S l)).length <;> simp [h1, h2, h3, h4]
theorem err3_swap {R S : Rl} {l : List Int} (h : err3 R S l = 0) : err3 S R l = 0 := by
  obtain ⟨h1, h2⟩ := err3_ok h
  obtain ⟨y1, y2⟩ := errTwo_ok h1
  rw [err3, if_pos (by rw [errTwo, if_pos y2]; exact y1)]; exact h2
theorem com_err {R S : Rl} {l : List Int} (h : comE R S l = 0) : err3 R S l = 0 := by
  by_cases he : err3 R S l = 0
  · exact he
  · rw [comE, if_neg he] at h; exact h
theorem com_swap {R S : Rl} {l : List Int} (h : comE R S l = 0) : comE S R l = 0 ∧ comB S R l = comB R S l := by
  have he := com_err h
  obtain ⟨a1, a2⟩ := com_ref he
  obtain ⟨b1, b2⟩ := com_ref (err3_swap he)
  rw [fourB_swap] at b1 b2
  have hs : Same (stp R (stp S l)) (stp S (stp R l)) = Same (stp S (stp R l)) (stp R (stp S l)) := by
    unfold Same; exact decide_eq_decide.2 ⟨Eq.symm, Eq.symm⟩
  exact ⟨by rw [b1, ← a1]; exact h, by rw [b2, a2, hs]⟩
theorem com_no {R S : Rl} {l : List Int} (h : err3 R S l ≠ 0) : comE R S l = err3 R S l ∧ comB R S l = false := by
  have : comE R S l = err3 R S l := if_neg h
  exact ⟨this, by rw [comB, this, if_neg h]⟩
theorem turn_err (Ls : List Rl) (l : List Int) : turnE Ls l = 0 ∨ turnE Ls l = 3 := by
  induction Ls generalizing l with
  | nil => exact .inl rfl
  | cons R Rs ih =>
    rw [turnE]
    split
    · exact .inr rfl
    · exact ih _
end Go.Proofs.YtebbmhlkdfmmcaaGreat
