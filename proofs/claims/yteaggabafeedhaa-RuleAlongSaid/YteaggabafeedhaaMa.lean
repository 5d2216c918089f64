import Derived.Test.YteaggabafeedhaaPk
namespace Go.Proofs.Yteaggabafeedhaa
open Go.RowKit Go.Proofs.Kv

/-! ### a rule without neighbors: along is all at once -/
def rep (R : Rl) (s : List Int) : List Int := s.flatMap fun x => if x = R.f then R.o else [x]
theorem rep_cons (R : Rl) (x : Int) (s : List Int) : rep R (x :: s) = (if x = R.f then R.o else [x]) ++ rep R s := rfl
theorem plB_free {R : Rl} {l : List Int} {i : Nat} (hf : 0 ≤ R.f) (hl : R.le = []) (hr : R.ri = []) : plB R.f R.le R.ri l i = (atL l i == R.f) := by
  unfold plB
  rw [if_neg (by omega), hl, hr]
  by_cases h : (l.length : Int) < i
  · rw [if_pos h]
    have : atL l i = -1 := by unfold atL Within; rw [decide_eq_false (by omega : ¬ (i : Int) ≤ (l.length : Int) - 1)]; simp
    rw [this]
    simp; omega
  · rw [if_neg h, if_neg (by omega)]
    simp [mayL]
theorem atL_in {l : List Int} {i : Nat} (h : i < l.length) : atL l i = l.getD i 0 := by
  unfold atL Within
  rw [decide_eq_true (by omega : (0 : Int) ≤ (i : Int)), decide_eq_true (by omega : (i : Int) ≤ (l.length : Int) - 1)]
  simp
theorem atL_end (l : List Int) : atL l (l.length : Int) = -1 := by
  unfold atL Within
  rw [decide_eq_false (by omega : ¬ (l.length : Int) ≤ (l.length : Int) - 1)]
  simp
theorem getD_mid (p s : List Int) (x : Int) : (p ++ x :: s).getD p.length 0 = x := by simp [List.getD]
theorem putL_mid (p s o : List Int) (x : Int) : putL (p ++ x :: s) p.length (p.length + 1) o = p ++ o ++ s := by
  unfold putL
  rw [List.take_left' rfl, show p ++ x :: s = (p ++ [x]) ++ s by simp, List.drop_left' (by simp)]
theorem tk_one {R : Rl} (hf : 0 ≤ R.f) : tkN R = 1 := by unfold tkN; rw [if_neg (by omega)]
theorem rep_len {R : Rl} (ho : 1 ≤ R.o.length) (s : List Int) : s.length ≤ (rep R s).length := by
  induction s with
  | nil => exact Nat.zero_le _
  | cons x s ih =>
    rw [rep_cons, List.length_append, List.length_cons]
    split
    · omega
    · rw [List.length_singleton]; omega
theorem along_rep {R : Rl} (hf : 0 ≤ R.f) (hl : R.le = []) (hr : R.ri = []) (s : List Int) : ∀ p : List Int, (p ++ s).length ≤ 8 →
    alongF R (s.length + 1) (p ++ s) p.length = if 8 < (p ++ rep R s).length then none else some (p ++ rep R s) := by
  induction s with
  | nil =>
    intro p h8
    rw [List.append_nil] at h8
    rw [List.length_nil, List.append_nil, alongF, plB_free hf hl hr, atL_end]
    have : ((-1 : Int) == R.f) = false := by simp; omega
    rw [this, show rep R [] = [] from rfl, List.append_nil, if_neg (show ¬ 8 < p.length by omega)]
    simp [alongF]
  | cons x s ih =>
    intro p h8
    rw [List.length_cons, alongF, plB_free hf hl hr, atL_in (by simp), getD_mid, tk_one hf, putL_mid, rep_cons]
    by_cases hx : x = R.f
    · rw [if_pos hx, hx]
      simp only [beq_self_eq_true, if_true]
      by_cases hlen : 8 < (p ++ R.o ++ s).length
      · rw [if_pos hlen]
        simp only [List.length_append, List.length_cons] at hlen h8
        have := rep_len (R := R) (by omega) s
        rw [if_pos (by simp only [List.length_append]; omega)]
      · rw [if_neg hlen]
        have := ih (p ++ R.o) (by omega)
        rw [List.length_append] at this
        rw [show p.length + R.o.length + 1 - 1 = p.length + R.o.length by omega, this, List.append_assoc]
    · rw [if_neg hx]
      have hb : (x == R.f) = false := by simpa using hx
      rw [hb]
      have := ih (p ++ [x]) (by simpa using h8)
      rw [List.length_append, List.append_assoc, List.append_assoc] at this
      simpa using this
theorem all_rep {R : Rl} (hf : 0 ≤ R.f) (hl : R.le = []) (hr : R.ri = []) (l : List Int) : ∀ k, k ≤ l.length → ∀ t, putAll R (pl (plB R.f R.le R.ri l) k) (l.take k ++ t) = rep R (l.take k) ++ t := by
  intro k
  induction k with
  | zero => intro _ t; simp [pl_zero, putAll, rep]
  | succ k ih =>
    intro hk t
    have hlt : k < l.length := by omega
    have ht : l.take (k + 1) = l.take k ++ [l.getD k 0] := by
      rw [List.take_add_one]; simp [List.getD, List.getElem?_eq_getElem hlt]
    have hlen : (l.take k).length = k := by rw [List.length_take]; omega
    have hr1 : rep R (l.take k ++ [l.getD k 0]) = rep R (l.take k) ++ (if l.getD k 0 = R.f then R.o else [l.getD k 0]) := by simp [rep]
    have hp := plB_free (l := l) (i := k) hf hl hr
    rw [atL_in hlt] at hp
    rw [ht, hr1]
    by_cases hx : l.getD k 0 = R.f
    · have hsn : ∀ (P v : List Int), putAll R (P ++ [(k : Int)]) v = putAll R P (putL v k (k + tkN R) R.o) := fun P v => by simp [putAll, List.foldr_append]
      rw [pl_hit (by rw [hp, hx]; simp), if_pos hx, hsn]
      have hm := putL_mid (l.take k) t R.o (l.getD k 0)
      rw [hlen] at hm
      rw [tk_one hf, List.append_assoc, List.singleton_append, hm, List.append_assoc, ih (by omega), List.append_assoc]
    · rw [pl_miss (by rw [hp]; simpa using hx), if_neg hx, List.append_assoc, ih (by omega), List.append_assoc]
theorem all_rep' {R : Rl} (hf : 0 ≤ R.f) (hl : R.le = []) (hr : R.ri = []) (l : List Int) : putAll R (plP R l) l = rep R l := by
  have h := all_rep hf hl hr l l.length (Nat.le_refl _) []
  rw [List.take_length, List.append_nil, List.append_nil] at h
  have hp := plB_free (l := l) (i := l.length) hf hl hr
  rw [atL_end] at hp
  have : ((-1 : Int) == R.f) = false := by simp; omega
  rw [this] at hp
  rw [plP, pl_miss hp]
  exact h
theorem along_all {R : Rl} (hf : 0 ≤ R.f) (hl : R.le = []) (hr : R.ri = []) (l : List Int) : errAlong R l = errAll R l ∧ resAlong R l = resAll R l := by
  unfold errAlong errAll resAlong resAll
  by_cases he : err2 R l = 0
  · rw [if_pos he, if_pos he, if_pos he, if_pos he]
    have h8 := (validW_ok (err2_ok he).2).1
    have h1 := along_rep hf hl hr l [] (by simpa using h8)
    rw [List.nil_append, List.nil_append, List.length_nil] at h1
    unfold alongP putErr putRes
    rw [h1, all_rep' hf hl hr]
    split <;> simp
  · rw [if_neg he, if_neg he, if_neg he, if_neg he]
    exact ⟨rfl, rfl⟩
end Go.Proofs.Yteaggabafeedhaa
