import Derived.Test.YtdnlpikfibdjoaaYH
import Derived.Test.YtdnlpikfibdjoaaYJ
namespace Go.Proofs.Ytdnlpikfibdjoaa
open Go.RowKit Go.Proofs.Kv Go

/-! ### groups of copies with the same readings -/
def mtG (T : List (List Int)) (r s : List Int) : Bool := decide (T.getD (s.getD 0 0).toNat [] = r)
def fstG (T : List (List Int)) (r : List Int) (G : List (List Int)) : Nat := G.findIdx (mtG T r)
def addG (T G : List (List Int)) (c : Nat) : List (List Int) :=
  if fstG T (T.getD c []) G < G.length then G.set (fstG T (T.getD c []) G) (G.getD (fstG T (T.getD c []) G) [] ++ [(c : Int)]) else G ++ [[(c : Int)]]
def dblG (T : List (List Int)) : Nat → List (List Int)
  | 0 => []
  | k + 1 => addG T (dblG T k) k
def sumL (G : List (List Int)) : Nat := (G.map List.length).sum
structure GoodG (n : Nat) (G : List (List Int)) : Prop where
  pos : ∀ j, j < G.length → 0 < (G.getD j []).length
  lo : ∀ j, j < G.length → 0 ≤ (G.getD j []).getD 0 0
  hi : ∀ j, j < G.length → (G.getD j []).getD 0 0 < n
  len : G.length ≤ n
  le : ∀ j, j < G.length → (G.getD j []).length ≤ n
  sum : sumL G = n
theorem sumL_set (G : List (List Int)) {j : Nat} (hj : j < G.length) (x : Int) : sumL (G.set j (G.getD j [] ++ [x])) = sumL G + 1 := by
  induction G generalizing j with
  | nil => simp at hj
  | cons r G ih =>
    cases j with
    | zero => simp [sumL, List.getD]; omega
    | succ j =>
      have := ih (j := j) (by simpa using hj)
      simp only [sumL, List.getD, List.set_cons_succ, List.getElem?_cons_succ, List.map_cons, List.sum_cons] at this ⊢
      omega
theorem sumL_app (G : List (List Int)) (x : Int) : sumL (G ++ [[x]]) = sumL G + 1 := by simp [sumL]
theorem getD_set7 (G : List (List Int)) {j : Nat} (hj : j < G.length) (r : List Int) (i : Nat) : (G.set j r).getD i [] = if i = j then r else G.getD i [] := by
  by_cases e : i = j
  · subst e; simp [List.getD, hj]
  · simp [List.getD, e, List.getElem?_set_ne (Ne.symm e)]
theorem addG_good {T G : List (List Int)} {k : Nat} (h : GoodG k G) : GoodG (k + 1) (addG T G k) := by
  unfold addG
  split
  · rename_i hj
    generalize fstG T (T.getD k []) G = j at hj
    have hg := getD_set7 G hj (G.getD j [] ++ [(k : Int)])
    have h0 : (G.getD j [] ++ [(k : Int)]).getD 0 0 = (G.getD j []).getD 0 0 := by
      rw [getD_app7, if_pos (h.pos j hj)]
    refine ⟨fun i hi => ?_, fun i hi => ?_, fun i hi => ?_, by rw [List.length_set]; have := h.len; omega, fun i hi => ?_, by rw [sumL_set G hj, h.sum]⟩ <;> rw [List.length_set] at hi <;> rw [hg i]
    · split
      · simp
      · exact h.pos i hi
    · split
      · rw [h0]; exact h.lo j hj
      · exact h.lo i hi
    · split
      · rw [h0]; have := h.hi j hj; omega
      · have := h.hi i hi; omega
    · split
      · rw [List.length_append, List.length_singleton]; have := h.le j hj; omega
      · have := h.le i hi; omega
  · have hg := getD_app7 G [(k : Int)] []
    refine ⟨fun i hi => ?_, fun i hi => ?_, fun i hi => ?_, by rw [List.length_append]; have := h.len; simp; omega, fun i hi => ?_, by rw [sumL_app, h.sum]⟩ <;> rw [List.length_append, List.length_singleton] at hi <;> rw [hg i]
    · split
      · rename_i hl; exact h.pos i hl
      · rw [show i - G.length = 0 by omega]; simp [List.getD]
    · split
      · rename_i hl; exact h.lo i hl
      · rw [show i - G.length = 0 by omega]; simp [List.getD]
    · split
      · rename_i hl; have := h.hi i hl; omega
      · rw [show i - G.length = 0 by omega]; show (k : Int) < ((k + 1 : Nat) : Int); omega
    · split
      · rename_i hl; have := h.le i hl; omega
      · rw [show i - G.length = 0 by omega]; simp [List.getD]
theorem dblG_good (T : List (List Int)) : ∀ k, GoodG k (dblG T k)
  | 0 => ⟨fun j h => absurd h (by simp [dblG]), fun j h => absurd h (by simp [dblG]), fun j h => absurd h (by simp [dblG]), Nat.zero_le _, fun j h => absurd h (by simp [dblG]), rfl⟩
  | k + 1 => addG_good (dblG_good T k)
theorem fstG_hit {T G : List (List Int)} {r : List Int} {k : Nat} (hk : k < G.length) (h : mtG T r (G.getD k []) = true) (hb : ∀ j, j < k → mtG T r (G.getD j []) = false) : fstG T r G = k := by
  unfold fstG
  rw [List.findIdx_eq hk]
  refine ⟨by simpa [List.getD, hk] using h, fun j hj => ?_⟩
  have := hb j hj
  simpa [List.getD, show j < G.length by omega] using this
theorem fstG_none {T G : List (List Int)} {r : List Int} {n : Nat} (hn : G.length = n) (hb : ∀ j, j < n → mtG T r (G.getD j []) = false) : fstG T r G = n := by
  unfold fstG
  rw [← hn]
  refine List.findIdx_eq_length.2 fun x hx => ?_
  obtain ⟨i, hi, rfl⟩ := List.mem_iff_getElem.1 hx
  have := hb i (by omega)
  simpa [List.getD, hi] using this
/-! ### equality of two lists, either way -/
theorem ext7 {l l' : List Int} {n : Nat} (h : l.length = n) (h' : l'.length = n) (hh : ∀ j, j < n → l.getD j 0 = l'.getD j 0) : l = l' := by
  apply List.ext_getElem (by omega)
  intro i h1 h2
  have := hh i (by omega)
  simpa [List.getD, h1, h2] using this
set_option maxRecDepth 100000 in
set_option maxHeartbeats 2000000 in
theorem equal7_calls (a : Option Addr) (n c : Nat) (l : List Int) (a' : Option Addr) (n' c' : Nat) (l' : List Int) (w : World) (h : IntsAt w a n c l) (h' : IntsAt w a' n' c' l') :
    Calls Try.prog 60 #[.slice a n c, .slice a' n' c'] w fun e w' => e = .returned (.bool (decide (l = l'))) ∧ ∃ q, w' = w.drewN q := by
  have hn : n ≤ 9223372036854775807 := Nat.le_trans h.le h.small
  by_cases hnn : n = n'
  · subst hnn
    have hb1 : ((n : Int) != (n : Int)) = false := by simp
    go_enter Try.func60, Try.ntmps60
    go_wp2
    go_loopw [13] (fun i wr => ∃ k q : Nat, k ≤ n ∧ i = .int .i64 k ∧ wr = w.drewN q ∧ ∀ j, j < k → l.getD j 0 = l'.getD j 0) (fun i _ => n - (intOf i).toNat)
    case atStart => exact ⟨0, 0, Nat.zero_le _, rfl, rfl, fun _ h => absurd h (by omega)⟩
    case round =>
      obtain ⟨k, q, hk, rfl, rfl, hall⟩ := hrel
      have Hall := hid_ hall; clear hall
      by_cases hlt : k < n
      · obtain ⟨b, off, rfl, hb, hcell⟩ := h.cells k hlt
        obtain ⟨b', off', rfl, hb', hcell'⟩ := h'.cells k hlt
        generalize hy : l.getD k 0 = y at hcell
        have Hy := hid_ hy; clear hy
        generalize hy' : l'.getD k 0 = y' at hcell'
        have Hy' := hid_ hy'; clear hy'
        by_cases he : y = y'
        · have hq : (y != y') = false := by simpa using he
          have He := hid_ he; clear he
          go_wp2_with fail
          go_quiet (fail)
          go_wp2
          go_roundw
          case rel => exact ⟨k + 1, _, by omega, by go_num, rfl, fun j hj => by by_cases e : j = k; subst e; rw [Hy.out, Hy'.out]; exact He.out; exact Hall.out j (by omega)⟩
          case measure => simp [intOf]; omega
        · have hq : (y != y') = true := by simpa using he
          have Hf : Hid (decide (l = l') = false) := by
            refine hid_ (decide_eq_false fun e => he ?_)
            rw [← Hy.out, ← Hy'.out, e]
          have He := hid_ he; clear he
          go_wp2_with fail
          go_quiet (fail)
          go_wp2
          go_ret
          exact ⟨by rw [Hf.out]; rfl, _, drewN2 _ _ _⟩
      · have Hf : Hid (decide (l = l') = true) := hid_ (decide_eq_true (ext7 h.len h'.len fun j hj => Hall.out j (by omega)))
        go_wp2
        go_ret
        exact ⟨by rw [Hf.out]; rfl, _, rfl⟩
  · have hb1 : ((n : Int) != (n' : Int)) = true := by simp; omega
    have Hf : Hid (decide (l = l') = false) := hid_ (decide_eq_false fun e => hnn (by rw [← h.len, ← h'.len, e]))
    have Hn := hid_ hnn; clear hnn
    go_enter Try.func60, Try.ntmps60
    go_wp2
    go_ret
    exact ⟨by rw [Hf.out]; rfl, 0, rfl⟩
end Go.Proofs.Ytdnlpikfibdjoaa
