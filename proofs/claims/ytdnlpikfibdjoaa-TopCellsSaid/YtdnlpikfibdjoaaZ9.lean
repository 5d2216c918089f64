import Derived.Test.YtdnlpikfibdjoaaZvb
import Derived.Test.YtdnlpikfibdjoaaZva
import Derived.Test.YtdnlpikfibdjoaaZvc
namespace Go.Proofs.Ytdnlpikfibdjoaa
open Go.RowKit Go.Proofs.Kv

/-! ### the spec of both -/
def meetK (a b : List Int) (k : Nat) : List Int := (List.range k).map fun i => if a.getD i 0 = -1 then b.getD i 0 else a.getD i 0
def meetL (a b : List Int) : List Int := meetK a b a.length
/-- no trait has two values -/
def meetB (a b : List Int) : Bool := (List.range a.length).all fun i => decide (a.getD i 0 = -1) || (decide (b.getD i 0 = -1) || decide (a.getD i 0 = b.getD i 0))
/-- what the program's row holds when k places are behind it -/
def meetS (a b : List Int) (k : Nat) : List Int := meetK a b k ++ a.drop k
theorem meetK_len (a b : List Int) (k : Nat) : (meetK a b k).length = k := by simp [meetK]
theorem meetK_at {a b : List Int} {k i : Nat} (h : i < k) : (meetK a b k).getD i 0 = if a.getD i 0 = -1 then b.getD i 0 else a.getD i 0 := by
  unfold meetK
  rw [show ∀ (f : Nat → Int), ((List.range k).map f).getD i 0 = f i from fun f => by simp [List.getD, h]]
theorem meetK_succ (a b : List Int) (k : Nat) : meetK a b (k + 1) = meetK a b k ++ [if a.getD k 0 = -1 then b.getD k 0 else a.getD k 0] := by simp [meetK, List.range_succ]
theorem meetS_len {a b : List Int} {k : Nat} (h : k ≤ a.length) : (meetS a b k).length = a.length := by rw [meetS, List.length_append, meetK_len, List.length_drop]; omega
theorem meetS_at {a b : List Int} {k : Nat} : (meetS a b k).getD k 0 = a.getD k 0 := by
  have : (meetK a b k).length ≤ k := by rw [meetK_len]; exact Nat.le_refl _
  simp only [meetS, List.getD, List.getElem?_append_right this, meetK_len, Nat.sub_self, List.getElem?_drop, Nat.add_zero]
theorem meetS_free {a b : List Int} {k : Nat} (h : k < a.length) (hf : a.getD k 0 = -1) : meetS a b (k + 1) = (meetS a b k).set k (b.getD k 0) := by
  have : a.drop k = a.getD k 0 :: a.drop (k + 1) := by rw [List.drop_eq_getElem_cons h]; simp [List.getD, List.getElem?_eq_getElem h]
  rw [meetS, meetS, this, meetK_succ, if_pos hf, List.set_append_right _ _ (by rw [meetK_len]; exact Nat.le_refl _), meetK_len, Nat.sub_self, List.set_cons_zero, List.append_assoc]; rfl
theorem meetS_held {a b : List Int} {k : Nat} (h : k < a.length) (hf : ¬ a.getD k 0 = -1) : meetS a b (k + 1) = meetS a b k := by
  have : a.drop k = a.getD k 0 :: a.drop (k + 1) := by rw [List.drop_eq_getElem_cons h]; simp [List.getD, List.getElem?_eq_getElem h]
  rw [meetS, meetS, this, meetK_succ, if_neg hf, List.append_assoc]; rfl
theorem meetS_all {a b : List Int} : meetS a b a.length = meetL a b := by rw [meetS, List.drop_length, List.append_nil]; rfl
theorem meet_holds {a b : List Int} (h : b.length = a.length) : hB b (meetL a b) = meetB a b := by
  rw [Bool.eq_iff_iff, hB_iff]
  simp only [meetB, List.all_eq_true, List.mem_range, Bool.or_eq_true, decide_eq_true_eq]
  constructor
  · intro hh i hi
    have := hh i (by omega)
    rw [meetL, meetK_at hi] at this
    by_cases ha : a.getD i 0 = -1
    · exact .inl ha
    · rw [if_neg ha] at this
      rcases this with h1 | h1
      · exact .inr (.inl h1)
      · exact .inr (.inr h1.symm)
  · intro hh i hi
    have := hh i (by omega)
    rw [meetL, meetK_at (by omega)]
    by_cases ha : a.getD i 0 = -1
    · rw [if_pos ha]; exact .inr rfl
    · rw [if_neg ha]
      rcases this with h1 | h1 | h1
      · exact absurd h1 ha
      · exact .inl h1
      · exact .inr h1.symm
theorem own_put {w : World} {B E n cap g : Nat} {l : List Int} (h : w.ownsRow B E 1 (.slice (some ⟨g, 0, none⟩) n cap) n (l.map (Value.int .i64))) (k : Nat) (x : Int) :
    (w.setCell ⟨g, k, none⟩ (.int .i64 x)).ownsRow B E 1 (.slice (some ⟨g, 0, none⟩) n cap) n ((l.set k x).map (Value.int .i64)) := by
  rw [List.map_set]
  exact (h.stored k (.int .i64 x)).1
def meetR (a b : List Int) : List Int := if meetB a b then meetL a b else []
end Go.Proofs.Ytdnlpikfibdjoaa
