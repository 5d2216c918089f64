import Derived.Test.YtebbmhlkdfmmcaaGreatPgk
import Derived.Test.YtebbmhlkdfmmcaaGreatRgn
import Derived.Test.YtebbmhlkdfmmcaaGreatKa
namespace Go.Proofs.YtebbmhlkdfmmcaaGreat
open Go.RowKit Go.Proofs.Kv

theorem sides_left (a b : Value) (w : World) : (Instr.index 136 (.agg #[a, b]) (.int .i64 0)).run Tryz.prog w = .ok a w := by
  simp [Instr.index, run_underlying Tryz.underlying136, asIntOf, go_sem, part]
theorem sides_right (a b : Value) (w : World) : (Instr.index 136 (.agg #[a, b]) (.int .i64 1)).run Tryz.prog w = .ok b w := by
  simp [Instr.index, run_underlying Tryz.underlying136, asIntOf, go_sem, part]
/-! ### May -/
def okMay (s x : Int) : Bool := (decide (s = 0) || decide (s = 1)) && Within x (-1) 5
def errMay (R : Rl) (s x : Int) : Int := if validR R = 0 then (if okMay s x then 0 else 1) else validR R
def isMay (R : Rl) (s x : Int) : Bool := if validR R = 0 then (if okMay s x then (if s = 0 then mayL R.le x else mayL R.ri x) else false) else false
end Go.Proofs.YtebbmhlkdfmmcaaGreat
namespace Go.Proofs.YtebbmhlkdfmmcaaGreat
open Go.RowKit Go.Proofs.Kv

/-! ### isWithin, inside -/
def insN (a b : List Int) (k : Nat) : Bool := (List.range k).all fun j => !mayL a ((j : Int) - 1) || mayL b ((j : Int) - 1)
def insideW (a b : List Int) : Bool := insN a b 7
theorem insN_succ (a b : List Int) (k : Nat) : insN a b (k + 1) = (insN a b k && (!mayL a ((k : Int) - 1) || mayL b ((k : Int) - 1))) := by
  simp [insN, List.range_succ, Bool.and_comm]
theorem insN_no {a b : List Int} {k : Nat} (hk : k < 7) (ha : mayL a ((k : Int) - 1) = true) (hb : mayL b ((k : Int) - 1) = false) : insideW a b = false := by
  rw [insideW, insN, List.all_eq_false]
  exact ⟨k, List.mem_range.2 hk, by simp [ha, hb]⟩
theorem insideB_iff {a b : List Int} : insideW a b = true ↔ ∀ x : Int, -1 ≤ x → x ≤ 5 → mayL a x = true → mayL b x = true := by
  rw [insideW, insN, List.all_eq_true]
  constructor
  · intro h x h0 h5 ha
    have := h (x + 1).toNat (List.mem_range.2 (by omega))
    rw [show (((x + 1).toNat : Nat) : Int) - 1 = x by omega, ha] at this
    simpa using this
  · intro h k hk
    have hk := List.mem_range.1 hk
    cases ha : mayL a ((k : Int) - 1) with
    | false => simp
    | true => simp [h ((k : Int) - 1) (by omega) (by omega) ha]
end Go.Proofs.YtebbmhlkdfmmcaaGreat
namespace Go.Proofs.YtebbmhlkdfmmcaaGreat
open Go.RowKit Go.Proofs.Kv

/-! ### common, by the program and by the reference -/
def cmN (a b : List Int) (k : Nat) : List Int := ((List.range k).map fun j : Nat => (j : Int) - 1).filter fun x => mayL a x && mayL b x
def comL (a b : List Int) : List Int := cmN a b 7
theorem cm_hit {a b : List Int} {k : Nat} (h : (mayL a ((k : Int) - 1) && mayL b ((k : Int) - 1)) = true) : cmN a b (k + 1) = cmN a b k ++ [(k : Int) - 1] := by
  simp only [cmN, List.range_succ, List.map_append, List.filter_append, List.map_cons, List.map_nil, List.filter_cons, h, if_true, List.filter_nil]
theorem cm_miss {a b : List Int} {k : Nat} (h : (mayL a ((k : Int) - 1) && mayL b ((k : Int) - 1)) = false) : cmN a b (k + 1) = cmN a b k := by
  simp only [cmN, List.range_succ, List.map_append, List.filter_append, List.map_cons, List.map_nil, List.filter_cons, h, List.filter_nil]
  simp
theorem cm_le (a b : List Int) (k : Nat) : (cmN a b k).length ≤ k := by
  refine Nat.le_trans (List.length_filter_le _ _) ?_
  simp
theorem mem_com {a b : List Int} {x : Int} : x ∈ comL a b ↔ -1 ≤ x ∧ x ≤ 5 ∧ mayL a x = true ∧ mayL b x = true := by
  simp only [comL, cmN, List.mem_filter, List.mem_map, List.mem_range, Bool.and_eq_true]
  constructor
  · rintro ⟨⟨j, hj, rfl⟩, h⟩
    exact ⟨by omega, by omega, h⟩
  · rintro ⟨h0, h5, h⟩
    exact ⟨⟨(x + 1).toNat, by omega, by omega⟩, h⟩
end Go.Proofs.YtebbmhlkdfmmcaaGreat
namespace Go.Proofs.YtebbmhlkdfmmcaaGreat
open Go.RowKit Go.Proofs.Kv

/-! ### inside, two, IsSpecial -/
def errTwo (R S : Rl) : Int := if validR R = 0 then validR S else validR R
end Go.Proofs.YtebbmhlkdfmmcaaGreat
namespace Go.Proofs.YtebbmhlkdfmmcaaGreat
open Go.RowKit Go.Proofs.Kv

/-! ### Measure -/
def meaV (R : Rl) : Int := if validR R = 0 then (R.o.length : Int) + R.le.length + R.ri.length + tkN R else 0
end Go.Proofs.YtebbmhlkdfmmcaaGreat
