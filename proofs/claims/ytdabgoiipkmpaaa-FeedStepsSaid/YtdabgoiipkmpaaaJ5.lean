import Derived.Test.YtdabgoiipkmpaaaJ4
import Derived.Laws.StructEq
namespace Go.Proofs.Ytdabgoiipkmpaaa
open Go.RowKit Go.Proofs.Kv


theorem eqStep (x x' y y' : Int) (W : World) : (Op.equalIn 10000 74 (.agg #[.int .i64 x, .int .i64 y]) (.agg #[.int .i64 x', .int .i64 y'])).run Try.prog W = .ok (x == x' && y == y') W := by
  have u3 := Try.underlying3
  have a3 : ∀ w, (isAgg 3).run Try.prog w = .ok false w := fun w => by kernel_rfl
  have z3 : ∀ w, (sizeOf 3).run Try.prog w = .ok 1 w := fun w => by kernel_rfl
  have hS : Try.prog.underlying 74 = some (.struct (Try.prog.fieldsOf 74)) := by kernel_rfl
  have hp : Try.prog.stoodInHeld 74 = false := by kernel_rfl
  rw [show (10000 : Nat) = 9999 + 1 from rfl, run_equalIn_agg W 9999 74 _ _ hS hp]
  simp only [Program.fieldsOf, Try.underlying74]
  go_simp
  by_cases h1 : x = x' <;> by_cases h2 : y = y' <;> simp [h1, h2]
theorem neqStep (x x' y y' : Int) (W : World) : (binOp .neq 74 (.agg #[.int .i64 x, .int .i64 y]) (.agg #[.int .i64 x', .int .i64 y'])).run Try.prog W = .ok (.bool (!(x == x' && y == y'))) W := by
  rw [run_neq_struct, eqStep]; rfl

/-! ### SameStepsames -/
def SameSt (l m : List (Int × Int)) : Bool := decide (l = m)
theorem ext_getDS {l m : List (Int × Int)} {n : Nat} (h1 : l.length = n) (h2 : m.length = n) (h : ∀ j, j < n → l.getD j (0, 0) = m.getD j (0, 0)) : l = m := by
  refine List.ext_getElem (by omega) fun i h3 h4 => ?_
  have := h i (by omega)
  simpa [List.getD, List.getElem?_eq_getElem h3, List.getElem?_eq_getElem h4] using this

set_option maxRecDepth 100000 in
theorem sameSt_calls (a : Option Addr) (n c : Nat) (l : List (Int × Int)) (a' : Option Addr) (n' c' : Nat) (l' : List (Int × Int)) (w : World) (h : PairsAt w a n c l) (h' : PairsAt w a' n' c' l') :
    Calls Try.prog 22 #[.slice a n c, .slice a' n' c'] w fun e w' => e = .returned (.bool (SameSt l l')) ∧ ∃ q, w' = w.drewN q := by
  have hn : n ≤ 9223372036854775807 := Nat.le_trans h.le h.small
  by_cases hnn : n = n'
  · subst hnn
    have hb1 : ((n : Int) != (n : Int)) = false := by simp
    go_enter Try.func22, Try.ntmps22
    go_wp2
    go_loopw [5] (fun i wr => ∃ k q : Nat, k ≤ n ∧ i = .int .i64 k ∧ wr = w.drewN q ∧ ∀ j, j < k → l.getD j (0, 0) = l'.getD j (0, 0)) (fun i _ => n - (intOf i).toNat)
    case atStart => exact ⟨0, 0, Nat.zero_le _, rfl, rfl, fun _ h => absurd h (by omega)⟩
    case round =>
      obtain ⟨k, q, hk, rfl, hq, hall⟩ := hrel
      have hI : PairsAt wr a n c l := by rw [hq]; exact h.drewN q
      have hI' : PairsAt wr a' n c' l' := by rw [hq]; exact h'.drewN q
      have Hq := hid_ hq; clear hq
      have Hall := hid_ hall; clear hall
      by_cases hlt : k < n
      · obtain ⟨b, off, rfl, hb, hc1, hc2⟩ := hI.cells k hlt
        obtain ⟨b', off', rfl, hb', hc1', hc2'⟩ := hI'.cells k hlt
        generalize hy : l.getD k (0, 0) = y at hc1 hc2
        have Hy := hid_ hy; clear hy
        generalize hy' : l'.getD k (0, 0) = y' at hc1' hc2'
        have Hy' := hid_ hy'; clear hy'
        obtain ⟨x1, x2⟩ := y
        obtain ⟨y1, y2⟩ := y'
        simp only at hc1 hc2 hc1' hc2'
        by_cases he : x1 = y1 ∧ x2 = y2
        · have hneq : ∀ W, (binOp .neq 74 (.agg #[.int .i64 x1, .int .i64 x2]) (.agg #[.int .i64 y1, .int .i64 y2])).run Try.prog W = .ok (.bool false) W := fun W => by rw [neqStep, he.1, he.2]; simp
          have He := hid_ he; clear he
          go_wp2
          go_quiet (fail)
          go_wp2
          go_roundw
          case rel => exact ⟨k + 1, _, by omega, by go_num, by rw [Hq.out, drewN2], lt_snoc Hall.out (by rw [Hy.out, Hy'.out, He.out.1, He.out.2])⟩
          case measure => simp [intOf]; omega
        · have hneq : ∀ W, (binOp .neq 74 (.agg #[.int .i64 x1, .int .i64 x2]) (.agg #[.int .i64 y1, .int .i64 y2])).run Try.prog W = .ok (.bool true) W := fun W => by
            rw [neqStep]
            have : (x1 == y1 && x2 == y2) = false := by simpa using he
            rw [this]; rfl
          have Hf : Hid (SameSt l l' = false) := by
            refine hid_ (decide_eq_false fun e => he ?_)
            have : ((x1, x2) : Int × Int) = (y1, y2) := by rw [← Hy.out, ← Hy'.out, e]
            injection this with e1 e2
            exact ⟨e1, e2⟩
          have He := hid_ he; clear he
          go_wp2
          go_quiet (fail)
          go_wp2
          go_ret
          exact ⟨retB Hf.out, _, by rw [Hq.out, drewN2]⟩
      · have Hf : Hid (SameSt l l' = true) := hid_ (decide_eq_true (ext_getDS h.len h'.len fun j hj => Hall.out j (by omega)))
        go_wp2
        go_ret
        exact ⟨retB Hf.out, _, Hq.out⟩
  · have hb1 : ((n : Int) != (n' : Int)) = true := by simp; omega
    have Hf : Hid (SameSt l l' = false) := hid_ (decide_eq_false fun e => hnn (by rw [← h.len, ← h'.len, e]))
    have Hn := hid_ hnn; clear hnn
    go_enter Try.func22, Try.ntmps22
    go_wp2
    go_ret
    exact ⟨retB Hf.out, 0, rfl⟩
end Go.Proofs.Ytdabgoiipkmpaaa
