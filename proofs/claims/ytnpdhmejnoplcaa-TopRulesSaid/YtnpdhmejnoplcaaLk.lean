import Derived.Test.YtnpdhmejnoplcaaLae
import Derived.Test.YtnpdhmejnoplcaaLd
import Derived.Test.YtnpdhmejnoplcaaMbd
import Derived.Test.YtnpdhmejnoplcaaPst
namespace Go.Proofs.Ytnpdhmejnoplcaa
open Go.RowKit Go.Proofs.Kv

/-! ### part; two rules in one value -/
theorem partB_no {l m : List Int} {k : Nat} (hk : k < l.length) (h : Has m (l.getD k 0) = false) : partB l m = false := by
  rw [Bool.eq_false_iff, partB]
  intro hc
  have := List.all_eq_true.1 hc _ (getD_mem hk)
  rw [h] at this; cases this
theorem partB_yes {l m : List Int} {n : Nat} (hn : l.length = n) (h : ∀ j, j < n → Has m (l.getD j 0) = true) : partB l m = true := by
  rw [partB, List.all_eq_true]
  intro x hx
  obtain ⟨k, hk, rfl⟩ := mem_getD hx
  exact h k (by omega)
theorem part_calls (a : Option Addr) (n c : Nat) (l : List Int) (a' : Option Addr) (n' c' : Nat) (m : List Int) (w : World) (h : IntsAt w a n c l) (h' : IntsAt w a' n' c' m) :
    Calls Try.prog 50 #[.slice a n c, .slice a' n' c'] w fun e w' => e = .returned (.bool (partB l m)) ∧ w = w' := by
  have hn : n ≤ 9223372036854775807 := Nat.le_trans h.le h.small
  have HH := hid_ (fun x => has_calls a' n' c' m x w h')
  go_enter Try.func50, Try.ntmps50
  go_wp2
  go_loop [5] (fun i => ∃ k : Nat, k ≤ n ∧ i = .int .i64 k ∧ ∀ j, j < k → Has m (l.getD j 0) = true) (fun i => n - (intOf i).toNat)
  case atStart => exact ⟨0, Nat.zero_le _, rfl, fun _ h => absurd h (by omega)⟩
  case round =>
    obtain ⟨k, hk, rfl, hall⟩ := hrel
    have Hall := hid_ hall; clear hall
    by_cases hlt : k < n
    · obtain ⟨b, off, rfl, hb, hcell⟩ := h.cells k hlt
      have HC := hid_ (HH.out (l.getD k 0))
      have Hn := hid_ (fun he => @partB_no l m k (by rw [h.len]; exact hlt) he)
      have Hy : Hid (∀ b, Has m (l.getD k 0) = b → Has m (l.getD k 0) = b) := hid_ (fun b h => h)
      generalize hx : Has m (l.getD k 0) = x at HC Hn
      have Hx := hid_ hx; clear hx
      generalize l.getD k 0 = y at hcell HC
      cases x with
      | false =>
        have Hf := hid_ (Hn.out rfl)
        go_wp2_with (go_at_call 103; (with_reducible refine HC.out.mono ?_); rintro e w2 ⟨rfl, rfl⟩)
        go_ret
        exact ⟨retB Hf.out, rfl⟩
      | true =>
        go_wp2_with (go_at_call 103; (with_reducible refine HC.out.mono ?_); rintro e w2 ⟨rfl, rfl⟩)
        go_round
        case rel => exact ⟨k + 1, by omega, by go_num, lt_snoc Hall.out Hx.out⟩
        case measure => simp [intOf]; omega
    · have Hf : Hid (partB l m = true) := hid_ (partB_yes h.len fun j hj => Hall.out j (by omega))
      go_wp2
      go_ret
      exact ⟨retB Hf.out, rfl⟩
/-- eight cells that were boxed read the same while only newer blocks turn -/
theorem box8 {w w1 W : World} {v0 v1 v2 v3 v4 v5 v6 v7 : Value} {T : TypeId} (hw1 : w.alloc (.cells #[v0, v1, v2, v3, v4, v5, v6, v7] T) = w1) (hb : Below w1.heap.size w1 W) :
    W.cell? ⟨w.heap.size, 0, none⟩ = some v0 ∧ W.cell? ⟨w.heap.size, 1, none⟩ = some v1 ∧ W.cell? ⟨w.heap.size, 2, none⟩ = some v2 ∧ W.cell? ⟨w.heap.size, 3, none⟩ = some v3 ∧ W.cell? ⟨w.heap.size, 4, none⟩ = some v4 ∧ W.cell? ⟨w.heap.size, 5, none⟩ = some v5 ∧ W.cell? ⟨w.heap.size, 6, none⟩ = some v6 ∧ W.cell? ⟨w.heap.size, 7, none⟩ = some v7 := by
  have hz : w.heap.size < w1.heap.size := by rw [← hw1]; simp
  refine ⟨(hb.cell (p := ⟨w.heap.size, 0, none⟩) hz).trans ?_, (hb.cell (p := ⟨w.heap.size, 1, none⟩) hz).trans ?_, (hb.cell (p := ⟨w.heap.size, 2, none⟩) hz).trans ?_, (hb.cell (p := ⟨w.heap.size, 3, none⟩) hz).trans ?_, (hb.cell (p := ⟨w.heap.size, 4, none⟩) hz).trans ?_, (hb.cell (p := ⟨w.heap.size, 5, none⟩) hz).trans ?_, (hb.cell (p := ⟨w.heap.size, 6, none⟩) hz).trans ?_, (hb.cell (p := ⟨w.heap.size, 7, none⟩) hz).trans ?_⟩ <;> (rw [← hw1, cells_alloc]; rfl)
/-- the value v reads as the two rules R, S -/
def TwoAt (w : World) (v : Value) (R S : Rl) : Prop :=
  ∃ c0 c1 c2 c3 c4 c5 c6 c7, v = .agg #[c0, c1, c2, c3, c4, c5, c6, c7] ∧ RuleAt w (.agg #[c0, c1, c2, c3]) R ∧ RuleAt w (.agg #[c4, c5, c6, c7]) S
end Go.Proofs.Ytnpdhmejnoplcaa
