import Derived.Test.YtdabgoiipkmpaaaMbd
import Derived.Deep.RegionHeld3
import Derived.Laws.EntriesVeiled
namespace Go.Proofs.Ytdabgoiipkmpaaa
open Go.RowKit Go.Proofs.Kv

/-! ### inTurn, slices.Equal -/
def TurnPost (w : World) (er : Int) (m : List Int) (e : Ending) (w' : World) : Prop :=
  ∃ a n c, e = .returned (.tuple #[.slice a n c, .int .i64 er]) ∧ IntsAt w' a n c m ∧ Below w.heap.size w w'
set_option maxRecDepth 100000 in
theorem equalP_calls (a : Option Addr) (n c : Nat) (l : List Int) (a' : Option Addr) (n' c' : Nat) (l' : List Int) (w : World) (h : IntsAt w a n c l) (h' : IntsAt w a' n' c' l') :
    Calls Try.prog 63 #[.slice a n c, .slice a' n' c'] w fun e w' => e = .returned (.bool (Same l l')) ∧ ∃ q, w' = w.drewN q := by
  have hn : n ≤ 9223372036854775807 := Nat.le_trans h.le h.small
  by_cases hnn : n = n'
  · subst hnn
    have hb1 : ((n : Int) != (n : Int)) = false := by simp
    go_enter Try.func63, Try.ntmps63
    go_wp2
    go_loopw [13] (fun i wr => ∃ k q : Nat, k ≤ n ∧ i = .int .i64 k ∧ wr = w.drewN q ∧ ∀ j, j < k → l.getD j 0 = l'.getD j 0) (fun i _ => n - (intOf i).toNat)
    case atStart => exact ⟨0, 0, Nat.zero_le _, rfl, rfl, fun _ h => absurd h (by omega)⟩
    case round =>
      obtain ⟨k, q, hk, rfl, rfl, hall⟩ := hrel
      have Hall := hid_ hall; clear hall
      by_cases hlt : k < n
      · obtain ⟨b, off, rfl, hb, hcell⟩ := h.cells k hlt
        obtain ⟨b', off', rfl, hb', hcell'⟩ := h'.cells k hlt
        generalize hy : l.getD k 0 = y at hcell
        have Hy := hid_ hy; clear hy
        generalize hy' : l'.getD k 0 = y' at hcell'
        have Hy' := hid_ hy'; clear hy'
        by_cases he : y = y'
        · have hq : (y != y') = false := by simpa using he
          have He := hid_ he; clear he
          go_wp2
          go_quiet (fail)
          go_wp2
          go_roundw
          case rel => exact ⟨k + 1, _, by omega, by go_num, rfl, lt_snoc Hall.out (by rw [Hy.out, Hy'.out]; exact He.out)⟩
          case measure => simp [intOf]; omega
        · have hq : (y != y') = true := by simpa using he
          have Hf : Hid (Same l l' = false) := by
            refine hid_ (decide_eq_false fun e => he ?_)
            rw [← Hy.out, ← Hy'.out, e]
          have He := hid_ he; clear he
          go_wp2
          go_quiet (fail)
          go_wp2
          go_ret
          exact ⟨retB Hf.out, _, drewN2 _ _ _⟩
      · have Hf : Hid (Same l l' = true) := hid_ (decide_eq_true (ext_getD h.len h'.len fun j hj => Hall.out j (by omega)))
        go_wp2
        go_ret
        exact ⟨retB Hf.out, _, rfl⟩
  · have hb1 : ((n : Int) != (n' : Int)) = true := by simp; omega
    have Hf : Hid (Same l l' = false) := hid_ (decide_eq_false fun e => hnn (by rw [← h.len, ← h'.len, e]))
    have Hn := hid_ hnn; clear hnn
    go_enter Try.func63, Try.ntmps63
    go_wp2
    go_ret
    exact ⟨retB Hf.out, 0, rfl⟩
end Go.Proofs.Ytdabgoiipkmpaaa
