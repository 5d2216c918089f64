import Derived.Test.YtahknodnjjmagaaZc
namespace Go.Proofs.Ytahknodnjjmagaa
open Go.RowKit Go.Proofs.Kv

/-! ### a spec holds for a cell (or for all cells of a spec) -/
def hB (sp c : List Int) : Bool := (List.range sp.length).all fun i => decide (sp.getD i 0 = -1) || decide (sp.getD i 0 = c.getD i 0)
theorem hB_no {sp c : List Int} {k : Nat} (hk : k < sp.length) (h : (decide (sp.getD k 0 = -1) || decide (sp.getD k 0 = c.getD k 0)) = false) : hB sp c = false := by
  rw [hB]
  exact List.all_eq_false.2 ⟨k, List.mem_range.2 hk, by rw [h]; simp⟩
theorem hB_yes {sp c : List Int} {n : Nat} (hn : sp.length = n) (h : ∀ j, j < n → (decide (sp.getD j 0 = -1) || decide (sp.getD j 0 = c.getD j 0)) = true) : hB sp c = true := by
  rw [hB, hn]
  exact List.all_eq_true.2 fun i hi => h i (List.mem_range.1 hi)
set_option maxRecDepth 100000 in
set_option maxHeartbeats 2000000 in
theorem ceWithin_calls (a : Option Addr) (n c : Nat) (l : List Int) (a' : Option Addr) (n' c' : Nat) (m : List Int) (w : World) (h : IntsAt w a n c l) (h' : IntsAt w a' n' c' m) (hle : n' ≤ n) :
    Calls Try.prog 99 #[.slice a n c, .slice a' n' c', .int .i64 (-1)] w fun e w' => e = .returned (.bool (hB m l)) ∧ w = w' := by
  have hn : n ≤ 9223372036854775807 := Nat.le_trans h.le h.small
  have HY := hid_ (@hB_yes m l n' h'.len)
  have HN := hid_ (fun k (hk : k < n') => @hB_no m l k (by rw [h'.len]; exact hk))
  go_enter Try.func99, Try.ntmps99
  go_wp2
  go_loop [11] (fun i => ∃ k : Nat, k ≤ n' ∧ i = .int .i64 k ∧ ∀ j, j < k → (decide (m.getD j 0 = -1) || decide (m.getD j 0 = l.getD j 0)) = true) (fun i => n' - (intOf i).toNat)
  case atStart => exact ⟨0, Nat.zero_le _, rfl, fun _ h => absurd h (by omega)⟩
  case round =>
    obtain ⟨k, hk, rfl, hall⟩ := hrel
    have Hall := hid_ hall
    clear hall
    by_cases hlt : k < n'
    · obtain ⟨b, off, rfl, -, hc⟩ := h'.cells k hlt
      obtain ⟨b2, off2, rfl, -, hc2⟩ := h.cells k (by omega)
      have hkn : k < n := by omega
      have hno := HN.out k hlt
      have hy := fun hx => lt_snoc (p := fun j => (decide (m.getD j 0 = -1) || decide (m.getD j 0 = l.getD j 0)) = true) Hall.out hx
      generalize m.getD k 0 = x at *
      generalize l.getD k 0 = y at *
      by_cases h0 : x = -1
      · have Hf := hid_ (hy (by rw [decide_eq_true h0]; rfl))
        clear hy hno
        subst h0
        go_wp2
        go_round
        case rel => exact ⟨k + 1, by omega, by go_num, Hf.out⟩
        case measure => simp [intOf]; omega
      · by_cases h1 : x = y
        · have Hf := hid_ (hy (by rw [decide_eq_true h1, Bool.or_true]))
          clear hy hno
          subst h1
          go_wp2
          go_round
          case rel => exact ⟨k + 1, by omega, by go_num, Hf.out⟩
          case measure => simp [intOf]; omega
        · have Hf := hid_ (hno (by rw [decide_eq_false h0, decide_eq_false h1]; rfl))
          have b0 : (x != -1) = true := by simpa using h0
          have b1 : (x != y) = true := by simpa using h1
          clear hy hno h0 h1
          go_wp2
          go_ret
          exact ⟨retB Hf.out, rfl⟩
    · obtain rfl : n' = k := by omega
      have Hf := hid_ (HY.out Hall.out)
      go_wp2
      go_ret
      exact ⟨retB Hf.out, rfl⟩
set_option maxRecDepth 100000 in
set_option maxHeartbeats 2000000 in
theorem holds_calls (a : Option Addr) (n c : Nat) (l : List Int) (a' : Option Addr) (n' c' : Nat) (m : List Int) (w : World) (h : IntsAt w a n c l) (h' : IntsAt w a' n' c' m) (hle : n' ≤ n) (hge : ∀ j, j < n' → -1 ≤ m.getD j 0) :
    Calls Try.prog 52 #[.slice a' n' c', .slice a n c] w fun e w' => e = .returned (.bool (hB m l)) ∧ ∃ q, w' = w.drewN q := by
  have hn : n ≤ 9223372036854775807 := Nat.le_trans h.le h.small
  have HY := hid_ (@hB_yes m l n' h'.len)
  have HN := hid_ (fun k (hk : k < n') => @hB_no m l k (by rw [h'.len]; exact hk))
  have HG := hid_ hge
  clear hge
  go_enter Try.func52, Try.ntmps52
  go_wp2
  go_loopw [5] (fun i wr => ∃ k q : Nat, k ≤ n' ∧ i = .int .i64 k ∧ wr = w.drewN q ∧ ∀ j, j < k → (decide (m.getD j 0 = -1) || decide (m.getD j 0 = l.getD j 0)) = true) (fun i _ => n' - (intOf i).toNat)
  case atStart => exact ⟨0, 0, Nat.zero_le _, rfl, rfl, fun _ h => absurd h (by omega)⟩
  case round =>
    obtain ⟨k, q, hk, rfl, hq, hall⟩ := hrel
    have Hall := hid_ hall; have Hq := hid_ hq
    have HA := hid_ (show IntsAt wr a n c l by rw [hq]; exact h.drewN q)
    have HB := hid_ (show IntsAt wr a' n' c' m by rw [hq]; exact h'.drewN q)
    clear hall hq
    by_cases hlt : k < n'
    · obtain ⟨b, off, rfl, -, hc⟩ := HB.out.cells k hlt
      obtain ⟨b2, off2, rfl, -, hc2⟩ := HA.out.cells k (by omega)
      have hkn : k < n := by omega
      have hno := HN.out k hlt
      have hge := HG.out k hlt
      have hy := fun hx => lt_snoc (p := fun j => (decide (m.getD j 0 = -1) || decide (m.getD j 0 = l.getD j 0)) = true) Hall.out hx
      generalize m.getD k 0 = x at *
      generalize l.getD k 0 = y at *
      by_cases h0 : x = -1
      · have Hf := hid_ (hy (by rw [decide_eq_true h0]; rfl))
        clear hy hno hge
        subst h0
        go_wp2_with fail
        go_quiet (fail)
        go_wp2
        go_roundw
        case rel => exact ⟨k + 1, _, by omega, by go_num, by rw [Hq.out, drewN2], Hf.out⟩
        case measure => simp [intOf]; omega
      · have h0' : 0 ≤ x := by omega
        by_cases h1 : x = y
        · have Hf := hid_ (hy (by rw [decide_eq_true h1, Bool.or_true]))
          clear hy hno hge h0
          subst h1
          go_wp2_with fail
          go_quiet (fail)
          go_wp2
          go_roundw
          case rel => exact ⟨k + 1, _, by omega, by go_num, by rw [Hq.out, drewN2], Hf.out⟩
          case measure => simp [intOf]; omega
        · have Hf := hid_ (hno (by rw [decide_eq_false h0, decide_eq_false h1]; rfl))
          clear hy hno hge h0
          go_wp2_with fail
          go_quiet (fail)
          go_wp2
          go_ret
          exact ⟨retB Hf.out, _, by rw [Hq.out, drewN2]⟩
    · obtain rfl : n' = k := by omega
      have Hf := hid_ (HY.out Hall.out)
      go_wp2
      go_ret
      exact ⟨retB Hf.out, _, Hq.out⟩
end Go.Proofs.Ytahknodnjjmagaa
