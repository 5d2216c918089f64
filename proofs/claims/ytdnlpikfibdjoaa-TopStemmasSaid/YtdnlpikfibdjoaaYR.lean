import Derived.Test.YtdnlpikfibdjoaaYQ
import Derived.Test.YtdnlpikfibdjoaaYB
namespace Go.Proofs.Ytdnlpikfibdjoaa
open Go.RowKit Go.Proofs.Kv Go

/-! ### slices.Contains, areAllReadings -/
theorem index7_calls (a : Option Addr) (n c : Nat) (l : List Int) (x : Int) (w : World) (h : IntsAt w a n c l) :
    Calls Try.prog 142 #[.slice a n c, .int .i64 x] w fun e w' => ∃ k : Int, e = .returned (.int .i64 k) ∧ (decide (0 ≤ k) = decide (x ∈ l)) ∧ -1 ≤ k ∧ k ≤ n ∧ ∃ q, w' = w.drewN q := by
  have hn : n ≤ 9223372036854775807 := Nat.le_trans h.le h.small
  have Hl := hid_ h.len
  go_enter Try.func142, Try.ntmps142
  go_wp2
  go_loopw [8] (fun i wr => ∃ k q : Nat, k ≤ n ∧ i = .int .i64 k ∧ wr = w.drewN q ∧ x ∉ l.take k) (fun i _ => n - (intOf i).toNat)
  case atStart => exact ⟨0, 0, Nat.zero_le _, rfl, rfl, by simp⟩
  case round =>
    obtain ⟨k, q, hk, rfl, rfl, hx⟩ := hrel
    by_cases hlt : k < n
    · have hkl : k < l.length := by rw [Hl.out]; exact hlt
      have Ht := hid_ (Kv.take_snoc l 0 k hkl)
      have Hm := hid_ (getD_mem hkl)
      obtain ⟨b, off, rfl, hb, hcell⟩ := h.cells k hlt
      generalize l.getD k 0 = y at *
      have Hx := hid_ hx
      clear hx
      by_cases hxy : x = y
      · have hqq : (x == y) = true := by simpa using hxy
        have Hf : Hid (decide (0 ≤ (k : Int)) = decide (x ∈ l)) := hid_ (by rw [decide_eq_true (by omega), decide_eq_true (by rw [hxy]; exact Hm.out)])
        clear hxy
        go_wp2
        go_ret
        exact ⟨k, rfl, Hf.out, by omega, by omega, _, rfl⟩
      · have hqq : (x == y) = false := by simpa using hxy
        have Hn : Hid (x ∉ l.take (k + 1)) := hid_ (by rw [Ht.out, List.mem_append, List.mem_singleton]; exact fun h => h.elim Hx.out hxy)
        clear hxy
        go_wp2
        go_roundw
        case rel => exact ⟨k + 1, _, by omega, by go_num, rfl, Hn.out⟩
        case measure => simp [intOf]; omega
    · obtain rfl : k = n := by omega
      rw [List.take_of_length_le (by rw [Hl.out]; exact Nat.le_refl _)] at hx
      have Hf : Hid (decide (0 ≤ (-1 : Int)) = decide (x ∈ l)) := hid_ (by rw [decide_eq_false hx]; rfl)
      clear hx
      go_wp2
      go_ret
      exact ⟨-1, rfl, Hf.out, by omega, by omega, _, rfl⟩
theorem contains7_calls (a : Option Addr) (n c : Nat) (l : List Int) (x : Int) (w : World) (h : IntsAt w a n c l) :
    Calls Try.prog 134 #[.slice a n c, .int .i64 x] w fun e w' => e = .returned (.bool (decide (x ∈ l))) ∧ ∃ q, w' = w.drewN q := by
  have HI := hid_ (index7_calls a n c l x w h)
  go_enter Try.func134, Try.ntmps134
  go_wp2_with (go_at_call 142; (with_reducible refine HI.out.mono ?_); rintro e w2 ⟨k, rfl, hk, hk1, hk2, q, rfl⟩; have Hk := hid_ hk; clear hk)
  go_ret
  exact ⟨by rw [← Hk.out]; rfl, _, rfl⟩
def allRB (l : List Int) : Bool := decide ((0 : Int) ∈ l) && (decide ((1 : Int) ∈ l) && (decide ((2 : Int) ∈ l) && decide (l.length = 3)))
theorem allRB_no {l : List Int} {k : Nat} (hk : k < 3) (h : decide ((k : Int) ∈ l) = false) : allRB l = false := by
  unfold allRB
  rcases (show k = 0 ∨ k = 1 ∨ k = 2 by omega) with rfl | rfl | rfl
  · rw [show decide ((0 : Int) ∈ l) = false from h]; rfl
  · rw [show decide ((1 : Int) ∈ l) = false from h]; simp
  · rw [show decide ((2 : Int) ∈ l) = false from h]; simp
theorem allRB_of {l : List Int} (h : ∀ j : Nat, j < 3 → decide ((j : Int) ∈ l) = true) : allRB l = decide (l.length = 3) := by
  unfold allRB
  rw [show decide ((0 : Int) ∈ l) = true from h 0 (by omega), show decide ((1 : Int) ∈ l) = true from h 1 (by omega), show decide ((2 : Int) ∈ l) = true from h 2 (by omega)]
  rfl
end Go.Proofs.Ytdnlpikfibdjoaa
