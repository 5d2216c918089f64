import Derived.Test.YtoopgmoopmbfnaaRefD
namespace Go.Proofs.Ytoopgmoopmbfnaa
open Go.RowKit Go.Proofs.Kv Go.Proofs.Snd

/-! ### Sounds -/
def soundsRes (L : List (List Int)) : List Int := if validT L = 0 then L.flatten else []
/-! ### Row -/
def rowRes (L : List (List Int)) (x : Int) : Int × Bool := if validT L = 0 then (if rowTo L x < 0 then (0, false) else (rowTo L x, true)) else (0, false)
/-! ### ends, fits -/
def endsTo (o s : List Int) : Nat → Int × Int
  | 0 => (-1, -1)
  | k + 1 => if Has s (o.getD k 0) then (if (endsTo o s k).1 < 0 then (k : Int) else (endsTo o s k).1, (k : Int)) else endsTo o s k
theorem endsTo_bd (o s : List Int) (k : Nat) : -1 ≤ (endsTo o s k).1 ∧ (endsTo o s k).1 < k ∧ (endsTo o s k).1 ≤ (endsTo o s k).2 ∧ (endsTo o s k).2 < k ∨ k = 0 ∧ endsTo o s k = (-1, -1) := by
  induction k with
  | zero => exact .inr ⟨rfl, rfl⟩
  | succ k ih =>
    left
    simp only [endsTo]
    split
    · split <;> rcases ih with ih | ⟨rfl, ih⟩ <;> simp_all <;> omega
    · rcases ih with ih | ⟨rfl, ih⟩ <;> simp_all <;> omega
def ends (o s : List Int) : Int × Int := endsTo o s o.length

set_option maxRecDepth 100000 in
theorem ends_calls (a : Option Addr) (n c : Nat) (o : List Int) (a' : Option Addr) (n' c' : Nat) (s : List Int) (w : World) (h : IntsAt w a n c o) (h' : IntsAt w a' n' c' s) :
    Calls Try.prog 102 #[.slice a n c, .slice a' n' c'] w fun e w' => e = .returned (.tuple #[.int .i64 (ends o s).1, .int .i64 (ends o s).2]) ∧ w = w' := by
  have hn : n ≤ 9223372036854775807 := Nat.le_trans h.le h.small
  have Hlen : Hid (ends o s = endsTo o s n) := hid_ (by rw [ends, h.len])
  go_enter Try.func102, Try.ntmps102
  go_wp2
  go_loop [6, 7, 8] (fun f l i => ∃ k : Nat, k ≤ n ∧ i = .int .i64 k ∧ f = .int .i64 (endsTo o s k).1 ∧ l = .int .i64 (endsTo o s k).2) (fun _ _ i => n - (intOf i).toNat)
  case atStart => exact ⟨0, Nat.zero_le _, rfl, rfl, rfl⟩
  case round =>
    obtain ⟨k, hk, rfl, rfl, rfl⟩ := hrel
    by_cases hlt : k < n
    · obtain ⟨b, off, rfl, hb, hcell⟩ := h.cells k hlt
      have Hnext : Hid (endsTo o s (k + 1) = if Has s (o.getD k 0) then (if (endsTo o s k).1 < 0 then (k : Int) else (endsTo o s k).1, (k : Int)) else endsTo o s k) := hid_ rfl
      generalize hy : o.getD k 0 = y at hcell Hnext
      have Hy := hid_ hy; clear hy
      generalize endsTo o s k = p at Hnext
      obtain ⟨f, l⟩ := p
      cases hh : Has s y with
      | true =>
        by_cases hf : f < 0
        · have Hf : Hid (endsTo o s (k + 1) = ((k : Int), (k : Int))) := hid_ (by rw [Hnext.out, hh]; simp [hf])
          clear Hnext
          go_wp2_with (go_at_call 92; refine (has_calls _ _ _ _ _ _ h').mono ?_; rintro e w' ⟨rfl, rfl⟩)
          go_round
          case rel => exact ⟨k + 1, by omega, by go_num, by rw [Hf.out], by rw [Hf.out]⟩
          case measure => simp [intOf]; omega
        · have Hf : Hid (endsTo o s (k + 1) = (f, (k : Int))) := hid_ (by rw [Hnext.out, hh]; simp [hf])
          clear Hnext
          go_wp2_with (go_at_call 92; refine (has_calls _ _ _ _ _ _ h').mono ?_; rintro e w' ⟨rfl, rfl⟩)
          go_round
          case rel => exact ⟨k + 1, by omega, by go_num, by rw [Hf.out], by rw [Hf.out]⟩
          case measure => simp [intOf]; omega
      | false =>
        have Hf : Hid (endsTo o s (k + 1) = (f, l)) := hid_ (by rw [Hnext.out, hh]; simp)
        clear Hnext
        go_wp2_with (go_at_call 92; refine (has_calls _ _ _ _ _ _ h').mono ?_; rintro e w' ⟨rfl, rfl⟩)
        go_round
        case rel => exact ⟨k + 1, by omega, by go_num, by rw [Hf.out], by rw [Hf.out]⟩
        case measure => simp [intOf]; omega
    · obtain rfl : k = n := by omega
      go_wp2
      go_ret2
      exact ⟨by rw [Hlen.out]; rfl, rfl⟩
end Go.Proofs.Ytoopgmoopmbfnaa
