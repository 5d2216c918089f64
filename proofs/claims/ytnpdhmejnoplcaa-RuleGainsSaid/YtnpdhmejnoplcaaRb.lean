import Derived.Test.YtnpdhmejnoplcaaKr
namespace Go.Proofs.Ytnpdhmejnoplcaa
open Go.RowKit Go.Proofs.Kv

def isWord (l : List Int) : Bool := l.all fun x => Within x 0 5
theorem within2_calls (n lo hi : Int) (w : World) :
    Calls Try.prog 117 #[.int .i64 n, .int .i64 lo, .int .i64 hi] w fun e w' => e = .returned (.bool (Within n lo hi)) ∧ w = w' := by
  by_cases h1 : lo ≤ n
  · have H : Hid (Within n lo hi = decide (n ≤ hi)) := by simp [Hid, Within, h1]
    go_enter Try.func117, Try.ntmps117
    go_wp2
    go_ret
    exact ⟨retB H.out, rfl⟩
  · have H : Hid (Within n lo hi = false) := by simp [Hid, Within, h1]
    go_enter Try.func117, Try.ntmps117
    go_wp2
    go_ret
    exact ⟨retB H.out, rfl⟩
theorem isWord_no {l : List Int} {k : Nat} (hk : k < l.length) (h : Within (l.getD k 0) 0 5 = false) : isWord l = false := by
  rw [isWord, List.all_eq_false]
  exact ⟨_, getD_mem hk, by rw [h]; simp⟩
theorem isWord_yes {l : List Int} {n : Nat} (hn : l.length = n) (h : ∀ j, j < n → Within (l.getD j 0) 0 5 = true) : isWord l = true := by
  rw [isWord, List.all_eq_true]
  intro x hx
  obtain ⟨i, hi, rfl⟩ := mem_getD hx
  exact h i (by omega)
theorem isWord_calls (a : Option Addr) (n c : Nat) (l : List Int) (w : World) (h : IntsAt w a n c l) :
    Calls Try.prog 118 #[.slice a n c] w fun e w' => e = .returned (.bool (isWord l)) ∧ w = w' := by
  have hn : n ≤ 9223372036854775807 := Nat.le_trans h.le h.small
  go_enter Try.func118, Try.ntmps118
  go_wp2
  go_loop [3] (fun i => ∃ k : Nat, k ≤ n ∧ i = .int .i64 k ∧ ∀ j, j < k → Within (l.getD j 0) 0 5 = true) (fun i => n - (intOf i).toNat)
  case atStart => exact ⟨0, Nat.zero_le _, rfl, fun _ h => absurd h (by omega)⟩
  case round =>
    obtain ⟨k, hk, rfl, hall⟩ := hrel
    have Hall := hid_ hall; clear hall
    by_cases hlt : k < n
    · obtain ⟨b, off, rfl, hb, hcell⟩ := h.cells k hlt
      generalize hy : l.getD k 0 = y at hcell
      have Hy := hid_ hy; clear hy
      cases hw : Within y 0 5 with
      | false =>
        have Hf : Hid (isWord l = false) := hid_ (isWord_no (k := k) (by rw [h.len]; exact hlt) (by rw [Hy.out]; exact hw))
        go_wp2_with (go_at_call 117; refine (within2_calls _ _ _ _).mono ?_; rintro e w' ⟨rfl, rfl⟩)
        go_ret
        exact ⟨retB Hf.out, rfl⟩
      | true =>
        go_wp2_with (go_at_call 117; refine (within2_calls _ _ _ _).mono ?_; rintro e w' ⟨rfl, rfl⟩)
        go_round
        case rel => exact ⟨k + 1, by omega, by go_num, lt_snoc Hall.out (by rw [Hy.out]; exact hw)⟩
        case measure => simp [intOf]; omega
    · have Hf : Hid (isWord l = true) := hid_ (isWord_yes h.len fun j hj => Hall.out j (by omega))
      go_wp2
      go_ret
      exact ⟨retB Hf.out, rfl⟩

/-! ### ValidateWord, may, at -/
def validW (l : List Int) : Int := if 8 < l.length then 3 else if isWord l then 0 else 1
theorem validateWord_calls (a : Option Addr) (n c : Nat) (l : List Int) (w : World) (h : IntsAt w a n c l) :
    Calls Try.prog 36 #[.slice a n c] w fun e w' => e = .returned (.int .i64 (validW l)) ∧ w = w' := by
  have hn : n ≤ 9223372036854775807 := Nat.le_trans h.le h.small
  by_cases h8 : 8 < n
  · have Hf : Hid (validW l = 3) := hid_ (by rw [validW, h.len, if_pos h8])
    go_enter Try.func36, Try.ntmps36
    go_wp2
    go_ret
    exact ⟨retI Hf.out, rfl⟩
  · have Hc := hid_ (isWord_calls a n c l w h)
    have Hn : Hid (validW l = if isWord l then 0 else 1) := hid_ (by rw [validW, h.len, if_neg h8])
    generalize isWord l = b at Hc Hn
    cases b
    all_goals
      go_enter Try.func36, Try.ntmps36
      go_wp2_with (go_at_call 118; refine (Hc.out).mono ?_; rintro e w' ⟨rfl, rfl⟩)
      go_ret
      exact ⟨retI Hn.out, rfl⟩
def mayL (s : List Int) (x : Int) : Bool := s.isEmpty || Has s x
theorem may_calls (a : Option Addr) (n c : Nat) (s : List Int) (x : Int) (w : World) (h : IntsAt w a n c s) :
    Calls Try.prog 131 #[.slice a n c, .int .i64 x] w fun e w' => e = .returned (.bool (mayL s x)) ∧ w = w' := by
  have hn : n ≤ 9223372036854775807 := Nat.le_trans h.le h.small
  by_cases h0 : n = 0
  · subst h0
    have Hf : Hid (mayL s x = true) := hid_ (by rw [List.eq_nil_of_length_eq_zero h.len]; rfl)
    go_enter Try.func131, Try.ntmps131
    go_wp2
    go_ret
    exact ⟨retB Hf.out, rfl⟩
  · have hz : ((n : Int) == 0) = false := by simp; omega
    have Hf : Hid (mayL s x = Has s x) := hid_ (by
      cases s with
      | nil => exact absurd h.len.symm h0
      | cons y s => rfl)
    have H0 := hid_ h0; clear h0
    go_enter Try.func131, Try.ntmps131
    go_wp2_with (go_at_call 103; refine (has_calls _ _ _ _ _ _ h).mono ?_; rintro e w' ⟨rfl, rfl⟩)
    go_ret
    exact ⟨retB Hf.out, rfl⟩
def atL (l : List Int) (i : Int) : Int := if Within i 0 ((l.length : Int) - 1) then l.getD i.toNat 0 else -1
theorem at_calls (a : Option Addr) (n c : Nat) (l : List Int) (i : Int) (w : World) (h : IntsAt w a n c l) :
    Calls Try.prog 178 #[.slice a n c, .int .i64 i] w fun e w' => e = .returned (.int .i64 (atL l i)) ∧ w = w' := by
  have hn : n ≤ 9223372036854775807 := Nat.le_trans h.le h.small
  by_cases hi : 0 ≤ i ∧ i < n
  · obtain ⟨hi0, hin⟩ := hi
    have hw : Within i 0 ((n : Int) - 1) = true := by simp [Within]; omega
    have Hf : Hid (atL l i = l.getD i.toNat 0) := hid_ (by rw [atL, h.len, if_pos hw])
    obtain ⟨b, off, rfl, hb, hcell⟩ := h.cells i.toNat (by omega)
    go_enter Try.func178, Try.ntmps178
    go_wp2_with (go_at_call 117; refine (within2_calls _ _ _ _).mono ?_; rintro e w' ⟨rfl, rfl⟩)
    go_ret
    exact ⟨retI Hf.out, rfl⟩
  · have hw : Within i 0 ((n : Int) - 1) = false := by
      rw [Bool.eq_false_iff]; intro e; simp [Within] at e; omega
    have Hf : Hid (atL l i = -1) := hid_ (by rw [atL, h.len, if_neg (by rw [hw]; simp)])
    have Hi := hid_ hi; clear hi
    go_enter Try.func178, Try.ntmps178
    go_wp2_with (go_at_call 117; refine (within2_calls _ _ _ _).mono ?_; rintro e w' ⟨rfl, rfl⟩)
    go_ret
    exact ⟨retI Hf.out, rfl⟩
end Go.Proofs.Ytnpdhmejnoplcaa
