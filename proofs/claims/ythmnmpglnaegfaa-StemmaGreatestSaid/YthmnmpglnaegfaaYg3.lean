import Derived.Test.YthmnmpglnaegfaaYg2
import Derived.Test.YthmnmpglnaegfaaYn
namespace Go.Proofs.Ythmnmpglnaegfaa
open Go.RowKit Go.Proofs.Kv Go

/-! ### cmp.Compare, slices.Compare, cmp.Or of numbers (out of layer3) -/
set_option maxRecDepth 100000 in
theorem nan7_calls (z : Int) (w : World) : Calls Try.prog 59 #[.int .i64 z] w fun e w' => e = .returned (.bool false) ∧ w' = w := by
  have hq : (z != z) = false := by simp
  go_enter Try.func59, Try.ntmps59
  go_wp2
  go_ret
  exact ⟨rfl, rfl⟩
def cmpI (x y : Int) : Int := if x < y then -1 else if y < x then 1 else 0
theorem cmpI_calls (x y : Int) (w : World) :
    Calls Try.prog 31 #[.int .i64 x, .int .i64 y] w fun e w' => e = .returned (.int .i64 (cmpI x y)) ∧ w = w' := by
  have Hnan : ∀ z, Hid (Calls Try.prog 59 #[.int .i64 z] w fun e w' => e = .returned (.bool false) ∧ w' = w) := fun z => hid_ (nan7_calls z w)
  by_cases h1 : x < y
  · have Hf : Hid (cmpI x y = -1) := hid_ (if_pos h1)
    go_enter Try.func31, Try.ntmps31
    go_wp2_with (go_at_call 59; refine (Hnan _).out.mono ?_; rintro e w' ⟨rfl, rfl⟩)
    go_ret
    exact ⟨retI Hf.out, rfl⟩
  · by_cases h2 : y < x
    · have Hf : Hid (cmpI x y = 1) := hid_ (by rw [cmpI, if_neg h1, if_pos h2])
      go_enter Try.func31, Try.ntmps31
      go_wp2_with (go_at_call 59; refine (Hnan _).out.mono ?_; rintro e w' ⟨rfl, rfl⟩)
      go_ret
      exact ⟨retI Hf.out, rfl⟩
    · have Hf : Hid (cmpI x y = 0) := hid_ (by rw [cmpI, if_neg h1, if_neg h2])
      go_enter Try.func31, Try.ntmps31
      go_wp2_with (go_at_call 59; refine (Hnan _).out.mono ?_; rintro e w' ⟨rfl, rfl⟩)
      go_ret
      exact ⟨retI Hf.out, rfl⟩

def orI : List Int → Int
  | [] => 0
  | x :: l => if x = 0 then orI l else x
theorem orI_hit : ∀ {l : List Int} {k : Nat}, (∀ j, j < k → l.getD j 0 = 0) → k < l.length → l.getD k 0 ≠ 0 → orI l = l.getD k 0
  | x :: l, 0, _, _, h => by simp [List.getD] at h; simp [orI, h, List.getD]
  | x :: l, k + 1, h, hk, hh => by
    have h0 : x = 0 := by simpa [List.getD] using h 0 (by omega)
    rw [orI, if_pos h0]
    have := orI_hit (l := l) (k := k) (fun j hj => by simpa [List.getD] using h (j + 1) (by omega)) (by simpa using hk) (by simpa [List.getD] using hh)
    simpa [List.getD] using this
theorem orI_miss : ∀ {l : List Int}, (∀ j, j < l.length → l.getD j 0 = 0) → orI l = 0
  | [], _ => rfl
  | x :: l, h => by
    have h0 : x = 0 := by simpa [List.getD] using h 0 (by simp)
    rw [orI, if_pos h0]
    exact orI_miss fun j hj => by simpa [List.getD] using h (j + 1) (by simpa using hj)
set_option maxRecDepth 100000 in
theorem orI_calls (a : Option Addr) (n c : Nat) (l : List Int) (w : World) (h : IntsAt w a n c l) :
    Calls Try.prog 30 #[.slice a n c] w fun e w' => e = .returned (.int .i64 (orI l)) ∧ w = w' := by
  have hn : n ≤ 9223372036854775807 := Nat.le_trans h.le h.small
  have hlen := hid_ h.len
  go_enter Try.func30, Try.ntmps30
  go_wp2
  go_loop [8] (fun i => ∃ k : Nat, k ≤ n ∧ i = .int .i64 k ∧ ∀ j, j < k → l.getD j 0 = 0) (fun i => n - (intOf i).toNat)
  case atStart => exact ⟨0, Nat.zero_le _, rfl, fun _ h => absurd h (by omega)⟩
  case round =>
    obtain ⟨k, hk, rfl, hall⟩ := hrel
    have Hall := hid_ hall; clear hall
    by_cases hlt : k < n
    · obtain ⟨b, off, rfl, hb, hcell⟩ := h.cells k hlt
      have hl : k < l.length := by rw [hlen.out]; exact hlt
      generalize hr : l.getD k 0 = r at hcell
      have Hr := hid_ hr; clear hr
      by_cases hq : r = 0
      · have Hq := hid_ hq
        subst hq
        go_wp2
        go_round
        case rel => exact ⟨k + 1, by omega, by go_num, lt_snoc Hall.out Hr.out⟩
        case measure => simp [intOf]; omega
      · have Hf : Hid (orI l = r) := hid_ (by rw [← Hr.out]; exact orI_hit Hall.out hl (by rw [Hr.out]; exact hq))
        have hqe : (r != 0) = true := by simpa using hq
        clear hq
        go_wp2
        go_ret
        exact ⟨retI Hf.out, rfl⟩
    · have Hf : Hid (orI l = 0) := hid_ (orI_miss fun j hj => Hall.out j (by have := hlen.out; omega))
      go_wp2
      go_ret
      exact ⟨retI Hf.out, rfl⟩

/-- the order of lists -/
def cmpL : List Int → List Int → Int
  | [], [] => 0
  | [], _ :: _ => -1
  | _ :: _, [] => 1
  | x :: l, y :: m => if cmpI x y = 0 then cmpL l m else cmpI x y
theorem cmpL_at : ∀ {l m : List Int} {k : Nat}, (∀ j, j < k → cmpI (l.getD j 0) (m.getD j 0) = 0) → k ≤ l.length → k ≤ m.length → cmpL l m = cmpL (l.drop k) (m.drop k)
  | l, m, 0, _, _, _ => rfl
  | x :: l, y :: m, k + 1, h, h1, h2 => by
    have h0 : cmpI x y = 0 := by simpa [List.getD] using h 0 (by omega)
    rw [cmpL, if_pos h0, List.drop_succ_cons, List.drop_succ_cons]
    exact cmpL_at (fun j hj => by simpa [List.getD] using h (j + 1) (by omega)) (by simpa using h1) (by simpa using h2)
theorem drop_cons_getD {l : List Int} {k : Nat} (h : k < l.length) : l.drop k = l.getD k 0 :: l.drop (k + 1) := by
  rw [List.drop_eq_getElem_cons h]; simp [List.getD, List.getElem?_eq_getElem h]
set_option maxRecDepth 100000 in
theorem cmpL_calls (a : Option Addr) (n c : Nat) (l : List Int) (a' : Option Addr) (n' c' : Nat) (m : List Int) (w : World) (h : IntsAt w a n c l) (h' : IntsAt w a' n' c' m) :
    Calls Try.prog 32 #[.slice a n c, .slice a' n' c'] w fun e w' => e = .returned (.int .i64 (cmpL l m)) ∧ w = w' := by
  have hn : n ≤ 9223372036854775807 := Nat.le_trans h.le h.small
  have hn' : n' ≤ 9223372036854775807 := Nat.le_trans h'.le h'.small
  have hlen := hid_ h.len
  have hlen' := hid_ h'.len
  go_enter Try.func32, Try.ntmps32
  go_wp2
  go_loop [11] (fun i => ∃ k : Nat, k ≤ n ∧ k ≤ n' ∧ i = .int .i64 k ∧ ∀ j, j < k → cmpI (l.getD j 0) (m.getD j 0) = 0) (fun i => n - (intOf i).toNat)
  case atStart => exact ⟨0, Nat.zero_le _, Nat.zero_le _, rfl, fun _ h => absurd h (by omega)⟩
  case round =>
    obtain ⟨k, hk, hk', rfl, hall⟩ := hrel
    have Hall := hid_ hall; clear hall
    have Hat : Hid (cmpL l m = cmpL (l.drop k) (m.drop k)) := hid_ (cmpL_at Hall.out (by rw [hlen.out]; exact hk) (by rw [hlen'.out]; exact hk'))
    by_cases hlt : k < n
    · obtain ⟨b, off, rfl, hb, hcell⟩ := h.cells k hlt
      have hl : k < l.length := by rw [hlen.out]; exact hlt
      generalize hr : l.getD k 0 = r at hcell
      have Hr := hid_ hr; clear hr
      by_cases hlt' : k < n'
      · obtain ⟨b', off', rfl, hb', hcell'⟩ := h'.cells k hlt'
        have hl' : k < m.length := by rw [hlen'.out]; exact hlt'
        generalize hr' : m.getD k 0 = r' at hcell'
        have Hr' := hid_ hr'; clear hr'
        have hc := cmpI_calls r r' w
        by_cases hq : cmpI r r' = 0
        · have Hq := hid_ hq
          rw [hq] at hc
          have Hc := hid_ hc; clear hc hq
          go_wp2_with (go_at_call 31; refine Hc.out.mono ?_; rintro e w' ⟨rfl, rfl⟩)
          go_round
          case rel => exact ⟨k + 1, by omega, by omega, by go_num, lt_snoc Hall.out (by rw [Hr.out, Hr'.out, Hq.out])⟩
          case measure => simp [intOf]; omega
        · have Hf : Hid (cmpL l m = cmpI r r') := hid_ (by rw [Hat.out, drop_cons_getD hl, drop_cons_getD hl', Hr.out, Hr'.out, cmpL, if_neg hq])
          generalize cmpI r r' = z at hc hq Hf
          have hqe : (z != 0) = true := by simpa using hq
          have Hc := hid_ hc; clear hc hq
          go_wp2_with (go_at_call 31; refine Hc.out.mono ?_; rintro e w' ⟨rfl, rfl⟩)
          go_ret
          exact ⟨retI Hf.out, rfl⟩
      · have Hf : Hid (cmpL l m = 1) := hid_ (by rw [Hat.out, drop_cons_getD hl, List.drop_of_length_le (l := m) (by rw [hlen'.out]; omega)]; rfl)
        go_wp2
        go_ret
        exact ⟨retI Hf.out, rfl⟩
    · have hnk : l.drop k = [] := List.drop_of_length_le (by rw [hlen.out]; omega)
      by_cases hlt' : n < n'
      · have Hf : Hid (cmpL l m = -1) := hid_ (by rw [Hat.out, hnk, drop_cons_getD (l := m) (by rw [hlen'.out]; omega)]; rfl)
        go_wp2
        go_ret
        exact ⟨retI Hf.out, rfl⟩
      · have Hf : Hid (cmpL l m = 0) := hid_ (by rw [Hat.out, hnk, List.drop_of_length_le (l := m) (by rw [hlen'.out]; omega)]; rfl)
        go_wp2
        go_ret
        exact ⟨retI Hf.out, rfl⟩
/-- the program's comparison of two sets -/
theorem bett_cmp : ∀ s t : List Int, s.length = t.length → decide (cmpL s t < 0) = befL s t
  | [], [], _ => rfl
  | [], _ :: _, h => by cases h
  | _ :: _, [], h => by cases h
  | x :: s, y :: t, h => by
    have ih := bett_cmp s t (by simpa using h)
    unfold cmpL befL cmpI
    by_cases e : x = y
    · subst e; simpa using ih
    · by_cases h1 : x < y
      · simp [h1, e]
      · have h2 : y < x := by omega
        simp [h1, h2, e]
theorem bett_or (s t : List Int) : decide (orI [cmpI (t.length : Nat) (s.length : Nat), cmpL s t] < 0) = bettL s t := by
  unfold bettL
  rcases Nat.lt_trichotomy t.length s.length with h | h | h
  · have e : cmpI (t.length : Nat) (s.length : Nat) = -1 := if_pos (by omega)
    rw [e, decide_eq_true h]
    simp [orI]
  · have e : cmpI (t.length : Nat) (s.length : Nat) = 0 := by unfold cmpI; rw [if_neg (by omega), if_neg (by omega)]
    rw [e, decide_eq_false (show ¬ t.length < s.length by omega), decide_eq_true h.symm, ← bett_cmp s t h.symm, Bool.false_or, Bool.true_and]
    have e2 : orI [0, cmpL s t] = cmpL s t := by
      by_cases hz : cmpL s t = 0
      · simp [orI, hz]
      · simp [orI, hz]
    rw [e2]
  · have e : cmpI (t.length : Nat) (s.length : Nat) = 1 := by unfold cmpI; rw [if_neg (by omega), if_pos (by omega)]
    rw [e, decide_eq_false (show ¬ t.length < s.length by omega), decide_eq_false (show ¬ s.length = t.length by omega)]
    simp [orI]
end Go.Proofs.Ythmnmpglnaegfaa
