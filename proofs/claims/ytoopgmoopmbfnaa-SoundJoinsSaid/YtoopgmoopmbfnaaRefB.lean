import Derived.Test.YtoopgmoopmbfnaaRefA
namespace Go.Proofs.Ytoopgmoopmbfnaa
open Go.RowKit Go.Proofs.Kv Go.Proofs.Snd

theorem quiet_left {P : Program} {f : FuncId} {args : Array Value} {w : World} {n : Nat} {v : Value}
    (h : Calls P f args (w.drewN n) fun e w' => e = .returned v ∧ w.drewN n = w') : Calls P f args (w.drewN n) fun e w'' => e = .returned v ∧ ∃ m, w'' = w.drewN m :=
  h.mono fun _ _ ⟨he, hm⟩ => ⟨he, n, hm.symm⟩
theorem quiet_more {P : Program} {f : FuncId} {args : Array Value} {w : World} {n : Nat} {v : Value}
    (h : Calls P f args (w.drewN n) fun e w' => e = .returned v ∧ ∃ q, w' = (w.drewN n).drewN q) : Calls P f args (w.drewN n) fun e w'' => e = .returned v ∧ ∃ m, w'' = w.drewN m :=
  h.mono fun _ _ ⟨he, q, hm⟩ => ⟨he, n + q, by rw [hm, drewN2]⟩

/-! ### IsSet -/
def setBad (l : List Int) (lo hi : Int) (i : Nat) : Bool := !Within (l.getD i 0) lo hi || (decide (0 < i) && decide (l.getD i 0 ≤ l.getD (i - 1) 0))
def IsSet (l : List Int) (lo hi : Int) : Bool := (List.range l.length).all fun i => !setBad l lo hi i
theorem IsSet_yes {l : List Int} {lo hi : Int} {n : Nat} (hl : l.length = n) (h : ∀ j, j < n → setBad l lo hi j = false) : IsSet l lo hi = true := by
  simp only [IsSet, List.all_eq_true, List.mem_range, hl]
  intro i hi'; rw [h i hi']; rfl
theorem IsSet_no {l : List Int} {lo hi : Int} {k : Nat} (hl : k < l.length) (h : setBad l lo hi k = true) : IsSet l lo hi = false := by
  rw [Bool.eq_false_iff]
  intro e
  simp only [IsSet, List.all_eq_true, List.mem_range] at e
  have := e k hl
  rw [h] at this; cases this

set_option maxRecDepth 100000 in
theorem isSet_calls (a : Option Addr) (n c : Nat) (l : List Int) (lo hi : Int) (w : World) (h : IntsAt w a n c l) :
    Calls Try.prog 103 #[.slice a n c, .int .i64 lo, .int .i64 hi] w fun e w' => e = .returned (.bool (IsSet l lo hi)) ∧ ∃ q, w' = w.drewN q := by
  have hn : n ≤ 9223372036854775807 := Nat.le_trans h.le h.small
  go_enter Try.func103, Try.ntmps103
  go_wp2
  go_loopw [7] (fun i wr => ∃ k q : Nat, k ≤ n ∧ i = .int .i64 k ∧ wr = w.drewN q ∧ ∀ j, j < k → setBad l lo hi j = false) (fun i _ => n - (intOf i).toNat)
  case atStart => exact ⟨0, 0, Nat.zero_le _, rfl, rfl, fun _ h => absurd h (by omega)⟩
  case round =>
    obtain ⟨k, q, hk, rfl, hq, hall⟩ := hrel
    have hI : IntsAt wr a n c l := by rw [hq]; exact h.drewN q
    have Hq := hid_ hq; clear hq
    have Hall := hid_ hall; clear hall
    by_cases hlt : k < n
    · obtain ⟨b, off, rfl, hb, hcell⟩ := hI.cells k hlt
      have hprev : 0 < k → wr.cell? ⟨b, off + (k - 1), none⟩ = some (.int .i64 (l.getD (k - 1) 0)) := fun h0 => by
        obtain ⟨b', off', e, _, hc⟩ := hI.cells (k - 1) (by omega)
        injection e with e; injection e with e1 e2; subst e1; subst e2; exact hc
      generalize hy : l.getD k 0 = y at hcell
      generalize hz : l.getD (k - 1) 0 = z at hprev
      have Hbad : Hid (setBad l lo hi k = (!Within y lo hi || (decide (0 < k) && decide (y ≤ z)))) := hid_ (by rw [setBad, hy, hz])
      clear hy hz
      have hl : k < l.length := by rw [h.len]; exact hlt
      cases hw : Within y lo hi with
      | false =>
        have Hf : Hid (IsSet l lo hi = false) := hid_ (IsSet_no hl (by rw [Hbad.out, hw]; rfl))
        clear Hbad hprev
        go_wp2
        go_quiet ((go_at_call 72; exact quiet_left (within_calls _ _ _ _)))
        go_wp2
        go_ret
        exact ⟨retB Hf.out, _, by rw [Hq.out, drewN2]⟩
      | true =>
        by_cases h0 : 0 < k
        · have hcell2 := hprev h0
          have hk1 : (0 : Int) ≤ (k : Int) - 1 := by omega
          have hk2 : (k : Int) - 1 < (n : Int) := by omega
          have hk3 : ((k : Int) - 1).toNat = k - 1 := by omega
          have hw1 : IntKind.i64.wrap ((k : Int) - 1) = (k : Int) - 1 := IntWalk.i64_in _ (by omega)
          by_cases hyz : y ≤ z
          · have Hf : Hid (IsSet l lo hi = false) := hid_ (IsSet_no hl (by rw [Hbad.out, hw]; simp [h0, hyz]))
            clear Hbad hprev
            go_wp2
            go_quiet ((go_at_call 72; exact quiet_left (within_calls _ _ _ _)))
            clear hk3 hw1
            go_wp2
            go_ret
            exact ⟨retB Hf.out, _, by rw [Hq.out, drewN2]⟩
          · have Hf : Hid (setBad l lo hi k = false) := hid_ (by rw [Hbad.out, hw]; simp [hyz])
            clear Hbad hprev
            go_wp2
            go_quiet ((go_at_call 72; exact quiet_left (within_calls _ _ _ _)))
            clear hk3 hw1
            go_wp2
            go_roundw
            case rel => exact ⟨k + 1, _, by omega, by go_num, by rw [Hq.out, drewN2], lt_snoc Hall.out Hf.out⟩
            case measure => simp [intOf]; omega
        · have hd : decide ((0 : Int) < (k : Int)) = false := by simp; omega
          have Hf : Hid (setBad l lo hi k = false) := hid_ (by rw [Hbad.out, hw]; simp [h0])
          clear Hbad hprev
          go_wp2
          go_quiet ((go_at_call 72; exact quiet_left (within_calls _ _ _ _)))
          go_wp2
          go_roundw
          case rel => exact ⟨k + 1, _, by omega, by go_num, by rw [Hq.out, drewN2], lt_snoc Hall.out Hf.out⟩
          case measure => simp [intOf]; omega
    · have Hf : Hid (IsSet l lo hi = true) := hid_ (IsSet_yes h.len fun j hj => Hall.out j (by omega))
      go_wp2
      go_ret
      exact ⟨retB Hf.out, _, Hq.out⟩

/-! ### row -/
def rowTo (L : List (List Int)) (x : Int) : Int := if L.findIdx (fun r => Has r x) < L.length then (L.findIdx (fun r => Has r x) : Int) else -1
theorem rowTo_hit {L : List (List Int)} {x : Int} {k : Nat} (hk : k < L.length) (h : ∀ j, j < k → Has (L.getD j []) x = false) (hh : Has (L.getD k []) x = true) : rowTo L x = k := by
  have e : L.findIdx (fun r => Has r x) = k := by
    rw [List.findIdx_eq hk]
    refine ⟨by simpa [List.getD, List.getElem?_eq_getElem hk] using hh, fun j hj => ?_⟩
    have := h j hj
    simpa [List.getD, List.getElem?_eq_getElem (show j < L.length by omega)] using this
  rw [rowTo, e, if_pos hk]
theorem rowTo_miss {L : List (List Int)} {x : Int} {n : Nat} (hn : L.length = n) (h : ∀ j, j < n → Has (L.getD j []) x = false) : rowTo L x = -1 := by
  rw [rowTo, if_neg]
  rw [List.findIdx_lt_length]
  rintro ⟨r, hr, hx⟩
  obtain ⟨i, hi, e⟩ := List.mem_iff_getElem.1 hr
  have := h i (by omega)
  rw [List.getD, List.getElem?_eq_getElem hi, Option.getD_some, e, hx] at this
  cases this

set_option maxRecDepth 100000 in
theorem row_calls (a : Option Addr) (n c : Nat) (L : List (List Int)) (x : Int) (w : World) (h : ListsAt w a n c L) :
    Calls Try.prog 134 #[.slice a n c, .int .i64 x] w fun e w' => e = .returned (.int .i64 (rowTo L x)) ∧ w = w' := by
  have hn : n ≤ 9223372036854775807 := Nat.le_trans h.le h.small
  go_enter Try.func134, Try.ntmps134
  go_wp2
  go_loop [5] (fun i => ∃ k : Nat, k ≤ n ∧ i = .int .i64 k ∧ ∀ j, j < k → Has (L.getD j []) x = false) (fun i => n - (intOf i).toNat)
  case atStart => exact ⟨0, Nat.zero_le _, rfl, fun _ h => absurd h (by omega)⟩
  case round =>
    obtain ⟨k, hk, rfl, hall⟩ := hrel
    have Hall := hid_ hall; clear hall
    by_cases hlt : k < n
    · obtain ⟨b, off, a', n', c', rfl, hb, hcell, hrow⟩ := h.cells k hlt
      generalize hr : L.getD k [] = r at hrow
      have Hr := hid_ hr; clear hr
      have hl : k < L.length := by rw [h.len]; exact hlt
      cases hh : Has r x with
      | true =>
        have Hf : Hid (rowTo L x = k) := hid_ (rowTo_hit hl Hall.out (by rw [Hr.out]; exact hh))
        go_wp2_with (go_at_call 92; refine (has_calls _ _ _ _ _ _ hrow).mono ?_; rintro e w' ⟨rfl, rfl⟩)
        go_ret
        exact ⟨retI Hf.out, rfl⟩
      | false =>
        go_wp2_with (go_at_call 92; refine (has_calls _ _ _ _ _ _ hrow).mono ?_; rintro e w' ⟨rfl, rfl⟩)
        go_round
        case rel => exact ⟨k + 1, by omega, by go_num, lt_snoc Hall.out (by rw [Hr.out]; exact hh)⟩
        case measure => simp [intOf]; omega
    · have Hf : Hid (rowTo L x = -1) := hid_ (rowTo_miss h.len fun j hj => Hall.out j (by omega))
      go_wp2
      go_ret
      exact ⟨retI Hf.out, rfl⟩

/-! ### isOrder -/
def IsOrd (l : List Int) (n : Int) : Bool := decide ((l.length : Int) = n) && (List.range n.toNat).all fun i => Has l (i : Int)
set_option maxRecDepth 100000 in
theorem isOrder_calls (a : Option Addr) (n c : Nat) (l : List Int) (m : Int) (w : World) (h : IntsAt w a n c l) :
    Calls Try.prog 66 #[.slice a n c, .int .i64 m] w fun e w' => e = .returned (.bool (IsOrd l m)) ∧ w = w' := by
  have hn : n ≤ 9223372036854775807 := Nat.le_trans h.le h.small
  by_cases hm : (n : Int) = m
  · subst hm
    have hq : ((n : Int) != (n : Int)) = false := by simp
    go_enter Try.func66, Try.ntmps66
    go_wp2
    go_loop [5] (fun i => ∃ k : Nat, k ≤ n ∧ i = .int .i64 k ∧ ∀ j : Nat, j < k → Has l (j : Int) = true) (fun i => n - (intOf i).toNat)
    case atStart => exact ⟨0, Nat.zero_le _, rfl, fun _ h => absurd h (by omega)⟩
    case round =>
      obtain ⟨k, hk, rfl, hall⟩ := hrel
      have Hall := hid_ hall; clear hall
      by_cases hlt : k < n
      · cases hh : Has l (k : Int) with
        | false =>
          have Hf : Hid (IsOrd l (n : Int) = false) := hid_ (by
            rw [Bool.eq_false_iff]
            intro e
            simp only [IsOrd, Bool.and_eq_true, List.all_eq_true, List.mem_range] at e
            have := e.2 k (by simpa using hlt)
            rw [hh] at this; cases this)
          go_wp2_with (go_at_call 92; refine (has_calls _ _ _ _ _ _ h).mono ?_; rintro e w' ⟨rfl, rfl⟩)
          go_ret
          exact ⟨retB Hf.out, rfl⟩
        | true =>
          go_wp2_with (go_at_call 92; refine (has_calls _ _ _ _ _ _ h).mono ?_; rintro e w' ⟨rfl, rfl⟩)
          go_round
          case rel => exact ⟨k + 1, by omega, by go_num, lt_snoc Hall.out hh⟩
          case measure => simp [intOf]; omega
      · have Hf : Hid (IsOrd l (n : Int) = true) := hid_ (by
          simp only [IsOrd, Bool.and_eq_true, List.all_eq_true, List.mem_range, decide_eq_true_eq]
          exact ⟨by rw [h.len], fun j hj => Hall.out j (by simp at hj; omega)⟩)
        go_wp2
        go_ret
        exact ⟨retB Hf.out, rfl⟩
  · have hq : ((n : Int) != m) = true := by simpa using hm
    have Hf : Hid (IsOrd l m = false) := hid_ (by simp [IsOrd, h.len, hm])
    have Hm := hid_ hm; clear hm
    go_enter Try.func66, Try.ntmps66
    go_wp2
    go_ret
    exact ⟨retB Hf.out, rfl⟩
end Go.Proofs.Ytoopgmoopmbfnaa
