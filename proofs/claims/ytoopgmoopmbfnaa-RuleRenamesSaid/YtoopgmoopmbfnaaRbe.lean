import Derived.Test.YtoopgmoopmbfnaaKa
namespace Go.Proofs.Ytoopgmoopmbfnaa
open Go.RowKit Go.Proofs.Kv

def isWord (l : List Int) : Bool := l.all fun x => Within x 0 5
theorem within2_calls (n lo hi : Int) (w : World) :
    Calls Try.prog 123 #[.int .i64 n, .int .i64 lo, .int .i64 hi] w fun e w' => e = .returned (.bool (Within n lo hi)) ∧ w = w' := by
  by_cases h1 : lo ≤ n
  · have H : Hid (Within n lo hi = decide (n ≤ hi)) := by simp [Hid, Within, h1]
    go_enter Try.func123, Try.ntmps123
    go_wp2
    go_ret
    exact ⟨retB H.out, rfl⟩
  · have H : Hid (Within n lo hi = false) := by simp [Hid, Within, h1]
    go_enter Try.func123, Try.ntmps123
    go_wp2
    go_ret
    exact ⟨retB H.out, rfl⟩
theorem isWord_no {l : List Int} {k : Nat} (hk : k < l.length) (h : Within (l.getD k 0) 0 5 = false) : isWord l = false := by
  rw [isWord, List.all_eq_false]
  exact ⟨_, getD_mem hk, by rw [h]; simp⟩
theorem isWord_yes {l : List Int} {n : Nat} (hn : l.length = n) (h : ∀ j, j < n → Within (l.getD j 0) 0 5 = true) : isWord l = true := by
  rw [isWord, List.all_eq_true]
  intro x hx
  obtain ⟨i, hi, rfl⟩ := mem_getD hx
  exact h i (by omega)
theorem isWord_calls (a : Option Addr) (n c : Nat) (l : List Int) (w : World) (h : IntsAt w a n c l) :
    Calls Try.prog 124 #[.slice a n c] w fun e w' => e = .returned (.bool (isWord l)) ∧ w = w' := by
  have hn : n ≤ 9223372036854775807 := Nat.le_trans h.le h.small
  go_enter Try.func124, Try.ntmps124
  go_wp2
  go_loop [3] (fun i => ∃ k : Nat, k ≤ n ∧ i = .int .i64 k ∧ ∀ j, j < k → Within (l.getD j 0) 0 5 = true) (fun i => n - (intOf i).toNat)
  case atStart => exact ⟨0, Nat.zero_le _, rfl, fun _ h => absurd h (by omega)⟩
  case round =>
    obtain ⟨k, hk, rfl, hall⟩ := hrel
    have Hall := hid_ hall; clear hall
    by_cases hlt : k < n
    · obtain ⟨b, off, rfl, hb, hcell⟩ := h.cells k hlt
      generalize hy : l.getD k 0 = y at hcell
      have Hy := hid_ hy; clear hy
      cases hw : Within y 0 5 with
      | false =>
        have Hf : Hid (isWord l = false) := hid_ (isWord_no (k := k) (by rw [h.len]; exact hlt) (by rw [Hy.out]; exact hw))
        go_wp2_with (go_at_call 123; refine (within2_calls _ _ _ _).mono ?_; rintro e w' ⟨rfl, rfl⟩)
        go_ret
        exact ⟨retB Hf.out, rfl⟩
      | true =>
        go_wp2_with (go_at_call 123; refine (within2_calls _ _ _ _).mono ?_; rintro e w' ⟨rfl, rfl⟩)
        go_round
        case rel => exact ⟨k + 1, by omega, by go_num, lt_snoc Hall.out (by rw [Hy.out]; exact hw)⟩
        case measure => simp [intOf]; omega
    · have Hf : Hid (isWord l = true) := hid_ (isWord_yes h.len fun j hj => Hall.out j (by omega))
      go_wp2
      go_ret
      exact ⟨retB Hf.out, rfl⟩

/-! ### ValidateWord, may, at -/
def validW (l : List Int) : Int := if 8 < l.length then 3 else if isWord l then 0 else 1
theorem validateWord_calls (a : Option Addr) (n c : Nat) (l : List Int) (w : World) (h : IntsAt w a n c l) :
    Calls Try.prog 87 #[.slice a n c] w fun e w' => e = .returned (.int .i64 (validW l)) ∧ w = w' := by
  have hn : n ≤ 9223372036854775807 := Nat.le_trans h.le h.small
  by_cases h8 : 8 < n
  · have Hf : Hid (validW l = 3) := hid_ (by rw [validW, h.len, if_pos h8])
    go_enter Try.func87, Try.ntmps87
    go_wp2
    go_ret
    exact ⟨retI Hf.out, rfl⟩
  · have Hc := hid_ (isWord_calls a n c l w h)
    have Hn : Hid (validW l = if isWord l then 0 else 1) := hid_ (by rw [validW, h.len, if_neg h8])
    generalize isWord l = b at Hc Hn
    cases b
    all_goals
      go_enter Try.func87, Try.ntmps87
      go_wp2_with (go_at_call 124; refine (Hc.out).mono ?_; rintro e w' ⟨rfl, rfl⟩)
      go_ret
      exact ⟨retI Hn.out, rfl⟩
def mayL (s : List Int) (x : Int) : Bool := s.isEmpty || Has s x
def atL (l : List Int) (i : Int) : Int := if Within i 0 ((l.length : Int) - 1) then l.getD i.toNat 0 else -1
end Go.Proofs.Ytoopgmoopmbfnaa
namespace Go.Proofs.Ytoopgmoopmbfnaa
open Go.RowKit Go.Proofs.Kv

/-! ### Validate -/
def setN (l : List Int) : Bool := IsSet l (-1) 5
def validR (R : Rl) : Int :=
  if Within R.f (-1) 5 then (if 2 < R.o.length then 3 else if isWord R.o then (if setN R.le then (if setN R.ri then (if R.f < 0 ∧ R.o.length = 0 ∨ R.o.length = 1 ∧ R.o.getD 0 0 = R.f then 6 else 0) else 1) else 1) else 1) else 1
set_option maxRecDepth 100000 in
set_option maxHeartbeats 2000000 in
theorem validate_calls (v : Value) (R : Rl) (w : World) (h : RuleAt w v R) :
    Calls Try.prog 83 #[v] w fun e w' => e = .returned (.int .i64 (validR R)) ∧ Below w.heap.size w w' := by
  obtain ⟨a, n, c, a', n', c', a'', n'', c'', rfl, h1, h2, h3⟩ := h
  obtain ⟨f, o, le, ri⟩ := R
  dsimp only at h1 h2 h3 ⊢
  have hn : n ≤ 9223372036854775807 := Nat.le_trans h1.le h1.small
  have hlen := hid_ h1.len
  cases hw : Within f (-1) 5 with
  | false =>
    have Hf : Hid (validR ⟨f, o, le, ri⟩ = 1) := hid_ (by simp [validR, hw])
    go_enter Try.func83, Try.ntmps83
    go_wp2_with (go_at_call 123; refine (within2_calls _ _ _ _).mono ?_; rintro e w' ⟨rfl, rfl⟩)
    go_ret
    exact ⟨retI Hf.out, below_alloc _ _⟩
  | true =>
    by_cases h2n : 2 < n
    · have Hf : Hid (validR ⟨f, o, le, ri⟩ = 3) := hid_ (by simp [validR, hw, hlen.out, h2n])
      go_enter Try.func83, Try.ntmps83
      go_wp2_with (go_at_call 123; refine (within2_calls _ _ _ _).mono ?_; rintro e w' ⟨rfl, rfl⟩)
      go_ret
      exact ⟨retI Hf.out, below_alloc _ _⟩
    · have Hv : Hid (validR ⟨f, o, le, ri⟩ = if isWord o then (if setN le then (if setN ri then (if f < 0 ∧ o.length = 0 ∨ o.length = 1 ∧ o.getD 0 0 = f then 6 else 0) else 1) else 1) else 1) := hid_ (by simp [validR, hw, hlen.out, h2n])
      have HB := hid_ (below_alloc w (.cells #[.int .i64 f, .slice a n c, .slice a' n' c', .slice a'' n'' c''] 49))
      have k1 := hid_ (isWord_calls _ _ _ _ _ (h1.below HB.out (Nat.le_refl _)))
      have k2 := hid_ (isSet_calls _ _ _ _ (-1) 5 _ (h2.below HB.out (Nat.le_refl _)))
      have k3 := hid_ (fun q => isSet_calls _ _ _ _ (-1) 5 _ ((h3.below HB.out (Nat.le_refl _)).drewN q))
      rw [show IsSet le (-1) 5 = setN le from rfl] at k2
      rw [show IsSet ri (-1) 5 = setN ri from rfl] at k3
      generalize isWord o = b1 at Hv k1
      generalize setN le = b2 at Hv k2
      generalize setN ri = b3 at Hv k3
      cases b1 with
      | false =>
        clear k2 k3
        go_enter Try.func83, Try.ntmps83
        go_wp2_with (first
          | (go_at_call 123; refine (within2_calls _ _ _ _).mono ?_; rintro e w' ⟨rfl, rfl⟩)
          | (go_at_call 124; refine (k1.out).mono ?_; rintro e w' ⟨rfl, rfl⟩))
        go_ret
        exact ⟨retI Hv.out, HB.out⟩
      | true =>
        cases b2 with
        | false =>
          clear k3
          go_enter Try.func83, Try.ntmps83
          go_wp2_with (first
            | (go_at_call 123; refine (within2_calls _ _ _ _).mono ?_; rintro e w' ⟨rfl, rfl⟩)
            | (go_at_call 124; refine (k1.out).mono ?_; rintro e w' ⟨rfl, rfl⟩)
            | (go_at_call 103; refine (k2.out).mono ?_; rintro e w' ⟨rfl, q, rfl⟩))
          go_ret
          exact ⟨retI Hv.out, below_drewN HB.out q⟩
        | true =>
          cases b3 with
          | false =>
            go_enter Try.func83, Try.ntmps83
            go_wp2_with (first
              | (go_at_call 123; refine (within2_calls _ _ _ _).mono ?_; rintro e w' ⟨rfl, rfl⟩)
              | (go_at_call 124; refine (k1.out).mono ?_; rintro e w' ⟨rfl, rfl⟩)
              | (go_at_call 103; with_reducible refine (k2.out).mono ?_; rintro e w' ⟨rfl, q, rfl⟩)
              | (go_at_call 103; refine (k3.out _).mono ?_; rintro e w' ⟨rfl, q', rfl⟩))
            go_ret
            exact ⟨retI Hv.out, below_drewN HB.out _⟩
          | true =>
            have Hv' : Hid (validR ⟨f, o, le, ri⟩ = if f < 0 ∧ o.length = 0 ∨ o.length = 1 ∧ o.getD 0 0 = f then 6 else 0) := hid_ (by rw [Hv.out]; rfl)
            clear Hv
            have hn3 : n = 0 ∨ n = 1 ∨ n = 2 := by omega
            clear h2n hn
            cases hd : decide (f < 0)
            all_goals
              rcases hn3 with rfl | rfl | rfl
              · have Hf : Hid (validR ⟨f, o, le, ri⟩ = bif decide (f < 0) then 6 else 0) := hid_ (by rw [Hv'.out, hlen.out]; cases hq : decide (f < 0) <;> simp_all)
                rw [hd] at Hf
                go_enter Try.func83, Try.ntmps83
                go_wp2_with (first
                  | (go_at_call 123; refine (within2_calls _ _ _ _).mono ?_; rintro e w' ⟨rfl, rfl⟩)
                  | (go_at_call 124; refine (k1.out).mono ?_; rintro e w' ⟨rfl, rfl⟩)
                  | (go_at_call 103; with_reducible refine (k2.out).mono ?_; rintro e w' ⟨rfl, q, rfl⟩)
                  | (go_at_call 103; refine (k3.out _).mono ?_; rintro e w' ⟨rfl, q', rfl⟩))
                go_quiet (fail)
                go_wp2
                go_ret
                exact ⟨retI Hf.out, below_drewN (below_drewN HB.out _) _⟩
              · obtain ⟨b, off, rfl, hb, hcell⟩ := (h1.below HB.out (Nat.le_refl _)).cells 0 (by omega)
                have Hf : Hid (validR ⟨f, o, le, ri⟩ = bif (o.getD 0 0 == f) then 6 else 0) := hid_ (by rw [Hv'.out, hlen.out]; cases hq : (o.getD 0 0 == f) <;> simp_all)
                generalize o.getD 0 0 = y at Hf hcell
                simp only [Nat.add_zero] at hcell
                cases hy : (y == f)
                all_goals
                  rw [hy] at Hf
                  go_enter Try.func83, Try.ntmps83
                  go_wp2_with (first
                    | (go_at_call 123; refine (within2_calls _ _ _ _).mono ?_; rintro e w' ⟨rfl, rfl⟩)
                    | (go_at_call 124; refine (k1.out).mono ?_; rintro e w' ⟨rfl, rfl⟩)
                    | (go_at_call 103; with_reducible refine (k2.out).mono ?_; rintro e w' ⟨rfl, q, rfl⟩)
                    | (go_at_call 103; refine (k3.out _).mono ?_; rintro e w' ⟨rfl, q', rfl⟩))
                  go_quiet (fail)
                  go_wp2
                  go_ret
                  exact ⟨retI Hf.out, below_drewN (below_drewN HB.out _) _⟩
              · have Hf : Hid (validR ⟨f, o, le, ri⟩ = 0) := hid_ (by rw [Hv'.out, hlen.out]; simp)
                go_enter Try.func83, Try.ntmps83
                go_wp2_with (first
                  | (go_at_call 123; refine (within2_calls _ _ _ _).mono ?_; rintro e w' ⟨rfl, rfl⟩)
                  | (go_at_call 124; refine (k1.out).mono ?_; rintro e w' ⟨rfl, rfl⟩)
                  | (go_at_call 103; with_reducible refine (k2.out).mono ?_; rintro e w' ⟨rfl, q, rfl⟩)
                  | (go_at_call 103; refine (k3.out _).mono ?_; rintro e w' ⟨rfl, q', rfl⟩))
                go_quiet (fail)
                go_wp2
                go_ret
                exact ⟨retI Hf.out, below_drewN (below_drewN HB.out _) _⟩
end Go.Proofs.Ytoopgmoopmbfnaa
namespace Go.Proofs.Ytoopgmoopmbfnaa
open Go.RowKit Go.Proofs.Kv

/-! ### isPlace -/
def isPl (R : Rl) (l : List Int) (i : Int) : Bool :=
  if R.f < 0 then Within i 0 (l.length : Int) && mayL R.le (atL l (i - 1)) && mayL R.ri (atL l i)
  else Within i 0 ((l.length : Int) - 1) && (l.getD i.toNat 0 == R.f) && mayL R.le (atL l (i - 1)) && mayL R.ri (atL l (i + 1))
end Go.Proofs.Ytoopgmoopmbfnaa
namespace Go.Proofs.Ytoopgmoopmbfnaa
open Go.RowKit Go.Proofs.Kv

end Go.Proofs.Ytoopgmoopmbfnaa
