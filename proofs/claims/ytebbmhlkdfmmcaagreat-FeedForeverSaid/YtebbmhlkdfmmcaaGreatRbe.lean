import Derived.Test.YtebbmhlkdfmmcaaGreatKa
namespace Go.Proofs.YtebbmhlkdfmmcaaGreat
open Go.RowKit Go.Proofs.Kv

def isWord (l : List Int) : Bool := l.all fun x => Within x 0 5
theorem within2_calls (n lo hi : Int) (w : World) :
    Calls Tryz.prog 100 #[.int .i64 n, .int .i64 lo, .int .i64 hi] w fun e w' => e = .returned (.bool (Within n lo hi)) ∧ w = w' := by
  by_cases h1 : lo ≤ n
  · have H : Hid (Within n lo hi = decide (n ≤ hi)) := by simp [Hid, Within, h1]
    go_enter Tryz.func100, Tryz.ntmps100
    go_wp2
    go_ret
    exact ⟨retB H.out, rfl⟩
  · have H : Hid (Within n lo hi = false) := by simp [Hid, Within, h1]
    go_enter Tryz.func100, Tryz.ntmps100
    go_wp2
    go_ret
    exact ⟨retB H.out, rfl⟩
theorem isWord_no {l : List Int} {k : Nat} (hk : k < l.length) (h : Within (l.getD k 0) 0 5 = false) : isWord l = false := by
  rw [isWord, List.all_eq_false]
  exact ⟨_, getD_mem hk, by rw [h]; simp⟩
theorem isWord_yes {l : List Int} {n : Nat} (hn : l.length = n) (h : ∀ j, j < n → Within (l.getD j 0) 0 5 = true) : isWord l = true := by
  rw [isWord, List.all_eq_true]
  intro x hx
  obtain ⟨i, hi, rfl⟩ := mem_getD hx
  exact h i (by omega)
theorem isWord_calls (a : Option Addr) (n c : Nat) (l : List Int) (w : World) (h : IntsAt w a n c l) :
    Calls Tryz.prog 84 #[.slice a n c] w fun e w' => e = .returned (.bool (isWord l)) ∧ w = w' := by
  have hn : n ≤ 9223372036854775807 := Nat.le_trans h.le h.small
  go_enter Tryz.func84, Tryz.ntmps84
  go_wp2
  go_loop [3] (fun i => ∃ k : Nat, k ≤ n ∧ i = .int .i64 k ∧ ∀ j, j < k → Within (l.getD j 0) 0 5 = true) (fun i => n - (intOf i).toNat)
  case atStart => exact ⟨0, Nat.zero_le _, rfl, fun _ h => absurd h (by omega)⟩
  case round =>
    obtain ⟨k, hk, rfl, hall⟩ := hrel
    have Hall := hid_ hall; clear hall
    by_cases hlt : k < n
    · obtain ⟨b, off, rfl, hb, hcell⟩ := h.cells k hlt
      generalize hy : l.getD k 0 = y at hcell
      have Hy := hid_ hy; clear hy
      cases hw : Within y 0 5 with
      | false =>
        have Hf : Hid (isWord l = false) := hid_ (isWord_no (k := k) (by rw [h.len]; exact hlt) (by rw [Hy.out]; exact hw))
        go_wp2_with (go_at_call 100; refine (within2_calls _ _ _ _).mono ?_; rintro e w' ⟨rfl, rfl⟩)
        go_ret
        exact ⟨retB Hf.out, rfl⟩
      | true =>
        go_wp2_with (go_at_call 100; refine (within2_calls _ _ _ _).mono ?_; rintro e w' ⟨rfl, rfl⟩)
        go_round
        case rel => exact ⟨k + 1, by omega, by go_num, lt_snoc Hall.out (by rw [Hy.out]; exact hw)⟩
        case measure => simp [intOf]; omega
    · have Hf : Hid (isWord l = true) := hid_ (isWord_yes h.len fun j hj => Hall.out j (by omega))
      go_wp2
      go_ret
      exact ⟨retB Hf.out, rfl⟩

/-! ### ValidateWord, may, at -/
def validW (l : List Int) : Int := if 8 < l.length then 3 else if isWord l then 0 else 1
theorem validateWord_calls (a : Option Addr) (n c : Nat) (l : List Int) (w : World) (h : IntsAt w a n c l) :
    Calls Tryz.prog 62 #[.slice a n c] w fun e w' => e = .returned (.int .i64 (validW l)) ∧ w = w' := by
  have hn : n ≤ 9223372036854775807 := Nat.le_trans h.le h.small
  by_cases h8 : 8 < n
  · have Hf : Hid (validW l = 3) := hid_ (by rw [validW, h.len, if_pos h8])
    go_enter Tryz.func62, Tryz.ntmps62
    go_wp2
    go_ret
    exact ⟨retI Hf.out, rfl⟩
  · have Hc := hid_ (isWord_calls a n c l w h)
    have Hn : Hid (validW l = if isWord l then 0 else 1) := hid_ (by rw [validW, h.len, if_neg h8])
    generalize isWord l = b at Hc Hn
    cases b
    all_goals
      go_enter Tryz.func62, Tryz.ntmps62
      go_wp2_with (go_at_call 84; refine (Hc.out).mono ?_; rintro e w' ⟨rfl, rfl⟩)
      go_ret
      exact ⟨retI Hn.out, rfl⟩
def mayL (s : List Int) (x : Int) : Bool := s.isEmpty || Has s x
theorem may_calls (a : Option Addr) (n c : Nat) (s : List Int) (x : Int) (w : World) (h : IntsAt w a n c s) :
    Calls Tryz.prog 119 #[.slice a n c, .int .i64 x] w fun e w' => e = .returned (.bool (mayL s x)) ∧ w = w' := by
  have hn : n ≤ 9223372036854775807 := Nat.le_trans h.le h.small
  by_cases h0 : n = 0
  · subst h0
    have Hf : Hid (mayL s x = true) := hid_ (by rw [List.eq_nil_of_length_eq_zero h.len]; rfl)
    go_enter Tryz.func119, Tryz.ntmps119
    go_wp2
    go_ret
    exact ⟨retB Hf.out, rfl⟩
  · have hz : ((n : Int) == 0) = false := by simp; omega
    have Hf : Hid (mayL s x = Has s x) := hid_ (by
      cases s with
      | nil => exact absurd h.len.symm h0
      | cons y s => rfl)
    have H0 := hid_ h0; clear h0
    go_enter Tryz.func119, Tryz.ntmps119
    go_wp2_with (go_at_call 126; refine (has_calls _ _ _ _ _ _ h).mono ?_; rintro e w' ⟨rfl, rfl⟩)
    go_ret
    exact ⟨retB Hf.out, rfl⟩
def atL (l : List Int) (i : Int) : Int := if Within i 0 ((l.length : Int) - 1) then l.getD i.toNat 0 else -1
theorem at_calls (a : Option Addr) (n c : Nat) (l : List Int) (i : Int) (w : World) (h : IntsAt w a n c l) :
    Calls Tryz.prog 120 #[.slice a n c, .int .i64 i] w fun e w' => e = .returned (.int .i64 (atL l i)) ∧ w = w' := by
  have hn : n ≤ 9223372036854775807 := Nat.le_trans h.le h.small
  by_cases hi : 0 ≤ i ∧ i < n
  · obtain ⟨hi0, hin⟩ := hi
    have hw : Within i 0 ((n : Int) - 1) = true := by simp [Within]; omega
    have Hf : Hid (atL l i = l.getD i.toNat 0) := hid_ (by rw [atL, h.len, if_pos hw])
    obtain ⟨b, off, rfl, hb, hcell⟩ := h.cells i.toNat (by omega)
    go_enter Tryz.func120, Tryz.ntmps120
    go_wp2_with (go_at_call 100; refine (within2_calls _ _ _ _).mono ?_; rintro e w' ⟨rfl, rfl⟩)
    go_ret
    exact ⟨retI Hf.out, rfl⟩
  · have hw : Within i 0 ((n : Int) - 1) = false := by
      rw [Bool.eq_false_iff]; intro e; simp [Within] at e; omega
    have Hf : Hid (atL l i = -1) := hid_ (by rw [atL, h.len, if_neg (by rw [hw]; simp)])
    have Hi := hid_ hi; clear hi
    go_enter Tryz.func120, Tryz.ntmps120
    go_wp2_with (go_at_call 100; refine (within2_calls _ _ _ _).mono ?_; rintro e w' ⟨rfl, rfl⟩)
    go_ret
    exact ⟨retI Hf.out, rfl⟩
end Go.Proofs.YtebbmhlkdfmmcaaGreat
namespace Go.Proofs.YtebbmhlkdfmmcaaGreat
open Go.RowKit Go.Proofs.Kv

/-! ### Validate -/
def setN (l : List Int) : Bool := IsSet l (-1) 5
def validR (R : Rl) : Int :=
  if Within R.f (-1) 5 then (if 2 < R.o.length then 3 else if isWord R.o then (if setN R.le then (if setN R.ri then (if R.f < 0 ∧ R.o.length = 0 ∨ R.o.length = 1 ∧ R.o.getD 0 0 = R.f then 6 else 0) else 1) else 1) else 1) else 1
set_option maxRecDepth 100000 in
set_option maxHeartbeats 2000000 in
theorem validate_calls (v : Value) (R : Rl) (w : World) (h : RuleAt w v R) :
    Calls Tryz.prog 83 #[v] w fun e w' => e = .returned (.int .i64 (validR R)) ∧ Below w.heap.size w w' := by
  obtain ⟨a, n, c, a', n', c', a'', n'', c'', rfl, h1, h2, h3⟩ := h
  obtain ⟨f, o, le, ri⟩ := R
  dsimp only at h1 h2 h3 ⊢
  have hn : n ≤ 9223372036854775807 := Nat.le_trans h1.le h1.small
  have hlen := hid_ h1.len
  cases hw : Within f (-1) 5 with
  | false =>
    have Hf : Hid (validR ⟨f, o, le, ri⟩ = 1) := hid_ (by simp [validR, hw])
    go_enter Tryz.func83, Tryz.ntmps83
    go_wp2_with (go_at_call 100; refine (within2_calls _ _ _ _).mono ?_; rintro e w' ⟨rfl, rfl⟩)
    go_ret
    exact ⟨retI Hf.out, below_alloc _ _⟩
  | true =>
    by_cases h2n : 2 < n
    · have Hf : Hid (validR ⟨f, o, le, ri⟩ = 3) := hid_ (by simp [validR, hw, hlen.out, h2n])
      go_enter Tryz.func83, Tryz.ntmps83
      go_wp2_with (go_at_call 100; refine (within2_calls _ _ _ _).mono ?_; rintro e w' ⟨rfl, rfl⟩)
      go_ret
      exact ⟨retI Hf.out, below_alloc _ _⟩
    · have Hv : Hid (validR ⟨f, o, le, ri⟩ = if isWord o then (if setN le then (if setN ri then (if f < 0 ∧ o.length = 0 ∨ o.length = 1 ∧ o.getD 0 0 = f then 6 else 0) else 1) else 1) else 1) := hid_ (by simp [validR, hw, hlen.out, h2n])
      have HB := hid_ (below_alloc w (.cells #[.int .i64 f, .slice a n c, .slice a' n' c', .slice a'' n'' c''] 44))
      have k1 := hid_ (isWord_calls _ _ _ _ _ (h1.below HB.out (Nat.le_refl _)))
      have k2 := hid_ (isSet_calls _ _ _ _ (-1) 5 _ (h2.below HB.out (Nat.le_refl _)))
      have k3 := hid_ (fun q => isSet_calls _ _ _ _ (-1) 5 _ ((h3.below HB.out (Nat.le_refl _)).drewN q))
      rw [show IsSet le (-1) 5 = setN le from rfl] at k2
      rw [show IsSet ri (-1) 5 = setN ri from rfl] at k3
      generalize isWord o = b1 at Hv k1
      generalize setN le = b2 at Hv k2
      generalize setN ri = b3 at Hv k3
      cases b1 with
      | false =>
        clear k2 k3
        go_enter Tryz.func83, Tryz.ntmps83
        go_wp2_with (first
          | (go_at_call 100; refine (within2_calls _ _ _ _).mono ?_; rintro e w' ⟨rfl, rfl⟩)
          | (go_at_call 84; refine (k1.out).mono ?_; rintro e w' ⟨rfl, rfl⟩))
        go_ret
        exact ⟨retI Hv.out, HB.out⟩
      | true =>
        cases b2 with
        | false =>
          clear k3
          go_enter Tryz.func83, Tryz.ntmps83
          go_wp2_with (first
            | (go_at_call 100; refine (within2_calls _ _ _ _).mono ?_; rintro e w' ⟨rfl, rfl⟩)
            | (go_at_call 84; refine (k1.out).mono ?_; rintro e w' ⟨rfl, rfl⟩)
            | (go_at_call 101; refine (k2.out).mono ?_; rintro e w' ⟨rfl, q, rfl⟩))
          go_ret
          exact ⟨retI Hv.out, below_drewN HB.out q⟩
        | true =>
          cases b3 with
          | false =>
            go_enter Tryz.func83, Tryz.ntmps83
            go_wp2_with (first
              | (go_at_call 100; refine (within2_calls _ _ _ _).mono ?_; rintro e w' ⟨rfl, rfl⟩)
              | (go_at_call 84; refine (k1.out).mono ?_; rintro e w' ⟨rfl, rfl⟩)
              | (go_at_call 101; with_reducible refine (k2.out).mono ?_; rintro e w' ⟨rfl, q, rfl⟩)
              | (go_at_call 101; refine (k3.out _).mono ?_; rintro e w' ⟨rfl, q', rfl⟩))
            go_ret
            exact ⟨retI Hv.out, below_drewN HB.out _⟩
          | true =>
            have Hv' : Hid (validR ⟨f, o, le, ri⟩ = if f < 0 ∧ o.length = 0 ∨ o.length = 1 ∧ o.getD 0 0 = f then 6 else 0) := hid_ (by rw [Hv.out]; rfl)
            clear Hv
            have hn3 : n = 0 ∨ n = 1 ∨ n = 2 := by omega
            clear h2n hn
            cases hd : decide (f < 0)
            all_goals
              rcases hn3 with rfl | rfl | rfl
              · have Hf : Hid (validR ⟨f, o, le, ri⟩ = bif decide (f < 0) then 6 else 0) := hid_ (by rw [Hv'.out, hlen.out]; cases hq : decide (f < 0) <;> simp_all)
                rw [hd] at Hf
                go_enter Tryz.func83, Tryz.ntmps83
                go_wp2_with (first
                  | (go_at_call 100; refine (within2_calls _ _ _ _).mono ?_; rintro e w' ⟨rfl, rfl⟩)
                  | (go_at_call 84; refine (k1.out).mono ?_; rintro e w' ⟨rfl, rfl⟩)
                  | (go_at_call 101; with_reducible refine (k2.out).mono ?_; rintro e w' ⟨rfl, q, rfl⟩)
                  | (go_at_call 101; refine (k3.out _).mono ?_; rintro e w' ⟨rfl, q', rfl⟩))
                go_quiet (fail)
                go_wp2
                go_ret
                exact ⟨retI Hf.out, below_drewN (below_drewN HB.out _) _⟩
              · obtain ⟨b, off, rfl, hb, hcell⟩ := (h1.below HB.out (Nat.le_refl _)).cells 0 (by omega)
                have Hf : Hid (validR ⟨f, o, le, ri⟩ = bif (o.getD 0 0 == f) then 6 else 0) := hid_ (by rw [Hv'.out, hlen.out]; cases hq : (o.getD 0 0 == f) <;> simp_all)
                generalize o.getD 0 0 = y at Hf hcell
                simp only [Nat.add_zero] at hcell
                cases hy : (y == f)
                all_goals
                  rw [hy] at Hf
                  go_enter Tryz.func83, Tryz.ntmps83
                  go_wp2_with (first
                    | (go_at_call 100; refine (within2_calls _ _ _ _).mono ?_; rintro e w' ⟨rfl, rfl⟩)
                    | (go_at_call 84; refine (k1.out).mono ?_; rintro e w' ⟨rfl, rfl⟩)
                    | (go_at_call 101; with_reducible refine (k2.out).mono ?_; rintro e w' ⟨rfl, q, rfl⟩)
                    | (go_at_call 101; refine (k3.out _).mono ?_; rintro e w' ⟨rfl, q', rfl⟩))
                  go_quiet (fail)
                  go_wp2
                  go_ret
                  exact ⟨retI Hf.out, below_drewN (below_drewN HB.out _) _⟩
              · have Hf : Hid (validR ⟨f, o, le, ri⟩ = 0) := hid_ (by rw [Hv'.out, hlen.out]; simp)
                go_enter Tryz.func83, Tryz.ntmps83
                go_wp2_with (first
                  | (go_at_call 100; refine (within2_calls _ _ _ _).mono ?_; rintro e w' ⟨rfl, rfl⟩)
                  | (go_at_call 84; refine (k1.out).mono ?_; rintro e w' ⟨rfl, rfl⟩)
                  | (go_at_call 101; with_reducible refine (k2.out).mono ?_; rintro e w' ⟨rfl, q, rfl⟩)
                  | (go_at_call 101; refine (k3.out _).mono ?_; rintro e w' ⟨rfl, q', rfl⟩))
                go_quiet (fail)
                go_wp2
                go_ret
                exact ⟨retI Hf.out, below_drewN (below_drewN HB.out _) _⟩
end Go.Proofs.YtebbmhlkdfmmcaaGreat
namespace Go.Proofs.YtebbmhlkdfmmcaaGreat
open Go.RowKit Go.Proofs.Kv

/-! ### isPlace -/
def isPl (R : Rl) (l : List Int) (i : Int) : Bool :=
  if R.f < 0 then Within i 0 (l.length : Int) && mayL R.le (atL l (i - 1)) && mayL R.ri (atL l i)
  else Within i 0 ((l.length : Int) - 1) && (l.getD i.toNat 0 == R.f) && mayL R.le (atL l (i - 1)) && mayL R.ri (atL l (i + 1))
set_option maxRecDepth 100000 in
set_option maxHeartbeats 1000000 in
theorem isPlace_calls (v : Value) (R : Rl) (a : Option Addr) (n c : Nat) (l : List Int) (i : Int) (w : World) (hr : RuleAt w v R) (h : IntsAt w a n c l) (hn : n ≤ 100) :
    Calls Tryz.prog 110 #[v, .slice a n c, .int .i64 i] w fun e w' => e = .returned (.bool (isPl R l i)) ∧ Below w.heap.size w w' := by
  obtain ⟨a1, n1, c1, a2, n2, c2, a3, n3, c3, rfl, h1, h2, h3⟩ := hr
  obtain ⟨f, o, le, ri⟩ := R
  dsimp only at h1 h2 h3 ⊢
  have Hn := hid_ h.len
  have Hb := hid_ (below_alloc w (.cells #[.int .i64 f, .slice a1 n1 c1, .slice a2 n2 c2, .slice a3 n3 c3] 44))
  have hS := fun i => fun q => at_calls a n c l i _ ((h.below Hb.out (Nat.le_refl _)).drewN q)
  have hM := fun x => fun q => may_calls a2 n2 c2 le x _ ((h2.below Hb.out (Nat.le_refl _)).drewN q)
  have hN := fun x => fun q => may_calls a3 n3 c3 ri x _ ((h3.below Hb.out (Nat.le_refl _)).drewN q)
  cases hneg : decide (f < 0) with
  | true =>
    have hw : Hid (isPl ⟨f, o, le, ri⟩ l i = (Within i 0 (n : Int) && mayL le (atL l (i - 1)) && mayL ri (atL l i))) := hid_ (by rw [isPl, if_pos (by simpa using hneg), Hn.out])
    have hww := fun w => within2_calls i 0 n w
    cases hi : Within i 0 (n : Int) with
    | false =>
      rw [hi] at hw hww
      have Hw := hid_ hww; clear hww hS hM hN
      go_enter Tryz.func110, Tryz.ntmps110
      go_wp2
      go_quiet ((go_at_call 100; exact quiet_left (Hw.out _)))
      go_wp2
      go_ret
      exact ⟨retB hw.out, below_drewN Hb.out _⟩
    | true =>
      rw [hi] at hw hww
      have hw1 : IntKind.i64.wrap (i - 1) = i - 1 := IntWalk.i64_in _ (by simp [Within] at hi; omega)
      have S1 := hid_ (hS (i - 1))
      have S2 := hid_ (hS i)
      generalize atL l (i - 1) = x1 at *
      generalize atL l i = x2 at *
      have G1 := hid_ (hM x1)
      have G2 := hid_ (hN x2)
      generalize mayL le x1 = b1 at *
      generalize mayL ri x2 = b2 at *
      have Hw := hid_ hww; clear hww hS hM hN hi
      cases b1
      all_goals
        go_enter Tryz.func110, Tryz.ntmps110
        go_wp2
        go_quiet ((first
          | (go_at_call 100; exact quiet_left (Hw.out _))
          | (go_at_call 120; with_reducible exact quiet_left (S1.out _))
          | (go_at_call 120; with_reducible exact quiet_left (S2.out _))
          | (go_at_call 119; with_reducible exact quiet_left (G1.out _))
          | (go_at_call 119; with_reducible exact quiet_left (G2.out _))))
        go_wp2
        go_ret
        exact ⟨retB hw.out, below_drewN Hb.out _⟩
  | false =>
    have hw : Hid (isPl ⟨f, o, le, ri⟩ l i = (Within i 0 ((n : Int) - 1) && (l.getD i.toNat 0 == f) && mayL le (atL l (i - 1)) && mayL ri (atL l (i + 1)))) := hid_ (by rw [isPl, if_neg (by simpa using hneg), Hn.out])
    have hww := fun w => within2_calls i 0 ((n : Int) - 1) w
    have hw0 : IntKind.i64.wrap ((n : Int) - 1) = (n : Int) - 1 := IntWalk.i64_in _ (by omega)
    cases hi : Within i 0 ((n : Int) - 1) with
    | false =>
      rw [hi] at hw hww
      have Hw := hid_ hww; clear hww hS hM hN
      go_enter Tryz.func110, Tryz.ntmps110
      go_wp2
      go_quiet ((go_at_call 100; exact quiet_left (Hw.out _)))
      go_wp2
      go_ret
      exact ⟨retB hw.out, below_drewN Hb.out _⟩
    | true =>
      rw [hi] at hw hww
      have hi2 : 0 ≤ i ∧ i < n := by simp [Within] at hi; omega
      obtain ⟨hi0, hi1⟩ := hi2
      have hw1 : IntKind.i64.wrap (i - 1) = i - 1 := IntWalk.i64_in _ (by omega)
      have hw2 : IntKind.i64.wrap (i + 1) = i + 1 := IntWalk.i64_in _ (by omega)
      obtain ⟨b, off, rfl, hb, hcell⟩ := (h.below Hb.out (Nat.le_refl _)).cells i.toNat (by omega)
      generalize l.getD i.toNat 0 = y at *
      have S1 := hid_ (hS (i - 1))
      have S2 := hid_ (hS (i + 1))
      generalize atL l (i - 1) = x1 at *
      generalize atL l (i + 1) = x2 at *
      have G1 := hid_ (hM x1)
      have G2 := hid_ (hN x2)
      generalize mayL le x1 = b1 at *
      generalize mayL ri x2 = b2 at *
      have Hw := hid_ hww; clear hww hS hM hN hi
      cases hy : (y == f)
      all_goals
        rw [hy] at hw
        cases b1
        all_goals
          go_enter Tryz.func110, Tryz.ntmps110
          go_wp2
          go_quiet ((first
            | (go_at_call 100; exact quiet_left (Hw.out _))
            | (go_at_call 120; with_reducible exact quiet_left (S1.out _))
            | (go_at_call 120; with_reducible exact quiet_left (S2.out _))
            | (go_at_call 119; with_reducible exact quiet_left (G1.out _))
            | (go_at_call 119; with_reducible exact quiet_left (G2.out _))))
          go_wp2
          go_ret
          exact ⟨retB hw.out, below_drewN Hb.out _⟩
end Go.Proofs.YtebbmhlkdfmmcaaGreat
namespace Go.Proofs.YtebbmhlkdfmmcaaGreat
open Go.RowKit Go.Proofs.Kv

end Go.Proofs.YtebbmhlkdfmmcaaGreat
