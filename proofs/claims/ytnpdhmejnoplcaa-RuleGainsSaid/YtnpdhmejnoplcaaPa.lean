import Derived.Test.YtnpdhmejnoplcaaRc
namespace Go.Proofs.Ytnpdhmejnoplcaa
open Go.RowKit Go.Proofs.Kv

/-! ### isSound, areSounds, isNeighbor, areNeighbors -/
theorem ruIsSound_calls (x : Int) (w : World) :
    Calls Try.prog 113 #[.int .i64 x] w fun e w' => e = .returned (.bool (Within x 0 5)) ∧ w = w' := by
  by_cases h1 : 0 ≤ x
  · have H : Hid (Within x 0 5 = decide (x < 6)) := hid_ (by simp only [Within, decide_eq_true h1, Bool.true_and]; exact decide_eq_decide.2 (by omega))
    go_enter Try.func113, Try.ntmps113
    go_wp2
    go_ret
    exact ⟨retB H.out, rfl⟩
  · have H : Hid (Within x 0 5 = false) := by simp [Hid, Within, h1]
    go_enter Try.func113, Try.ntmps113
    go_wp2
    go_ret
    exact ⟨retB H.out, rfl⟩
theorem areSounds_calls (a : Option Addr) (n c : Nat) (l : List Int) (w : World) (h : IntsAt w a n c l) :
    Calls Try.prog 114 #[.slice a n c] w fun e w' => e = .returned (.bool (isWord l)) ∧ w = w' := by
  have hn : n ≤ 9223372036854775807 := Nat.le_trans h.le h.small
  go_enter Try.func114, Try.ntmps114
  go_wp2
  go_loop [7] (fun i => ∃ k : Nat, k ≤ n ∧ i = .int .i64 k ∧ ∀ j, j < k → Within (l.getD j 0) 0 5 = true) (fun i => n - (intOf i).toNat)
  case atStart => exact ⟨0, Nat.zero_le _, rfl, fun _ h => absurd h (by omega)⟩
  case round =>
    obtain ⟨k, hk, rfl, hall⟩ := hrel
    have Hall := hid_ hall; clear hall
    by_cases hlt : k < n
    · obtain ⟨b, off, rfl, hb, hcell⟩ := h.cells k hlt
      generalize hy : l.getD k 0 = y at hcell
      have Hy := hid_ hy; clear hy
      cases hw : Within y 0 5 with
      | false =>
        have Hf : Hid (isWord l = false) := hid_ (isWord_no (k := k) (by rw [h.len]; exact hlt) (by rw [Hy.out]; exact hw))
        go_wp2_with (go_at_call 113; refine (ruIsSound_calls _ _).mono ?_; rintro e w' ⟨rfl, rfl⟩)
        go_ret
        exact ⟨retB Hf.out, rfl⟩
      | true =>
        go_wp2_with (go_at_call 113; refine (ruIsSound_calls _ _).mono ?_; rintro e w' ⟨rfl, rfl⟩)
        go_round
        case rel => exact ⟨k + 1, by omega, by go_num, lt_snoc Hall.out (by rw [Hy.out]; exact hw)⟩
        case measure => simp [intOf]; omega
    · have Hf : Hid (isWord l = true) := hid_ (isWord_yes h.len fun j hj => Hall.out j (by omega))
      go_wp2
      go_ret
      exact ⟨retB Hf.out, rfl⟩
theorem within_neg (x : Int) : Within x (-1) 5 = ((x == -1) || Within x 0 5) := by
  unfold Within
  rw [Bool.eq_iff_iff]; simp; omega
theorem isNeighbor_calls (x : Int) (w : World) :
    Calls Try.prog 130 #[.int .i64 x] w fun e w' => e = .returned (.bool (Within x (-1) 5)) ∧ w = w' := by
  have Hw := hid_ (within_neg x)
  cases hx : (x == -1) with
  | true =>
    have H : Hid (Within x (-1) 5 = true) := hid_ (by rw [Hw.out, hx]; rfl)
    go_enter Try.func130, Try.ntmps130
    go_wp2
    go_ret
    exact ⟨retB H.out, rfl⟩
  | false =>
    have H : Hid (Within x (-1) 5 = Within x 0 5) := hid_ (by rw [Hw.out, hx]; rfl)
    go_enter Try.func130, Try.ntmps130
    go_wp2_with (go_at_call 113; refine (ruIsSound_calls _ _).mono ?_; rintro e w' ⟨rfl, rfl⟩)
    go_ret
    exact ⟨retB H.out, rfl⟩
set_option maxRecDepth 100000 in
theorem areNeighbors_calls (a : Option Addr) (n c : Nat) (l : List Int) (w : World) (h : IntsAt w a n c l) :
    Calls Try.prog 115 #[.slice a n c] w fun e w' => e = .returned (.bool (setN l)) ∧ w = w' := by
  have hn : n ≤ 9223372036854775807 := Nat.le_trans h.le h.small
  go_enter Try.func115, Try.ntmps115
  go_wp2
  go_loop [7] (fun i => ∃ k : Nat, k ≤ n ∧ i = .int .i64 k ∧ ∀ j, j < k → setBad l (-1) 5 j = false) (fun i => n - (intOf i).toNat)
  case atStart => exact ⟨0, Nat.zero_le _, rfl, fun _ h => absurd h (by omega)⟩
  case round =>
    obtain ⟨k, hk, rfl, hall⟩ := hrel
    have Hall := hid_ hall; clear hall
    by_cases hlt : k < n
    · obtain ⟨b, off, rfl, hb, hcell⟩ := h.cells k hlt
      have hprev : 0 < k → w.cell? ⟨b, off + (k - 1), none⟩ = some (.int .i64 (l.getD (k - 1) 0)) := fun h0 => by
        obtain ⟨b', off', e, _, hc⟩ := h.cells (k - 1) (by omega)
        injection e with e; injection e with e1 e2; subst e1; subst e2; exact hc
      generalize hy : l.getD k 0 = y at hcell
      generalize hz : l.getD (k - 1) 0 = z at hprev
      have Hbad : Hid (setBad l (-1) 5 k = (!Within y (-1) 5 || (decide (0 < k) && decide (y ≤ z)))) := hid_ (by rw [setBad, hy, hz])
      clear hy hz
      have hl : k < l.length := by rw [h.len]; exact hlt
      cases hw : Within y (-1) 5 with
      | false =>
        have Hf : Hid (setN l = false) := hid_ (IsSet_no hl (by rw [Hbad.out, hw]; rfl))
        clear Hbad hprev
        go_wp2_with (go_at_call 130; refine (isNeighbor_calls _ _).mono ?_; rintro e w' ⟨rfl, rfl⟩)
        go_ret
        exact ⟨retB Hf.out, rfl⟩
      | true =>
        by_cases h0 : 0 < k
        · have hcell2 := hprev h0
          have hk1 : (0 : Int) ≤ (k : Int) - 1 := by omega
          have hk2 : (k : Int) - 1 < (n : Int) := by omega
          have hk3 : ((k : Int) - 1).toNat = k - 1 := by omega
          by_cases hyz : y ≤ z
          · have Hf : Hid (setN l = false) := hid_ (IsSet_no hl (by rw [Hbad.out, hw]; simp [h0, hyz]))
            clear Hbad hprev
            go_wp2_with (go_at_call 130; refine (isNeighbor_calls _ _).mono ?_; rintro e w' ⟨rfl, rfl⟩)
            go_ret
            exact ⟨retB Hf.out, rfl⟩
          · have Hf : Hid (setBad l (-1) 5 k = false) := hid_ (by rw [Hbad.out, hw]; simp [hyz])
            clear Hbad hprev
            go_wp2_with (go_at_call 130; refine (isNeighbor_calls _ _).mono ?_; rintro e w' ⟨rfl, rfl⟩)
            go_round
            case rel => exact ⟨k + 1, by omega, by go_num, lt_snoc Hall.out Hf.out⟩
            case measure => simp [intOf]; omega
        · have Hf : Hid (setBad l (-1) 5 k = false) := hid_ (by rw [Hbad.out, hw]; simp [h0])
          clear Hbad hprev
          go_wp2_with (go_at_call 130; refine (isNeighbor_calls _ _).mono ?_; rintro e w' ⟨rfl, rfl⟩)
          go_round
          case rel => exact ⟨k + 1, by omega, by go_num, lt_snoc Hall.out Hf.out⟩
          case measure => simp [intOf]; omega
    · have Hf : Hid (setN l = true) := hid_ (IsSet_yes h.len fun j hj => Hall.out j (by omega))
      go_wp2
      go_ret
      exact ⟨retB Hf.out, rfl⟩

/-! ### ValidateWord, cmp.Or, taken, soundAt -/
theorem ruValidateWord_calls (a : Option Addr) (n c : Nat) (l : List Int) (w : World) (h : IntsAt w a n c l) :
    Calls Try.prog 35 #[.slice a n c] w fun e w' => e = .returned (.int .i64 (validW l)) ∧ w = w' := by
  have hn : n ≤ 9223372036854775807 := Nat.le_trans h.le h.small
  by_cases h8 : 8 < n
  · have Hf : Hid (validW l = 3) := hid_ (by rw [validW, h.len, if_pos h8])
    go_enter Try.func35, Try.ntmps35
    go_wp2
    go_ret
    exact ⟨retI Hf.out, rfl⟩
  · have Hc := hid_ (areSounds_calls a n c l w h)
    have Hn : Hid (validW l = if isWord l then 0 else 1) := hid_ (by rw [validW, h.len, if_neg h8])
    generalize isWord l = b at Hc Hn
    cases b
    all_goals
      go_enter Try.func35, Try.ntmps35
      go_wp2_with (go_at_call 114; refine (Hc.out).mono ?_; rintro e w' ⟨rfl, rfl⟩)
      go_ret
      exact ⟨retI Hn.out, rfl⟩
def orL : List Int → Int
  | [] => 0
  | x :: l => if x = 0 then orL l else x
theorem orL_at {l : List Int} {k : Nat} (hk : k < l.length) : orL (l.drop k) = if l.getD k 0 = 0 then orL (l.drop (k + 1)) else l.getD k 0 := by
  rw [List.drop_eq_getElem_cons hk, orL]
  simp [List.getD, List.getElem?_eq_getElem hk]
theorem or_calls (a : Option Addr) (n c : Nat) (l : List Int) (w : World) (h : IntsAt w a n c l) :
    Calls Try.prog 109 #[.slice a n c] w fun e w' => e = .returned (.int .i64 (orL l)) ∧ w = w' := by
  have hn : n ≤ 9223372036854775807 := Nat.le_trans h.le h.small
  go_enter Try.func109, Try.ntmps109
  go_wp2
  go_loop [8] (fun i => ∃ k : Nat, k ≤ n ∧ i = .int .i64 k ∧ orL (l.drop k) = orL l) (fun i => n - (intOf i).toNat)
  case atStart => exact ⟨0, Nat.zero_le _, rfl, rfl⟩
  case round =>
    obtain ⟨k, hk, rfl, hall⟩ := hrel
    have Hall := hid_ hall; clear hall
    by_cases hlt : k < n
    · obtain ⟨b, off, rfl, hb, hcell⟩ := h.cells k hlt
      have hat := orL_at (l := l) (k := k) (by rw [h.len]; exact hlt)
      generalize hy : l.getD k 0 = y at hcell hat
      clear hy
      by_cases h0 : y = 0
      · subst h0
        have Hf : Hid (orL (l.drop (k + 1)) = orL l) := hid_ (by rw [← Hall.out, hat, if_pos rfl])
        clear hat
        go_wp2
        go_round
        case rel => exact ⟨k + 1, by omega, by go_num, Hf.out⟩
        case measure => simp [intOf]; omega
      · have Hf : Hid (orL l = y) := hid_ (by rw [← Hall.out, hat, if_neg h0])
        clear hat
        have h0' : (y != 0) = true := by simpa using h0
        have H0 := hid_ h0; clear h0
        go_wp2
        go_ret
        exact ⟨retI Hf.out, rfl⟩
    · have Hf : Hid (orL l = 0) := hid_ (by rw [← Hall.out, List.drop_of_length_le (by rw [h.len]; omega)]; rfl)
      go_wp2
      go_ret
      exact ⟨retI Hf.out, rfl⟩
def tk (R : Rl) : Int := if R.f = -1 then 0 else 1
theorem taken_calls (v : Value) (R : Rl) (w : World) (h : RuleAt w v R) :
    Calls Try.prog 129 #[v] w fun e w' => e = .returned (.int .i64 (tk R)) ∧ Below w.heap.size w w' := by
  obtain ⟨a, n, c, a', n', c', a'', n'', c'', rfl, h1, h2, h3⟩ := h
  have Hf : Hid (tk R = bif (R.f == -1) then 0 else 1) := hid_ (by unfold tk; cases hq : (R.f == -1) <;> simp_all)
  generalize R.f = f at Hf
  cases hq : (f == -1)
  all_goals
    rw [hq] at Hf
    go_enter Try.func129, Try.ntmps129
    go_wp2
    go_ret
    exact ⟨retI Hf.out, below_alloc _ _⟩
theorem soundAt_calls (a : Option Addr) (n c : Nat) (l : List Int) (i : Int) (w : World) (h : IntsAt w a n c l) :
    Calls Try.prog 183 #[.slice a n c, .int .i64 i] w fun e w' => e = .returned (.int .i64 (atL l i)) ∧ w = w' := by
  have hn : n ≤ 9223372036854775807 := Nat.le_trans h.le h.small
  by_cases hi0 : i < 0
  · have Hf : Hid (atL l i = -1) := hid_ (by
      have hw : Within i 0 ((l.length : Int) - 1) = false := by rw [Bool.eq_false_iff]; intro e; simp [Within] at e; omega
      rw [atL, hw]; rfl)
    go_enter Try.func183, Try.ntmps183
    go_wp2
    go_ret
    exact ⟨retI Hf.out, rfl⟩
  · by_cases hin : (n : Int) ≤ i
    · have Hf : Hid (atL l i = -1) := hid_ (by
        have hw : Within i 0 ((l.length : Int) - 1) = false := by rw [Bool.eq_false_iff]; intro e; simp [Within, h.len] at e; omega
        rw [atL, hw]; rfl)
      go_enter Try.func183, Try.ntmps183
      go_wp2
      go_ret
      exact ⟨retI Hf.out, rfl⟩
    · have hw : Within i 0 ((n : Int) - 1) = true := by simp [Within]; omega
      have Hf : Hid (atL l i = l.getD i.toNat 0) := hid_ (by rw [atL, h.len, if_pos hw])
      clear hw
      have hi1 : 0 ≤ i := by omega
      have hi2 : i < (n : Int) := by omega
      obtain ⟨b, off, rfl, hb, hcell⟩ := h.cells i.toNat (by omega)
      go_enter Try.func183, Try.ntmps183
      go_wp2
      go_ret
      exact ⟨retI Hf.out, rfl⟩

/-! ### changesNothing, Validate -/
def noChange (R : Rl) : Bool := if R.f = -1 then decide (R.o.length = 0) else decide (R.o.length = 1) && (R.o.getD 0 0 == R.f)
set_option maxRecDepth 100000 in
theorem changesNothing_calls (v : Value) (R : Rl) (w : World) (h : RuleAt w v R) :
    Calls Try.prog 116 #[v] w fun e w' => e = .returned (.bool (noChange R)) ∧ Below w.heap.size w w' := by
  obtain ⟨a, n, c, a', n', c', a'', n'', c'', rfl, h1, h2, h3⟩ := h
  obtain ⟨f, o, le, ri⟩ := R
  dsimp only at h1 h2 h3 ⊢
  have hn : n ≤ 9223372036854775807 := Nat.le_trans h1.le h1.small
  have hlen := hid_ h1.len
  cases hq : (f == -1) with
  | true =>
    have Hf : Hid (noChange ⟨f, o, le, ri⟩ = ((n : Int) == 0)) := hid_ (by simp at hq; simp [noChange, hq, hlen.out]; rw [Bool.eq_iff_iff]; simp)
    go_enter Try.func116, Try.ntmps116
    go_wp2
    go_ret
    exact ⟨retB Hf.out, below_alloc _ _⟩
  | false =>
    by_cases h1n : n = 1
    · subst h1n
      have Hf : Hid (noChange ⟨f, o, le, ri⟩ = (o.getD 0 0 == f)) := hid_ (by simp at hq; simp [noChange, hq, hlen.out])
      obtain ⟨b, off, rfl, hb, hcell⟩ := (h1.below (below_alloc w (.cells #[.int .i64 f, .slice a 1 c, .slice a' n' c', .slice a'' n'' c''] 24)) (Nat.le_refl _)).cells 0 (by omega)
      generalize o.getD 0 0 = y at Hf hcell
      simp only [Nat.add_zero] at hcell
      go_enter Try.func116, Try.ntmps116
      go_wp2
      go_quiet (fail)
      go_wp2
      go_ret
      exact ⟨retB Hf.out, below_drewN (below_alloc _ _) _⟩
    · have Hf : Hid (noChange ⟨f, o, le, ri⟩ = false) := hid_ (by simp at hq; simp [noChange, hq, hlen.out, h1n])
      have hz : ((n : Int) == 1) = false := by simp; omega
      have H1 := hid_ h1n; clear h1n
      go_enter Try.func116, Try.ntmps116
      go_wp2
      go_quiet (fail)
      go_wp2
      go_ret
      exact ⟨retB Hf.out, below_drewN (below_alloc _ _) _⟩
end Go.Proofs.Ytnpdhmejnoplcaa
