import Derived.Test.YtebbmhlkdfmmcaaGreatRbe
import Derived.Test.YtebbmhlkdfmmcaaGreatKa
import Derived.Laws.EntriesVeiled
namespace Go.Proofs.YtebbmhlkdfmmcaaGreat
open Go.RowKit Go.Proofs.Kv

/-! ### isSound, areSounds, isNeighbor, areNeighbors -/
theorem ruIsSound_calls (x : Int) (w : World) :
    Calls Tryz.prog 88 #[.int .i64 x] w fun e w' => e = .returned (.bool (Within x 0 5)) ∧ w = w' := by
  by_cases h1 : 0 ≤ x
  · have H : Hid (Within x 0 5 = decide (x < 6)) := hid_ (by simp only [Within, decide_eq_true h1, Bool.true_and]; exact decide_eq_decide.2 (by omega))
    go_enter Tryz.func88, Tryz.ntmps88
    go_wp2
    go_ret
    exact ⟨retB H.out, rfl⟩
  · have H : Hid (Within x 0 5 = false) := by simp [Hid, Within, h1]
    go_enter Tryz.func88, Tryz.ntmps88
    go_wp2
    go_ret
    exact ⟨retB H.out, rfl⟩
theorem areSounds_calls (a : Option Addr) (n c : Nat) (l : List Int) (w : World) (h : IntsAt w a n c l) :
    Calls Tryz.prog 80 #[.slice a n c] w fun e w' => e = .returned (.bool (isWord l)) ∧ w = w' := by
  have hn : n ≤ 9223372036854775807 := Nat.le_trans h.le h.small
  go_enter Tryz.func80, Tryz.ntmps80
  go_wp2
  go_loop [7] (fun i => ∃ k : Nat, k ≤ n ∧ i = .int .i64 k ∧ ∀ j, j < k → Within (l.getD j 0) 0 5 = true) (fun i => n - (intOf i).toNat)
  case atStart => exact ⟨0, Nat.zero_le _, rfl, fun _ h => absurd h (by omega)⟩
  case round =>
    obtain ⟨k, hk, rfl, hall⟩ := hrel
    have Hall := hid_ hall; clear hall
    by_cases hlt : k < n
    · obtain ⟨b, off, rfl, hb, hcell⟩ := h.cells k hlt
      generalize hy : l.getD k 0 = y at hcell
      have Hy := hid_ hy; clear hy
      cases hw : Within y 0 5 with
      | false =>
        have Hf : Hid (isWord l = false) := hid_ (isWord_no (k := k) (by rw [h.len]; exact hlt) (by rw [Hy.out]; exact hw))
        go_wp2_with (go_at_call 88; refine (ruIsSound_calls _ _).mono ?_; rintro e w' ⟨rfl, rfl⟩)
        go_ret
        exact ⟨retB Hf.out, rfl⟩
      | true =>
        go_wp2_with (go_at_call 88; refine (ruIsSound_calls _ _).mono ?_; rintro e w' ⟨rfl, rfl⟩)
        go_round
        case rel => exact ⟨k + 1, by omega, by go_num, lt_snoc Hall.out (by rw [Hy.out]; exact hw)⟩
        case measure => simp [intOf]; omega
    · have Hf : Hid (isWord l = true) := hid_ (isWord_yes h.len fun j hj => Hall.out j (by omega))
      go_wp2
      go_ret
      exact ⟨retB Hf.out, rfl⟩
theorem within_neg (x : Int) : Within x (-1) 5 = ((x == -1) || Within x 0 5) := by
  unfold Within
  rw [Bool.eq_iff_iff]; simp; omega
theorem isNeighbor_calls (x : Int) (w : World) :
    Calls Tryz.prog 102 #[.int .i64 x] w fun e w' => e = .returned (.bool (Within x (-1) 5)) ∧ w = w' := by
  have Hw := hid_ (within_neg x)
  cases hx : (x == -1) with
  | true =>
    have H : Hid (Within x (-1) 5 = true) := hid_ (by rw [Hw.out, hx]; rfl)
    go_enter Tryz.func102, Tryz.ntmps102
    go_wp2
    go_ret
    exact ⟨retB H.out, rfl⟩
  | false =>
    have H : Hid (Within x (-1) 5 = Within x 0 5) := hid_ (by rw [Hw.out, hx]; rfl)
    go_enter Tryz.func102, Tryz.ntmps102
    go_wp2_with (go_at_call 88; refine (ruIsSound_calls _ _).mono ?_; rintro e w' ⟨rfl, rfl⟩)
    go_ret
    exact ⟨retB H.out, rfl⟩
set_option maxRecDepth 100000 in
theorem areNeighbors_calls (a : Option Addr) (n c : Nat) (l : List Int) (w : World) (h : IntsAt w a n c l) :
    Calls Tryz.prog 89 #[.slice a n c] w fun e w' => e = .returned (.bool (setN l)) ∧ w = w' := by
  have hn : n ≤ 9223372036854775807 := Nat.le_trans h.le h.small
  go_enter Tryz.func89, Tryz.ntmps89
  go_wp2
  go_loop [7] (fun i => ∃ k : Nat, k ≤ n ∧ i = .int .i64 k ∧ ∀ j, j < k → setBad l (-1) 5 j = false) (fun i => n - (intOf i).toNat)
  case atStart => exact ⟨0, Nat.zero_le _, rfl, fun _ h => absurd h (by omega)⟩
  case round =>
    obtain ⟨k, hk, rfl, hall⟩ := hrel
    have Hall := hid_ hall; clear hall
    by_cases hlt : k < n
    · obtain ⟨b, off, rfl, hb, hcell⟩ := h.cells k hlt
      have hprev : 0 < k → w.cell? ⟨b, off + (k - 1), none⟩ = some (.int .i64 (l.getD (k - 1) 0)) := fun h0 => by
        obtain ⟨b', off', e, _, hc⟩ := h.cells (k - 1) (by omega)
        injection e with e; injection e with e1 e2; subst e1; subst e2; exact hc
      generalize hy : l.getD k 0 = y at hcell
      generalize hz : l.getD (k - 1) 0 = z at hprev
      have Hbad : Hid (setBad l (-1) 5 k = (!Within y (-1) 5 || (decide (0 < k) && decide (y ≤ z)))) := hid_ (by rw [setBad, hy, hz])
      clear hy hz
      have hl : k < l.length := by rw [h.len]; exact hlt
      cases hw : Within y (-1) 5 with
      | false =>
        have Hf : Hid (setN l = false) := hid_ (IsSet_no hl (by rw [Hbad.out, hw]; rfl))
        clear Hbad hprev
        go_wp2_with (go_at_call 102; refine (isNeighbor_calls _ _).mono ?_; rintro e w' ⟨rfl, rfl⟩)
        go_ret
        exact ⟨retB Hf.out, rfl⟩
      | true =>
        by_cases h0 : 0 < k
        · have hcell2 := hprev h0
          have hk1 : (0 : Int) ≤ (k : Int) - 1 := by omega
          have hk2 : (k : Int) - 1 < (n : Int) := by omega
          have hk3 : ((k : Int) - 1).toNat = k - 1 := by omega
          by_cases hyz : y ≤ z
          · have Hf : Hid (setN l = false) := hid_ (IsSet_no hl (by rw [Hbad.out, hw]; simp [h0, hyz]))
            clear Hbad hprev
            go_wp2_with (go_at_call 102; refine (isNeighbor_calls _ _).mono ?_; rintro e w' ⟨rfl, rfl⟩)
            go_ret
            exact ⟨retB Hf.out, rfl⟩
          · have Hf : Hid (setBad l (-1) 5 k = false) := hid_ (by rw [Hbad.out, hw]; simp [hyz])
            clear Hbad hprev
            go_wp2_with (go_at_call 102; refine (isNeighbor_calls _ _).mono ?_; rintro e w' ⟨rfl, rfl⟩)
            go_round
            case rel => exact ⟨k + 1, by omega, by go_num, lt_snoc Hall.out Hf.out⟩
            case measure => simp [intOf]; omega
        · have Hf : Hid (setBad l (-1) 5 k = false) := hid_ (by rw [Hbad.out, hw]; simp [h0])
          clear Hbad hprev
          go_wp2_with (go_at_call 102; refine (isNeighbor_calls _ _).mono ?_; rintro e w' ⟨rfl, rfl⟩)
          go_round
          case rel => exact ⟨k + 1, by omega, by go_num, lt_snoc Hall.out Hf.out⟩
          case measure => simp [intOf]; omega
    · have Hf : Hid (setN l = true) := hid_ (IsSet_yes h.len fun j hj => Hall.out j (by omega))
      go_wp2
      go_ret
      exact ⟨retB Hf.out, rfl⟩

/-! ### ValidateWord, cmp.Or, taken, soundAt -/
theorem ruValidateWord_calls (a : Option Addr) (n c : Nat) (l : List Int) (w : World) (h : IntsAt w a n c l) :
    Calls Tryz.prog 56 #[.slice a n c] w fun e w' => e = .returned (.int .i64 (validW l)) ∧ w = w' := by
  have hn : n ≤ 9223372036854775807 := Nat.le_trans h.le h.small
  by_cases h8 : 8 < n
  · have Hf : Hid (validW l = 3) := hid_ (by rw [validW, h.len, if_pos h8])
    go_enter Tryz.func56, Tryz.ntmps56
    go_wp2
    go_ret
    exact ⟨retI Hf.out, rfl⟩
  · have Hc := hid_ (areSounds_calls a n c l w h)
    have Hn : Hid (validW l = if isWord l then 0 else 1) := hid_ (by rw [validW, h.len, if_neg h8])
    generalize isWord l = b at Hc Hn
    cases b
    all_goals
      go_enter Tryz.func56, Tryz.ntmps56
      go_wp2_with (go_at_call 80; refine (Hc.out).mono ?_; rintro e w' ⟨rfl, rfl⟩)
      go_ret
      exact ⟨retI Hn.out, rfl⟩
def orL : List Int → Int
  | [] => 0
  | x :: l => if x = 0 then orL l else x
theorem orL_at {l : List Int} {k : Nat} (hk : k < l.length) : orL (l.drop k) = if l.getD k 0 = 0 then orL (l.drop (k + 1)) else l.getD k 0 := by
  rw [List.drop_eq_getElem_cons hk, orL]
  simp [List.getD, List.getElem?_eq_getElem hk]
theorem or_calls (a : Option Addr) (n c : Nat) (l : List Int) (w : World) (h : IntsAt w a n c l) :
    Calls Tryz.prog 97 #[.slice a n c] w fun e w' => e = .returned (.int .i64 (orL l)) ∧ w = w' := by
  have hn : n ≤ 9223372036854775807 := Nat.le_trans h.le h.small
  go_enter Tryz.func97, Tryz.ntmps97
  go_wp2
  go_loop [8] (fun i => ∃ k : Nat, k ≤ n ∧ i = .int .i64 k ∧ orL (l.drop k) = orL l) (fun i => n - (intOf i).toNat)
  case atStart => exact ⟨0, Nat.zero_le _, rfl, rfl⟩
  case round =>
    obtain ⟨k, hk, rfl, hall⟩ := hrel
    have Hall := hid_ hall; clear hall
    by_cases hlt : k < n
    · obtain ⟨b, off, rfl, hb, hcell⟩ := h.cells k hlt
      have hat := orL_at (l := l) (k := k) (by rw [h.len]; exact hlt)
      generalize hy : l.getD k 0 = y at hcell hat
      clear hy
      by_cases h0 : y = 0
      · subst h0
        have Hf : Hid (orL (l.drop (k + 1)) = orL l) := hid_ (by rw [← Hall.out, hat, if_pos rfl])
        clear hat
        go_wp2
        go_round
        case rel => exact ⟨k + 1, by omega, by go_num, Hf.out⟩
        case measure => simp [intOf]; omega
      · have Hf : Hid (orL l = y) := hid_ (by rw [← Hall.out, hat, if_neg h0])
        clear hat
        have h0' : (y != 0) = true := by simpa using h0
        have H0 := hid_ h0; clear h0
        go_wp2
        go_ret
        exact ⟨retI Hf.out, rfl⟩
    · have Hf : Hid (orL l = 0) := hid_ (by rw [← Hall.out, List.drop_of_length_le (by rw [h.len]; omega)]; rfl)
      go_wp2
      go_ret
      exact ⟨retI Hf.out, rfl⟩
def tk (R : Rl) : Int := if R.f = -1 then 0 else 1
theorem taken_calls (v : Value) (R : Rl) (w : World) (h : RuleAt w v R) :
    Calls Tryz.prog 118 #[v] w fun e w' => e = .returned (.int .i64 (tk R)) ∧ Below w.heap.size w w' := by
  obtain ⟨a, n, c, a', n', c', a'', n'', c'', rfl, h1, h2, h3⟩ := h
  have Hf : Hid (tk R = bif (R.f == -1) then 0 else 1) := hid_ (by unfold tk; cases hq : (R.f == -1) <;> simp_all)
  generalize R.f = f at Hf
  cases hq : (f == -1)
  all_goals
    rw [hq] at Hf
    go_enter Tryz.func118, Tryz.ntmps118
    go_wp2
    go_ret
    exact ⟨retI Hf.out, below_alloc _ _⟩
theorem soundAt_calls (a : Option Addr) (n c : Nat) (l : List Int) (i : Int) (w : World) (h : IntsAt w a n c l) :
    Calls Tryz.prog 115 #[.slice a n c, .int .i64 i] w fun e w' => e = .returned (.int .i64 (atL l i)) ∧ w = w' := by
  have hn : n ≤ 9223372036854775807 := Nat.le_trans h.le h.small
  by_cases hi0 : i < 0
  · have Hf : Hid (atL l i = -1) := hid_ (by
      have hw : Within i 0 ((l.length : Int) - 1) = false := by rw [Bool.eq_false_iff]; intro e; simp [Within] at e; omega
      rw [atL, hw]; rfl)
    go_enter Tryz.func115, Tryz.ntmps115
    go_wp2
    go_ret
    exact ⟨retI Hf.out, rfl⟩
  · by_cases hin : (n : Int) ≤ i
    · have Hf : Hid (atL l i = -1) := hid_ (by
        have hw : Within i 0 ((l.length : Int) - 1) = false := by rw [Bool.eq_false_iff]; intro e; simp [Within, h.len] at e; omega
        rw [atL, hw]; rfl)
      go_enter Tryz.func115, Tryz.ntmps115
      go_wp2
      go_ret
      exact ⟨retI Hf.out, rfl⟩
    · have hw : Within i 0 ((n : Int) - 1) = true := by simp [Within]; omega
      have Hf : Hid (atL l i = l.getD i.toNat 0) := hid_ (by rw [atL, h.len, if_pos hw])
      clear hw
      have hi1 : 0 ≤ i := by omega
      have hi2 : i < (n : Int) := by omega
      obtain ⟨b, off, rfl, hb, hcell⟩ := h.cells i.toNat (by omega)
      go_enter Tryz.func115, Tryz.ntmps115
      go_wp2
      go_ret
      exact ⟨retI Hf.out, rfl⟩

/-! ### changesNothing, Validate -/
def noChange (R : Rl) : Bool := if R.f = -1 then decide (R.o.length = 0) else decide (R.o.length = 1) && (R.o.getD 0 0 == R.f)
set_option maxRecDepth 100000 in
theorem changesNothing_calls (v : Value) (R : Rl) (w : World) (h : RuleAt w v R) :
    Calls Tryz.prog 90 #[v] w fun e w' => e = .returned (.bool (noChange R)) ∧ Below w.heap.size w w' := by
  obtain ⟨a, n, c, a', n', c', a'', n'', c'', rfl, h1, h2, h3⟩ := h
  obtain ⟨f, o, le, ri⟩ := R
  dsimp only at h1 h2 h3 ⊢
  have hn : n ≤ 9223372036854775807 := Nat.le_trans h1.le h1.small
  have hlen := hid_ h1.len
  cases hq : (f == -1) with
  | true =>
    have Hf : Hid (noChange ⟨f, o, le, ri⟩ = ((n : Int) == 0)) := hid_ (by simp at hq; simp [noChange, hq, hlen.out]; rw [Bool.eq_iff_iff]; simp)
    go_enter Tryz.func90, Tryz.ntmps90
    go_wp2
    go_ret
    exact ⟨retB Hf.out, below_alloc _ _⟩
  | false =>
    by_cases h1n : n = 1
    · subst h1n
      have Hf : Hid (noChange ⟨f, o, le, ri⟩ = (o.getD 0 0 == f)) := hid_ (by simp at hq; simp [noChange, hq, hlen.out])
      obtain ⟨b, off, rfl, hb, hcell⟩ := (h1.below (below_alloc w (.cells #[.int .i64 f, .slice a 1 c, .slice a' n' c', .slice a'' n'' c''] 44)) (Nat.le_refl _)).cells 0 (by omega)
      generalize o.getD 0 0 = y at Hf hcell
      simp only [Nat.add_zero] at hcell
      go_enter Tryz.func90, Tryz.ntmps90
      go_wp2
      go_quiet (fail)
      go_wp2
      go_ret
      exact ⟨retB Hf.out, below_drewN (below_alloc _ _) _⟩
    · have Hf : Hid (noChange ⟨f, o, le, ri⟩ = false) := hid_ (by simp at hq; simp [noChange, hq, hlen.out, h1n])
      have hz : ((n : Int) == 1) = false := by simp; omega
      have H1 := hid_ h1n; clear h1n
      go_enter Tryz.func90, Tryz.ntmps90
      go_wp2
      go_quiet (fail)
      go_wp2
      go_ret
      exact ⟨retB Hf.out, below_drewN (below_alloc _ _) _⟩
end Go.Proofs.YtebbmhlkdfmmcaaGreat
namespace Go.Proofs.YtebbmhlkdfmmcaaGreat
open Go.RowKit Go.Proofs.Kv

theorem validR_no (R : Rl) (h1 : Within R.f (-1) 5 = true) (hw : isWord R.o = true) : (if R.f < 0 ∧ R.o.length = 0 ∨ R.o.length = 1 ∧ R.o.getD 0 0 = R.f then (6 : Int) else 0) = if noChange R then 6 else 0 := by
  have hr : -1 ≤ R.f := by simp [Within] at h1; omega
  unfold noChange
  by_cases hf : R.f = -1
  · rw [if_pos hf]
    by_cases h0 : R.o.length = 0
    · simp [h0, hf]
    · have hq : ¬ (R.o.length = 1 ∧ R.o.getD 0 0 = R.f) := by
        rintro ⟨h1, h2⟩
        rw [isWord, List.all_eq_true] at hw
        have := hw _ (getD_mem (l := R.o) (k := 0) (by omega))
        rw [h2, hf] at this
        cases this
      rw [if_neg (by omega)]
      simp [h0]
  · rw [if_neg hf]
    have : ¬ R.f < 0 := by omega
    by_cases h0 : R.o.length = 1 <;> simp [this, h0]

theorem nb_no {x : Int} (h : Within x (-1) 5 = false) : (x != -1) = true ∧ Within x 0 5 = false := by
  rw [Bool.eq_false_iff] at *
  simp only [Within, ne_eq, Bool.and_eq_true, decide_eq_true_eq, bne_iff_ne] at *
  omega
theorem nb_yes {x : Int} (h : Within x (-1) 5 = true) : (x != -1) = false ∨ (x != -1) = true ∧ Within x 0 5 = true := by
  by_cases hx : x = -1
  · subst hx; exact .inl rfl
  · right
    simp only [Within, Bool.and_eq_true, decide_eq_true_eq, bne_iff_ne] at *
    omega

set_option maxRecDepth 100000 in
set_option maxHeartbeats 2000000 in
theorem ruValidate_calls (v : Value) (R : Rl) (w : World) (h : RuleAt w v R) :
    Calls Tryz.prog 66 #[v] w fun e w' => e = .returned (.int .i64 (validR R)) ∧ Below w.heap.size w w' := by
  have hno := hid_ (validR_no R)
  have hch := hid_ (fun W h => changesNothing_calls v R W h)
  have h0 := hid_ h
  obtain ⟨a, n, c, a', n', c', a'', n'', c'', rfl, h1, h2, h3⟩ := h
  obtain ⟨f, o, le, ri⟩ := R
  dsimp only at h1 h2 h3 ⊢ hno hch
  have hn : n ≤ 9223372036854775807 := Nat.le_trans h1.le h1.small
  have hlen := hid_ h1.len
  have HB := hid_ (below_alloc w (.cells #[.int .i64 f, .slice a n c, .slice a' n' c', .slice a'' n'' c''] 44))
  have k0 := hid_ (ruIsSound_calls f)
  cases hw : Within f (-1) 5 with
  | false =>
    have Hf : Hid (validR ⟨f, o, le, ri⟩ = 1) := hid_ (by simp [validR, hw])
    have hq := (nb_no hw).1
    have hs := (nb_no hw).2
    go_enter Tryz.func66, Tryz.ntmps66
    go_wp2_with (go_at_call 88; refine (k0.out _).mono ?_; rintro e w' ⟨rfl, rfl⟩)
    go_ret
    exact ⟨retI Hf.out, HB.out⟩
  | true =>
    have Hw := hid_ hw
    have hs2 : Hid ((f != -1) = false ∨ (f != -1) = true ∧ Within f 0 5 = true) := hid_ (nb_yes hw)
    by_cases h2n : 2 < n
    · have Hf : Hid (validR ⟨f, o, le, ri⟩ = 3) := hid_ (by simp [validR, hw, hlen.out, h2n])
      clear hw
      rcases hs2.out with hq | ⟨hq, hs⟩
      all_goals
        go_enter Tryz.func66, Tryz.ntmps66
        go_wp2_with (go_at_call 88; refine (k0.out _).mono ?_; rintro e w' ⟨rfl, rfl⟩)
        go_ret
        exact ⟨retI Hf.out, HB.out⟩
    · have Hv : Hid (validR ⟨f, o, le, ri⟩ = if isWord o then (if setN le then (if setN ri then (if f < 0 ∧ o.length = 0 ∨ o.length = 1 ∧ o.getD 0 0 = f then 6 else 0) else 1) else 1) else 1) := hid_ (by simp [validR, hw, hlen.out, h2n])
      have k1 := hid_ (areSounds_calls _ _ _ _ _ (h1.below HB.out (Nat.le_refl _)))
      have k2 := hid_ (areNeighbors_calls _ _ _ _ _ (h2.below HB.out (Nat.le_refl _)))
      have k3 := hid_ (areNeighbors_calls _ _ _ _ _ (h3.below HB.out (Nat.le_refl _)))
      have k4 := hid_ (hch.out _ (h0.out.below HB.out (Nat.le_refl _)))
      have Hn : Hid (isWord o = true → (if f < 0 ∧ o.length = 0 ∨ o.length = 1 ∧ o.getD 0 0 = f then (6 : Int) else 0) = if noChange ⟨f, o, le, ri⟩ then 6 else 0) := hid_ (hno.out hw)
      clear hw hch hno
      generalize isWord o = b1 at Hv k1 Hn
      generalize setN le = b2 at Hv k2
      generalize setN ri = b3 at Hv k3
      generalize noChange ⟨f, o, le, ri⟩ = b4 at Hn k4
      cases b1 with
      | false =>
        clear k2 k3 k4
        rcases hs2.out with hq | ⟨hq, hs⟩
        all_goals
          go_enter Tryz.func66, Tryz.ntmps66
          go_wp2_with (first
            | (go_at_call 88; refine (k0.out _).mono ?_; rintro e w' ⟨rfl, rfl⟩)
            | (go_at_call 80; refine (k1.out).mono ?_; rintro e w' ⟨rfl, rfl⟩))
          go_ret
          exact ⟨retI Hv.out, HB.out⟩
      | true =>
        cases b2 with
        | false =>
          clear k3 k4
          rcases hs2.out with hq | ⟨hq, hs⟩
          all_goals
            go_enter Tryz.func66, Tryz.ntmps66
            go_wp2_with (first
              | (go_at_call 88; refine (k0.out _).mono ?_; rintro e w' ⟨rfl, rfl⟩)
              | (go_at_call 80; refine (k1.out).mono ?_; rintro e w' ⟨rfl, rfl⟩)
              | (go_at_call 89; refine (k2.out).mono ?_; rintro e w' ⟨rfl, rfl⟩))
            go_ret
            exact ⟨retI Hv.out, HB.out⟩
        | true =>
          cases b3 with
          | false =>
            clear k4
            rcases hs2.out with hq | ⟨hq, hs⟩
            all_goals
              go_enter Tryz.func66, Tryz.ntmps66
              go_wp2_with (first
                | (go_at_call 88; refine (k0.out _).mono ?_; rintro e w' ⟨rfl, rfl⟩)
                | (go_at_call 80; refine (k1.out).mono ?_; rintro e w' ⟨rfl, rfl⟩)
                | (go_at_call 89; with_reducible refine (k2.out).mono ?_; rintro e w' ⟨rfl, rfl⟩)
                | (go_at_call 89; refine (k3.out).mono ?_; rintro e w' ⟨rfl, rfl⟩))
              go_ret
              exact ⟨retI Hv.out, HB.out⟩
          | true =>
            have Hv2 : Hid (validR ⟨f, o, le, ri⟩ = bif b4 then 6 else 0) := hid_ (by rw [Hv.out]; simp only [if_true]; rw [Hn.out rfl]; cases b4 <;> rfl)
            clear Hv Hn
            rcases hs2.out with hq | ⟨hq, hs⟩
            all_goals
              cases b4
              all_goals
                go_enter Tryz.func66, Tryz.ntmps66
                go_wp2_with (first
                  | (go_at_call 88; refine (k0.out _).mono ?_; rintro e w' ⟨rfl, rfl⟩)
                  | (go_at_call 80; refine (k1.out).mono ?_; rintro e w' ⟨rfl, rfl⟩)
                  | (go_at_call 89; with_reducible refine (k2.out).mono ?_; rintro e w' ⟨rfl, rfl⟩)
                  | (go_at_call 89; refine (k3.out).mono ?_; rintro e w' ⟨rfl, rfl⟩)
                  | (go_at_call 90; refine (k4.out).mono ?_; rintro e w' ⟨rfl, hb⟩))
                go_ret
                exact ⟨retI Hv2.out, below_then HB.out hb⟩
end Go.Proofs.YtebbmhlkdfmmcaaGreat
namespace Go.Proofs.YtebbmhlkdfmmcaaGreat
open Go.RowKit Go.Proofs.Kv

/-! ### neighborsOf -/
/-- the seven cells of block S say which neighbors are in p -/
structure NbAt (w : World) (S : Nat) (p : List Int) : Prop where
  cell : ∀ x : Int, -1 ≤ x → x ≤ 5 → w.cell? ⟨S, (x + 1).toNat, none⟩ = some (.bool (Has p x))
  free : ∀ i, w.frozen? ⟨S, i, none⟩ = false
theorem Has_snoc' (l : List Int) (x y : Int) : Has (l ++ [x]) y = (Has l y || (x == y)) := by
  rw [Bool.eq_iff_iff]
  simp only [Has, List.contains_iff_mem, List.mem_append, List.mem_singleton, Bool.or_eq_true, beq_iff_eq]
  exact or_congr Iff.rfl eq_comm
theorem NbAt.put {w : World} {S : Nat} {p : List Int} (h : NbAt w S p) {x : Int} (h0 : -1 ≤ x) (h5 : x ≤ 5) : NbAt (w.setCell ⟨S, (x + 1).toNat, none⟩ (.bool true)) S (p ++ [x]) := by
  refine ⟨fun y hy0 hy5 => ?_, fun i => by rw [World.frozen?_setCell]; exact h.free i⟩
  by_cases he : y = x
  · subst he
    rw [World.cell?_setCell_same _ _ _ (h.cell y h0 h5), Has_snoc']
    simp
  · rw [World.cell?_setCell_other _ _ _ _ (by intro e; injection e with _ e2; omega), h.cell y hy0 hy5, Has_snoc']
    have : (x == y) = false := by simp; omega
    rw [this, Bool.or_false]
theorem heap_alloc_at (w : World) (o : Obj) : (w.alloc o).heap[w.heap.size]? = some o := by
  show (w.heap.push o)[w.heap.size]? = _
  simp
theorem cells7 {w : World} {b : Nat} {T : TypeId} (h : w.heap[b]? = some (.cells #[.bool false, .bool false, .bool false, .bool false, .bool false, .bool false, .bool false] T (0, 0))) {i : Nat} (hi : i < 7) : w.cell? ⟨b, i, none⟩ = some (.bool false) := by
  unfold World.cell?
  simp only [h]
  match i, hi with
  | 0, _ => rfl
  | 1, _ => rfl
  | 2, _ => rfl
  | 3, _ => rfl
  | 4, _ => rfl
  | 5, _ => rfl
  | 6, _ => rfl
theorem free7 {w : World} {b : Nat} {T : TypeId} {cs : Array Value} (h : w.heap[b]? = some (.cells cs T (0, 0))) (i : Nat) : w.frozen? ⟨b, i, none⟩ = false := by
  unfold World.frozen?
  simp only [h]
  simp
def seven : List Int := [-1, 0, 1, 2, 3, 4, 5]
theorem seven_take {k : Nat} (h : k < 7) : seven.take (k + 1) = seven.take k ++ [(k : Int) - 1] := by
  match k, h with
  | 0, _ => rfl
  | 1, _ => rfl
  | 2, _ => rfl
  | 3, _ => rfl
  | 4, _ => rfl
  | 5, _ => rfl
  | 6, _ => rfl
/-- which neighbors may be by a set, as an array -/
def nbV (s : List Int) : Array Value := #[.bool (mayL s (-1)), .bool (mayL s 0), .bool (mayL s 1), .bool (mayL s 2), .bool (mayL s 3), .bool (mayL s 4), .bool (mayL s 5)]
set_option maxRecDepth 100000 in
set_option maxHeartbeats 2000000 in
theorem neighborsOf_calls (a : Option Addr) (n c : Nat) (s : List Int) (w : World) (h : IntsAt w a n c s) (hs : setN s = true) :
    Calls Tryz.prog 113 #[.slice a n c] w fun e w' => e = .returned (.agg (nbV s)) ∧ Below w.heap.size w w' := by
  have hn : n ≤ 9223372036854775807 := Nat.le_trans h.le h.small
  have hok : Hid (∀ x ∈ s, -1 ≤ x ∧ x ≤ 5) := hid_ (by
    intro x hx
    obtain ⟨i, hi, rfl⟩ := mem_getD hx
    rw [setN, IsSet, List.all_eq_true] at hs
    have := hs i (by simpa using hi)
    rw [setBad] at this
    generalize s.getD i 0 = y at *
    generalize s.getD (i - 1) 0 = z at *
    simp [Within] at this
    omega)
  clear hs
  go_enter Tryz.func113, Tryz.ntmps113
  go_wp2
  go_loopw [9] (fun i wr => ∃ k : Nat, k ≤ n ∧ i = .int .i64 k ∧ NbAt wr (w.heap.size + 1) (s.take k) ∧ Below w.heap.size w wr ∧ wr.heap[w.heap.size]? = some (.cells #[.bool false, .bool false, .bool false, .bool false, .bool false, .bool false, .bool false] 145 (0, 0))) (fun i _ => n - (intOf i).toNat)
  case atStart =>
    refine ⟨0, Nat.zero_le _, rfl, ⟨fun x h0 h5 => ?_, fun i => World.frozen?_alloc_at _ _ _ _ (by simp)⟩, (below_alloc w _).alloc (by simp) _, by rw [Below.heap_alloc _ _ _ (by simp), heap_alloc_at]⟩
    rw [World.cell?_alloc_at _ _ _ _ (by simp)]
    have : x = -1 ∨ x = 0 ∨ x = 1 ∨ x = 2 ∨ x = 3 ∨ x = 4 ∨ x = 5 := by omega
    rcases this with rfl | rfl | rfl | rfl | rfl | rfl | rfl <;> rfl
  case round =>
    obtain ⟨k, hk, rfl, hS, hbel, hc0⟩ := hrel
    have hsz := hbel.size
    by_cases hlt : k < n
    · have hI := h.below hbel (Nat.le_refl _)
      obtain ⟨b, off, rfl, hb, hcell⟩ := hI.cells k hlt
      have hl : k < s.length := by rw [h.len]; exact hlt
      have hr := hok.out _ (getD_mem hl)
      have Hsn : Hid (s.take (k + 1) = s.take k ++ [s.getD k 0]) := hid_ (take_snoc s 0 k hl)
      generalize s.getD k 0 = y at hcell hr Hsn
      obtain ⟨hr0, hr5⟩ := hr
      have hcS := hS.cell y hr0 hr5
      have hfS := hS.free (y + 1).toNat
      have hy0 : 0 ≤ y + 1 := by omega
      have hy5 : y + 1 < 7 := by omega
      go_wp2
      go_roundw
      case rel => exact ⟨k + 1, by omega, by go_num, by rw [Hsn.out]; exact hS.put hr0 hr5, hbel.setCell (by simp) _, by rw [Below.heap_setCell _ _ _ _ (by simp)]; exact hc0⟩
      case measure => simp [intOf]; omega
    · obtain rfl : k = n := by omega
      have Hst : Hid (s.take k = s) := hid_ (by rw [List.take_of_length_le]; rw [h.len]; omega)
      rw [Hst.out] at hS
      by_cases h0 : k = 0
      · subst h0
        have Hnil : Hid (s = []) := hid_ (List.eq_nil_of_length_eq_zero h.len)
        rw [Hnil.out] at hS
        clear hlt Hst
        go_wp2
        obtain ⟨wo, rfl⟩ : ∃ wo : World, wo = wr := ⟨_, rfl⟩
        go_loopw [20] (fun i wr => ∃ k : Nat, k ≤ 7 ∧ i = .int .i64 k ∧ NbAt wr (w.heap.size + 1) (seven.take k) ∧ Below w.heap.size w wr ∧ wr.heap[w.heap.size]? = some (.cells #[.bool false, .bool false, .bool false, .bool false, .bool false, .bool false, .bool false] 145 (0, 0))) (fun i _ => 7 - (intOf i).toNat)
        case atStart => exact ⟨0, Nat.zero_le _, rfl, hS, hbel, hc0⟩
        case round =>
          clear hS hbel hc0 hsz
          obtain ⟨k, hk, rfl, hS, hbel, hc0⟩ := hrel
          have hsz := hbel.size
          by_cases hlt : k < 7
          · have Hsn : Hid (seven.take (k + 1) = seven.take k ++ [(k : Int) - 1]) := hid_ (seven_take hlt)
            have hcS := hS.cell ((k : Int) - 1) (by omega) (by omega)
            have hfS := hS.free k
            rw [show ((k : Int) - 1 + 1).toNat = k by omega] at hcS
            go_wp2
            go_roundw
            case rel => exact ⟨k + 1, by omega, by go_num, by have := hS.put (x := (k : Int) - 1) (by omega) (by omega); rw [show ((k : Int) - 1 + 1).toNat = k by omega] at this; rw [Hsn.out]; exact this, hbel.setCell (by simp) _, by rw [Below.heap_setCell _ _ _ _ (by simp)]; exact hc0⟩
            case measure => simp [intOf]; omega
          · obtain rfl : k = 7 := by omega
            have Hm : Hid (∀ x, -1 ≤ x → x ≤ 5 → Has (seven.take 7) x = mayL s x) := hid_ (fun x h0 h5 => by
              rw [Hnil.out]
              have : x = -1 ∨ x = 0 ∨ x = 1 ∨ x = 2 ∨ x = 3 ∨ x = 4 ∨ x = 5 := by omega
              rcases this with rfl | rfl | rfl | rfl | rfl | rfl | rfl <;> rfl)
            clear hlt hk
            have c0 := hS.cell (-1) (by omega) (by omega)
            have c1 := hS.cell 0 (by omega) (by omega)
            have c2 := hS.cell 1 (by omega) (by omega)
            have c3 := hS.cell 2 (by omega) (by omega)
            have c4 := hS.cell 3 (by omega) (by omega)
            have c5 := hS.cell 4 (by omega) (by omega)
            have c6 := hS.cell 5 (by omega) (by omega)
            simp only [Int.reduceAdd, Int.reduceNeg, Int.reduceToNat] at c0 c1 c2 c3 c4 c5 c6
            have hg := fun (i : Nat) (hi : i < 7) => cells7 hc0 hi
            have hk := fun (i : Nat) => free7 hc0 i
            have g0 := hg 0 (by omega)
            have g1 := hg 1 (by omega)
            have g2 := hg 2 (by omega)
            have g3 := hg 3 (by omega)
            have g4 := hg 4 (by omega)
            have g5 := hg 5 (by omega)
            have g6 := hg 6 (by omega)
            clear hg
            rw [Hm.out _ (by omega) (by omega)] at c0 c1 c2 c3 c4 c5 c6
            go_wp2
            refine bodyPost_ret (v := .agg (nbV s)) ?_ rfl ⟨rfl, ?_⟩
            · simp [results, Tryz.results113, go_sem, g0, g1, g2, g3, g4, g5, g6]
              simp only [nbV]
            · ((repeat (with_reducible refine Below.setCell ?_ (by simp) _)); exact hbel)
      · have hz : ((k : Int) == 0) = false := by simp; omega
        have Hm : Hid (∀ x, mayL s x = Has s x) := hid_ (fun x => by
          cases s with
          | nil => exact absurd h.len.symm h0
          | cons y s => rfl)
        have H0 := hid_ h0; clear h0 hlt
        have c0 := hS.cell (-1) (by omega) (by omega)
        have c1 := hS.cell 0 (by omega) (by omega)
        have c2 := hS.cell 1 (by omega) (by omega)
        have c3 := hS.cell 2 (by omega) (by omega)
        have c4 := hS.cell 3 (by omega) (by omega)
        have c5 := hS.cell 4 (by omega) (by omega)
        have c6 := hS.cell 5 (by omega) (by omega)
        simp only [Int.reduceAdd, Int.reduceNeg, Int.reduceToNat] at c0 c1 c2 c3 c4 c5 c6
        have hg := fun (i : Nat) (hi : i < 7) => cells7 hc0 hi
        have hk := fun (i : Nat) => free7 hc0 i
        have g0 := hg 0 (by omega)
        have g1 := hg 1 (by omega)
        have g2 := hg 2 (by omega)
        have g3 := hg 3 (by omega)
        have g4 := hg 4 (by omega)
        have g5 := hg 5 (by omega)
        have g6 := hg 6 (by omega)
        clear hg
        go_wp2
        refine bodyPost_ret (v := .agg (nbV s)) ?_ rfl ⟨rfl, ?_⟩
        · simp [results, Tryz.results113, go_sem, g0, g1, g2, g3, g4, g5, g6]
          simp only [nbV, Hm.out]
        · ((repeat (with_reducible refine Below.setCell ?_ (by simp) _)); exact hbel)
end Go.Proofs.YtebbmhlkdfmmcaaGreat
namespace Go.Proofs.YtebbmhlkdfmmcaaGreat
open Go.RowKit Go.Proofs.Kv

theorem has7_calls (s : List Int) (x : Int) (w : World) (h0 : -1 ≤ x) (h5 : x ≤ 5) :
    Calls Tryz.prog 114 #[.agg (nbV s), .int .i64 x] w fun e w' => e = .returned (.bool (mayL s x)) ∧ Below w.heap.size w w' := by
  have : x = -1 ∨ x = 0 ∨ x = 1 ∨ x = 2 ∨ x = 3 ∨ x = 4 ∨ x = 5 := by omega
  clear h0 h5
  unfold nbV
  rcases this with rfl | rfl | rfl | rfl | rfl | rfl | rfl
  all_goals
    go_enter Tryz.func114, Tryz.ntmps114
    go_wp2
    go_ret
    exact ⟨rfl, below_alloc _ _⟩
set_option maxRecDepth 100000 in
theorem sidesOf_calls (v : Value) (R : Rl) (w : World) (h : RuleAt w v R) (hl : setN R.le = true) (hr : setN R.ri = true) :
    Calls Tryz.prog 105 #[v] w fun e w' => e = .returned (.agg #[.func (.func 114) #[.agg (nbV R.le)] #[], .func (.func 114) #[.agg (nbV R.ri)] #[]]) ∧ Below w.heap.size w w' := by
  obtain ⟨a, n, c, a', n', c', a'', n'', c'', rfl, h1, h2, h3⟩ := h
  obtain ⟨f, o, le, ri⟩ := R
  dsimp only at h1 h2 h3 hl hr ⊢
  have Hl := hid_ hl; clear hl
  have Hr := hid_ hr; clear hr
  go_enter Tryz.func105, Tryz.ntmps105
  go_wp2
  obtain ⟨w1, hw1⟩ : ∃ w1, (w.alloc (.cells #[.int .i64 f, .slice a n c, .slice a' n' c', .slice a'' n'' c''] 44)).alloc (.cells #[.nilFunc, .nilFunc] 136) = w1 := ⟨_, rfl⟩
  have hb1 : Below w.heap.size w w1 := by rw [← hw1]; exact (below_alloc _ _).alloc (by simp) _
  have c2 : w1.cell? ⟨w.heap.size, 2, none⟩ = some (.slice a' n' c') := by rw [← hw1]; simp
  have c3 : w1.cell? ⟨w.heap.size, 3, none⟩ = some (.slice a'' n'' c'') := by rw [← hw1]; simp
  have r0 : w1.cell? ⟨w.heap.size + 1, 0, none⟩ = some .nilFunc := by rw [← hw1]; simp [World.cell?_alloc_at]
  have r1 : w1.cell? ⟨w.heap.size + 1, 1, none⟩ = some .nilFunc := by rw [← hw1]; simp [World.cell?_alloc_at]
  have z1 : w1.heap.size = w.heap.size + 2 := by rw [← hw1]; simp
  have fz : ∀ i, w1.frozen? ⟨w.heap.size + 1, i, none⟩ = false := fun i => by rw [← hw1]; exact World.frozen?_alloc_at _ _ _ _ (by simp)
  rw [hw1]
  have Hw1 := hid_ hw1; clear hw1
  have Hb1 := hid_ hb1; clear hb1
  have e2 := cell_regrown c2
  have e3 := cell_regrown c3
  have Hz := hid_ z1
  have HR0 := hid_ r0; have HR1 := hid_ r1; have HF := hid_ fz; clear c2 c3 r0 r1 fz z1
  have k2 := hid_ (fun d os => neighborsOf_calls _ _ _ _ _ ((h2.below Hb1.out (Nat.le_refl _)).grown d os) Hl.out)
  have k3 := hid_ (fun d os => neighborsOf_calls _ _ _ _ _ ((h3.below Hb1.out (Nat.le_refl _)).grown d os) Hr.out)
  refine wp_region_tail 9 (by kernel_rfl) (by kernel_rfl) ?_
  simp only [List.take_succ_cons, List.take_zero, List.drop_succ_cons, List.drop_zero]
  repeat (first
    | go_big_quiet_skip
    | (go_big_quiet_want; go_big_quiet_op; first | go_big_quiet_on | go_big_quiet_call ((first
      | (go_at_call 113; with_reducible exact Calls.regrown_of (k2.out _ _))
      | (go_at_call 113; exact Calls.regrown_of (k3.out _ _)))))) 
  refine wpQuiet_nil ?_
  rintro wq ⟨pq, hpq⟩
  have hbq := below_wq hpq
  have r0 : wq.cell? ⟨w.heap.size + 1, 0, none⟩ = some .nilFunc := (hbq.cell (by rw [Hz.out]; simp)).trans HR0.out
  have r1 : wq.cell? ⟨w.heap.size + 1, 1, none⟩ = some .nilFunc := (hbq.cell (by rw [Hz.out]; simp)).trans HR1.out
  have f0 : wq.frozen? ⟨w.heap.size + 1, 0, none⟩ = false := (hbq.frozen (by rw [Hz.out]; simp)).trans (HF.out _)
  have f1 : wq.frozen? ⟨w.heap.size + 1, 1, none⟩ = false := (hbq.frozen (by rw [Hz.out]; simp)).trans (HF.out _)
  have Hbq := hid_ (Hb1.out.trans (hbq.mono Hb1.out.size)); clear hbq hpq
  go_wp2
  refine bodyPost_ret (v := .agg #[.func (.func 114) #[.agg (nbV le)] #[], .func (.func 114) #[.agg (nbV ri)] #[]]) ?_ rfl ⟨rfl, ?_⟩
  · simp [results, Tryz.results105, go_sem, r0, r1]
  · (repeat (with_reducible refine Below.setCell ?_ (by simp) _)); exact Hbq.out
end Go.Proofs.YtebbmhlkdfmmcaaGreat
namespace Go.Proofs.YtebbmhlkdfmmcaaGreat
open Go.RowKit Go.Proofs.Kv

theorem atL_range {l : List Int} (h : isWord l = true) (i : Int) : -1 ≤ atL l i ∧ atL l i ≤ 5 := by
  unfold atL
  split
  · rename_i hw
    rw [isWord, List.all_eq_true] at h
    have := h (l.getD i.toNat 0) (getD_mem (by simp [Within] at hw; omega))
    generalize l.getD i.toNat 0 = y at this
    simp [Within] at this; omega
  · omega
/-- is i a place, for a From and what may be by both sides -/
def plB (f : Int) (le ri : List Int) (l : List Int) (i : Int) : Bool :=
  if i < 0 then false else if (l.length : Int) < i then false else if f = -1 then mayL le (atL l (i - 1)) && mayL ri (atL l i)
  else (atL l i == f) && mayL le (atL l (i - 1)) && mayL ri (atL l (i + 1))
set_option maxRecDepth 100000 in
set_option maxHeartbeats 1000000 in
theorem isPlaceP_calls (f : Int) (le ri : List Int) (a : Option Addr) (n c : Nat) (l : List Int) (i : Int) (w : World) (h : IntsAt w a n c l) (hw : isWord l = true) (hn : n ≤ 100) :
    Calls Tryz.prog 106 #[.int .i64 f, .agg #[.func (.func 114) #[.agg (nbV le)] #[], .func (.func 114) #[.agg (nbV ri)] #[]], .slice a n c, .int .i64 i] w fun e w' => e = .returned (.bool (plB f le ri l i)) ∧ Below w.heap.size w w' := by
  have Hn := hid_ h.len
  by_cases h0 : i < 0
  · have Hf : Hid (plB f le ri l i = false) := hid_ (by rw [plB, if_pos h0])
    go_enter Tryz.func106, Tryz.ntmps106
    go_wp2
    go_ret
    exact ⟨retB Hf.out, below_alloc _ _⟩
  · by_cases h1 : (n : Int) < i
    · have Hf : Hid (plB f le ri l i = false) := hid_ (by rw [plB, if_neg h0, Hn.out, if_pos h1])
      go_enter Tryz.func106, Tryz.ntmps106
      go_wp2
      go_ret
      exact ⟨retB Hf.out, below_alloc _ _⟩
    · have Hf : Hid (plB f le ri l i = bif (f == -1) then mayL le (atL l (i - 1)) && mayL ri (atL l i) else (atL l i == f) && mayL le (atL l (i - 1)) && mayL ri (atL l (i + 1))) := hid_ (by
        rw [plB, if_neg h0, Hn.out, if_neg h1]
        cases hf : (f == -1)
        · rw [if_neg (by simpa using hf)]; rfl
        · rw [if_pos (by simpa using hf)]; rfl)
      have hw1 : IntKind.i64.wrap (i - 1) = i - 1 := IntWalk.i64_in _ (by omega)
      have hw2 : IntKind.i64.wrap (i + 1) = i + 1 := IntWalk.i64_in _ (by omega)
      have Hb := hid_ (below_alloc w (.cells #[.func (.func 114) #[.agg (nbV le)] #[], .func (.func 114) #[.agg (nbV ri)] #[]] 136))
      have e0 := fun d os => cell_regrown (w := w.alloc (.cells #[.func (.func 114) #[.agg (nbV le)] #[], .func (.func 114) #[.agg (nbV ri)] #[]] 136)) (a := ⟨w.heap.size, 0, none⟩) (v := .func (.func 114) #[.agg (nbV le)] #[]) (by simp) d os
      have e1 := fun d os => cell_regrown (w := w.alloc (.cells #[.func (.func 114) #[.agg (nbV le)] #[], .func (.func 114) #[.agg (nbV ri)] #[]] 136)) (a := ⟨w.heap.size, 1, none⟩) (v := .func (.func 114) #[.agg (nbV ri)] #[]) (by simp) d os
      have hS := fun i => fun d os => grow_same (soundAt_calls a n c l i _ ((h.below Hb.out (Nat.le_refl _)).grown d os))
      have S1 := hid_ (hS (i - 1))
      have S2 := hid_ (hS i)
      have S3 := hid_ (hS (i + 1))
      obtain ⟨r1, r1'⟩ := atL_range hw (i - 1)
      obtain ⟨r2, r2'⟩ := atL_range hw i
      obtain ⟨r3, r3'⟩ := atL_range hw (i + 1)
      clear hS hw
      generalize atL l (i - 1) = x1 at *
      generalize atL l i = x2 at *
      generalize atL l (i + 1) = x3 at *
      have G1 := hid_ (fun W => has7_calls le x1 W r1 r1')
      have G2 := hid_ (fun W => has7_calls ri x2 W r2 r2')
      have G3 := hid_ (fun W => has7_calls ri x3 W r3 r3')
      clear r1 r1' r2 r2' r3 r3'
      generalize mayL le x1 = b1 at *
      generalize mayL ri x2 = b2 at *
      generalize mayL ri x3 = b3 at *
      cases hf : (f == -1) with
      | true =>
        rw [hf] at Hf
        cases b1
        all_goals
          go_enter Tryz.func106, Tryz.ntmps106
          go_wp2
          refine wp_region_quiet_below (by kernel_rfl) (by kernel_rfl) ?_
          repeat (first
            | go_big_quiet_skip
            | (go_big_quiet_want; go_big_quiet_op; first | go_big_quiet_on | go_big_quiet_call ((first
              | (go_at_call 115; with_reducible exact Calls.regrown_of (S1.out _ _))
              | (go_at_call 115; with_reducible exact Calls.regrown_of (S2.out _ _))
              | (go_at_call 114; with_reducible exact Calls.regrown_of (G1.out _))
              | (go_at_call 114; with_reducible exact Calls.regrown_of (G2.out _)))))) 
          refine wpQuiet_nil ?_
          rintro wq ⟨pq, hpq⟩
          have Hq := hid_ (Hb.out.trans ((below_wq hpq).mono Hb.out.size))
          go_wp2
          go_ret
          exact ⟨retB Hf.out, Hq.out⟩
      | false =>
        rw [hf] at Hf
        cases hx : (x2 == f)
        all_goals
          rw [hx] at Hf
          cases b1
          all_goals
            go_enter Tryz.func106, Tryz.ntmps106
            go_wp2
            refine wp_region_quiet_below (by kernel_rfl) (by kernel_rfl) ?_
            repeat (first
              | go_big_quiet_skip
              | (go_big_quiet_want; go_big_quiet_op; first | go_big_quiet_on | go_big_quiet_call ((first
                | (go_at_call 115; with_reducible exact Calls.regrown_of (S2.out _ _))
                | (go_at_call 115; with_reducible exact Calls.regrown_of (S1.out _ _))
                | (go_at_call 115; with_reducible exact Calls.regrown_of (S3.out _ _))
                | (go_at_call 114; with_reducible exact Calls.regrown_of (G1.out _))
                | (go_at_call 114; with_reducible exact Calls.regrown_of (G3.out _)))))) 
            refine wpQuiet_nil ?_
            rintro wq ⟨pq, hpq⟩
            have Hq := hid_ (Hb.out.trans ((below_wq hpq).mono Hb.out.size))
            go_wp2
            go_ret
            exact ⟨retB Hf.out, Hq.out⟩
end Go.Proofs.YtebbmhlkdfmmcaaGreat
