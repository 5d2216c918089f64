import Derived.Test.YtoopgmoopmbfnaaRefI
import Derived.Test.YtoopgmoopmbfnaaLists
namespace Go.Proofs.Ytoopgmoopmbfnaa
open Go.RowKit Go.Proofs.Kv Go.Proofs.Snd

/-! ### Before -/
def beforeL : List Int → List Int → Bool
  | [], [] => false
  | [], _ :: _ => true
  | _ :: _, [] => false
  | x :: l, y :: m => if x = y then beforeL l m else decide (x < y)
theorem before_at {k : Nat} : ∀ {l m : List Int}, k < l.length → k < m.length → (∀ j, j < k → l.getD j 0 = m.getD j 0) → l.getD k 0 ≠ m.getD k 0 → beforeL l m = decide (l.getD k 0 < m.getD k 0) := by
  induction k with
  | zero =>
    intro l m h1 h2 _ hne
    match l, m, h1, h2 with
    | x :: l, y :: m, _, _ => simp [List.getD] at hne ⊢; simp [beforeL, hne]
  | succ k ih =>
    intro l m h1 h2 h hne
    match l, m, h1, h2 with
    | x :: l, y :: m, h1, h2 =>
      have h0 := h 0 (by omega)
      simp [List.getD] at h0
      subst h0
      have := ih (l := l) (m := m) (by simpa using h1) (by simpa using h2) (fun j hj => by simpa [List.getD] using h (j + 1) (by omega)) (by simpa [List.getD] using hne)
      rw [beforeL, if_pos rfl, this]
      rfl
theorem before_end : ∀ {l m : List Int}, (∀ j, j < l.length → j < m.length → l.getD j 0 = m.getD j 0) → beforeL l m = decide (l.length < m.length)
  | [], [], _ => rfl
  | [], _ :: _, _ => by simp [beforeL]
  | _ :: _, [], _ => by simp [beforeL]
  | x :: l, y :: m, h => by
    have h0 := h 0 (by simp) (by simp)
    simp [List.getD] at h0
    subst h0
    rw [beforeL, if_pos rfl, before_end (l := l) (m := m) fun j h1 h2 => by simpa [List.getD] using h (j + 1) (by simpa using h1) (by simpa using h2)]
    simp

set_option maxRecDepth 100000 in
theorem before_calls (a : Option Addr) (n c : Nat) (l : List Int) (a' : Option Addr) (n' c' : Nat) (l' : List Int) (w : World) (h : IntsAt w a n c l) (h' : IntsAt w a' n' c' l') :
    Calls Try.prog 74 #[.slice a n c, .slice a' n' c'] w fun e w' => e = .returned (.bool (beforeL l l')) ∧ ∃ q, w' = w.drewN q := by
  have hn : n ≤ 9223372036854775807 := Nat.le_trans h.le h.small
  go_enter Try.func74, Try.ntmps74
  go_wp2
  go_loopw [5] (fun i wr => ∃ k q : Nat, k ≤ n ∧ k ≤ n' ∧ i = .int .i64 k ∧ wr = w.drewN q ∧ ∀ j, j < k → l.getD j 0 = l'.getD j 0) (fun i _ => n - (intOf i).toNat)
  case atStart => exact ⟨0, 0, Nat.zero_le _, Nat.zero_le _, rfl, rfl, fun _ h => absurd h (by omega)⟩
  case round =>
    obtain ⟨k, q, hk, hk', rfl, hq, hall⟩ := hrel
    have hI : IntsAt wr a n c l := by rw [hq]; exact h.drewN q
    have hI' : IntsAt wr a' n' c' l' := by rw [hq]; exact h'.drewN q
    have Hq := hid_ hq; clear hq
    have Hall := hid_ hall; clear hall
    by_cases hlt : k < n
    · by_cases hlt' : k < n'
      · obtain ⟨b, off, rfl, hb, hcell⟩ := hI.cells k hlt
        obtain ⟨b', off', rfl, hb', hcell'⟩ := hI'.cells k hlt'
        have Hat := hid_ (before_at (l := l) (m := l') (k := k) (by rw [hI.len]; exact hlt) (by rw [hI'.len]; exact hlt') Hall.out)
        generalize hy : l.getD k 0 = y at hcell Hat
        have Hy := hid_ hy; clear hy
        generalize hy' : l'.getD k 0 = y' at hcell' Hat
        have Hy' := hid_ hy'; clear hy'
        by_cases he : y = y'
        · have hb1 : (y != y') = false := by simpa using he
          have He := hid_ he; clear he
          go_wp2
          go_quiet (fail)
          go_wp2
          go_roundw
          case rel => exact ⟨k + 1, _, by omega, by omega, by go_num, by rw [Hq.out, drewN2], lt_snoc Hall.out (by rw [Hy.out, Hy'.out]; exact He.out)⟩
          case measure => simp [intOf]; omega
        · have hb1 : (y != y') = true := by simpa using he
          have Hf := hid_ (Hat.out he)
          have He := hid_ he; clear he
          go_wp2
          go_quiet (fail)
          go_wp2
          go_quiet (fail)
          go_wp2
          go_ret
          exact ⟨retB Hf.out, _, by rw [Hq.out]; simp; rfl⟩
      · have Hf : Hid (beforeL l l' = decide (n < n')) := hid_ (by rw [before_end fun j h1 h2 => Hall.out j (by rw [hI'.len] at h2; omega), hI.len, hI'.len])
        go_wp2
        go_ret
        exact ⟨retB Hf.out, _, Hq.out⟩
    · have Hf : Hid (beforeL l l' = decide (n < n')) := hid_ (by rw [before_end fun j h1 h2 => Hall.out j (by rw [hI.len] at h1; omega), hI.len, hI'.len])
      go_wp2
      go_ret
      exact ⟨retB Hf.out, _, Hq.out⟩
end Go.Proofs.Ytoopgmoopmbfnaa
