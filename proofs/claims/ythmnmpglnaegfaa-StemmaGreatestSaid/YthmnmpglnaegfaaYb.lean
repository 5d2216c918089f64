import Derived.Test.YthmnmpglnaegfaaYa
import Derived.Test.YthmnmpglnaegfaaKa
namespace Go.Proofs.Ythmnmpglnaegfaa
open Go.RowKit Go.Proofs.Kv

/-! ### Validate -/
def areR (l : List Int) : Bool := l.all fun r => Within r 0 2
theorem areR_yes {l : List Int} {n : Nat} (hl : l.length = n) (h : ∀ j, j < n → Within (l.getD j 0) 0 2 = true) : areR l = true := by
  rw [areR, List.all_eq_true]
  intro x hx
  obtain ⟨k, hk, rfl⟩ := mem_getD hx
  exact h k (by omega)
theorem areR_no {l : List Int} {k : Nat} (hk : k < l.length) (h : Within (l.getD k 0) 0 2 = false) : areR l = false := by
  rw [areR, List.all_eq_false]
  exact ⟨_, getD_mem hk, by rw [h]; simp⟩
theorem areR_at {l : List Int} (h : areR l = true) {k : Nat} (hk : k < l.length) : 0 ≤ l.getD k 0 ∧ l.getD k 0 ≤ 2 := by
  have := List.all_eq_true.1 h _ (getD_mem hk)
  simpa [Within] using this
theorem areR_calls (a : Option Addr) (n c : Nat) (l : List Int) (w : World) (h : IntsAt w a n c l) :
    Calls Try.prog 45 #[.slice a n c] w fun e w' => e = .returned (.bool (areR l)) ∧ w = w' := by
  have hn : n ≤ 9223372036854775807 := Nat.le_trans h.le h.small
  go_enter Try.func45, Try.ntmps45
  go_wp2
  go_loop [7] (fun i => ∃ k : Nat, k ≤ n ∧ i = .int .i64 k ∧ ∀ j, j < k → Within (l.getD j 0) 0 2 = true) (fun i => n - (intOf i).toNat)
  case atStart => exact ⟨0, Nat.zero_le _, rfl, fun _ h => absurd h (by omega)⟩
  case round =>
    obtain ⟨k, hk, rfl, hall⟩ := hrel
    have Hall := hid_ hall; clear hall
    by_cases hlt : k < n
    · obtain ⟨b, off, rfl, hb, hcell⟩ := h.cells k hlt
      have hl : k < l.length := by rw [h.len]; exact hlt
      have hNo := @areR_no l k hl
      have hYes := fun hx => lt_snoc (p := fun j => Within (l.getD j 0) 0 2 = true) Hall.out hx
      generalize l.getD k 0 = y at hcell hNo hYes
      by_cases h0 : y < 0
      · have Hf := hid_ (hNo (by simp [Within]; omega))
        clear hNo hYes
        go_wp2
        go_ret
        exact ⟨retB Hf.out, rfl⟩
      · by_cases h2 : 2 < y
        · have Hf := hid_ (hNo (by simp [Within]; omega))
          clear hNo hYes
          go_wp2
          go_ret
          exact ⟨retB Hf.out, rfl⟩
        · have Hf := hid_ (hYes (by simp [Within]; omega))
          clear hNo hYes
          go_wp2
          go_round
          case rel => exact ⟨k + 1, by omega, by go_num, Hf.out⟩
          case measure => simp [intOf]; omega
    · have HH : Hid (areR l = true) := hid_ (areR_yes h.len fun j hj => Hall.out j (by omega))
      go_wp2
      go_ret
      exact ⟨retB HH.out, rfl⟩
def n0 (T : List (List Int)) : Nat := (T.getD 0 []).length
def rowOk (m : Nat) (r : List Int) : Bool := decide (r.length = m) && areR r
def validT (T : List (List Int)) : Int := if T.length < 1 ∨ 6 < T.length ∨ 6 < n0 T then 3 else if T.all (rowOk (n0 T)) = true then 0 else 1
theorem validT_large {T : List (List Int)} (h : T.length < 1 ∨ 6 < T.length ∨ 6 < n0 T) : validT T = 3 := if_pos h
theorem validT_eq {T : List (List Int)} (h : ¬ (T.length < 1 ∨ 6 < T.length ∨ 6 < n0 T)) : validT T = if T.all (rowOk (n0 T)) = true then 0 else 1 := if_neg h
theorem validT_no {T : List (List Int)} (h : ¬ (T.length < 1 ∨ 6 < T.length ∨ 6 < n0 T)) {k : Nat} (hk : k < T.length) (hb : rowOk (n0 T) (T.getD k []) = false) : validT T = 1 := by
  rw [validT_eq h, if_neg]
  rw [Bool.not_eq_true, List.all_eq_false]
  exact ⟨T.getD k [], by simp [List.getD, List.getElem?_eq_getElem hk], by rw [hb]; simp⟩
theorem validT_yes {T : List (List Int)} (h : ¬ (T.length < 1 ∨ 6 < T.length ∨ 6 < n0 T)) {n : Nat} (hn : T.length = n) (hb : ∀ k, k < n → rowOk (n0 T) (T.getD k []) = true) : validT T = 0 := by
  rw [validT_eq h, if_pos]
  rw [List.all_eq_true]
  intro r hr
  obtain ⟨i, hi, rfl⟩ := List.mem_iff_getElem.1 hr
  have := hb i (by omega)
  simpa [List.getD, List.getElem?_eq_getElem hi] using this
structure GoodT (T : List (List Int)) : Prop where
  ge : 1 ≤ T.length
  le : T.length ≤ 6
  w6 : n0 T ≤ 6
  len : ∀ i, i < T.length → (T.getD i []).length = n0 T
  ok : ∀ i, i < T.length → ∀ p, p < n0 T → 0 ≤ (T.getD i []).getD p 0 ∧ (T.getD i []).getD p 0 ≤ 2
theorem validT_ok {T : List (List Int)} (h : validT T = 0) : GoodT T := by
  by_cases h1 : T.length < 1 ∨ 6 < T.length ∨ 6 < n0 T
  · rw [validT_large h1] at h; cases h
  · rw [validT_eq h1] at h
    split at h
    · rename_i hall
      rw [List.all_eq_true] at hall
      have key : ∀ i, i < T.length → (T.getD i []).length = n0 T ∧ areR (T.getD i []) = true := fun i hi => by
        have := hall (T.getD i []) (by simp [List.getD, List.getElem?_eq_getElem hi])
        simpa [rowOk] using this
      exact ⟨by omega, by omega, by omega, fun i hi => (key i hi).1, fun i hi p hp => areR_at (key i hi).2 (by rw [(key i hi).1]; exact hp)⟩
    · cases h
set_option maxRecDepth 100000 in
set_option maxHeartbeats 1000000 in
theorem stValidate_calls (a : Option Addr) (n c : Nat) (T : List (List Int)) (w : World) (h : ListsAt w a n c T) :
    Calls Try.prog 19 #[.slice a n c] w fun e w' => e = .returned (.int .i64 (validT T)) ∧ w = w' := by
  have hn : n ≤ 9223372036854775807 := Nat.le_trans h.le h.small
  have Hlen := hid_ h.len
  have HL := hid_ (fun hx => @validT_large T hx)
  have HNo := hid_ (fun hx k => @validT_no T hx k)
  have HYes := hid_ (fun hx => @validT_yes T hx n h.len)
  generalize hV : validT T = V at *
  clear hV
  by_cases h1 : n < 1
  · have Hf := hid_ (HL.out (.inl (by rw [Hlen.out]; exact h1)))
    have h1' : (n : Int) < 1 := by omega
    clear h1
    go_enter Try.func19, Try.ntmps19
    go_wp2
    go_ret
    exact ⟨retI Hf.out, rfl⟩
  · by_cases h6 : 6 < n
    · have Hf := hid_ (HL.out (.inr (.inl (by rw [Hlen.out]; exact h6))))
      go_enter Try.func19, Try.ntmps19
      go_wp2
      go_ret
      exact ⟨retI Hf.out, rfl⟩
    · obtain ⟨b, off, a0, m0, c0, rfl, hb, hc0, hr0⟩ := h.cells 0 (by omega)
      have Hm : Hid (n0 T = m0) := hid_ hr0.len
      have hz := hr0.le; have hz2 := hr0.small
      rw [Nat.add_zero] at hc0
      clear hr0
      by_cases hm : 6 < m0
      · have Hf := hid_ (HL.out (.inr (.inr (by rw [Hm.out]; exact hm))))
        go_enter Try.func19, Try.ntmps19
        go_wp2
        go_ret
        exact ⟨retI Hf.out, rfl⟩
      · have hno := HNo.out (by rw [Hm.out, Hlen.out]; omega)
        have hyes := HYes.out (by rw [Hm.out, Hlen.out]; omega)
        rw [Hm.out] at hno hyes
        have hnoH := hid_ hno; have hyesH := hid_ hyes
        clear hno hyes HL HNo HYes
        go_enter Try.func19, Try.ntmps19
        go_wp2
        go_loop [22] (fun i => ∃ k : Nat, k ≤ n ∧ i = .int .i64 k ∧ ∀ j, j < k → rowOk m0 (T.getD j []) = true) (fun i => n - (intOf i).toNat)
        case atStart => exact ⟨0, Nat.zero_le _, rfl, fun _ h => absurd h (by omega)⟩
        case round =>
          obtain ⟨k, hk, rfl, hall⟩ := hrel
          have Hall := hid_ hall; clear hall
          by_cases hlt : k < n
          · obtain ⟨b', off', a1, n1, c1, e, -, hcell, hrow⟩ := h.cells k hlt
            injection e with e; injection e with e1 e2; subst e1; subst e2
            have hl : k < T.length := by rw [Hlen.out]; exact hlt
            have hNo := hnoH.out _ hl
            have hYes := fun hx => lt_snoc (p := fun j => rowOk m0 (T.getD j []) = true) Hall.out hx
            have HA := hid_ (areR_calls a1 n1 c1 _ w hrow)
            have hlr := hrow.len
            clear hrow
            generalize T.getD k [] = R at *
            rw [rowOk, hlr] at hNo hYes
            clear hlr
            by_cases he : n1 = m0
            · have hq : ((n1 : Int) != (m0 : Int)) = false := by subst he; simp
              rw [decide_eq_true he, Bool.true_and] at hNo hYes
              clear he
              generalize areR R = z at *
              cases z with
              | false =>
                have Hf := hid_ (hNo rfl)
                clear hNo hYes
                go_wp2_with (go_at_call 45; refine (HA.out).mono ?_; rintro e w' ⟨rfl, rfl⟩)
                go_ret
                exact ⟨retI Hf.out, rfl⟩
              | true =>
                have Hf := hid_ (hYes rfl)
                clear hNo hYes
                go_wp2_with (go_at_call 45; refine (HA.out).mono ?_; rintro e w' ⟨rfl, rfl⟩)
                go_round
                case rel => exact ⟨k + 1, by omega, by go_num, Hf.out⟩
                case measure => simp [intOf]; omega
            · have hq : ((n1 : Int) != (m0 : Int)) = true := by simp; omega
              rw [decide_eq_false he, Bool.false_and] at hNo
              have Hf := hid_ (hNo rfl)
              clear hNo hYes he
              go_wp2
              go_ret
              exact ⟨retI Hf.out, rfl⟩
          · obtain rfl : n = k := by omega
            have Hf := hid_ (hyesH.out Hall.out)
            go_wp2
            go_ret
            exact ⟨retI Hf.out, rfl⟩
