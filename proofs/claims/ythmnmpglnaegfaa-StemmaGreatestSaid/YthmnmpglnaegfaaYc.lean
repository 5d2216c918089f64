import Derived.Test.YthmnmpglnaegfaaYb
namespace Go.Proofs.Ythmnmpglnaegfaa
open Go.RowKit Go.Proofs.Kv

theorem within7_calls (n lo hi : Int) (w : World) :
    Calls Try.prog 39 #[.int .i64 n, .int .i64 lo, .int .i64 hi] w fun e w' => e = .returned (.bool (Within n lo hi)) ∧ w = w' := by
  by_cases h1 : lo ≤ n
  · by_cases h2 : n ≤ hi
    · have H : Hid (Within n lo hi = true) := by simp [Hid, Within, h1, h2]
      go_enter Try.func39, Try.ntmps39
      go_wp2
      go_ret
      exact ⟨retB H.out, rfl⟩
    · have H : Hid (Within n lo hi = false) := by simp [Hid, Within, h2]
      go_enter Try.func39, Try.ntmps39
      go_wp2
      go_ret
      exact ⟨retB H.out, rfl⟩
  · have H : Hid (Within n lo hi = false) := by simp [Hid, Within, h1]
    go_enter Try.func39, Try.ntmps39
    go_wp2
    go_ret
    exact ⟨retB H.out, rfl⟩
theorem rowOk_no {m : Nat} {r : List Int} {k : Nat} (hk : k < r.length) (h : Within (r.getD k 0) 0 2 = false) : rowOk m r = false := by rw [rowOk, areR_no hk h, Bool.and_false]
theorem rowOk_yes {m : Nat} {r : List Int} (hl : r.length = m) (h : ∀ j, j < m → Within (r.getD j 0) 0 2 = true) : rowOk m r = true := by rw [rowOk, areR_yes hl h, decide_eq_true hl]; rfl
set_option maxRecDepth 100000 in
set_option maxHeartbeats 2000000 in
theorem r7Validate_calls (a : Option Addr) (n c : Nat) (T : List (List Int)) (w : World) (h : ListsAt w a n c T) :
    Calls Try.prog 33 #[.slice a n c] w fun e w' => e = .returned (.int .i64 (validT T)) ∧ ∃ q, w' = w.drewN q := by
  have hn : n ≤ 9223372036854775807 := Nat.le_trans h.le h.small
  have Hlen := hid_ h.len
  have HL := hid_ (fun hx => @validT_large T hx)
  have HNo := hid_ (fun hx k => @validT_no T hx k)
  have HYes := hid_ (fun hx => @validT_yes T hx n h.len)
  generalize hV : validT T = V at *
  clear hV
  by_cases h1 : n < 1
  · have Hf := hid_ (HL.out (.inl (by rw [Hlen.out]; exact h1)))
    have hw1 : Hid (Within (n : Int) 1 6 = false) := hid_ (by simp [Within]; omega)
    clear h1
    generalize hnn : (n : Int) = z at *
    go_enter Try.func33, Try.ntmps33
    go_wp2_with (go_at_call 39; refine (within7_calls _ _ _ _).mono ?_; rintro e w' ⟨rfl, rfl⟩; rw [hw1.out])
    go_ret
    exact ⟨retI Hf.out, 0, rfl⟩
  · by_cases h6 : 6 < n
    · have Hf := hid_ (HL.out (.inr (.inl (by rw [Hlen.out]; exact h6))))
      have hw1 : Hid (Within (n : Int) 1 6 = false) := hid_ (by simp [Within]; omega)
      go_enter Try.func33, Try.ntmps33
      go_wp2_with (go_at_call 39; refine (within7_calls _ _ _ _).mono ?_; rintro e w' ⟨rfl, rfl⟩; rw [hw1.out])
      go_ret
      exact ⟨retI Hf.out, 0, rfl⟩
    · have hw1 : Hid (Within (n : Int) 1 6 = true) := hid_ (by simp [Within]; omega)
      obtain ⟨b, off, a0, m0, c0, rfl, hb, hc0, hr0⟩ := h.cells 0 (by omega)
      have Hm : Hid (n0 T = m0) := hid_ hr0.len
      have hz := hr0.le; have hz2 := hr0.small
      rw [Nat.add_zero] at hc0
      clear hr0
      by_cases hm : 6 < m0
      · have Hf := hid_ (HL.out (.inr (.inr (by rw [Hm.out]; exact hm))))
        go_enter Try.func33, Try.ntmps33
        go_wp2_with (go_at_call 39; refine (within7_calls _ _ _ _).mono ?_; rintro e w' ⟨rfl, rfl⟩; rw [hw1.out])
        go_ret
        exact ⟨retI Hf.out, 0, rfl⟩
      · have hno := HNo.out (by rw [Hm.out, Hlen.out]; omega)
        have hyes := HYes.out (by rw [Hm.out, Hlen.out]; omega)
        rw [Hm.out] at hno hyes
        have hnoH := hid_ hno; have hyesH := hid_ hyes
        have Hc0 := hid_ hc0
        clear hno hyes HL HNo HYes
        go_enter Try.func33, Try.ntmps33
        go_wp2_with (go_at_call 39; refine (within7_calls _ _ _ _).mono ?_; rintro e w' ⟨rfl, rfl⟩; rw [hw1.out])
        clear hc0
        go_loopw [3] (fun i wr => ∃ k q : Nat, k ≤ n ∧ i = .int .i64 k ∧ wr = w.drewN q ∧ ∀ j, j < k → rowOk m0 (T.getD j []) = true) (fun i _ => n - (intOf i).toNat)
        case atStart => exact ⟨0, 0, Nat.zero_le _, rfl, rfl, fun _ h => absurd h (by omega)⟩
        case round =>
          obtain ⟨k, q, hk, rfl, hq, hall⟩ := hrel
          have hI : ListsAt wr (some ⟨b, off, none⟩) n c T := by rw [hq]; exact h.drewN q
          have hc0 : wr.cell? ⟨b, off, none⟩ = some (.slice a0 m0 c0) := by rw [hq]; exact Hc0.out
          have Hq := hid_ hq
          have Hall := hid_ hall; clear hall hq
          by_cases hlt : k < n
          · obtain ⟨b', off', a1, n1, c1, e, -, hcell, hrow⟩ := hI.cells k hlt
            injection e with e; injection e with e1 e2; subst e1; subst e2
            have hl : k < T.length := by rw [Hlen.out]; exact hlt
            have HNoK := hid_ (hnoH.out _ hl)
            have HYesK := hid_ (fun hx => lt_snoc (p := fun j => rowOk m0 (T.getD j []) = true) Hall.out hx)
            have hrl := Nat.le_trans hrow.le hrow.small
            have Hrow := hid_ hrow
            clear hrow
            generalize T.getD k [] = R at *
            by_cases he : n1 = m0
            · have hqq : ((n1 : Int) != (m0 : Int)) = false := by subst he; simp
              have He := hid_ he; clear he
              go_wp2_with fail
              go_quiet (fail)
              clear hqq
              go_wp2_with fail
              obtain ⟨wo, rfl⟩ : ∃ wo, wo = wr := ⟨_, rfl⟩
              go_loop [4] (fun j => ∃ i : Nat, i ≤ n1 ∧ j = .int .i64 i ∧ ∀ t, t < i → Within (R.getD t 0) 0 2 = true) (fun j => n1 - (intOf j).toNat)
              case atStart => exact ⟨0, Nat.zero_le _, rfl, fun _ h => absurd h (by omega)⟩
              case round =>
                obtain ⟨i, hi, rfl, hin⟩ := hrel
                have Hin := hid_ hin; clear hin
                by_cases hlt2 : i < n1
                · obtain ⟨b2, off2, rfl, hb2, hcell2⟩ := Hrow.out.cells i hlt2
                  have hRl : i < R.length := by rw [Hrow.out.len]; exact hlt2
                  have HN2 := hid_ (fun hx => HNoK.out (rowOk_no hRl hx))
                  have HY2 := hid_ (fun hx => lt_snoc (p := fun j => Within (R.getD j 0) 0 2 = true) Hin.out hx)
                  clear hRl
                  generalize R.getD i 0 = y at *
                  have HW := hid_ (within7_calls y 0 2 (wo.drewN nq))
                  cases hw2 : Within y 0 2 with
                  | false =>
                    rw [hw2] at HW
                    have Hf := hid_ (HN2.out hw2)
                    clear hw2
                    go_wp2_with (go_at_call 39; refine (HW.out).mono ?_; rintro e w' ⟨rfl, rfl⟩)
                    go_ret
                    exact ⟨retI Hf.out, _, by rw [Hq.out, drewN2]⟩
                  | true =>
                    rw [hw2] at HW
                    have Hf := hid_ (HY2.out hw2)
                    clear hw2
                    go_wp2_with (go_at_call 39; refine (HW.out).mono ?_; rintro e w' ⟨rfl, rfl⟩)
                    go_round
                    case rel => exact ⟨i + 1, by omega, by go_num, Hf.out⟩
                    case measure => simp [intOf]; omega
                · have Hf := hid_ (HYesK.out (rowOk_yes (Hrow.out.len.trans He.out) fun j hj => Hin.out j (by have := He.out; omega)))
                  go_wp2
                  go_roundw
                  case rel => exact ⟨k + 1, _, by omega, by go_num, by rw [Hq.out, drewN2], Hf.out⟩
                  case measure => simp [intOf]; omega
            · have hqq : ((n1 : Int) != (m0 : Int)) = true := by simp; omega
              have Hf := hid_ (HNoK.out (by rw [rowOk, Hrow.out.len, decide_eq_false he, Bool.false_and]))
              clear he
              go_wp2_with fail
              go_quiet (fail)
              go_wp2
              go_ret
              exact ⟨retI Hf.out, _, by rw [Hq.out, drewN2]⟩
          · obtain rfl : n = k := by omega
            have Hf := hid_ (hyesH.out Hall.out)
            go_wp2
            go_ret
            exact ⟨retI Hf.out, _, Hq.out⟩
end Go.Proofs.Ythmnmpglnaegfaa
