import Derived.Test.YtgipkbiogldjpaaJw
namespace Go.Proofs.Ytgipkbiogldjpaa
open Go.RowKit Go.Proofs.Kv

/-! ### weights: what the program says of a system that is not valid; CheckWeights -/
set_option maxRecDepth 100000 in
set_option maxHeartbeats 4000000 in
theorem feWeightsE_calls (A : Option Addr) (N C : Nat) (L : List Rl) (w : World) (h : RulesAt w A N C L) (hs : validS L ≠ 0) :
    Calls Try.prog 23 #[.slice A N C] w fun e w' => e = .returned (.tuple #[.slice none 0 0, .bool false, .int .i64 (validS L)]) ∧ Below w.heap.size w w' := by
  have HV := hid_ (feValidate_calls A N C L w h)
  have hq : (validS L != 0) = true := by simpa using hs
  generalize validS L = x at *
  clear hs
  go_enter Try.func23, Try.ntmps23
  go_wp2_with (go_at_call 47; (with_reducible refine HV.out.mono ?_); rintro e w3 ⟨rfl, hb3⟩)
  exact bodyPost_ret (v := .tuple #[.slice none 0 0, .bool false, .int .i64 x]) (by simp [results, Try.results23, go_sem]) rfl ⟨rfl, hb3⟩
def wtB (l : List Int) : Bool := decide (l.length = 6) && l.all fun x => Within x 0 1000
theorem wtB_ok {l : List Int} : wtB l = true ↔ WtL l := by
  unfold wtB WtL Within
  simp
theorem wtB_no {l : List Int} {k : Nat} (hk : k < l.length) (h : Within (l.getD k 0) 0 1000 = false) : wtB l = false := by
  unfold wtB
  rw [Bool.and_eq_false_iff]
  refine .inr (List.all_eq_false.2 ⟨_, getD_mem hk, by rw [h]; simp⟩)
theorem wtB_yes {l : List Int} {n : Nat} (hn : l.length = n) (h : ∀ j, j < n → Within (l.getD j 0) 0 1000 = true) : wtB l = decide (n = 6) := by
  unfold wtB
  rw [hn]
  have : (l.all fun x => Within x 0 1000) = true := by
    rw [List.all_eq_true]
    intro x hx
    obtain ⟨k, hk, e⟩ := mem_getD hx
    rw [← e]; exact h k (by omega)
  rw [this]; simp
set_option maxRecDepth 100000 in
set_option maxHeartbeats 4000000 in
theorem areWeights_calls (a : Option Addr) (n c : Nat) (l : List Int) (w : World) (h : IntsAt w a n c l) :
    Calls Try.prog 48 #[.slice a n c] w fun e w' => e = .returned (.bool (wtB l)) ∧ w = w' := by
  have hn : n ≤ 9223372036854775807 := Nat.le_trans h.le h.small
  have HY := hid_ (@wtB_yes l n h.len)
  have HN := hid_ (fun k (hk : k < n) => @wtB_no l k (by rw [h.len]; exact hk))
  go_enter Try.func48, Try.ntmps48
  go_wp2
  go_loop [7] (fun i => ∃ k : Nat, k ≤ n ∧ i = .int .i64 k ∧ ∀ j, j < k → Within (l.getD j 0) 0 1000 = true) (fun i => n - (intOf i).toNat)
  case atStart => exact ⟨0, Nat.zero_le _, rfl, fun _ h => absurd h (by omega)⟩
  case round =>
    obtain ⟨k, hk, rfl, hall⟩ := hrel
    have Hall := hid_ hall
    clear hall
    by_cases hlt : k < n
    · obtain ⟨b, off, rfl, hb, hc⟩ := h.cells k hlt
      have hno := HN.out k hlt
      have hy := fun hx => lt_snoc Hall.out hx
      have hwd : Within (l.getD k 0) 0 1000 = (decide (0 ≤ l.getD k 0) && decide (l.getD k 0 ≤ 1000)) := rfl
      generalize l.getD k 0 = x at *
      have Hno := hid_ hno; have Hwd := hid_ hwd
      clear hno hwd
      by_cases h0 : x < 0
      · have Hf := hid_ (Hno.out (by rw [Hwd.out, decide_eq_false (by omega)]; rfl))
        go_wp2
        go_ret
        exact ⟨retB Hf.out, rfl⟩
      · by_cases h1 : 1000 < x
        · have Hf := hid_ (Hno.out (by rw [Hwd.out, decide_eq_false (show ¬ x ≤ 1000 by omega)]; simp))
          go_wp2
          go_ret
          exact ⟨retB Hf.out, rfl⟩
        · have Hf := hid_ (hy (by rw [Hwd.out, decide_eq_true (show 0 ≤ x by omega), decide_eq_true (show x ≤ 1000 by omega)]; rfl))
          clear hy
          go_wp2
          go_round
          case rel => exact ⟨k + 1, by omega, by go_num, Hf.out⟩
          case measure => simp [intOf]; omega
    · obtain rfl : n = k := by omega
      have Hf := hid_ (HY.out Hall.out)
      go_wp2
      go_ret
      exact ⟨retB (by rw [Hf.out]; by_cases h6 : n = 6 <;> simp [h6] <;> omega), rfl⟩
def errCW (L : List Rl) (ws : List Int) : Int := if validS L = 0 then (if wtB ws then (if holdB L ws then 0 else 7) else 1) else validS L
set_option maxRecDepth 100000 in
set_option maxHeartbeats 4000000 in
theorem feCheckW_calls (A : Option Addr) (N C : Nat) (L : List Rl) (a : Option Addr) (n c : Nat) (ws : List Int) (w : World) (h : RulesAt w A N C L) (hi : IntsAt w a n c ws) :
    Calls Try.prog 19 #[.slice A N C, .slice a n c] w fun e w' => e = .returned (.int .i64 (errCW L ws)) ∧ Below w.heap.size w w' := by
  have HV := hid_ (feValidate_calls A N C L w h)
  by_cases hs : validS L = 0
  · have HW := hid_ (fun W (hW : Below w.heap.size w W) => areWeights_calls a n c ws W (hi.below hW (Nat.le_refl _)))
    have Hn : Hid (N ≤ 100) := hid_ (by have := (validS_ok hs).1; have := h.len; omega)
    have HVr := hid_ (validS_ok hs).2
    have Hl : Hid (errCW L ws = if wtB ws then (if holdB L ws then 0 else 7) else 1) := hid_ (by rw [errCW, if_pos hs])
    rw [hs] at HV
    clear hs
    cases hw : wtB ws with
    | false =>
      rw [hw] at HW
      have Hf : Hid (errCW L ws = 1) := hid_ (by rw [Hl.out, hw]; rfl)
      clear hw
      go_enter Try.func19, Try.ntmps19
      go_wp2_with (first
        | (go_at_call 47; (with_reducible refine HV.out.mono ?_); rintro e w3 ⟨rfl, hb3⟩)
        | (go_at_call 48; (with_reducible refine (HW.out w3 hb3).mono ?_); rintro e w4 ⟨rfl, rfl⟩))
      go_ret
      exact ⟨retI Hf.out, hb3⟩
    | true =>
      rw [hw] at HW
      have HH := hid_ (fun W (hW : Below w.heap.size w W) => feHold_calls A N C L a n c ws W (h.below hW (Nat.le_refl _)) (hi.below hW (Nat.le_refl _)) (wtB_ok.1 hw) HVr.out Hn.out)
      cases hh : holdB L ws with
      | false =>
        rw [hh] at HH
        have Hf : Hid (errCW L ws = 7) := hid_ (by rw [Hl.out, hw, hh]; rfl)
        clear hw hh
        go_enter Try.func19, Try.ntmps19
        go_wp2_with (first
          | (go_at_call 47; (with_reducible refine HV.out.mono ?_); rintro e w3 ⟨rfl, hb3⟩)
          | (go_at_call 48; (with_reducible refine (HW.out w3 hb3).mono ?_); rintro e w4 ⟨rfl, rfl⟩)
          | (go_at_call 49; (with_reducible refine (HH.out w3 hb3).mono ?_); rintro e w5 ⟨rfl, hb5⟩))
        go_ret
        exact ⟨retI Hf.out, hb3.trans (hb5.mono hb3.size)⟩
      | true =>
        rw [hh] at HH
        have Hf : Hid (errCW L ws = 0) := hid_ (by rw [Hl.out, hw, hh]; rfl)
        clear hw hh
        go_enter Try.func19, Try.ntmps19
        go_wp2_with (first
          | (go_at_call 47; (with_reducible refine HV.out.mono ?_); rintro e w3 ⟨rfl, hb3⟩)
          | (go_at_call 48; (with_reducible refine (HW.out w3 hb3).mono ?_); rintro e w4 ⟨rfl, rfl⟩)
          | (go_at_call 49; (with_reducible refine (HH.out w3 hb3).mono ?_); rintro e w5 ⟨rfl, hb5⟩))
        go_ret
        exact ⟨retI Hf.out, hb3.trans (hb5.mono hb3.size)⟩
  · have Hf : Hid (errCW L ws = validS L) := hid_ (by rw [errCW, if_neg hs])
    have hq : (validS L != 0) = true := by simpa using hs
    generalize validS L = x at *
    clear hs
    go_enter Try.func19, Try.ntmps19
    go_wp2_with (go_at_call 47; (with_reducible refine HV.out.mono ?_); rintro e w3 ⟨rfl, hb3⟩)
    go_ret
    exact ⟨retI Hf.out, hb3⟩
end Go.Proofs.Ytgipkbiogldjpaa
