import Derived.Test.YtebbmhlkdfmmcaaGreatJka
import Derived.Test.YtebbmhlkdfmmcaaGreatLae
namespace Go.Proofs.YtebbmhlkdfmmcaaGreat
open Go.RowKit Go.Proofs.Kv

/-! ### large, Long of stage 3 -/
def bigOne3 (l : List Int) : Bool := decide (100 < l.length)
def bigS (L : List Rl) : Bool := decide (50 < L.length) || L.any bigR
theorem large3_calls (a : Option Addr) (n c : Nat) (l : List Int) (w : World) (h : IntsAt w a n c l) :
    Calls Tryz.prog 8 #[.slice a n c] w fun e w' => e = .returned (.bool (bigOne3 l)) ∧ w = w' := by
  have Hf : Hid (bigOne3 l = decide (100 < n)) := hid_ (by rw [bigOne3, h.len])
  go_enter Tryz.func8, Tryz.ntmps8
  go_wp2
  go_ret
  exact ⟨retB (by rw [Hf.out]; by_cases h1 : 100 < n <;> simp [h1] <;> omega), rfl⟩
theorem bigS_hit {L : List Rl} {k : Nat} (hk : k < L.length) (h : bigR (L.getD k R0) = true) : bigS L = true := by
  rw [bigS, Bool.or_eq_true]
  exact .inr (List.any_eq_true.2 ⟨_, by rw [show L.getD k R0 = L[k] by simp [List.getD, List.getElem?_eq_getElem hk]]; exact List.getElem_mem _, h⟩)
theorem bigS_miss {L : List Rl} {n : Nat} (hn : L.length = n) (h5 : n ≤ 50) (h : ∀ j, j < n → bigR (L.getD j R0) = false) : bigS L = false := by
  rw [bigS, Bool.or_eq_false_iff]
  refine ⟨decide_eq_false (by omega), List.any_eq_false.2 fun R hR => ?_⟩
  obtain ⟨j, hj, e⟩ := List.mem_iff_getElem.1 hR
  have := h j (by omega)
  rw [show L.getD j R0 = R by simp [List.getD, List.getElem?_eq_getElem hj, e]] at this
  rw [this]; simp
set_option maxRecDepth 100000 in
set_option maxHeartbeats 4000000 in
theorem long3_calls (A : Option Addr) (N C : Nat) (L : List Rl) (w : World) (h : RulesAt w A N C L) :
    Calls Tryz.prog 7 #[.slice A N C] w fun e w' => e = .returned (.bool (bigS L)) ∧ Below w.heap.size w w' := by
  have hN : N ≤ 9223372036854775807 := Nat.le_trans h.le h.small
  by_cases h5 : 50 < N
  · have Hf : Hid (bigS L = true) := hid_ (by rw [bigS, h.len, decide_eq_true h5]; rfl)
    have h5i : (50 : Int) < (N : Int) := by omega
    clear h
    go_enter Tryz.func7, Tryz.ntmps7
    go_wp2
    go_ret
    exact ⟨retB Hf.out, Below.refl _ _⟩
  · have h5i : ¬ (50 : Int) < (N : Int) := by omega
    have HH := hid_ (fun k (hk : k < N) => @bigS_hit L k (by rw [h.len]; exact hk))
    have HM := hid_ (@bigS_miss L N h.len (by omega))
    go_enter Tryz.func7, Tryz.ntmps7
    go_wp2
    go_loopw [3] (fun i wr => ∃ k : Nat, k ≤ N ∧ i = .int .i64 k ∧ (∀ j, j < k → bigR (L.getD j R0) = false) ∧ Below w.heap.size w wr) (fun i _ => N - (intOf i).toNat)
    case atStart => exact ⟨0, Nat.zero_le _, rfl, fun _ h => absurd h (by omega), Below.refl _ _⟩
    case round =>
      obtain ⟨k, hk, rfl, hall, hb⟩ := hrel
      have Hall := hid_ hall
      clear hall
      by_cases hlt : k < N
      · obtain ⟨b, off, a1, n1, c1, a2, n2, c2, a3, n3, c3, rfl, hbl, k0, k1, k2, k3, hr⟩ := (h.below hb (Nat.le_refl _)).at_ hlt
        have HL := hid_ (long2_calls _ _ wr hr)
        have hh := HH.out k hlt
        have hs := fun hx => lt_snoc Hall.out (k := k) hx
        change wr.cell? _ = some (.int .i64 (L.getD k R0).f) at k0
        change Hid (Calls _ _ #[.agg #[.int .i64 (L.getD k R0).f, _, _, _]] _ fun e w' => e = .returned (.bool (bigR (L.getD k R0))) ∧ _) at HL
        generalize (L.getD k R0).f = f at *
        have Hb := hid_ hb
        clear hr hb
        cases hq : bigR (L.getD k R0) with
        | true =>
          rw [hq] at HL
          have Hf := hid_ (hh hq)
          clear hh hs hq
          go_wp2_with (go_at_call 26; (with_reducible refine HL.out.mono ?_); rintro e w6 ⟨rfl, hb6⟩)
          go_ret
          exact ⟨retB Hf.out, Hb.out.trans (hb6.mono Hb.out.size)⟩
        | false =>
          rw [hq] at HL
          have Hf := hid_ (hs hq)
          clear hh hs hq
          go_wp2_with (go_at_call 26; (with_reducible refine HL.out.mono ?_); rintro e w6 ⟨rfl, hb6⟩)
          go_roundw
          case rel => exact ⟨k + 1, by omega, by go_num, Hf.out, Hb.out.trans (hb6.mono Hb.out.size)⟩
          case measure => simp [intOf]; omega
      · obtain rfl : N = k := by omega
        have Hf := hid_ (HM.out Hall.out)
        go_wp2
        go_ret
        exact ⟨retB Hf.out, hb⟩
end Go.Proofs.YtebbmhlkdfmmcaaGreat
