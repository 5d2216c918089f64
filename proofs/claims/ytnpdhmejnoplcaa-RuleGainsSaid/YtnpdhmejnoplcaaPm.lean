import Derived.Test.YtnpdhmejnoplcaaPl
namespace Go.Proofs.Ytnpdhmejnoplcaa
open Go.RowKit Go.Proofs.Kv

/-! ### isWithin, inside -/
def insN (a b : List Int) (k : Nat) : Bool := (List.range k).all fun j => !mayL a ((j : Int) - 1) || mayL b ((j : Int) - 1)
def insideB (a b : List Int) : Bool := insN a b 7
theorem insN_succ (a b : List Int) (k : Nat) : insN a b (k + 1) = (insN a b k && (!mayL a ((k : Int) - 1) || mayL b ((k : Int) - 1))) := by
  simp [insN, List.range_succ, Bool.and_comm]
theorem insN_no {a b : List Int} {k : Nat} (hk : k < 7) (ha : mayL a ((k : Int) - 1) = true) (hb : mayL b ((k : Int) - 1) = false) : insideB a b = false := by
  rw [insideB, insN, List.all_eq_false]
  exact ⟨k, List.mem_range.2 hk, by simp [ha, hb]⟩
theorem insideB_iff {a b : List Int} : insideB a b = true ↔ ∀ x : Int, -1 ≤ x → x ≤ 5 → mayL a x = true → mayL b x = true := by
  rw [insideB, insN, List.all_eq_true]
  constructor
  · intro h x h0 h5 ha
    have := h (x + 1).toNat (List.mem_range.2 (by omega))
    rw [show (((x + 1).toNat : Nat) : Int) - 1 = x by omega, ha] at this
    simpa using this
  · intro h k hk
    have hk := List.mem_range.1 hk
    cases ha : mayL a ((k : Int) - 1) with
    | false => simp
    | true => simp [h ((k : Int) - 1) (by omega) (by omega) ha]
set_option maxRecDepth 100000 in
set_option maxHeartbeats 2000000 in
theorem isWithin_calls (a b : List Int) (w : World) :
    Calls Try.prog 132 #[.func (.func 182) #[.agg (nbV a)] #[], .func (.func 182) #[.agg (nbV b)] #[]] w fun e w' => e = .returned (.bool (insideB a b)) ∧ Below w.heap.size w w' := by
  go_enter Try.func132, Try.ntmps132
  go_wp2
  go_loopw [5] (fun i wr => ∃ k : Nat, k ≤ 7 ∧ i = .int .i64 ((k : Int) - 1) ∧ insN a b k = true ∧ Below w.heap.size w wr) (fun i _ => 7 - (intOf i + 1).toNat)
  case atStart => exact ⟨0, by omega, rfl, rfl, Below.refl _ _⟩
  case round =>
    obtain ⟨k, hk, rfl, hall, hbel⟩ := hrel
    have Hall := hid_ hall; clear hall
    by_cases hlt : k < 7
    · have hA := hid_ (fun W => has7_calls a ((k : Int) - 1) W (by omega) (by omega))
      have hB := hid_ (fun W => has7_calls b ((k : Int) - 1) W (by omega) (by omega))
      have h6 : (k : Int) - 1 < 6 := by omega
      have hN := hid_ (@insN_no a b k hlt)
      have hS := hid_ (insN_succ a b k)
      generalize mayL a ((k : Int) - 1) = x1 at *
      generalize mayL b ((k : Int) - 1) = x2 at *
      cases x1 with
      | false =>
        go_wp2_with (go_at_call 182; with_reducible refine (hA.out _).mono ?_; rintro e w2 ⟨rfl, hb2⟩)
        go_roundw
        case rel => exact ⟨k + 1, by omega, by go_num, by rw [hS.out, Hall.out]; rfl, hbel.trans (hb2.mono hbel.size)⟩
        case measure => simp [intOf]; omega
      | true =>
        cases x2 with
        | false =>
          have Hf := hid_ (hN.out rfl rfl)
          go_wp2_with (first
            | (go_at_call 182; with_reducible refine (hA.out _).mono ?_; rintro e w2 ⟨rfl, hb2⟩)
            | (go_at_call 182; with_reducible refine (hB.out _).mono ?_; rintro e w3 ⟨rfl, hb3⟩))
          go_ret
          exact ⟨retB Hf.out, hbel.trans ((hb2.trans (hb3.mono hb2.size)).mono hbel.size)⟩
        | true =>
          go_wp2_with (first
            | (go_at_call 182; with_reducible refine (hA.out _).mono ?_; rintro e w2 ⟨rfl, hb2⟩)
            | (go_at_call 182; with_reducible refine (hB.out _).mono ?_; rintro e w3 ⟨rfl, hb3⟩))
          go_roundw
          case rel => exact ⟨k + 1, by omega, by go_num, by rw [hS.out, Hall.out]; rfl, hbel.trans ((hb2.trans (hb3.mono hb2.size)).mono hbel.size)⟩
          case measure => simp [intOf]; omega
    · obtain rfl : k = 7 := by omega
      have Hf : Hid (insideB a b = true) := hid_ Hall.out
      go_wp2
      go_ret
      exact ⟨retB Hf.out, hbel⟩
end Go.Proofs.Ytnpdhmejnoplcaa
