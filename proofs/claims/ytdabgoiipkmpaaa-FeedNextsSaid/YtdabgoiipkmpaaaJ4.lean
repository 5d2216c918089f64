import Derived.Test.YtdabgoiipkmpaaaJ3
namespace Go.Proofs.Ytdabgoiipkmpaaa
open Go.RowKit Go.Proofs.Kv

/-! ### Steps, IsEnd: the document -/
set_option maxRecDepth 100000 in
set_option maxHeartbeats 4000000 in
theorem r3Steps_calls (A : Option Addr) (N C : Nat) (L : List Rl) (a : Option Addr) (n c : Nat) (l : List Int) (w : World) (h : RulesAt w A N C L) (hI : IntsAt w a n c l) :
    Calls Try.prog 17 #[.slice A N C, .slice a n c] w fun e w' => ∃ v, e = .returned (.tuple #[v, .int .i64 (errSW L [l])]) ∧ MadeP 74 w w' v (resSteps L l) := by
  have HV0 := worded_calls A N C L a n c l none 0 0 [] w h hI (IntsAt.nil _ _ _ (by omega))
  rw [errSW_nil] at HV0
  have HV := hid_ HV0
  clear HV0
  by_cases he : errSW L [l] = 0
  · have Hr : Hid (resSteps L l = (movesL L l).map (·.1)) := hid_ (if_pos he)
    obtain ⟨g1, g2⟩ := errSW_ok' he
    have HM := hid_ (fun W (hW : Below w.heap.size w W) => r3steps_calls A N C L a n c l W (h.below hW (Nat.le_refl _)) (hI.below hW (Nat.le_refl _)) (validS_ok g1).2 (by rw [← h.len]; exact (validS_ok g1).1) g2)
    rw [he] at HV ⊢
    generalize movesL L l = M at *
    clear he g1 g2 h hI
    go_enter Try.func17, Try.ntmps17
    go_wp2_with (first
      | (go_at_call 56; (with_reducible refine HV.out.mono ?_); rintro e w3 ⟨rfl, hb3⟩)
      | (go_at_call 57; (with_reducible refine (HM.out w3 hb3).mono ?_); rintro e w4 ⟨v4, v5, rfl, hO4, -, hc4⟩))
    go_ret2
    exact ⟨_, rfl, ⟨by rw [Hr.out, List.length_map]; exact own_base hO4 hb3.size, hb3.trans (hc4.mono hb3.size)⟩⟩
  · have Hr : Hid (resSteps L l = []) := hid_ (if_neg he)
    have hq : (errSW L [l] != 0) = true := by simpa using he
    generalize errSW L [l] = x at *
    clear he h hI
    go_enter Try.func17, Try.ntmps17
    go_wp2_with (go_at_call 56; (with_reducible refine HV.out.mono ?_); rintro e w3 ⟨rfl, hb3⟩)
    go_ret2
    exact ⟨_, rfl, by rw [Hr.out]; exact MadeP.none_ _ hb3⟩
theorem pairs_any {E : TypeId} {w w' : World} {v : Value} {l : List (Int × Int)} (h : MadeP E w w' v l) : ∃ a c, v = .slice a l.length c ∧ PairsAt w' a l.length c l := h.at_
set_option maxRecDepth 100000 in
set_option maxHeartbeats 4000000 in
theorem r3IsEnd_calls (A : Option Addr) (N C : Nat) (L : List Rl) (a : Option Addr) (n c : Nat) (l : List Int) (w : World) (h : RulesAt w A N C L) (hI : IntsAt w a n c l) :
    Calls Try.prog 19 #[.slice A N C, .slice a n c] w fun e w' => e = .returned (.tuple #[.bool (isEndB L l), .int .i64 (errSW L [l])]) ∧ Below w.heap.size w w' := by
  have HS := hid_ (r3Steps_calls A N C L a n c l w h hI)
  clear h hI
  by_cases he : errSW L [l] = 0
  · have Hr : Hid (isEndB L l = decide ((resSteps L l).length = 0)) := hid_ (by rw [isEndB, decide_eq_true he, resSteps, if_pos he, List.length_map]; rfl)
    rw [he] at HS ⊢
    generalize resSteps L l = S at *
    obtain ⟨m, hm⟩ : ∃ m, S.length = m := ⟨_, rfl⟩
    rw [hm] at Hr
    have HL := hid_ hm
    clear hm he
    by_cases h0 : m = 0
    · subst h0
      go_enter Try.func19, Try.ntmps19
      go_wp2_with (go_at_call 17; (with_reducible refine HS.out.mono ?_); rintro e w3 ⟨v3, rfl, hm3⟩; have hb3 := hm3.bel; obtain ⟨a3, c3, rfl, -⟩ := hm3.at_; rw [HL.out]; clear hm3)
      go_ret2
      exact ⟨by rw [Hr.out] <;> rfl, hb3⟩
    · have hmi : ¬ (m : Int) = 0 := by omega
      have hmb : ((m : Int) == 0) = false := by simpa using h0
      go_enter Try.func19, Try.ntmps19
      go_wp2_with (go_at_call 17; (with_reducible refine HS.out.mono ?_); rintro e w3 ⟨v3, rfl, hm3⟩; have hb3 := hm3.bel; obtain ⟨a3, c3, rfl, -⟩ := hm3.at_; rw [HL.out]; clear hm3)
      go_ret2
      exact ⟨by rw [Hr.out, decide_eq_false (show ¬ m = 0 by omega)] <;> rfl, hb3⟩
  · have Hr : Hid (isEndB L l = false) := hid_ (by rw [isEndB, decide_eq_false he]; rfl)
    have hq : (errSW L [l] == 0) = false := by simpa using he
    generalize errSW L [l] = x at *
    clear he
    go_enter Try.func19, Try.ntmps19
    go_wp2_with (go_at_call 17; (with_reducible refine HS.out.mono ?_); rintro e w3 ⟨v3, rfl, hm3⟩; have hb3 := hm3.bel; obtain ⟨a3, c3, rfl, -⟩ := hm3.at_; clear hm3)
    go_ret2
    exact ⟨by rw [Hr.out] <;> rfl, hb3⟩
end Go.Proofs.Ytdabgoiipkmpaaa
