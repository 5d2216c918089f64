import Derived.Test.YteaggabafeedhaaRv
import Derived.Test.YteaggabafeedhaaCl
import Derived.Test.YteaggabafeedhaaPh
import Derived.Deep.RegionHeld3
import Derived.Laws.EntriesVeiled
namespace Go.Proofs.Yteaggabafeedhaa
open Go.RowKit Go.Proofs.Kv

/-! ### back, Back, Mirror -/
set_option maxRecDepth 100000 in
theorem back_calls (a : Option Addr) (n c : Nat) (l : List Int) (w : World) (h : IntsAt w a n c l) (hn : n ≤ 1000) :
    Calls Try.prog 91 #[.slice a n c] w fun e w' => ∃ v', e = .returned v' ∧ Made 3 w w' v' l.reverse := by
  have HC := hid_ (clone_calls a n c l w h (by omega))
  have hl := h.len
  have HR := hid_ (fun c a W (ho : W.ownsRow w.heap.size 3 1 (.slice a l.length c) l.length (l.map (Value.int .i64))) (hB : w.heap.size ≤ W.heap.size) => reverse_calls w.heap.size l.length c a l W ho hB (by omega))
  clear h hl
  go_enter Try.func91, Try.ntmps91
  go_wp2_with (first
    | (go_at_call 78; refine HC.out.mono ?_; rintro e w3 ⟨v3, rfl, hm3⟩; obtain ⟨a3, c3, rfl, hi3⟩ := hm3.at_; clear hi3; have HM3 := hid_ hm3; clear hm3)
    | (go_at_call 108; with_reducible refine (HR.out _ _ _ HM3.out.own HM3.out.bel.size).mono ?_; rintro e w4 ⟨rfl, hown4, hb4⟩; have Hown4 := hid_ hown4; clear hown4))
  go_ret
  exact ⟨_, rfl, by rw [List.length_reverse]; exact Hown4.out, HM3.out.bel.trans hb4⟩
set_option maxRecDepth 100000 in
theorem ruBack_calls (a : Option Addr) (n c : Nat) (l : List Int) (w : World) (h : IntsAt w a n c l) :
    Calls Try.prog 51 #[.slice a n c] w fun e w' => ∃ v', e = .returned (.tuple #[v', .int .i64 (validW l)]) ∧ Made 3 w w' v' (if validW l = 0 then l.reverse else []) := by
  have HV := hid_ (ruValidateWord_calls a n c l w h)
  by_cases he : validW l = 0
  · have hn8 : n ≤ 8 := by have := (validW_ok he).1; rw [h.len] at this; exact this
    have HB := hid_ (back_calls a n c l w h (by omega))
    rw [he] at HV ⊢
    rw [if_pos rfl]
    clear h he
    go_enter Try.func51, Try.ntmps51
    go_wp2_with (first
      | (go_at_call 25; refine (HV.out).mono ?_; rintro e w' ⟨rfl, rfl⟩)
      | (go_at_call 91; refine HB.out.mono ?_; rintro e w3 ⟨v3, rfl, hm3⟩))
    go_ret2
    exact ⟨_, rfl, hm3⟩
  · have hq : (validW l != 0) = true := by simpa using he
    rw [if_neg he]
    generalize validW l = x1 at *
    clear he h
    go_enter Try.func51, Try.ntmps51
    go_wp2_with (go_at_call 25; refine (HV.out).mono ?_; rintro e w' ⟨rfl, rfl⟩)
    go_ret2
    exact ⟨_, rfl, Made.none_ _ (Below.refl _ _)⟩
end Go.Proofs.Yteaggabafeedhaa
