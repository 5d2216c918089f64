import Derived.Test.YtoopgmoopmbfnaaRefH
namespace Go.Proofs.Ytoopgmoopmbfnaa
open Go.RowKit Go.Proofs.Kv Go.Proofs.Snd

theorem validT_ok {L : List (List Int)} (h : validT L = 0) : (1 ≤ L.length ∧ L.length ≤ 6) ∧ L.all okRow = true ∧ L.flatten.Nodup := by
  unfold validT at h
  by_cases h1 : L.length = 0 ∨ 6 < L.length
  · rw [if_pos h1] at h; cases h
  · rw [if_neg h1] at h
    cases h2 : L.all okRow with
    | false => rw [h2] at h; simp at h
    | true =>
      rw [h2] at h
      cases h3 : dup L.flatten with
      | true => rw [h3] at h; simp at h
      | false => exact ⟨by omega, rfl, (dup_iff _).1 h3⟩

/-! ### Stand -/
def standErr (L : List (List Int)) (x y : Int) : Int := if validT L = 0 then (if rowTo L x < 0 then 4 else if Within y (rowTo L x) ((L.length : Int) - 1) then 0 else 4) else validT L
def standRes (L : List (List Int)) (x y : Int) : List Int := if standErr L x y = 0 then standL L x y else []
/-! ### Names -/
def namesRes (L : List (List Int)) : List (Int × Int) := if validT L = 0 then namesR L else []
/-! ### Sorted, IsOrder -/
theorem refSorted_calls (a : Option Addr) (n c : Nat) (l : List Int) (w : World) (h : IntsAt w a n c l) :
    Calls Try.prog 32 #[.slice a n c] w fun e w' => ∃ v, e = .returned v ∧ Made 3 w w' v (sorted l) := by
  go_enter Try.func32, Try.ntmps32
  go_wp2_with (go_at_call 75; refine (sorted_calls _ _ _ _ _ h).mono ?_; rintro e w2 ⟨v, rfl, hm⟩)
  go_ret
  exact ⟨v, rfl, hm⟩
theorem refIsOrder_calls (a : Option Addr) (n c : Nat) (l : List Int) (w : World) (h : IntsAt w a n c l) :
    Calls Try.prog 30 #[.slice a n c] w fun e w' => e = .returned (.bool (IsOrd l 6)) ∧ w = w' := by
  go_enter Try.func30, Try.ntmps30
  go_wp2_with (go_at_call 66; refine (isOrder_calls _ _ _ _ _ _ h).mono ?_; rintro e w' ⟨rfl, rfl⟩)
  go_ret
  exact ⟨rfl, rfl⟩
end Go.Proofs.Ytoopgmoopmbfnaa
