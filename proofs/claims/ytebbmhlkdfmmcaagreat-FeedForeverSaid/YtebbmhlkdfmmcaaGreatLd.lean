import Derived.Test.YtebbmhlkdfmmcaaGreatLae
import Derived.Test.YtebbmhlkdfmmcaaGreatRgn
import Derived.Deep.RegionHeld3
namespace Go.Proofs.YtebbmhlkdfmmcaaGreat
open Go.RowKit Go.Proofs.Kv

theorem sameT_calls (a : Option Addr) (n c : Nat) (l : List Int) (a' : Option Addr) (n' c' : Nat) (W : World) (h : IntsAt W a n c l) (h' : IntsAt W a' n' c' l) :
    Calls Tryz.prog 25 #[.slice a n c, .slice a' n' c'] W fun e w' => e = .returned (.bool true) ∧ Below W.heap.size W w' := by
  have := grow_drew (same_calls a n c l a' n' c' l W h h')
  rwa [show Same l l = true by simp [Same]] at this
theorem first_yes {R : Rl} {l : List Int} (h : isFirst R l = true) : ∃ p P, plP R l = p :: P ∧ errApply R l p = 0 ∧ resApply R l p = resFirst R l ∧ errFirst R l = 0 ∧ err2 R l = 0 := by
  simp only [isFirst, Bool.and_eq_true, Bool.not_eq_true', decide_eq_true_eq, decide_eq_false_iff_not] at h
  obtain ⟨⟨h1, h2⟩, h3⟩ := h
  cases hP : plP R l with
  | nil => exact absurd hP h2
  | cons p P =>
    rw [hP] at h3
    have hp : plB R.f R.le R.ri l p = true := (mem_pl.1 (show p ∈ plP R l by rw [hP]; simp)).2.2
    refine ⟨p, P, rfl, ?_, ?_, ?_, h1⟩
    · rw [errApply, if_pos h1, apE, if_pos hp]; exact h3
    · rw [resApply, if_pos h1, apV, if_pos hp, resFirst, if_pos h1, if_neg h2, hP]; rfl
    · rw [errFirst, if_pos h1, if_neg h2, hP]; exact h3

end Go.Proofs.YtebbmhlkdfmmcaaGreat
