import Derived.Test.YtebbmhlkdfmmcaaGreatJl
import Derived.Test.YtebbmhlkdfmmcaaGreatJxd
namespace Go.Proofs.YtebbmhlkdfmmcaaGreat
open Go.RowKit Go.Proofs.Kv

theorem reach_self {L : List Rl} {l : List Int} (h : errWeb L l = 0) : l ∈ resReach L l := by
  rw [resReach_eq]
  cases hy : graphR L l with
  | none => exact absurd h (graphR_none hy)
  | some y =>
    obtain ⟨_, he, hx⟩ := graphR_some hy
    obtain ⟨g1, g2⟩ := reachedF_some (errSW_ok' he).1 (errSW_ok' he).2 hx
    have := (fold_ins y.words (acc := []) List.Pairwise.nil).2 l
    show l ∈ foldI y.words
    unfold foldI
    rw [this]; exact .inr ((g2 l).2 (.refl _))
theorem partL_one {S : List (List Int)} {l : List Int} (h : l ∈ S) : partL [l] S = true := decide_eq_true fun x hx => by
  rw [List.mem_singleton] at hx; subst hx; exact h
end Go.Proofs.YtebbmhlkdfmmcaaGreat
