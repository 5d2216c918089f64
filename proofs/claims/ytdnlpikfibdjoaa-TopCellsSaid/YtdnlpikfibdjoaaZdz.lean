import Derived.Test.YtdnlpikfibdjoaaZdy
import Derived.Test.YtdnlpikfibdjoaaZdb
import Derived.Test.YtdnlpikfibdjoaaZ3
namespace Go.Proofs.Ytdnlpikfibdjoaa
open Go.RowKit Go.Proofs.Kv Go

/-! ### a reduced paradigm has the same forms -/
theorem step_fill (Q : Par) (i : Nat) : fillL (redStep Q i) = fillL Q ∧ (redStep Q i).sizes = Q.sizes := by
  unfold redStep
  split
  · rename_i h
    unfold needB Same at h
    exact ⟨(of_decide_eq_true h).symm, rfl⟩
  · exact ⟨rfl, rfl⟩
theorem red_fill : ∀ (k : Nat) (Q : Par), validP Q = 0 → validP (redK Q k) = 0 ∧ fillL (redK Q k) = fillL Q ∧ (redK Q k).sizes = Q.sizes
  | 0, Q, h => ⟨h, rfl, rfl⟩
  | k + 1, Q, h => by
    obtain ⟨h1, h2, h3⟩ := red_fill k (redStep Q k) (valid_step h k)
    obtain ⟨h4, h5⟩ := step_fill Q k
    exact ⟨h1, h2.trans h4, h3.trans h5⟩
theorem reduce_ok {P : Par} (hv : validP P = 0) : validP (resRed P) = 0 ∧ errS (resRed P) P = 0 ∧ resSame (resRed P) P = true := by
  have hR : resRed P = redK P P.ents.length := by unfold resRed; rw [if_pos hv]
  obtain ⟨h1, h2, h3⟩ := red_fill P.ents.length P hv
  rw [← hR] at h1 h2 h3
  have he : errS (resRed P) P = 0 := by
    rw [errS_good h1 hv, if_pos]
    unfold Same; exact decide_eq_true h3
  refine ⟨h1, he, ?_⟩
  unfold resSame
  rw [if_pos he]
  unfold Same; exact decide_eq_true h2
theorem long_small {P : Par} (h : LongP P = false) : P.sizes.length ≤ 100 ∧ P.ents.length ≤ 50 ∧ ∀ k, k < P.ents.length → (P.ents.getD k E0).spec.length ≤ 100 := by
  unfold LongP at h
  rw [Bool.or_eq_false_iff, Bool.or_eq_false_iff] at h
  obtain ⟨h1, h2, h3⟩ := h
  have h1 := of_decide_eq_false h1
  have h2 := of_decide_eq_false h2
  refine ⟨by omega, by omega, fun k hk => ?_⟩
  have := List.any_eq_false.1 h3 (P.ents.getD k E0) (by simp [List.getD, List.getElem?_eq_getElem hk])
  have := of_decide_eq_false (eq_false_of_ne_true this)
  omega

/-! ### stores of numbers over numbers -/
structure StW (B : Nat) (w w' : World) : Prop where
  bel : Below B w w'
  slice : ∀ p a m k, w.cell? p = some (.slice a m k) → w'.cell? p = some (.slice a m k)
  int : ∀ p x, w.cell? p = some (.int .i64 x) → ∃ y, w'.cell? p = some (.int .i64 y)
  frozen : ∀ p, w'.frozen? p = w.frozen? p
  size : w'.heap.size = w.heap.size
theorem StW.refl (B : Nat) (w : World) : StW B w w := ⟨Below.refl _ _, fun _ _ _ _ h => h, fun _ x h => ⟨x, h⟩, fun _ => rfl, rfl⟩
theorem StW.set {B : Nat} {w w' : World} (h : StW B w w') {p : Addr} {y : Int} (hp : w'.cell? p = some (.int .i64 y)) (hB : B ≤ p.block) (z : Int) : StW B w (w'.setCell p (.int .i64 z)) :=
  ⟨h.bel.setCell hB _, fun q a m k hq => by
    have h1 := h.slice q a m k hq
    rw [World.cell?_setCell_other _ _ _ _ (by intro e; rw [← e, hp] at h1; cases h1)]
    exact h1, fun q x hq => by
    obtain ⟨u, h1⟩ := h.int q x hq
    by_cases e : p = q
    · subst e; exact ⟨z, World.cell?_setCell_same _ _ _ h1⟩
    · exact ⟨u, by rw [World.cell?_setCell_other _ _ _ _ (by intro e'; exact e (by first | exact e' | exact e'.symm))]; exact h1⟩, fun q => by rw [World.frozen?_setCell]; exact h.frozen q, by simp [h.size]⟩
end Go.Proofs.Ytdnlpikfibdjoaa
