import Derived.Test.YtebbmhlkdfmmcaaGreatLi
import Derived.Test.YtebbmhlkdfmmcaaGreatJp
import Derived.Deep.Slices
namespace Go.Proofs.YtebbmhlkdfmmcaaGreat
open Go.ChangeShapes Go.WideShapes Go.ChangeAt Go.RowKit Go.Proofs.Kv
open Go.Deep

instance : Inhabited Rl := ⟨⟨0, [], [], []⟩⟩
/-- a slice of rules that came in -/
theorem rules_in {H : Type} {enc : TypeId × Value → H} {W : World} {a : Option Addr} {len cap : Nat} {d : DataW H} {p : List MemPlace}
    (h : DataW.Trod enc Tryz.prog W 0 (fun _ => true) true 22 (.slice a len cap) d p) : ∃ L, RulesAt W a len cap L := by
  obtain ⟨fuel, hf⟩ := h
  rcases open_slice Tryz.underlying22 hf with ⟨hcs, _⟩ | ⟨x, l, c, m, n, D, Pl, hcs, _, hl, hm, hmm, _, hi⟩
  · simp [Value.cells] at hcs
    obtain ⟨rfl, rfl, rfl⟩ := hcs
    exact ⟨[], RulesAt.nil _ _ _ (by omega)⟩
  · simp [Value.cells] at hcs
    obtain ⟨rfl, rfl, rfl⟩ := hcs
    simp only [if_true] at hmm
    subst hmm
    rw [cells_rule_YtebbmhlkdfmmcaaGreat] at hi
    have key : ∀ i, i < len → ∃ R c0 c1 c2 c3, W.cell? ((x.add (i * 4)).add 0) = some c0 ∧ W.cell? ((x.add (i * 4)).add 1) = some c1 ∧ W.cell? ((x.add (i * 4)).add 2) = some c2 ∧ W.cell? ((x.add (i * 4)).add 3) = some c3 ∧ RuleAt W (.agg #[c0, c1, c2, c3]) R := by
      intro i hil
      obtain ⟨cs', hc, ht⟩ := hi i (by omega)
      obtain ⟨_, hcl, hat⟩ := World.cells?_some hc
      match cs', hcl with
      | [c0, c1, c2, c3], _ =>
        obtain ⟨R, hR⟩ := rule_cells ht
        exact ⟨R, c0, c1, c2, c3, by rw [hat 0 (by omega)]; rfl, by rw [hat 1 (by omega)]; rfl, by rw [hat 2 (by omega)]; rfl, by rw [hat 3 (by omega)]; rfl, hR⟩
    obtain ⟨RR, hRR⟩ := choose_lt (α := Rl) (p := fun i R => ∃ c0 c1 c2 c3, W.cell? ((x.add (i * 4)).add 0) = some c0 ∧ W.cell? ((x.add (i * 4)).add 1) = some c1 ∧ W.cell? ((x.add (i * 4)).add 2) = some c2 ∧ W.cell? ((x.add (i * 4)).add 3) = some c3 ∧ RuleAt W (.agg #[c0, c1, c2, c3]) R) key
    obtain ⟨b, off, sp⟩ := x
    refine ⟨(List.range len).map RR, by simp, hl, by unfold maxLen at hm; omega, fun i hil => ?_⟩
    obtain ⟨c0, c1, c2, c3, h0, h1, h2, h3, hR⟩ := hRR i hil
    have hs : sp = none := by
      obtain ⟨d0, _, _, _, g0, _⟩ := hRR 0 (by omega)
      exact cell_spot (b := b) (off := off) (by simpa [Addr.add] using g0)
    subst hs
    have ha : ∀ j, ((⟨b, off, none⟩ : Addr).add (i * 4)).add j = ⟨b, off + i * 4 + j, none⟩ := fun j => by rw [add_at, add_at]
    rw [ha] at h0 h1 h2 h3
    refine ⟨b, off, c0, c1, c2, c3, rfl, World.block_lt_of_cell? W _ h0, h0, h1, h2, h3, ?_⟩
    have hg : ((List.range len).map RR).getD i ⟨0, [], [], []⟩ = RR i := by simp [List.getD, hil]
    rw [hg]; exact hR
end Go.Proofs.YtebbmhlkdfmmcaaGreat
