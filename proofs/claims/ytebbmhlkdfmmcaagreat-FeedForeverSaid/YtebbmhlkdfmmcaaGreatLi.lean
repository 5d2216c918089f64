import Derived.Test.YtebbmhlkdfmmcaaGreatLift
import Derived.Test.YtebbmhlkdfmmcaaGreatKa
import Derived.Lib.SmallJoins
namespace Go.Proofs.YtebbmhlkdfmmcaaGreat
open Go.ChangeShapes Go.WideShapes Go.ChangeAt Go.RowKit Go.Proofs.Kv
open Go.Deep

/-- a cell that reads as a list of numbers -/
theorem ints_cell {H : Type} {enc : TypeId × Value → H} {W : World} {n : Nat} {v : Value} {y : DataW H × List MemPlace}
    (h : DataW.trod enc Tryz.prog W 0 (fun _ => true) true n 23 [v] = some y) : ∃ a len cap l, v = .slice a len cap ∧ IntsAt W a len cap l := by
  rcases open_ints Tryz.underlying23 Tryz.underlying3 (by kernel_rfl) h with ⟨hcs, _⟩ | ⟨x, l, c, zs, hcs, _, hl, hm, hz, _, hcell, hwz⟩
  · simp at hcs
    subst hcs
    exact ⟨none, 0, 0, [], rfl, IntsAt.nil _ _ _ (by omega)⟩
  · simp at hcs
    subst hcs
    exact ⟨_, _, _, _, rfl, ints_in hl hm (by simpa using hz) hcell⟩
theorem int_cell {H : Type} {enc : TypeId × Value → H} {W : World} {n : Nat} {v : Value} {y : DataW H × List MemPlace}
    (h : DataW.trod enc Tryz.prog W 0 (fun _ => true) true n 3 [v] = some y) : ∃ x, v = .int .i64 x := by
  obtain ⟨x, g, -, -⟩ := DataW.trod_int Tryz.underlying3 h
  simp at g
  exact ⟨x, g⟩
theorem cells_rule_YtebbmhlkdfmmcaaGreat : Tryz.prog.cellsOf 44 = 4 := by kernel_rfl
theorem cells_int_YtebbmhlkdfmmcaaGreat : Tryz.prog.cellsOf 3 = 1 := by kernel_rfl
theorem cells_ints_YtebbmhlkdfmmcaaGreat : Tryz.prog.cellsOf 23 = 1 := by kernel_rfl
set_option maxRecDepth 100000 in
/-- four cells that read as a rule -/
theorem rule_cells {H : Type} {enc : TypeId × Value → H} {W : World} {n : Nat} {c0 c1 c2 c3 : Value} {y : DataW H × List MemPlace}
    (h : DataW.trod enc Tryz.prog W 0 (fun _ => true) true n 44 [c0, c1, c2, c3] = some y) : ∃ R, RuleAt W (.agg #[c0, c1, c2, c3]) R := by
  obtain ⟨y0, y1, y2, y3, m, -, -, h0, h1, h2, h3⟩ := Go.Joins.trod_struct4 Tryz.underlying44 h
  obtain ⟨x, rfl⟩ := int_cell (v := c0) (by simpa [cells_int_YtebbmhlkdfmmcaaGreat, cells_ints_YtebbmhlkdfmmcaaGreat] using h0)
  obtain ⟨a1, n1, k1, l1, rfl, i1⟩ := ints_cell (v := c1) (by simpa [cells_int_YtebbmhlkdfmmcaaGreat, cells_ints_YtebbmhlkdfmmcaaGreat] using h1)
  obtain ⟨a2, n2, k2, l2, rfl, i2⟩ := ints_cell (v := c2) (by simpa [cells_int_YtebbmhlkdfmmcaaGreat, cells_ints_YtebbmhlkdfmmcaaGreat] using h2)
  obtain ⟨a3, n3, k3, l3, rfl, i3⟩ := ints_cell (v := c3) (by simpa [cells_int_YtebbmhlkdfmmcaaGreat, cells_ints_YtebbmhlkdfmmcaaGreat] using h3)
  exact ⟨⟨x, l1, l2, l3⟩, _, _, _, _, _, _, _, _, _, rfl, i1, i2, i3⟩
set_option maxRecDepth 100000 in
theorem rule_in {H : Type} {enc : TypeId × Value → H} {W : World} {b0 : Nat} {v : Value} {d : DataW H} {p : List MemPlace} (hv : Value.okWide Tryz.prog W .any b0 44 v)
    (h : DataW.Trod enc Tryz.prog W 0 (fun _ => true) true 44 v d p) : ∃ R, RuleAt W v R := by
  obtain ⟨cs, rfl, hsz⟩ := okWide_struct Tryz.underlying44 hv
  obtain ⟨c0, c1, c2, c3, rfl⟩ := Go.Joins.array4 (hsz.trans cells_rule_YtebbmhlkdfmmcaaGreat)
  obtain ⟨fuel, hf⟩ := h
  exact rule_cells (by simpa [Value.cells] using hf)
end Go.Proofs.YtebbmhlkdfmmcaaGreat
