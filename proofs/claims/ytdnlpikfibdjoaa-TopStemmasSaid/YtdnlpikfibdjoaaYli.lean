import Derived.Test.YtdnlpikfibdjoaaLift
import Derived.Test.YtdnlpikfibdjoaaYA
import Derived.Lib.SmallJoins
import Derived.Deep.Strs
namespace Go.Proofs.Ytdnlpikfibdjoaa
open Go.ChangeShapes Go.WideShapes Go.ChangeAt Go.RowKit Go.Proofs.Kv
open Go.Deep

/-- a cell that reads as a list of numbers -/
theorem ints_cell {H : Type} {enc : TypeId × Value → H} {W : World} {n : Nat} {v : Value} {y : DataW H × List MemPlace}
    (h : DataW.trod enc Try.prog W 0 (fun _ => true) true n 22 [v] = some y) : ∃ a len cap l, v = .slice a len cap ∧ IntsAt W a len cap l := by
  rcases open_ints Try.underlying22 Try.underlying3 (by kernel_rfl) h with ⟨hcs, _⟩ | ⟨x, l, c, zs, hcs, _, hl, hm, hz, _, hcell, hwz⟩
  · simp at hcs
    subst hcs
    exact ⟨none, 0, 0, [], rfl, IntsAt.nil _ _ _ (by omega)⟩
  · simp at hcs
    subst hcs
    exact ⟨_, _, _, _, rfl, ints_in hl hm (by simpa using hz) hcell⟩
theorem int_cell {H : Type} {enc : TypeId × Value → H} {W : World} {n : Nat} {v : Value} {y : DataW H × List MemPlace}
    (h : DataW.trod enc Try.prog W 0 (fun _ => true) true n 3 [v] = some y) : ∃ x, v = .int .i64 x := by
  obtain ⟨x, g, -, -⟩ := DataW.trod_int Try.underlying3 h
  simp at g
  exact ⟨x, g⟩
theorem cells_tree_Ytdnlpikfibdjoaa : Try.prog.cellsOf 46 = 2 := by kernel_rfl
theorem cells_int_Ytdnlpikfibdjoaa : Try.prog.cellsOf 3 = 1 := by kernel_rfl
theorem cells_ints_Ytdnlpikfibdjoaa : Try.prog.cellsOf 22 = 1 := by kernel_rfl
set_option maxRecDepth 100000 in
/-- two cells that read as a tree -/
theorem tree_cells {H : Type} {enc : TypeId × Value → H} {W : World} {n : Nat} {c0 c1 : Value} {y : DataW H × List MemPlace}
    (h : DataW.trod enc Try.prog W 0 (fun _ => true) true n 46 [c0, c1] = some y) : ∃ (X : Tr) (a : Option Addr) (n c : Nat) (a' : Option Addr) (n' c' : Nat), c0 = .slice a n c ∧ c1 = .slice a' n' c' ∧ IntsAt W a n c X.par ∧ IntsAt W a' n' c' X.at_ := by
  obtain ⟨y0, y1, m, -, -, h0, h1⟩ := trod_struct2 Try.underlying46 h
  obtain ⟨a1, n1, k1, l1, rfl, i1⟩ := ints_cell (v := c0) (by simpa [cells_ints_Ytdnlpikfibdjoaa] using h0)
  obtain ⟨a2, n2, k2, l2, rfl, i2⟩ := ints_cell (v := c1) (by simpa [cells_ints_Ytdnlpikfibdjoaa] using h1)
  exact ⟨⟨l1, l2⟩, _, _, _, _, _, _, rfl, rfl, i1, i2⟩
set_option maxRecDepth 100000 in
/-- a tree that came in -/
theorem tree_in {H : Type} {enc : TypeId × Value → H} {W : World} {b0 : Nat} {v : Value} {d : DataW H} {p : List MemPlace} (hv : Value.okWide Try.prog W .any b0 46 v)
    (h : DataW.Trod enc Try.prog W 0 (fun _ => true) true 46 v d p) : ∃ X, TreeAt W v X := by
  obtain ⟨cs, rfl, hsz⟩ := okWide_struct Try.underlying46 hv
  obtain ⟨c0, c1, rfl⟩ := Go.Joins.array2 (hsz.trans cells_tree_Ytdnlpikfibdjoaa)
  obtain ⟨fuel, hf⟩ := h
  simp only [Value.cells] at hf
  obtain ⟨X, a, n, c, a', n', c', rfl, rfl, h1, h2⟩ := tree_cells hf
  exact ⟨X, _, _, _, _, _, _, rfl, h1, h2⟩
end Go.Proofs.Ytdnlpikfibdjoaa
