import Derived.Test.YtnpdhmejnoplcaaLi
import Derived.Test.YtnpdhmejnoplcaaLk
namespace Go.Proofs.Ytnpdhmejnoplcaa
open Go.ChangeShapes Go.WideShapes Go.ChangeAt Go.RowKit Go.Proofs.Kv
open Go.Deep

theorem array8 (T : Array Value) (h : T.size = 8) : ∃ v0 v1 v2 v3 v4 v5 v6 v7, T = #[v0, v1, v2, v3, v4, v5, v6, v7] := by
  obtain ⟨l⟩ := T
  simp only [List.size_toArray] at h
  match l, h with
  | [v0, v1, v2, v3, v4, v5, v6, v7], _ => exact ⟨v0, v1, v2, v3, v4, v5, v6, v7, rfl⟩
theorem cells_two_Ytnpdhmejnoplcaa : Try.prog.cellsOf 43 = 8 := by kernel_rfl
set_option maxRecDepth 100000 in
theorem two_in {H : Type} {enc : TypeId × Value → H} {W : World} {b0 : Nat} {v : Value} {d : DataW H} {p : List MemPlace} (hv : Value.okWide Try.prog W .any b0 43 v)
    (h : DataW.Trod enc Try.prog W 0 (fun _ => true) true 43 v d p) : ∃ R S, TwoAt W v R S := by
  obtain ⟨cs, rfl, hsz⟩ := okWide_struct Try.underlying43 hv
  obtain ⟨c0, c1, c2, c3, c4, c5, c6, c7, rfl⟩ := array8 cs (hsz.trans cells_two_Ytnpdhmejnoplcaa)
  obtain ⟨fuel, hf⟩ := h
  obtain ⟨y0, y1, m, -, -, h0, h1⟩ := trod_struct2 Try.underlying43 hf
  obtain ⟨R, hR⟩ := rule_cells (c0 := c0) (c1 := c1) (c2 := c2) (c3 := c3) (by simpa [cells_rule_Ytnpdhmejnoplcaa, Value.cells] using h0)
  obtain ⟨S, hS⟩ := rule_cells (c0 := c4) (c1 := c5) (c2 := c6) (c3 := c7) (by simpa [cells_rule_Ytnpdhmejnoplcaa, Value.cells] using h1)
  exact ⟨R, S, _, _, _, _, _, _, _, _, rfl, hR, hS⟩
end Go.Proofs.Ytnpdhmejnoplcaa
