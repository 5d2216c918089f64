import Derived.Test.YtgpenbajhndhiaaLift
import Derived.Test.YtgpenbajhndhiaaVa
import Derived.Lib.SmallJoins
import Derived.Deep.Slices
import Derived.Deep.Strs
namespace Go.Proofs.Ytgpenbajhndhiaa
open Go.ChangeShapes Go.WideShapes Go.ChangeAt Go.RowKit Go.Proofs.Kv
open Go.Deep

/-- a cell that reads as a list of numbers -/
theorem ints_cell {H : Type} {enc : TypeId × Value → H} {W : World} {n : Nat} {v : Value} {y : DataW H × List MemPlace}
    (h : DataW.trod enc Try.prog W 0 (fun _ => true) true n 26 [v] = some y) : ∃ a len cap l, v = .slice a len cap ∧ IntsAt W a len cap l := by
  rcases open_ints Try.underlying26 Try.underlying3 (by kernel_rfl) h with ⟨hcs, _⟩ | ⟨x, l, c, zs, hcs, _, hl, hm, hz, _, hcell, hwz⟩
  · simp at hcs
    subst hcs
    exact ⟨none, 0, 0, [], rfl, IntsAt.nil _ _ _ (by omega)⟩
  · simp at hcs
    subst hcs
    exact ⟨_, _, _, _, rfl, ints_in hl hm (by simpa using hz) hcell⟩
theorem int_cell {H : Type} {enc : TypeId × Value → H} {W : World} {n : Nat} {v : Value} {y : DataW H × List MemPlace}
    (h : DataW.trod enc Try.prog W 0 (fun _ => true) true n 3 [v] = some y) : ∃ x, v = .int .i64 x := by
  obtain ⟨x, g, -, -⟩ := DataW.trod_int Try.underlying3 h
  simp at g
  exact ⟨x, g⟩
/-- a cell that reads as a list of lists -/
theorem lists_cell {H : Type} {enc : TypeId × Value → H} {W : World} {n : Nat} {v : Value} {y : DataW H × List MemPlace}
    (hf : DataW.trod enc Try.prog W 0 (fun _ => true) true n 23 [v] = some y) : ∃ a len cap L, v = .slice a len cap ∧ ListsAt W a len cap L := by
  rcases open_int_rows Try.underlying23 Try.underlying26 Try.underlying3 (by kernel_rfl) (by kernel_rfl) hf with ⟨hcs, _⟩ | ⟨x, l, c, A, Ln, C, Z, hcs, _, hl, hm, _, hcell⟩
  · simp at hcs
    subst hcs
    exact ⟨none, 0, 0, [], rfl, ListsAt.nil _ _ _ (by omega)⟩
  · simp at hcs
    subst hcs
    exact ⟨_, _, _, _, rfl, lists_in hl hm hcell⟩
theorem cells_item_Ytgpenbajhndhiaa : Try.prog.cellsOf 42 = 3 := by kernel_rfl
theorem cells_lex_Ytgpenbajhndhiaa : Try.prog.cellsOf 25 = 2 := by kernel_rfl
theorem cells_int_Ytgpenbajhndhiaa : Try.prog.cellsOf 3 = 1 := by kernel_rfl
theorem cells_ints_Ytgpenbajhndhiaa : Try.prog.cellsOf 26 = 1 := by kernel_rfl
theorem cells_lists_Ytgpenbajhndhiaa : Try.prog.cellsOf 23 = 1 := by kernel_rfl
theorem cells_items_Ytgpenbajhndhiaa : Try.prog.cellsOf 22 = 1 := by kernel_rfl
set_option maxRecDepth 100000 in
/-- three cells that read as an item -/
theorem item_cells {H : Type} {enc : TypeId × Value → H} {W : World} {n : Nat} {c0 c1 c2 : Value} {y : DataW H × List MemPlace}
    (h : DataW.trod enc Try.prog W 0 (fun _ => true) true n 42 [c0, c1, c2] = some y) : ∃ (X : It) (a : Option Addr) (n c : Nat), c0 = .slice a n c ∧ c1 = .int .i64 X.kind ∧ c2 = .int .i64 X.cost ∧ IntsAt W a n c X.word := by
  obtain ⟨y0, y1, y2, m, -, -, h0, h1, h2⟩ := Go.Deep.trod_struct3 Try.underlying42 h
  obtain ⟨a1, n1, k1, l1, rfl, i1⟩ := ints_cell (v := c0) (by simpa [cells_int_Ytgpenbajhndhiaa, cells_ints_Ytgpenbajhndhiaa] using h0)
  obtain ⟨x, rfl⟩ := int_cell (v := c1) (by simpa [cells_int_Ytgpenbajhndhiaa, cells_ints_Ytgpenbajhndhiaa] using h1)
  obtain ⟨z, rfl⟩ := int_cell (v := c2) (by simpa [cells_int_Ytgpenbajhndhiaa, cells_ints_Ytgpenbajhndhiaa] using h2)
  exact ⟨⟨l1, x, z⟩, _, _, _, rfl, rfl, rfl, i1⟩
instance : Inhabited It := ⟨I0⟩
/-- a cell that reads as a list of items -/
theorem items_cell {H : Type} {enc : TypeId × Value → H} {W : World} {n : Nat} {v : Value} {y : DataW H × List MemPlace}
    (hf : DataW.trod enc Try.prog W 0 (fun _ => true) true n 22 [v] = some y) : ∃ a len cap L, v = .slice a len cap ∧ ItemsAt W a len cap L := by
  rcases open_slice Try.underlying22 hf with ⟨hcs, _⟩ | ⟨x, l, c, m, n, D, Pl, hcs, _, hl, hm, hmm, _, hi⟩
  · simp at hcs
    subst hcs
    exact ⟨none, 0, 0, [], rfl, ItemsAt.nil _ _ _ (by omega)⟩
  · simp at hcs
    subst hcs
    simp only [if_true] at hmm
    subst hmm
    rw [cells_item_Ytgpenbajhndhiaa] at hi
    have key : ∀ i, i < l → ∃ (R : It) (a : Option Addr) (n c : Nat), W.cell? ((x.add (i * 3)).add 0) = some (.slice a n c) ∧ W.cell? ((x.add (i * 3)).add 1) = some (.int .i64 R.kind) ∧ W.cell? ((x.add (i * 3)).add 2) = some (.int .i64 R.cost) ∧ IntsAt W a n c R.word := by
      intro i hil
      obtain ⟨cs', hc, ht⟩ := hi i (by omega)
      obtain ⟨_, hcl, hat⟩ := World.cells?_some hc
      match cs', hcl with
      | [c0, c1, c2], _ =>
        obtain ⟨R, a, n, c, rfl, rfl, rfl, hR⟩ := item_cells ht
        exact ⟨R, a, n, c, by rw [hat 0 (by omega)]; rfl, by rw [hat 1 (by omega)]; rfl, by rw [hat 2 (by omega)]; rfl, hR⟩
    obtain ⟨RR, hRR⟩ := choose_lt (α := It) (p := fun i R => ∃ (a : Option Addr) (n c : Nat), W.cell? ((x.add (i * 3)).add 0) = some (.slice a n c) ∧ W.cell? ((x.add (i * 3)).add 1) = some (.int .i64 R.kind) ∧ W.cell? ((x.add (i * 3)).add 2) = some (.int .i64 R.cost) ∧ IntsAt W a n c R.word) key
    obtain ⟨b, off, sp⟩ := x
    refine ⟨_, _, _, (List.range l).map RR, rfl, by simp, hl, by unfold maxLen at hm; omega, fun i hil => ?_⟩
    obtain ⟨a, n, c, h0, h1, h2, hR⟩ := hRR i hil
    have hs : sp = none := by
      obtain ⟨a0, n0, c0, g0, _⟩ := hRR 0 (by omega)
      exact cell_spot (b := b) (off := off) (by simpa [Addr.add] using g0)
    subst hs
    have ha : ∀ j, ((⟨b, off, none⟩ : Addr).add (i * 3)).add j = ⟨b, off + i * 3 + j, none⟩ := fun j => by rw [add_at, add_at]
    rw [ha] at h0 h1 h2
    have hg : ((List.range l).map RR).getD i I0 = RR i := by simp [List.getD, hil]
    rw [hg]
    exact ⟨b, off, a, n, c, rfl, World.block_lt_of_cell? W _ h0, h0, h1, h2, hR⟩
set_option maxRecDepth 100000 in
/-- a lexicon that came in -/
theorem lex_in {H : Type} {enc : TypeId × Value → H} {W : World} {b0 : Nat} {v : Value} {d : DataW H} {p : List MemPlace} (hv : Value.okWide Try.prog W .any b0 25 v)
    (h : DataW.Trod enc Try.prog W 0 (fun _ => true) true 25 v d p) : ∃ L, LexAt W v L := by
  obtain ⟨cs, rfl, hsz⟩ := okWide_struct Try.underlying25 hv
  obtain ⟨c0, c1, rfl⟩ := Go.Joins.array2 (hsz.trans cells_lex_Ytgpenbajhndhiaa)
  obtain ⟨fuel, hf⟩ := h
  simp only [Value.cells] at hf
  obtain ⟨y0, y1, m, -, -, h0, h1⟩ := trod_struct2 Try.underlying25 hf
  obtain ⟨a1, n1, k1, l1, rfl, i1⟩ := items_cell (v := c0) (by simpa [cells_items_Ytgpenbajhndhiaa, cells_lists_Ytgpenbajhndhiaa] using h0)
  obtain ⟨a2, n2, k2, l2, rfl, i2⟩ := lists_cell (v := c1) (by simpa [cells_items_Ytgpenbajhndhiaa, cells_lists_Ytgpenbajhndhiaa] using h1)
  exact ⟨⟨l1, l2⟩, _, _, _, _, _, _, rfl, i1, i2⟩
end Go.Proofs.Ytgpenbajhndhiaa
