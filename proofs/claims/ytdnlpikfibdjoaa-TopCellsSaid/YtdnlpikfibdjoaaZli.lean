import Derived.Test.YtdnlpikfibdjoaaLift
import Derived.Test.YtdnlpikfibdjoaaZa
import Derived.Lib.SmallJoins
import Derived.Deep.Slices
namespace Go.Proofs.Ytdnlpikfibdjoaa
open Go.ChangeShapes Go.WideShapes Go.ChangeAt Go.RowKit Go.Proofs.Kv
open Go.Deep

/-- a cell that reads as a list of numbers -/
theorem ints_cell {H : Type} {enc : TypeId × Value → H} {W : World} {n : Nat} {v : Value} {y : DataW H × List MemPlace}
    (h : DataW.trod enc Try.prog W 0 (fun _ => true) true n 22 [v] = some y) : ∃ a len cap l, v = .slice a len cap ∧ IntsAt W a len cap l := by
  rcases open_ints Try.underlying22 Try.underlying3 (by kernel_rfl) h with ⟨hcs, _⟩ | ⟨x, l, c, zs, hcs, _, hl, hm, hz, _, hcell, hwz⟩
  · simp at hcs
    subst hcs
    exact ⟨none, 0, 0, [], rfl, IntsAt.nil _ _ _ (by omega)⟩
  · simp at hcs
    subst hcs
    exact ⟨_, _, _, _, rfl, ints_in hl hm (by simpa using hz) hcell⟩
theorem int_cell {H : Type} {enc : TypeId × Value → H} {W : World} {n : Nat} {v : Value} {y : DataW H × List MemPlace}
    (h : DataW.trod enc Try.prog W 0 (fun _ => true) true n 3 [v] = some y) : ∃ x, v = .int .i64 x := by
  obtain ⟨x, g, -, -⟩ := DataW.trod_int Try.underlying3 h
  simp at g
  exact ⟨x, g⟩
theorem cells_entry_Ytdnlpikfibdjoaa : Try.prog.cellsOf 39 = 2 := by kernel_rfl
theorem cells_par_Ytdnlpikfibdjoaa : Try.prog.cellsOf 25 = 2 := by kernel_rfl
theorem cells_int_Ytdnlpikfibdjoaa : Try.prog.cellsOf 3 = 1 := by kernel_rfl
theorem cells_ints_Ytdnlpikfibdjoaa : Try.prog.cellsOf 22 = 1 := by kernel_rfl
theorem cells_ents_Ytdnlpikfibdjoaa : Try.prog.cellsOf 23 = 1 := by kernel_rfl
set_option maxRecDepth 100000 in
/-- two cells that read as an entry -/
theorem entry_cells {H : Type} {enc : TypeId × Value → H} {W : World} {n : Nat} {c0 c1 : Value} {y : DataW H × List MemPlace}
    (h : DataW.trod enc Try.prog W 0 (fun _ => true) true n 39 [c0, c1] = some y) : ∃ (R : Ent) (a : Option Addr) (n c : Nat), c0 = .slice a n c ∧ c1 = .int .i64 R.form ∧ IntsAt W a n c R.spec := by
  obtain ⟨y0, y1, m, -, -, h0, h1⟩ := trod_struct2 Try.underlying39 h
  obtain ⟨a1, n1, k1, l1, rfl, i1⟩ := ints_cell (v := c0) (by simpa [cells_int_Ytdnlpikfibdjoaa, cells_ints_Ytdnlpikfibdjoaa] using h0)
  obtain ⟨x, rfl⟩ := int_cell (v := c1) (by simpa [cells_int_Ytdnlpikfibdjoaa, cells_ints_Ytdnlpikfibdjoaa] using h1)
  exact ⟨⟨l1, x⟩, _, _, _, rfl, rfl, i1⟩
instance : Inhabited Ent := ⟨E0⟩
/-- a cell that reads as a list of entries -/
theorem ents_cell {H : Type} {enc : TypeId × Value → H} {W : World} {n : Nat} {v : Value} {y : DataW H × List MemPlace}
    (hf : DataW.trod enc Try.prog W 0 (fun _ => true) true n 23 [v] = some y) : ∃ a len cap L, v = .slice a len cap ∧ EntsAt W a len cap L := by
  rcases open_slice Try.underlying23 hf with ⟨hcs, _⟩ | ⟨x, l, c, m, n, D, Pl, hcs, _, hl, hm, hmm, _, hi⟩
  · simp at hcs
    subst hcs
    exact ⟨none, 0, 0, [], rfl, EntsAt.nil _ _ _ (by omega)⟩
  · simp at hcs
    subst hcs
    simp only [if_true] at hmm
    subst hmm
    rw [cells_entry_Ytdnlpikfibdjoaa] at hi
    have key : ∀ i, i < l → ∃ (R : Ent) (a : Option Addr) (n c : Nat), W.cell? ((x.add (i * 2)).add 0) = some (.slice a n c) ∧ W.cell? ((x.add (i * 2)).add 1) = some (.int .i64 R.form) ∧ IntsAt W a n c R.spec := by
      intro i hil
      obtain ⟨cs', hc, ht⟩ := hi i (by omega)
      obtain ⟨_, hcl, hat⟩ := World.cells?_some hc
      match cs', hcl with
      | [c0, c1], _ =>
        obtain ⟨R, a, n, c, rfl, rfl, hR⟩ := entry_cells ht
        exact ⟨R, a, n, c, by rw [hat 0 (by omega)]; rfl, by rw [hat 1 (by omega)]; rfl, hR⟩
    obtain ⟨RR, hRR⟩ := choose_lt (α := Ent) (p := fun i R => ∃ (a : Option Addr) (n c : Nat), W.cell? ((x.add (i * 2)).add 0) = some (.slice a n c) ∧ W.cell? ((x.add (i * 2)).add 1) = some (.int .i64 R.form) ∧ IntsAt W a n c R.spec) key
    obtain ⟨b, off, sp⟩ := x
    refine ⟨_, _, _, (List.range l).map RR, rfl, by simp, hl, by unfold maxLen at hm; omega, fun i hil => ?_⟩
    obtain ⟨a, n, c, h0, h1, hR⟩ := hRR i hil
    have hs : sp = none := by
      obtain ⟨a0, n0, c0, g0, _⟩ := hRR 0 (by omega)
      exact cell_spot (b := b) (off := off) (by simpa [Addr.add] using g0)
    subst hs
    have ha : ∀ j, ((⟨b, off, none⟩ : Addr).add (i * 2)).add j = ⟨b, off + i * 2 + j, none⟩ := fun j => by rw [add_at, add_at]
    rw [ha] at h0 h1
    have hg : ((List.range l).map RR).getD i E0 = RR i := by simp [List.getD, hil]
    rw [hg]
    exact ⟨b, off, a, n, c, rfl, World.block_lt_of_cell? W _ h0, h0, h1, hR⟩
set_option maxRecDepth 100000 in
/-- a paradigm that came in -/
theorem par_in {H : Type} {enc : TypeId × Value → H} {W : World} {b0 : Nat} {v : Value} {d : DataW H} {p : List MemPlace} (hv : Value.okWide Try.prog W .any b0 25 v)
    (h : DataW.Trod enc Try.prog W 0 (fun _ => true) true 25 v d p) : ∃ P, ParAt W v P := by
  obtain ⟨cs, rfl, hsz⟩ := okWide_struct Try.underlying25 hv
  obtain ⟨c0, c1, rfl⟩ := Go.Joins.array2 (hsz.trans cells_par_Ytdnlpikfibdjoaa)
  obtain ⟨fuel, hf⟩ := h
  simp only [Value.cells] at hf
  obtain ⟨y0, y1, m, -, -, h0, h1⟩ := trod_struct2 Try.underlying25 hf
  obtain ⟨a1, n1, k1, l1, rfl, i1⟩ := ints_cell (v := c0) (by simpa [cells_ints_Ytdnlpikfibdjoaa, cells_ents_Ytdnlpikfibdjoaa] using h0)
  obtain ⟨a2, n2, k2, l2, rfl, i2⟩ := ents_cell (v := c1) (by simpa [cells_ints_Ytdnlpikfibdjoaa, cells_ents_Ytdnlpikfibdjoaa] using h1)
  exact ⟨⟨l1, l2⟩, _, _, _, _, _, _, rfl, i1, i2⟩
set_option maxRecDepth 100000 in
/-- an entry that came in -/
theorem entry_in {H : Type} {enc : TypeId × Value → H} {W : World} {b0 : Nat} {v : Value} {d : DataW H} {p : List MemPlace} (hv : Value.okWide Try.prog W .any b0 39 v)
    (h : DataW.Trod enc Try.prog W 0 (fun _ => true) true 39 v d p) : ∃ (R : Ent) (a : Option Addr) (n c : Nat), v = .agg #[.slice a n c, .int .i64 R.form] ∧ IntsAt W a n c R.spec := by
  obtain ⟨cs, rfl, hsz⟩ := okWide_struct Try.underlying39 hv
  obtain ⟨c0, c1, rfl⟩ := Go.Joins.array2 (hsz.trans cells_entry_Ytdnlpikfibdjoaa)
  obtain ⟨fuel, hf⟩ := h
  simp only [Value.cells] at hf
  obtain ⟨R, a, n, c, rfl, rfl, hR⟩ := entry_cells hf
  exact ⟨R, a, n, c, rfl, hR⟩
end Go.Proofs.Ytdnlpikfibdjoaa
