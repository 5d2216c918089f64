import Derived.Test.YtdabgoiipkmpaaaJli
namespace Go.Proofs.Ytdabgoiipkmpaaa
open Go.ChangeShapes Go.WideShapes Go.ChangeAt Go.RowKit Go.Proofs.Kv
open Go.Deep

theorem cells_step_Ytdabgoiipkmpaaa : Try.prog.cellsOf 74 = 2 := by kernel_rfl
/-- a slice of steps that came in -/
theorem steps_in {H : Type} {enc : TypeId × Value → H} {W : World} {a : Option Addr} {len cap : Nat} {d : DataW H} {p : List MemPlace}
    (h : DataW.Trod enc Try.prog W 0 (fun _ => true) true 27 (.slice a len cap) d p) : ∃ L, PairsAt W a len cap L := by
  obtain ⟨fuel, hf⟩ := h
  rcases open_slice Try.underlying27 hf with ⟨hcs, _⟩ | ⟨x, l, c, m, n, D, Pl, hcs, _, hl, hm, hmm, _, hi⟩
  · simp [Value.cells] at hcs
    obtain ⟨rfl, rfl, rfl⟩ := hcs
    exact ⟨[], rfl, Nat.le_refl _, by omega, fun i hi => absurd hi (by omega)⟩
  · simp [Value.cells] at hcs
    obtain ⟨rfl, rfl, rfl⟩ := hcs
    simp only [if_true] at hmm
    subst hmm
    rw [cells_step_Ytdabgoiipkmpaaa] at hi
    have key : ∀ i, i < len → ∃ R : Int × Int, W.cell? ((x.add (i * 2)).add 0) = some (.int .i64 R.1) ∧ W.cell? ((x.add (i * 2)).add 1) = some (.int .i64 R.2) := by
      intro i hil
      obtain ⟨cs', hc, ht⟩ := hi i (by omega)
      obtain ⟨_, hcl, hat⟩ := World.cells?_some hc
      match cs', hcl with
      | [c0, c1], _ =>
        obtain ⟨xs, m, _, _, _, hlen, hf⟩ := DataW.trod_struct Try.underlying74 ht
        match xs, hlen with
        | [y0, y1], _ =>
        have h0 := hf 0 _ rfl
        have h1 := hf 1 _ rfl
        obtain ⟨x0, rfl⟩ := int_cell (v := c0) (by simpa [cells_int_Ytdabgoiipkmpaaa, cells_ints_Ytdabgoiipkmpaaa] using h0)
        obtain ⟨x1, rfl⟩ := int_cell (v := c1) (by simpa [cells_int_Ytdabgoiipkmpaaa, cells_ints_Ytdabgoiipkmpaaa] using h1)
        exact ⟨(x0, x1), by rw [hat 0 (by omega)]; rfl, by rw [hat 1 (by omega)]; rfl⟩
    obtain ⟨RR, hRR⟩ := choose_lt (α := Int × Int) (p := fun i R => W.cell? ((x.add (i * 2)).add 0) = some (.int .i64 R.1) ∧ W.cell? ((x.add (i * 2)).add 1) = some (.int .i64 R.2)) key
    obtain ⟨b, off, sp⟩ := x
    refine ⟨(List.range len).map RR, by simp, hl, by unfold maxLen at hm; omega, fun i hil => ?_⟩
    obtain ⟨h0, h1⟩ := hRR i hil
    have hs : sp = none := by
      obtain ⟨g0, _⟩ := hRR 0 (by omega)
      exact cell_spot (b := b) (off := off) (by simpa [Addr.add] using g0)
    subst hs
    have ha : ∀ j, ((⟨b, off, none⟩ : Addr).add (i * 2)).add j = ⟨b, off + i * 2 + j, none⟩ := fun j => by rw [add_at, add_at]
    rw [ha] at h0 h1
    have hg : ((List.range len).map RR).getD i (0, 0) = RR i := by simp [List.getD, hil]
    exact ⟨b, off, rfl, World.block_lt_of_cell? W _ h0, by rw [hg]; exact h0, by rw [hg]; exact h1⟩
end Go.Proofs.Ytdabgoiipkmpaaa
