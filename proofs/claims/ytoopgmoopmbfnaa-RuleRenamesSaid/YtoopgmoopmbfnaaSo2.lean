import Derived.Test.YtoopgmoopmbfnaaPqr
import Derived.Test.YtoopgmoopmbfnaaShelf
import Derived.Sort.OwnSortedInts
namespace Go.Proofs.Ytoopgmoopmbfnaa
open Go.RowKit Go.Proofs.Kv

/-! ### slices.Sort of a row of one's own -/
theorem sortI_calls {B E n g cap : Nat} {l : List Int} {w : World} (hown : w.ownsRow B E 1 (.slice (some ⟨g, 0, none⟩) n cap) n (l.map (Value.int .i64))) (hs : n ≤ 100000) :
    Calls Try.prog 82 #[.slice (some ⟨g, 0, none⟩) n cap] w fun e w' => e = .returned (.tuple #[]) ∧ w'.ownsRow B E 1 (.slice (some ⟨g, 0, none⟩) n cap) n ((l.mergeSort fun a b => decide (a ≤ b)).map (Value.int .i64)) ∧ w.grownBy w' (some g) := by
  have hl : l.length = n := by have := hown.1; simpa using this
  rcases hown.2 with ⟨h, -⟩ | ⟨g', cap', cur, h, hbase, hb, h1, h2, h3, h4⟩
  · injection h with h; cases h
  · injection h with h _ h8
    injection h with h
    injection h with h
    subst h; subst h8; subst hl
    have hlt := (Array.getElem?_eq_some_iff.1 hb).1
    refine (Try.slices_Sort_int g 0 cap l w (Go.holds_of_blockI hb (by rw [Nat.mul_one] at h4; exact h4)) hlt (by omega)).mono ?_
    rintro e w' ⟨rfl, k, os, rfl⟩
    exact ⟨rfl, Go.ownsRow_sortedI (n := k) (os := os) (ts := l.mergeSort fun a b => decide (a ≤ b)) (ss := l) (by simp) hbase hb h1 h2 h3, Go.grownBy_sortedI _⟩

/-! ### rows of one's own that differ, and a box beside them -/
/-- row g holds L -/
def rowAt (W : World) (B g : Nat) (L : List Int) : Prop := W.ownsRow B 3 1 (.slice (some ⟨g, 0, none⟩) L.length L.length) L.length (L.map (Value.int .i64))
structure RenSt (B : Nat) (w1 : World) (G : List (Nat × List Int)) (W : World) : Prop where
  bel : Below B w1 W
  rows : ∀ x ∈ G, rowAt W B x.1 x.2
  dif : (G.map Prod.fst).Nodup
theorem rowAt.lt {W : World} {B g : Nat} {L : List Int} (h : rowAt W B g L) : B ≤ g ∧ g < W.heap.size := World.ownsRow.lt h g rfl
theorem RenSt.nil {B : Nat} {w1 W : World} (h : Below B w1 W) : RenSt B w1 [] W := ⟨h, fun _ hx => (by cases hx), List.nodup_nil⟩
theorem RenSt.le {B : Nat} {w1 W : World} {G : List (Nat × List Int)} (h : RenSt B w1 G W) (hB : B ≤ w1.heap.size) : B ≤ W.heap.size := Nat.le_trans hB h.bel.size
theorem RenSt.grow {B : Nat} {w1 W W' : World} {G : List (Nat × List Int)} (h : RenSt B w1 G W) (hB : B ≤ w1.heap.size) (hb : Below W.heap.size W W') : RenSt B w1 G W' :=
  ⟨h.bel.trans (hb.mono (h.le hB)), fun x hx => own_grown (h.rows x hx) hb, h.dif⟩
theorem RenSt.row {B n g : Nat} {w1 W W' : World} {G : List (Nat × List Int)} {L : List Int} (h : RenSt B w1 G W) (hB : B ≤ w1.heap.size) (hm : Made 3 W W' (.slice (some ⟨g, 0, none⟩) n n) L) (hn : L.length = n) : RenSt B w1 ((g, L) :: G) W' := by
  subst hn
  have hg := h.grow hB hm.bel
  refine ⟨hg.bel, fun x hx => ?_, ?_⟩
  · rcases List.mem_cons.1 hx with rfl | hx
    · exact own_base hm.own (h.le hB)
    · exact hg.rows x hx
  · rw [List.map_cons, List.nodup_cons]
    refine ⟨fun hc => ?_, h.dif⟩
    obtain ⟨x, hx, e⟩ := List.mem_map.1 hc
    have h1 := (h.rows x hx).lt
    have h2 := hm.own.lt g rfl
    simp only at e
    omega
/-- block p: a rule's box, as it was made -/
structure RenP (B : Nat) (w1 : World) (G : List (Nat × List Int)) (p : Nat) (W : World) : Prop where
  st : RenSt B w1 G W
  lo : B ≤ p
  lt : p < W.heap.size
  no : p ∉ G.map Prod.fst
  c0 : W.cell? ⟨p, 0, none⟩ = some (.int .i64 0)
  c1 : W.cell? ⟨p, 1, none⟩ = some (.slice none 0 0)
  c2 : W.cell? ⟨p, 2, none⟩ = some (.slice none 0 0)
  c3 : W.cell? ⟨p, 3, none⟩ = some (.slice none 0 0)
  fz : ∀ i, W.frozen? ⟨p, i, none⟩ = false
theorem RenSt.box {B : Nat} {T : TypeId} {w1 W : World} {G : List (Nat × List Int)} (h : RenSt B w1 G W) (hB : B ≤ w1.heap.size) : RenP B w1 G W.heap.size (W.alloc (.cells #[.int .i64 0, .slice none 0 0, .slice none 0 0, .slice none 0 0] T)) where
  st := h.grow hB (below_alloc _ _)
  lo := h.le hB
  lt := by simp
  no := fun hc => by
    obtain ⟨x, hx, e⟩ := List.mem_map.1 hc
    have := (h.rows x hx).lt
    omega
  c0 := by rw [World.cell?_alloc_at _ _ _ _ (by rfl)]; rfl
  c1 := by rw [World.cell?_alloc_at _ _ _ _ (by rfl)]; rfl
  c2 := by rw [World.cell?_alloc_at _ _ _ _ (by rfl)]; rfl
  c3 := by rw [World.cell?_alloc_at _ _ _ _ (by rfl)]; rfl
  fz := fun i => World.frozen?_alloc_at _ _ _ _ (by simp)
theorem RenP.row {B n g p : Nat} {w1 W W' : World} {G : List (Nat × List Int)} {L : List Int} (h : RenP B w1 G p W) (hB : B ≤ w1.heap.size) (hm : Made 3 W W' (.slice (some ⟨g, 0, none⟩) n n) L) (hn : L.length = n) : RenP B w1 ((g, L) :: G) p W' where
  st := h.st.row hB hm hn
  lo := h.lo
  lt := Nat.lt_of_lt_of_le h.lt hm.bel.size
  no := by
    rw [List.map_cons, List.mem_cons]
    rintro (e | hc)
    · have := hm.own.lt g rfl
      have := h.lt
      simp only at e
      omega
    · exact h.no hc
  c0 := (hm.bel.cell (p := ⟨p, 0, none⟩) h.lt).trans h.c0
  c1 := (hm.bel.cell (p := ⟨p, 1, none⟩) h.lt).trans h.c1
  c2 := (hm.bel.cell (p := ⟨p, 2, none⟩) h.lt).trans h.c2
  c3 := (hm.bel.cell (p := ⟨p, 3, none⟩) h.lt).trans h.c3
  fz := fun i => (hm.bel.frozen (p := ⟨p, i, none⟩) h.lt).trans (h.fz i)
theorem rowAt_setCell {W : World} {B g p : Nat} {L : List Int} (h : rowAt W B g L) (hne : p ≠ g) (i : Nat) (u : Value) : rowAt (W.setCell ⟨p, i, none⟩ u) B g L :=
  ⟨h.1, h.2.imp id fun ⟨g', cap, cur, h1, h2, h3, h4⟩ => ⟨g', cap, cur, h1, h2, (Below.heap_setCell W ⟨p, i, none⟩ u g' (by injection h1 with h1; injection h1 with h1; injection h1 with h1; show g' ≠ p; omega)).trans h3, h4⟩⟩
theorem RenSt.setCell {B p : Nat} {w1 W : World} {G : List (Nat × List Int)} (h : RenSt B w1 G W) (hp : B ≤ p) (hno : p ∉ G.map Prod.fst) (i : Nat) (u : Value) : RenSt B w1 G (W.setCell ⟨p, i, none⟩ u) :=
  ⟨h.bel.setCell hp _, fun x hx => rowAt_setCell (h.rows x hx) (fun e => hno (List.mem_map.2 ⟨x, hx, e.symm⟩)) i u, h.dif⟩
/-- the rule with these rows lies in the box s7 -/
def RenBox (B : Nat) (w1 : World) (y : Int) (M1 M2 M3 : List Int) (s7 : Value) (wx : World) : Prop :=
  ∃ p g1 g2 g3, s7 = .pointer (some ⟨p, 0, none⟩) ∧ p ∉ [g3, g2, g1] ∧ RenSt B w1 [(g3, M3), (g2, M2), (g1, M1)] wx ∧
    wx.cell? ⟨p, 0, none⟩ = some (.int .i64 y) ∧ wx.cell? ⟨p, 1, none⟩ = some (.slice (some ⟨g1, 0, none⟩) M1.length M1.length) ∧ wx.cell? ⟨p, 2, none⟩ = some (.slice (some ⟨g2, 0, none⟩) M2.length M2.length) ∧ wx.cell? ⟨p, 3, none⟩ = some (.slice (some ⟨g3, 0, none⟩) M3.length M3.length)
theorem RenP.stored {B p g1 g2 g3 : Nat} {w1 W : World} {M1 M2 M3 : List Int} (h : RenP B w1 [(g3, M3), (g2, M2), (g1, M1)] p W) (y : Int) :
    RenBox B w1 y M1 M2 M3 (.pointer (some ⟨p, 0, none⟩)) ((((W.setCell ⟨p, 0, none⟩ (.int .i64 y)).setCell ⟨p, 1, none⟩ (.slice (some ⟨g1, 0, none⟩) M1.length M1.length)).setCell ⟨p, 2, none⟩ (.slice (some ⟨g2, 0, none⟩) M2.length M2.length)).setCell ⟨p, 3, none⟩ (.slice (some ⟨g3, 0, none⟩) M3.length M3.length)) := by
  have hc0 := h.c0
  have hc1 := h.c1
  have hc2 := h.c2
  have hc3 := h.c3
  refine ⟨p, g1, g2, g3, rfl, h.no, (((h.st.setCell h.lo h.no _ _).setCell h.lo h.no _ _).setCell h.lo h.no _ _).setCell h.lo h.no _ _, ?_, ?_, ?_, ?_⟩ <;> simp [go_sem, hc0, hc1, hc2, hc3]
theorem RenP.stored' {B p g1 g2 g3 n1 n2 n3 : Nat} {w1 W : World} {M1 M2 M3 : List Int} (h : RenP B w1 [(g3, M3), (g2, M2), (g1, M1)] p W) (y : Int) (e1 : M1.length = n1) (e2 : M2.length = n2) (e3 : M3.length = n3) :
    RenBox B w1 y M1 M2 M3 (.pointer (some ⟨p, 0, none⟩)) ((((W.setCell ⟨p, 0, none⟩ (.int .i64 y)).setCell ⟨p, 1, none⟩ (.slice (some ⟨g1, 0, none⟩) n1 n1)).setCell ⟨p, 2, none⟩ (.slice (some ⟨g2, 0, none⟩) n2 n2)).setCell ⟨p, 3, none⟩ (.slice (some ⟨g3, 0, none⟩) n3 n3)) := by
  subst e1; subst e2; subst e3; exact h.stored y
theorem RenP.letter {B p : Nat} {w1 W : World} {G : List (Nat × List Int)} {motive : World → Prop} (h : RenP B w1 G p W) (k : ∀ W', RenP B w1 G p W' → motive W') : motive W := k W h
end Go.Proofs.Ytoopgmoopmbfnaa
