import Derived.Test.YtgpenbajhndhiaaVl
namespace Go.Proofs.Kv
open Go.RowKit Go
theorem CellsAt.put {w : World} {g n : Nat} {f : Nat → Int × Int} (h : CellsAt w g n f) {j : Nat} (hj : j < n) (c l : Int) :
    CellsAt ((w.setCell ⟨g, j * 2, none⟩ (.int .i64 c)).setCell ⟨g, j * 2 + 1, none⟩ (.int .i64 l)) g n (fun k => if k = j then (c, l) else f k) := fun k hk => by
  obtain ⟨h1, h2, h3, h4⟩ := h k hk
  obtain ⟨j1, j2, -, -⟩ := h j hj
  refine ⟨?_, ?_, by rw [World.frozen?_setCell, World.frozen?_setCell]; exact h3, by rw [World.frozen?_setCell, World.frozen?_setCell]; exact h4⟩
  · show _ = some (Value.int .i64 (if k = j then (c, l) else f k).1)
    rw [World.cell?_setCell_other _ _ _ _ (by intro e; injection e with _ e; omega)]
    by_cases e : k = j
    · subst e; rw [if_pos rfl]; exact World.cell?_setCell_same _ _ _ h1
    · rw [if_neg e, World.cell?_setCell_other _ _ _ _ (by intro e'; injection e' with _ e'; omega)]; exact h1
  · show _ = some (Value.int .i64 (if k = j then (c, l) else f k).2)
    by_cases e : k = j
    · subst e; rw [if_pos rfl]
      exact World.cell?_setCell_same _ _ _ (by rw [World.cell?_setCell_other _ _ _ _ (by intro e'; injection e' with _ e'; omega)]; exact h2)
    · rw [if_neg e, World.cell?_setCell_other _ _ _ _ (by intro e'; injection e' with _ e'; omega), World.cell?_setCell_other _ _ _ _ (by intro e'; injection e' with _ e'; omega)]; exact h2
theorem CellsAt.store {w : World} {g n : Nat} {f : Nat → Int × Int} (h : CellsAt w g n f) {p : Addr} (hp : p.block ≠ g) (v : Value) : CellsAt (w.setCell p v) g n f := fun k hk => by
  obtain ⟨h1, h2, h3, h4⟩ := h k hk
  refine ⟨?_, ?_, by rw [World.frozen?_setCell]; exact h3, by rw [World.frozen?_setCell]; exact h4⟩
  · rw [World.cell?_setCell_other _ _ _ _ (by intro e; rw [e] at hp; exact hp rfl)]; exact h1
  · rw [World.cell?_setCell_other _ _ _ _ (by intro e; rw [e] at hp; exact hp rfl)]; exact h2
theorem cells_made2 (w : World) (n : Nat) (E : TypeId) : CellsAt (w.alloc (.cells (madeCells #[.int .i64 0, .int .i64 0] (n * 2)) E)) w.heap.size n (fun _ => (0, 0)) := by
  have key : ∀ r, r < n * 2 → (w.alloc (.cells (madeCells #[.int .i64 0, .int .i64 0] (n * 2)) E)).cell? ⟨w.heap.size, r, none⟩ = some (.int .i64 0) := fun r hr => by
    rw [cells_alloc]
    have h1 : r < (madeCells #[.int .i64 0, .int .i64 0] (n * 2)).size := by rw [size_madeCells]; omega
    rw [Array.getElem?_eq_getElem h1]
    simp only [madeCells, Array.getElem_map, Array.getElem_range]
    have h2 : r % (#[Value.int .i64 0, .int .i64 0] : Array Value).size = 0 ∨ r % (#[Value.int .i64 0, .int .i64 0] : Array Value).size = 1 := by
      show r % 2 = 0 ∨ r % 2 = 1; omega
    rcases h2 with h2 | h2 <;> (rw [h2]; rfl)
  intro j hj
  exact ⟨key _ (by omega), key _ (by omega), World.frozen?_alloc_at _ _ _ _ (by simp), World.frozen?_alloc_at _ _ _ _ (by simp)⟩
/-- the first p rows of a table -/
def TabRows (w : World) (tb n p : Nat) (F : Nat → Nat → Int × Int) : Prop := ∀ i, i < p → ∃ b, w.cell? ⟨tb, i, none⟩ = some (.slice (some ⟨b, 0, none⟩) n n) ∧ tb < b ∧ b < w.heap.size ∧ CellsAt w b n (F i)
def TabFree (w : World) (tb m : Nat) : Prop := ∀ i, i < m → (∃ v, w.cell? ⟨tb, i, none⟩ = some v) ∧ w.frozen? ⟨tb, i, none⟩ = false
theorem TabRows.below {w w' : World} {B tb n p : Nat} {F : Nat → Nat → Int × Int} (h : TabRows w tb n p F) (hb : Below B w w') (hB : w.heap.size ≤ B) : TabRows w' tb n p F := fun i hi => by
  obtain ⟨b, h1, h2, h3, h4⟩ := h i hi
  exact ⟨b, (hb.cell (p := ⟨tb, i, none⟩) (Nat.lt_of_lt_of_le (World.block_lt_of_cell? w _ h1) hB)).trans h1, h2, Nat.lt_of_lt_of_le h3 hb.size, h4.below hb (Nat.lt_of_lt_of_le h3 hB)⟩
theorem TabFree.below {w w' : World} {B tb m : Nat} (h : TabFree w tb m) (hb : Below B w w') (hB : w.heap.size ≤ B) : TabFree w' tb m := fun i hi => by
  obtain ⟨⟨v, h1⟩, h2⟩ := h i hi
  have hl := Nat.lt_of_lt_of_le (World.block_lt_of_cell? w _ h1) hB
  exact ⟨⟨v, (hb.cell (p := ⟨tb, i, none⟩) hl).trans h1⟩, (hb.frozen (p := ⟨tb, i, none⟩) hl).trans h2⟩
theorem TabRows.store {w : World} {tb n p : Nat} {F : Nat → Nat → Int × Int} (h : TabRows w tb n p F) (v : Value) : TabRows (w.setCell ⟨tb, p, none⟩ v) tb n p F := fun i hi => by
  obtain ⟨b, h1, h2, h3, h4⟩ := h i hi
  exact ⟨b, by rw [World.cell?_setCell_other _ _ _ _ (by intro e; injection e with _ e; omega)]; exact h1, h2, by simpa [World.setCell] using h3, h4.store (by intro e; have : tb = b := e; omega) v⟩
theorem TabFree.store {w : World} {tb m : Nat} (h : TabFree w tb m) (p : Nat) (v : Value) : TabFree (w.setCell ⟨tb, p, none⟩ v) tb m := fun i hi => by
  obtain ⟨⟨u, h1⟩, h2⟩ := h i hi
  refine ⟨?_, by rw [World.frozen?_setCell]; exact h2⟩
  by_cases e : i = p
  · subst e; exact ⟨v, World.cell?_setCell_same _ _ _ h1⟩
  · exact ⟨u, by rw [World.cell?_setCell_other _ _ _ _ (by intro e'; injection e' with _ e'; omega)]; exact h1⟩
theorem tab_free_made (w : World) (m : Nat) (E : TypeId) : TabFree (w.alloc (.cells (madeCells #[.slice none 0 0] m) E)) w.heap.size m := fun i hi => by
  refine ⟨⟨.slice none 0 0, ?_⟩, World.frozen?_alloc_at _ _ _ _ (by simp)⟩
  rw [cells_alloc]
  have h1 : i < (madeCells #[.slice none 0 0] m).size := by rw [size_madeCells]; omega
  rw [Array.getElem?_eq_getElem h1]
  simp only [madeCells, Array.getElem_map, Array.getElem_range]
  rw [show i % (#[Value.slice none 0 0] : Array Value).size = 0 by show i % 1 = 0; omega]
  rfl
end Go.Proofs.Kv
namespace Go.Proofs.Ytgpenbajhndhiaa
open Go.RowKit Go.Proofs.Kv Go

/-! ### the endings -/
theorem endC_no {L : Lx} (g : GoodL L) {t : List Int} {i j : Nat} (hj : j < L.items.length) (h : endB L t i j = false) : endC L t i j = (0, 100000) := by
  have : S8 L t i j = [] := by rw [S8_eq g t i j hj, if_neg (by rw [h]; decide)]
  rw [endC, lstS, this]; rfl
theorem endC_yes {L : Lx} (g : GoodL L) {t : List Int} {i j : Nat} (hj : j < L.items.length) (h : endB L t i j = true) : endC L t i j = (behC L t (i - ln L j) j, behM L t (i - ln L j) j) := by
  have e := S8_eq g t i j hj
  rw [if_pos h] at e
  rw [endC, lstS, behC, behM]
  by_cases h0 : i - ln L j = 0
  · rw [if_pos h0] at e
    rw [e, if_pos h0, if_pos h0]
    have hc := g.cost j hj
    have : sumC L [(j : Int)] = (L.items.getD j I0).cost := by
      show sumK L [(j : Int)] 0 + stepC L [(j : Int)] 0 = _
      simp [sumK, stepC, costI, List.getD]
    refine Prod.ext rfl ?_
    show min (sumC L [(j : Int)]) 100000 = _
    rw [this]; show min _ _ = (L.items.getD j I0).cost; omega
  · rw [if_neg h0] at e
    rw [e, if_neg h0, if_neg h0]; rfl
theorem Try.infoEnding : (Try.prog.info? 56).map (fun i => (i.zero, i.size, i.bytes)) = some (some (.agg #[.int .i64 0, .int .i64 0]), 2, 16) := by kernel_rfl
theorem Try.infoEndings : (Try.prog.info? 70).map (fun i => (i.zero, i.size, i.bytes)) = some (some (.slice none 0 0), 1, 24) := by kernel_rfl
set_option maxRecDepth 100000 in
set_option maxHeartbeats 4000000 in
theorem endings_calls (v : Value) (L : Lx) (a : Option Addr) (n c : Nat) (t : List Int) (w : World) (h : LexAt w v L) (ht : IntsAt w a n c t) (g : GoodL L) (hn : n ≤ 12) :
    Calls Try.prog 28 #[v, .slice a n c] w fun e w' => ∃ tb, e = .returned (.slice (some ⟨tb, 0, none⟩) (n + 1) (n + 1)) ∧ TabRows w' tb L.items.length (n + 1) (endC L t) ∧ Below w.heap.size w w' := by
  have HP := hid_ h
  obtain ⟨a1, n1, c1, a2, n2, c2, rfl, h1, h2⟩ := h
  obtain ⟨w1, hw1⟩ : ∃ w1, w.alloc (.cells #[.slice a1 n1 c1, .slice a2 n2 c2] 25) = w1 := ⟨_, rfl⟩
  have cb : Below w.heap.size w w1 := by rw [← hw1]; exact below_alloc _ _
  have q0 : w1.cell? ⟨w.heap.size, 0, none⟩ = some (.slice a1 n1 c1) := by rw [← hw1]; exact cells_alloc _ _ _ 0
  have q1 : w1.cell? ⟨w.heap.size, 1, none⟩ = some (.slice a2 n2 c2) := by rw [← hw1]; exact cells_alloc _ _ _ 1
  have HP1 := hid_ (HP.out.below cb (Nat.le_refl _)); have Hc1 := hid_ cb
  have hl1 := h1.len
  have hn8 := g.le; have hn1' := g.ge
  have htl := ht.len
  have HT := hid_ (fun W (hW : Below w1.heap.size w1 W) => (ht.below cb (Nat.le_refl _)).below hW (Nat.le_refl _))
  have H1 := hid_ (fun W (hW : Below w1.heap.size w1 W) => (h1.below cb (Nat.le_refl _)).below hW (Nat.le_refl _))
  have HB := hid_ (fun W (hW : Below w1.heap.size w1 W) tb m i j (hi : i ≤ n) (hj : j < L.items.length) (him : i < m) hrow => behind_calls _ L t tb m i j W (HP1.out.below hW (Nat.le_refl _)) g (by omega) (by omega) hj him hrow)
  have HNo := hid_ (fun i j (hj : j < L.items.length) hh => @endC_no L g t i j hj hh)
  have HYes := hid_ (fun i j (hj : j < L.items.length) hh => @endC_yes L g t i j hj hh)
  have HEb : Hid (∀ i j, endB L t i j = (decide (ln L j ≤ i) && decide ((t.take i).drop (i - ln L j) = (L.items.getD j I0).word))) := hid_ (fun _ _ => rfl)
  have HLn : Hid (∀ j, ln L j = (L.items.getD j I0).word.length) := hid_ (fun _ => rfl)
  have HW6 := hid_ (fun j (hj : j < L.items.length) => (⟨(g.word j hj).1, (g.word j hj).2.1⟩ : _ ∧ _))
  have Hcn := hid_ ht.le
  obtain ⟨i0, hi0, hz0, hz1, hz2⟩ := info_parts Try.infoEndings
  obtain ⟨i1, hi1, hz3, hz4, hz5⟩ := info_parts Try.infoEnding
  obtain ⟨m, hm⟩ : ∃ m, n + 1 = m := ⟨_, rfl⟩
  have hmk : ∀ W' : World, (Instr.makeSlice 58 (.int .i64 (m : Int)) (.int .i64 (m : Int))).run Try.prog W' = .ok (.slice (some ⟨W'.heap.size, 0, none⟩) m m) (W'.alloc (.cells (madeCells #[.slice none 0 0] m) 70)) := fun W' => by
    have := run_make (P := Try.prog) W' 58 70 i0 (.slice none 0 0) Try.underlying58 hi0 hz0 .i64 .i64 m m (by omega) (by omega) (by rw [hz2]; omega) (by omega)
    rw [this, hz1]; simp [Value.cells]
  rw [hl1] at HB HNo HYes HW6 hn8 hn1' ⊢
  have hmk1 : ∀ W' : World, (Instr.makeSlice 70 (.int .i64 (n1 : Int)) (.int .i64 (n1 : Int))).run Try.prog W' = .ok (.slice (some ⟨W'.heap.size, 0, none⟩) n1 n1) (W'.alloc (.cells (madeCells #[.int .i64 0, .int .i64 0] (n1 * 2)) 56)) := fun W' => by
    have := run_make (P := Try.prog) W' 70 56 i1 (.agg #[.int .i64 0, .int .i64 0]) Try.underlying70 hi1 hz3 .i64 .i64 n1 n1 (by omega) (by omega) (by rw [hz5]; omega) (by omega)
    simpa [hz4, Value.cells] using this
  have hwm : IntKind.i64.wrap ((n : Int) + 1) = (m : Int) := by rw [IntKind.wrap_i64]; omega
  obtain ⟨tb, htb⟩ : ∃ tb, w1.heap.size = tb := ⟨_, rfl⟩
  have Hfr := hid_ (tab_free_made w1 m 70)
  have Hb2 := hid_ (below_alloc w1 (.cells (madeCells #[.slice none 0 0] m) 70))
  have Hm := hid_ hm
  clear h1 h2 HP HP1 g hl1 ht htl hm cb
  go_enter Try.func28, Try.ntmps28
  go_wp2
  rw [htb] at Hfr
  have Htb := hid_ htb
  clear htb
  go_loopw [15] (fun i wr => ∃ p : Nat, p ≤ m ∧ i = .int .i64 p ∧ Below w1.heap.size w1 wr ∧ TabRows wr tb n1 p (endC L t) ∧ TabFree wr tb m) (fun i _ => m - (intOf i).toNat)
  case atStart => exact ⟨0, Nat.zero_le _, rfl, Hb2.out, fun i hi => absurd hi (by omega), Hfr.out⟩
  case round =>
    obtain ⟨p, hp, rfl, hbr, htr, hfr⟩ := hrel
    have Hbr := hid_ hbr; have Htr := hid_ htr; have Hfree := hid_ hfr
    have q0r := cell_below q0 hbr; have q1r := cell_below q1 hbr
    by_cases hlt : p < m
    · obtain ⟨⟨v0, hv0⟩, hv1⟩ := hfr p hlt
      have htbl : tb < wr.heap.size := World.block_lt_of_cell? wr _ hv0
      obtain ⟨gp, hgp⟩ : ∃ gp, wr.heap.size = gp := ⟨_, rfl⟩
      obtain ⟨w4, hw4⟩ : ∃ w4, wr.alloc (.cells (madeCells #[.int .i64 0, .int .i64 0] (n1 * 2)) 56) = w4 := ⟨_, rfl⟩
      have c4 : Below wr.heap.size wr w4 := by rw [← hw4]; exact below_alloc _ _
      have hcm := cells_made2 wr n1 56
      rw [hw4, hgp] at hcm
      have v4 := cell_below hv0 c4
      have f4 : w4.frozen? ⟨tb, p, none⟩ = false := (c4.frozen (p := ⟨tb, p, none⟩) htbl).trans hv1
      obtain ⟨w5, hw5⟩ : ∃ w5, w4.setCell ⟨tb, p, none⟩ (.slice (some ⟨gp, 0, none⟩) n1 n1) = w5 := ⟨_, rfl⟩
      have v5 : w5.cell? ⟨tb, p, none⟩ = some (.slice (some ⟨gp, 0, none⟩) n1 n1) := by rw [← hw5]; exact World.cell?_setCell_same _ _ _ v4
      have hsz5 : w5.heap.size = gp + 1 := by rw [← hw5, ← hw4]; simp [World.setCell]; omega
      have hc5 : CellsAt w5 gp n1 (fun _ => (0, 0)) := by rw [← hw5]; exact hcm.store (by intro e; have e : tb = gp := e; omega) _
      have HR5 : Hid (∀ i, i < p → ∃ b, w5.cell? ⟨tb, i, none⟩ = some (.slice (some ⟨b, 0, none⟩) n1 n1) ∧ tb < b ∧ b < gp ∧ CellsAt w5 b n1 (endC L t i)) := hid_ (fun i hi => by
        obtain ⟨b, k1, k2, k3, k4⟩ := htr i hi
        refine ⟨b, ?_, k2, by omega, ?_⟩
        · rw [← hw5, World.cell?_setCell_other _ _ _ _ (by intro e; injection e with _ e; omega)]; exact cell_below k1 c4
        · rw [← hw5]; exact (k4.below c4 k3).store (by intro e; have e : tb = b := e; omega) _)
      have HF5 : Hid (∀ i, i < m → (∃ v, w5.cell? ⟨tb, i, none⟩ = some v) ∧ w5.frozen? ⟨tb, i, none⟩ = false) := hid_ (by rw [← hw5]; exact (hfr.below c4 (Nat.le_refl _)).store p _)
      have htb1 : w1.heap.size ≤ tb := by rw [Htb.out]; exact Nat.le_refl _
      have H15 := hid_ (show Below w1.heap.size w1 w5 by rw [← hw5]; exact Below.setCell (p := ⟨tb, p, none⟩) (hbr.trans (c4.mono hbr.size)) htb1 _)
      have q05 := cell_below q0 H15.out; have q15 := cell_below q1 H15.out
      have htg : tb < gp := by omega
      have h1g : w1.heap.size ≤ gp := by omega
      have Htg := hid_ htg; have H1g := hid_ h1g; have Hz5 := hid_ hsz5
      have hpn : p ≤ n := by have := Hm.out; omega
      have hpc : p ≤ c := by have := Hcn.out; omega
      have Hv5 := hid_ v5
      have Hc5 := hid_ hc5
      clear htr hfr hbr c4 hcm htb1 htbl hc5 htg h1g hsz5 Hbr Htr Hfree
      go_wp2
      clear hgp hw4 hw5 q0r q1r v4 f4 hv0 hv1
      go_loopw [28] (fun i wi => ∃ j : Nat, j ≤ n1 ∧ i = .int .i64 j ∧ Below gp w5 wi ∧ CellsAt wi gp n1 (fun k => if k < j then endC L t p k else (0, 0))) (fun i _ => n1 - (intOf i).toNat)
      case atStart => exact ⟨0, Nat.zero_le _, rfl, Below.refl _ _, Hc5.out.congr fun k _ => (if_neg (by omega)).symm⟩
      case round =>
        obtain ⟨j, hj, rfl, hbi, hci⟩ := hrel
        have Hbw1 := hid_ (H15.out.trans (hbi.mono H1g.out))
        have Hbi := hid_ hbi; have Hci := hid_ hci
        have hgs : gp < wr.heap.size := by have := hbi.size; have := Hz5.out; omega
        have q0i := cell_below q0 Hbw1.out; have q1i := cell_below q1 Hbw1.out
        have v5i := (hbi.cell (p := ⟨tb, p, none⟩) Htg.out).trans Hv5.out
        by_cases hltj : j < n1
        · obtain ⟨bj, offj, aj, nj, cj, rfl, -, k0, k1, k2, hw⟩ := (H1.out w1 (Below.refl _ _)).cells j hltj
          replace k0 := cell_below k0 Hbw1.out; replace k1 := cell_below k1 Hbw1.out; replace k2 := cell_below k2 Hbw1.out
          obtain ⟨hw1', hw6⟩ := HW6.out j hltj
          have heb := HEb.out p j
          rw [HLn.out] at heb
          have hno := HNo.out p j hltj
          have hyes := HYes.out p j hltj
          rw [HLn.out] at hyes
          rw [hw.len] at heb hyes hw1' hw6
          generalize L.items.getD j I0 = X at *
          obtain ⟨wb, hwb⟩ : ∃ wb, wr.alloc (.cells #[.slice aj nj cj, .int .i64 X.kind, .int .i64 X.cost] 42) = wb := ⟨_, rfl⟩
          have cbb : Below wr.heap.size wr wb := by rw [← hwb]; exact below_alloc _ _
          have hcb := hci.below cbb hgs
          obtain ⟨d0, d1, e0, e1⟩ := hcb j hltj
          have s0 : wb.cell? ⟨wr.heap.size, 0, none⟩ = some (.slice aj nj cj) := by rw [← hwb]; exact cells_alloc _ _ _ 0
          obtain ⟨wc, hwc⟩ : ∃ wc, (wb.setCell ⟨gp, j * 2, none⟩ (.int .i64 0)).setCell ⟨gp, j * 2 + 1, none⟩ (.int .i64 100000) = wc := ⟨_, rfl⟩
          have Hcc := hid_ (show CellsAt wc gp n1 _ by rw [← hwc]; exact hcb.put hltj 0 100000)
          have s0c : wc.cell? ⟨wr.heap.size, 0, none⟩ = some (.slice aj nj cj) := by
            rw [← hwc, World.cell?_setCell_other _ _ _ _ (by intro e; injection e with e; omega), World.cell?_setCell_other _ _ _ _ (by intro e; injection e with e; omega)]; exact s0
          have Hbc := hid_ (show Below gp w5 wc by rw [← hwc]; exact Below.setCell (p := ⟨gp, j * 2 + 1, none⟩) (Below.setCell (p := ⟨gp, j * 2, none⟩) (hbi.trans (cbb.mono (Nat.le_of_lt hgs))) (Nat.le_refl _) _) (Nat.le_refl _) _)
          have Hb1c := hid_ (H15.out.trans (Hbc.out.mono H1g.out))
          have hgc : gp < wc.heap.size := by have := Hbc.out.size; have := Hz5.out; omega
          have HE := hid_ (fun q => isEnd_calls aj nj cj X.word a p c (t.take p) (wc.drewN q) (hw.below (below_drewN Hb1c.out q) (Nat.le_refl _)) (((HT.out wc Hb1c.out).take hpn).drewN q) hw1' (by omega))
          have Hebb := hid_ heb
          rw [← heb] at HE
          have Hend : Hid (∀ k, (if k = j then (endC L t p j) else if k < j then endC L t p k else (0, 0)) = if k < j + 1 then endC L t p k else (0, 0)) := hid_ (fun k => by
            by_cases e : k = j
            · subst e; rw [if_pos rfl, if_pos (by omega)]
            · rw [if_neg e]
              by_cases e2 : k < j
              · rw [if_pos e2, if_pos (by omega)]
              · rw [if_neg e2, if_neg (by omega)])
          have v5b := cell_below v5i cbb
          have Hv5c := hid_ ((Hbc.out.cell (p := ⟨tb, p, none⟩) Htg.out).trans Hv5.out)
          have Hq0c := hid_ (cell_below q0 Hb1c.out); have Hq1c := hid_ (cell_below q1 Hb1c.out)
          clear heb hci hbi hcb cbb hw v5i q0i q1i
          cases hb : endB L t p j with
          | false =>
            rw [hb] at HE
            have Hv := hid_ (hno hb)
            clear hno hyes hb
            go_wp2
            clear s0 d0 d1 e0 e1 v5b hwc
            go_wp2_with fail
            go_quiet ((go_at_call 49; exact quiet_more (HE.out _)))
            go_wp2
            go_roundw
            case rel => exact ⟨j + 1, by omega, by go_num, below_drewN Hbc.out _, (Hcc.out.congr fun k _ => (by rw [← Hend.out k, Hv.out]))⟩
            case measure => simp [intOf]; omega
          | true =>
            rw [hb] at HE
            have Hv := hid_ (hyes hb)
            have Hnle : Hid (nj ≤ p) := hid_ (by have := Hebb.out; rw [hb] at this; have h9 := (Bool.and_eq_true_iff.1 this.symm).1; exact of_decide_eq_true h9)
            clear hno hyes hb
            go_wp2
            clear s0 d0 d1 e0 e1 v5b hwc
            go_wp2_with fail
            go_quiet ((go_at_call 49; exact quiet_more (HE.out _)))
            obtain ⟨wd, hwd⟩ : ∃ wd, wc.drewN nq = wd := ⟨_, rfl⟩
            rw [hwd]
            have hqd : wd.cell? ⟨w.heap.size, 0, none⟩ = some (.slice (some ⟨bj, offj, none⟩) n1 c1) := by rw [← hwd]; exact Hq0c.out
            have hq1d : wd.cell? ⟨w.heap.size, 1, none⟩ = some (.slice a2 n2 c2) := by rw [← hwd]; exact Hq1c.out
            have hvd : wd.cell? ⟨tb, p, none⟩ = some (.slice (some ⟨gp, 0, none⟩) n1 n1) := by rw [← hwd]; exact Hv5c.out
            have hsd : wd.cell? ⟨wr.heap.size, 0, none⟩ = some (.slice aj nj cj) := by rw [← hwd]; exact s0c
            have Hbd := hid_ (show Below gp w5 wd by rw [← hwd]; exact below_drewN Hbc.out _)
            have Hcd := hid_ (show CellsAt wd gp n1 _ by rw [← hwd]; exact Hcc.out)
            have hzd : wd.heap.size = wc.heap.size := by rw [← hwd]; rfl
            have hgd : gp < wd.heap.size := by omega
            have hnjp : nj ≤ p := Hnle.out
            obtain ⟨fr, hfr⟩ : ∃ fr, p = fr + nj := ⟨p - nj, by omega⟩
            have hpf : p - nj = fr := by omega
            rw [hpf] at Hv
            have hwf : IntKind.i64.wrap ((p : Int) - (nj : Int)) = (fr : Int) := by rw [IntKind.wrap_i64]; omega
            have HBe := hid_ (fun d os => HB.out (Go.Sort.grow (redrawn wd d) os) ((H15.out.trans (Hbd.out.mono H1g.out)).trans ((below_regrown wd d os).mono (Nat.le_trans H1g.out (Nat.le_of_lt hgd)))) tb m fr j (by omega) hltj (by omega) (fun h0 => by
              obtain ⟨b, k1, k2, k3, k4⟩ := HR5.out fr (by omega)
              have hbb := Hbd.out.trans ((below_regrown wd d os).mono (Nat.le_of_lt hgd))
              exact ⟨b, (hbb.cell (p := ⟨tb, fr, none⟩) Htg.out).trans k1, k4.below hbb k3⟩))
            have gA := cell_regrown hqd; have gB := cell_regrown hq1d; have gC := cell_regrown hvd; have gD := cell_regrown hsd
            clear hqd hq1d hvd hsd s0c hwd hzd hfr hpf
            go_wp2_with fail
            refine wp_region_tail 15 (by kernel_rfl) (by kernel_rfl) ?_
            simp only [List.take_succ_cons, List.take_zero, List.drop_succ_cons, List.drop_zero]
            repeat (first | go_big_quiet_skip | (go_big_quiet_want; go_big_quiet_op; first | go_big_quiet_on | go_big_quiet_call ((go_at_call 50; with_reducible exact Calls.regrown_of (HBe.out _ _)))))
            refine wpQuiet_nil ?_
            rintro wq ⟨pq, hpq⟩
            have hbq := below_wq hpq
            have Hbq := hid_ (Hbd.out.trans (hbq.mono (Nat.le_of_lt hgd)))
            have Hcq := hid_ (Hcd.out.below hbq hgd)
            obtain ⟨d0, d1, e0, e1⟩ := Hcq.out j hltj
            clear hpq hbq gA gB gC gD
            go_wp2
            go_roundw
            case rel => exact ⟨j + 1, by omega, by go_num, Below.setCell (p := ⟨gp, j * 2 + 1, none⟩) (Below.setCell (p := ⟨gp, j * 2, none⟩) Hbq.out (Nat.le_refl _) _) (Nat.le_refl _) _, (Hcq.out.put hltj _ _).congr fun k _ => (by
              by_cases e : k = j
              · subst e; rw [if_pos rfl, if_pos (by omega), Hv.out]
              · rw [if_neg e, ← Hend.out k, if_neg e, if_neg e])⟩
            case measure => simp [intOf]; omega
        · obtain rfl : n1 = j := by omega
          have hv := Hv5.out
          have HF := hid_ (fun i (hi : i < m) => by obtain ⟨⟨v, k1⟩, k2⟩ := HF5.out i hi; exact (⟨⟨v, (hbi.cell (p := ⟨tb, i, none⟩) Htg.out).trans k1⟩, (hbi.frozen (p := ⟨tb, i, none⟩) Htg.out).trans k2⟩ : (∃ v, wr.cell? ⟨tb, i, none⟩ = some v) ∧ wr.frozen? ⟨tb, i, none⟩ = false))
          have HRw := hid_ (fun i (hi : i < p + 1) => show ∃ b, wr.cell? ⟨tb, i, none⟩ = some (.slice (some ⟨b, 0, none⟩) n1 n1) ∧ tb < b ∧ b < wr.heap.size ∧ CellsAt wr b n1 (endC L t i) by
            by_cases e : i = p
            · subst e
              exact ⟨gp, v5i, Htg.out, hgs, hci.congr fun k hk => if_pos hk⟩
            · obtain ⟨b, k1, k2, k3, k4⟩ := HR5.out i (by omega)
              exact ⟨b, (hbi.cell (p := ⟨tb, i, none⟩) Htg.out).trans k1, k2, by omega, k4.below hbi k3⟩)
          clear hci hbi hv v5i
          go_wp2
          go_roundw
          case rel => exact ⟨p + 1, by omega, by go_num, Hbw1.out, HRw.out, HF.out⟩
          case measure => simp [intOf]; omega
    · obtain rfl : m = p := by omega
      go_wp2
      go_ret
      exact ⟨tb, by rw [Hm.out]; rfl, by rw [Hm.out]; exact Htr.out, Hc1.out.trans (Hbr.out.mono Hc1.out.size)⟩
end Go.Proofs.Ytgpenbajhndhiaa
