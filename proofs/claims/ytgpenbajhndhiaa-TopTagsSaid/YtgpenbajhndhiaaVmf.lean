import Derived.Test.YtgpenbajhndhiaaVG
namespace Go.Proofs.Kv
open Go.RowKit Go
theorem CellsAt.put0 {w : World} {g n : Nat} {f : Nat → Int × Int} (h : CellsAt w g n f) {j : Nat} (hj : j < n) (c : Int) :
    CellsAt (w.setCell ⟨g, j * 2, none⟩ (.int .i64 c)) g n (fun k => if k = j then (c, (f j).2) else f k) := fun k hk => by
  obtain ⟨h1, h2, h3, h4⟩ := h k hk
  refine ⟨?_, ?_, by rw [World.frozen?_setCell]; exact h3, by rw [World.frozen?_setCell]; exact h4⟩
  · show _ = some (Value.int .i64 (if k = j then (c, (f j).2) else f k).1)
    by_cases e : k = j
    · subst e; rw [if_pos rfl]; exact World.cell?_setCell_same _ _ _ h1
    · rw [if_neg e, World.cell?_setCell_other _ _ _ _ (by intro e'; injection e' with _ e'; omega)]; exact h1
  · show _ = some (Value.int .i64 (if k = j then (c, (f j).2) else f k).2)
    rw [World.cell?_setCell_other _ _ _ _ (by intro e; injection e with _ e; omega)]
    by_cases e : k = j
    · subst e; rw [if_pos rfl]; exact h2
    · rw [if_neg e]; exact h2
theorem CellsAt.put1 {w : World} {g n : Nat} {f : Nat → Int × Int} (h : CellsAt w g n f) {j : Nat} (hj : j < n) (l : Int) :
    CellsAt (w.setCell ⟨g, j * 2 + 1, none⟩ (.int .i64 l)) g n (fun k => if k = j then ((f j).1, l) else f k) := fun k hk => by
  obtain ⟨h1, h2, h3, h4⟩ := h k hk
  refine ⟨?_, ?_, by rw [World.frozen?_setCell]; exact h3, by rw [World.frozen?_setCell]; exact h4⟩
  · show _ = some (Value.int .i64 (if k = j then ((f j).1, l) else f k).1)
    rw [World.cell?_setCell_other _ _ _ _ (by intro e; injection e with _ e; omega)]
    by_cases e : k = j
    · subst e; rw [if_pos rfl]; exact h1
    · rw [if_neg e]; exact h1
  · show _ = some (Value.int .i64 (if k = j then ((f j).1, l) else f k).2)
    by_cases e : k = j
    · subst e; rw [if_pos rfl]; exact World.cell?_setCell_same _ _ _ h2
    · rw [if_neg e, World.cell?_setCell_other _ _ _ _ (by intro e'; injection e' with _ e'; omega)]; exact h2
end Go.Proofs.Kv
namespace Go.Proofs.Ytgpenbajhndhiaa
open Go.RowKit Go.Proofs.Kv Go

/-! ### the document's table -/
def cstN (l : List (List Int)) (L : Lx) : Int := if l.length = 0 then 0 else minN (l.map (sumC L))
def stpC (L : Lx) (t : List Int) (i j : Nat) : Int × Int := (cstN (S8 L t i j) L, ((S8 L t i j).length : Int))
def prtC (L : Lx) (t : List Int) (fr j k : Nat) : Int × Int := (cstN (behP L t fr j k) L, ((behP L t fr j k).length : Int))
theorem stpC_no {L : Lx} (g : GoodL L) {t : List Int} {i j : Nat} (hj : j < L.items.length) (h : endB L t i j = false) : stpC L t i j = (0, 0) := by
  have : S8 L t i j = [] := by rw [S8_eq g t i j hj, if_neg (by rw [h]; decide)]
  rw [stpC, this]; rfl
theorem stpC_z {L : Lx} (g : GoodL L) {t : List Int} {i j : Nat} (hj : j < L.items.length) (h : endB L t i j = true) (h0 : i - ln L j = 0) : stpC L t i j = ((L.items.getD j I0).cost, 1) := by
  have e := S8_eq g t i j hj
  rw [if_pos h, if_pos h0] at e
  have hc := g.cost j hj
  have : sumC L [(j : Int)] = (L.items.getD j I0).cost := by
    show sumK L [(j : Int)] 0 + stepC L [(j : Int)] 0 = _
    simp [sumK, stepC, costI, List.getD]
  rw [stpC, e]
  refine Prod.ext ?_ rfl
  show min (sumC L [(j : Int)]) 100000 = _
  rw [this]; show min _ _ = (L.items.getD j I0).cost; omega
theorem stpC_yes {L : Lx} (g : GoodL L) {t : List Int} {i j fr : Nat} (hj : j < L.items.length) (h : endB L t i j = true) (h0 : i - ln L j = fr) (hfr : fr ≠ 0) : stpC L t i j = prtC L t fr j L.items.length := by
  have e := S8_eq g t i j hj
  rw [if_pos h, h0, if_neg hfr] at e
  rw [stpC, prtC, e]; rfl
theorem prtC_zero (L : Lx) (t : List Int) (fr j : Nat) : prtC L t fr j 0 = (0, 0) := rfl
theorem prtC_no {L : Lx} {t : List Int} {fr j k : Nat} (h : follV L k j < 0) : prtC L t fr j (k + 1) = prtC L t fr j k := by
  rw [prtC, prtC, behP_succ, behL_no h, List.append_nil]
theorem prtC_none {L : Lx} {t : List Int} {fr j k : Nat} (h : (stpC L t fr k).2 = 0) : prtC L t fr j (k + 1) = prtC L t fr j k := by
  have h : ((S8 L t fr k).length : Int) = 0 := h
  have h1 : S8 L t fr k = [] := List.length_eq_zero_iff.1 (by omega)
  have h2 : behL L t fr j k = [] := by unfold behL; rw [h1]; split <;> rfl
  rw [prtC, prtC, behP_succ, h2, List.append_nil]
theorem prtC_yes {L : Lx} (g : GoodL L) {t : List Int} (ht : t.length ≤ 12) {fr j k : Nat} (hfr : fr ≤ t.length) (hk : k < L.items.length) (hj : j < L.items.length) (hf : 0 ≤ follV L k j) (hc : (stpC L t fr k).2 ≠ 0) :
    prtC L t fr j (k + 1) = (if (prtC L t fr j k).2 = 0 ∨ (stpC L t fr k).1 + follV L k j + (L.items.getD j I0).cost < (prtC L t fr j k).1 then (stpC L t fr k).1 + follV L k j + (L.items.getD j I0).cost else (prtC L t fr j k).1, (prtC L t fr j k).2 + (stpC L t fr k).2) := by
  have hc : ((S8 L t fr k).length : Int) ≠ 0 := hc
  have hst := lst_step g ht hfr hk hj hf
  have hln := behL_len (L := L) (t := t) (i := fr) (j := j) (k := k) hf
  obtain ⟨l0, l1, l2, -⟩ := lstS_in g ht hfr hk
  have l3 := l2 (fun e => hc (by rw [e]; rfl))
  have hfi := follV_in g hk hj
  have hcj := g.cost j hj
  have hs : (stpC L t fr k).1 = lstS L t fr k := by show cstN _ _ = _; rw [cstN, if_neg (by omega)]; rfl
  have hp1 : (prtC L t fr j k).2 = ((behP L t fr j k).length : Int) := rfl
  have hp0 : (prtC L t fr j k).1 = cstN (behP L t fr j k) L := rfl
  have hs2 : (stpC L t fr k).2 = ((S8 L t fr k).length : Int) := rfl
  have hlen : (behP L t fr j (k + 1)).length = (behP L t fr j k).length + (S8 L t fr k).length := by rw [behP_succ, List.length_append, hln]
  refine Prod.ext ?_ ?_
  · show cstN (behP L t fr j (k + 1)) L = _
    rw [cstN, if_neg (by omega), hs, hp1, hp0, cstN]
    by_cases hb : (behP L t fr j k).length = 0
    · have e : behP L t fr j k = [] := List.length_eq_zero_iff.1 hb
      rw [if_pos (.inl (by omega))]
      rw [e] at hst
      have e2 : minN (List.map (sumC L) []) = 100000 := rfl
      rw [e2] at hst
      omega
    · rw [if_neg hb]
      by_cases hl : lstS L t fr k + follV L k j + (L.items.getD j I0).cost < minN ((behP L t fr j k).map (sumC L))
      · rw [if_pos (.inr hl)]; omega
      · rw [if_neg (by rintro (h | h); exact hb (by omega); exact hl h)]; omega
  · show ((behP L t fr j (k + 1)).length : Int) = _
    rw [hlen, hp1, hs2]; omega
theorem stpC_in {L : Lx} (g : GoodL L) {t : List Int} (ht : t.length ≤ 12) {i j : Nat} (hi : i ≤ t.length) (hj : j < L.items.length) : 0 ≤ (stpC L t i j).1 ∧ (stpC L t i j).1 ≤ 100000 ∧ 0 ≤ (stpC L t i j).2 ∧ (stpC L t i j).2 ≤ 68719476736 := by
  obtain ⟨l0, l1, -, -⟩ := lstS_in g ht hi hj
  have h2 := len_S8' g t (i := i) (by omega) hj
  have e : (stpC L t i j).2 = ((S8 L t i j).length : Int) := rfl
  have e1 : (stpC L t i j).1 = cstN (S8 L t i j) L := rfl
  rw [e, e1, cstN]
  have e2 : minN ((S8 L t i j).map (sumC L)) = lstS L t i j := rfl
  rw [e2]
  split <;> omega
theorem prtC_in {L : Lx} (g : GoodL L) {t : List Int} (ht : t.length ≤ 12) {fr j k : Nat} (hfr : fr ≤ t.length) (hj : j < L.items.length) (hk : k ≤ L.items.length) : 0 ≤ (prtC L t fr j k).1 ∧ (prtC L t fr j k).1 ≤ 100000 ∧ 0 ≤ (prtC L t fr j k).2 ∧ (prtC L t fr j k).2 ≤ 549755813888 := by
  have l0 := behP_min g ht hfr hj k hk
  have l1 := minN_le ((behP L t fr j k).map (sumC L))
  have h2 := len_behP g t (i := fr) j (by omega) k hk
  have := g.le
  have h3 : k * 68719476736 ≤ 8 * 68719476736 := Nat.mul_le_mul_right _ (by omega)
  have e : (prtC L t fr j k).2 = ((behP L t fr j k).length : Int) := rfl
  have e1 : (prtC L t fr j k).1 = cstN (behP L t fr j k) L := rfl
  rw [e, e1, cstN]
  split <;> omega
end Go.Proofs.Ytgpenbajhndhiaa
namespace Go.Proofs.Ytgpenbajhndhiaa
open Go.RowKit Go.Proofs.Kv Go

theorem Try.infoStep : (Try.prog.info? 64).map (fun i => (i.zero, i.size, i.bytes)) = some (some (.agg #[.int .i64 0, .int .i64 0]), 2, 16) := by kernel_rfl
theorem Try.infoSteps : (Try.prog.info? 60).map (fun i => (i.zero, i.size, i.bytes)) = some (some (.slice none 0 0), 1, 24) := by kernel_rfl
set_option maxRecDepth 100000 in
set_option maxHeartbeats 8000000 in
theorem table_calls (v : Value) (L : Lx) (a : Option Addr) (n c : Nat) (t : List Int) (w : World) (h : LexAt w v L) (ht : IntsAt w a n c t) (g : GoodL L) (hn : n ≤ 12) :
    Calls Try.prog 30 #[v, .slice a n c] w fun e w' => ∃ tb, e = .returned (.slice (some ⟨tb, 0, none⟩) (n + 1) (n + 1)) ∧ TabRows w' tb L.items.length (n + 1) (stpC L t) ∧ Below w.heap.size w w' := by
  have HP := hid_ h
  obtain ⟨a1, n1, c1, a2, n2, c2, rfl, h1, h2⟩ := h
  obtain ⟨w1, hw1⟩ : ∃ w1, w.alloc (.cells #[.slice a1 n1 c1, .slice a2 n2 c2] 25) = w1 := ⟨_, rfl⟩
  have cb : Below w.heap.size w w1 := by rw [← hw1]; exact below_alloc _ _
  have q0 : w1.cell? ⟨w.heap.size, 0, none⟩ = some (.slice a1 n1 c1) := by rw [← hw1]; exact cells_alloc _ _ _ 0
  have q1 : w1.cell? ⟨w.heap.size, 1, none⟩ = some (.slice a2 n2 c2) := by rw [← hw1]; exact cells_alloc _ _ _ 1
  have HP1 := hid_ (HP.out.below cb (Nat.le_refl _)); have Hc1 := hid_ cb
  have hl1 := h1.len
  have hn8 := g.le; have hn1' := g.ge
  have htl := ht.len
  have H1 := hid_ (fun W (hW : Below w1.heap.size w1 W) => (h1.below cb (Nat.le_refl _)).below hW (Nat.le_refl _))
  have HCo := hid_ (fun W (hW : Below w1.heap.size w1 W) i j z (hj : j < L.items.length) (hi : i ≤ n) hz => comes_end _ L a n c t i j z W (HP1.out.below hW (Nat.le_refl _)) ((ht.below cb (Nat.le_refl _)).below hW (Nat.le_refl _)) g hj hi (by omega) hz)
  have HFo := hid_ (fun W (hW : Below w1.heap.size w1 W) k j (hk : k < L.items.length) (hj : j < L.items.length) => r8follow_calls _ L k j W (HP1.out.below hW (Nat.le_refl _)) g hk hj)
  have HNo := hid_ (fun i j (hj : j < L.items.length) hh => @stpC_no L g t i j hj hh)
  have HZ := hid_ (fun i j (hj : j < L.items.length) hh h0 => @stpC_z L g t i j hj hh h0)
  have HYes := hid_ (fun i j fr (hj : j < L.items.length) hh h0 hfr => @stpC_yes L g t i j fr hj hh h0 hfr)
  have HPy := hid_ (fun fr j k (hfr : fr ≤ n) (hk : k < L.items.length) (hj : j < L.items.length) hf hc => @prtC_yes L g t (by omega) fr j k (by omega) hk hj hf hc)
  have HSi := hid_ (fun i j (hi : i ≤ n) (hj : j < L.items.length) => @stpC_in L g t (by omega) i j (by omega) hj)
  have HPi := hid_ (fun fr j k (hfr : fr ≤ n) (hj : j < L.items.length) (hk : k ≤ L.items.length) => @prtC_in L g t (by omega) fr j k (by omega) hj hk)
  have HFi := hid_ (fun k j (hk : k < L.items.length) (hj : j < L.items.length) => @follV_in L g k j hk hj)
  have HEb : Hid (∀ i j, endB L t i j = true → ln L j ≤ i) := hid_ (fun i j h => by unfold endB at h; exact of_decide_eq_true (Bool.and_eq_true_iff.1 h).1)
  have HW6 := hid_ (fun j (hj : j < L.items.length) => (⟨(g.word j hj).1, (g.word j hj).2.1⟩ : _ ∧ _))
  have HCs := hid_ (fun j (hj : j < L.items.length) => g.cost j hj)
  have Hcn := hid_ ht.le
  obtain ⟨i0, hi0, hz0, hz1, hz2⟩ := info_parts Try.infoSteps
  obtain ⟨i1, hi1, hz3, hz4, hz5⟩ := info_parts Try.infoStep
  obtain ⟨m, hm⟩ : ∃ m, n + 1 = m := ⟨_, rfl⟩
  have hmk : ∀ W' : World, (Instr.makeSlice 61 (.int .i64 (m : Int)) (.int .i64 (m : Int))).run Try.prog W' = .ok (.slice (some ⟨W'.heap.size, 0, none⟩) m m) (W'.alloc (.cells (madeCells #[.slice none 0 0] m) 60)) := fun W' => by
    have := run_make (P := Try.prog) W' 61 60 i0 (.slice none 0 0) Try.underlying61 hi0 hz0 .i64 .i64 m m (by omega) (by omega) (by rw [hz2]; omega) (by omega)
    rw [this, hz1]; simp [Value.cells]
  rw [hl1] at HCo HFo HNo HZ HYes HPy HSi HPi HFi HW6 HCs hn8 hn1' ⊢
  have hmk1 : ∀ W' : World, (Instr.makeSlice 60 (.int .i64 (n1 : Int)) (.int .i64 (n1 : Int))).run Try.prog W' = .ok (.slice (some ⟨W'.heap.size, 0, none⟩) n1 n1) (W'.alloc (.cells (madeCells #[.int .i64 0, .int .i64 0] (n1 * 2)) 64)) := fun W' => by
    have := run_make (P := Try.prog) W' 60 64 i1 (.agg #[.int .i64 0, .int .i64 0]) Try.underlying60 hi1 hz3 .i64 .i64 n1 n1 (by omega) (by omega) (by rw [hz5]; omega) (by omega)
    simpa [hz4, Value.cells] using this
  have hwm : IntKind.i64.wrap ((n : Int) + 1) = (m : Int) := by rw [IntKind.wrap_i64]; omega
  obtain ⟨tb, htb⟩ : ∃ tb, w1.heap.size = tb := ⟨_, rfl⟩
  have Hfr := hid_ (tab_free_made w1 m 60)
  have Hb2 := hid_ (below_alloc w1 (.cells (madeCells #[.slice none 0 0] m) 60))
  have Hm := hid_ hm
  have hm12 : m ≤ 13 := by omega
  clear h1 h2 HP HP1 g hl1 ht htl hm cb
  go_enter Try.func30, Try.ntmps30
  go_wp2
  rw [htb] at Hfr
  have Htb := hid_ htb
  clear htb
  go_loopw [6] (fun i wr => ∃ p : Nat, p ≤ m ∧ i = .int .i64 p ∧ Below w1.heap.size w1 wr ∧ TabRows wr tb n1 p (stpC L t) ∧ TabFree wr tb m) (fun i _ => m - (intOf i).toNat)
  case atStart => exact ⟨0, Nat.zero_le _, rfl, Hb2.out, fun i hi => absurd hi (by omega), Hfr.out⟩
  case round =>
    obtain ⟨p, hp, rfl, hbr, htr, hfr⟩ := hrel
    have Hbr := hid_ hbr; have Htr := hid_ htr; have Hfree := hid_ hfr
    have q0r := cell_below q0 hbr; have q1r := cell_below q1 hbr
    by_cases hlt : p < m
    · obtain ⟨⟨v0, hv0⟩, hv1⟩ := hfr p hlt
      have htbl : tb < wr.heap.size := World.block_lt_of_cell? wr _ hv0
      obtain ⟨gp, hgp⟩ : ∃ gp, wr.heap.size = gp := ⟨_, rfl⟩
      obtain ⟨w4, hw4⟩ : ∃ w4, wr.alloc (.cells (madeCells #[.int .i64 0, .int .i64 0] (n1 * 2)) 64) = w4 := ⟨_, rfl⟩
      have c4 : Below wr.heap.size wr w4 := by rw [← hw4]; exact below_alloc _ _
      have hcm := cells_made2 wr n1 64
      rw [hw4, hgp] at hcm
      have v4 := cell_below hv0 c4
      have f4 : w4.frozen? ⟨tb, p, none⟩ = false := (c4.frozen (p := ⟨tb, p, none⟩) htbl).trans hv1
      obtain ⟨w5, hw5⟩ : ∃ w5, w4.setCell ⟨tb, p, none⟩ (.slice (some ⟨gp, 0, none⟩) n1 n1) = w5 := ⟨_, rfl⟩
      have v5 : w5.cell? ⟨tb, p, none⟩ = some (.slice (some ⟨gp, 0, none⟩) n1 n1) := by rw [← hw5]; exact World.cell?_setCell_same _ _ _ v4
      have hsz5 : w5.heap.size = gp + 1 := by rw [← hw5, ← hw4]; simp [World.setCell]; omega
      have hc5 : CellsAt w5 gp n1 (fun _ => (0, 0)) := by rw [← hw5]; exact hcm.store (by intro e; have e : tb = gp := e; omega) _
      have HR5 : Hid (∀ i, i < p → ∃ b, w5.cell? ⟨tb, i, none⟩ = some (.slice (some ⟨b, 0, none⟩) n1 n1) ∧ tb < b ∧ b < gp ∧ CellsAt w5 b n1 (stpC L t i)) := hid_ (fun i hi => by
        obtain ⟨b, k1, k2, k3, k4⟩ := htr i hi
        refine ⟨b, ?_, k2, by omega, ?_⟩
        · rw [← hw5, World.cell?_setCell_other _ _ _ _ (by intro e; injection e with _ e; omega)]; exact cell_below k1 c4
        · rw [← hw5]; exact (k4.below c4 k3).store (by intro e; have e : tb = b := e; omega) _)
      have HF5 : Hid (∀ i, i < m → (∃ v, w5.cell? ⟨tb, i, none⟩ = some v) ∧ w5.frozen? ⟨tb, i, none⟩ = false) := hid_ (by rw [← hw5]; exact (hfr.below c4 (Nat.le_refl _)).store p _)
      have htb1 : w1.heap.size ≤ tb := by rw [Htb.out]; exact Nat.le_refl _
      have H15 := hid_ (show Below w1.heap.size w1 w5 by rw [← hw5]; exact Below.setCell (p := ⟨tb, p, none⟩) (hbr.trans (c4.mono hbr.size)) htb1 _)
      have htg : tb < gp := by omega
      have h1g : w1.heap.size ≤ gp := by omega
      have Htg := hid_ htg; have H1g := hid_ h1g; have Hz5 := hid_ hsz5
      have hpn : p ≤ n := by have := Hm.out; omega
      have Hv5 := hid_ v5
      have Hc5 := hid_ hc5
      have hpl : (p : Int) ≤ (n : Int) := by omega
      have q05 := cell_below q0 H15.out; have q15 := cell_below q1 H15.out
      clear htr hfr hbr c4 hcm htb1 htbl hc5 htg h1g hsz5 Hbr Htr Hfree
      go_wp2
      clear hgp hw4 hw5 q0r q1r v4 f4 hv0 hv1
      go_loopw [7] (fun i wi => ∃ j : Nat, j ≤ n1 ∧ i = .int .i64 j ∧ Below gp w5 wi ∧ CellsAt wi gp n1 (fun k => if k < j then stpC L t p k else (0, 0))) (fun i _ => n1 - (intOf i).toNat)
      case atStart => exact ⟨0, Nat.zero_le _, rfl, Below.refl _ _, Hc5.out.congr fun k _ => (if_neg (by omega)).symm⟩
      case round =>
        obtain ⟨j, hj, rfl, hbi, hci⟩ := hrel
        have Hbw1 := hid_ (H15.out.trans (hbi.mono H1g.out))
        have Hbi := hid_ hbi; have Hci := hid_ hci
        have hgs : gp < wr.heap.size := by have := hbi.size; have := Hz5.out; omega
        have q0i := cell_below q0 Hbw1.out; have q1i := cell_below q1 Hbw1.out
        have v5i := (hbi.cell (p := ⟨tb, p, none⟩) Htg.out).trans Hv5.out
        by_cases hltj : j < n1
        · obtain ⟨bj, offj, aj, nj, cj, rfl, -, k0, k1, k2, hw⟩ := (H1.out w1 (Below.refl _ _)).cells j hltj
          replace k0 := cell_below k0 Hbw1.out; replace k1 := cell_below k1 Hbw1.out
          obtain ⟨hw1', hw6⟩ := HW6.out j hltj
          have hwl : ln L j = nj := hw.len
          rw [hw.len] at hw1' hw6
          obtain ⟨z, hz⟩ : ∃ z : Int, (p : Int) - (nj : Int) = z := ⟨_, rfl⟩
          have hwf : IntKind.i64.wrap ((p : Int) - (nj : Int)) = z := by rw [hz]; exact IntWalk.i64_in _ (by omega)
          have HC := hid_ (HCo.out wr Hbw1.out p j z hltj hpn (by rw [hwl]; exact hz))
          have Hend : Hid (∀ (x : Int × Int), x = stpC L t p j → ∀ k, (if k = j then x else if k < j then stpC L t p k else (0, 0)) = if k < j + 1 then stpC L t p k else (0, 0)) := hid_ (fun x hx k => by
            by_cases e : k = j
            · subst e; rw [if_pos rfl, if_pos (by omega), hx]
            · rw [if_neg e]
              by_cases e2 : k < j
              · rw [if_pos e2, if_pos (by omega)]
              · rw [if_neg e2, if_neg (by omega)])
          clear hbi hci hw
          cases hx : endB L t p j with
          | false =>
            rw [hx] at HC
            have Hs := hid_ (HNo.out p j hltj hx)
            clear hx hz hwl
            go_wp2_with (go_at_call 53; (with_reducible refine HC.out.mono ?_); rintro e w6 ⟨rfl, hb6⟩; have Hb6 := hid_ hb6; clear hb6)
            go_roundw
            case rel => exact ⟨j + 1, by omega, by go_num, Hbi.out.trans (Hb6.out.mono (Nat.le_of_lt hgs)), (Hci.out.below Hb6.out hgs).congr fun k _ => (by
              rw [← Hend.out (0, 0) Hs.out.symm k]
              by_cases e : k = j
              · subst e; rw [if_pos rfl, if_neg (by omega)]
              · rw [if_neg e])⟩
            case measure => simp [intOf]; omega
          | true =>
            rw [hx] at HC
            have hle := HEb.out p j hx
            rw [hwl] at hle
            obtain ⟨fr, hfr⟩ : ∃ fr, p - nj = fr := ⟨_, rfl⟩
            obtain rfl : z = (fr : Int) := by omega
            have hfr2 : p - ln L j = fr := by rw [hwl]; exact hfr
            obtain ⟨cs0, cs1⟩ := HCs.out j hltj
            by_cases h0 : fr = 0
            · have Hs := hid_ (HZ.out p j hltj hx (hfr2.trans h0))
              have hq0 : ((fr : Int) == 0) = true := by simp [h0]
              generalize (L.items.getD j I0).cost = cost at *
              clear hx hz hwl hfr hfr2 hle h0
              go_wp2_with (go_at_call 53; (with_reducible refine HC.out.mono ?_); rintro e w6 ⟨rfl, hb6⟩; have Hb6 := hid_ hb6; have q06 := cell_below q0i hb6; have q16 := cell_below q1i hb6; have v56 := cell_below v5i hb6; have k26 := cell_below (cell_below k2 Hbw1.out) hb6; have hc6 := Hci.out.below hb6 hgs; obtain ⟨d0, d1, e0, e1⟩ := hc6 j hltj; have hg6 : gp < w6.heap.size := Nat.lt_of_lt_of_le hgs hb6.size; have gA := cell_regrown q06; have gB := cell_regrown q16; have gC := cell_regrown v56; have gD := cell_regrown k26; clear hb6)
              go_wp2_with fail
              refine wp_region_tail 13 (by kernel_rfl) (by kernel_rfl) ?_
              simp only [List.take_succ_cons, List.take_zero, List.drop_succ_cons, List.drop_zero]
              repeat (first | go_big_quiet_skip | (go_big_quiet_want; go_big_quiet_op; first | go_big_quiet_on | go_big_quiet_call (fail)))
              refine wpQuiet_nil ?_
              rintro wq ⟨pq, hpq⟩
              have hbq := below_wq hpq
              have Hcq := hid_ (hc6.below hbq hg6)
              have Hbq := hid_ (Hbi.out.trans ((Hb6.out.trans (hbq.mono Hb6.out.size)).mono (Nat.le_of_lt hgs)))
              clear d0 d1 e0 e1
              obtain ⟨d0, d1, e0, e1⟩ := Hcq.out j hltj
              clear hpq hbq gA gB gC gD hc6
              go_wp2
              go_roundw
              case rel => exact ⟨j + 1, by omega, by go_num, Below.setCell (p := ⟨gp, j * 2 + 1, none⟩) (Below.setCell (p := ⟨gp, j * 2, none⟩) Hbq.out (Nat.le_refl _) _) (Nat.le_refl _) _, (Hcq.out.put hltj _ _).congr fun k _ => Hend.out _ Hs.out.symm k⟩
              case measure => simp [intOf]; omega
            · have hfp : fr < p := by omega
              have hfn : fr ≤ n := by omega
              have hq0 : ((fr : Int) == 0) = false := by simpa using (fun e : (fr : Int) = 0 => h0 (by omega))
              have Hs := hid_ (HYes.out p j fr hltj hx hfr2 h0)
              obtain ⟨bf, r1, r2, r3, r4⟩ := HR5.out fr hfp
              have Hr4 := hid_ r4; have Hr1 := hid_ r1
              clear hx hz hwl hfr hfr2 hle h0 r1 r4
              go_wp2_with (go_at_call 53; (with_reducible refine HC.out.mono ?_); rintro e w6 ⟨rfl, hb6⟩; have Hb6 := hid_ (Hbi.out.trans (hb6.mono (Nat.le_of_lt hgs))); have Hc6 := hid_ (Hci.out.below hb6 hgs); clear hb6)
              clear q0i q1i v5i k0 k1 hgs
              go_loopw [9] (fun iv wk => ∃ k : Nat, k ≤ n1 ∧ iv = .int .i64 k ∧ Below gp w5 wk ∧ CellsAt wk gp n1 (fun q => if q = j then prtC L t fr j k else if q < j then stpC L t p q else (0, 0))) (fun iv _ => n1 - (intOf iv).toNat)
              case atStart => exact ⟨0, Nat.zero_le _, rfl, Hb6.out, Hc6.out.congr fun q _ => (by
                by_cases e : q = j
                · subst e; rw [if_pos rfl, if_neg (by omega)]; rfl
                · rw [if_neg e])⟩
              case round =>
                obtain ⟨k, hk, rfl, hbk, hck⟩ := hrel
                have Hbw := hid_ (H15.out.trans (hbk.mono H1g.out))
                have hgk : gp < wr.heap.size := by have := hbk.size; have := Hz5.out; omega
                have q0k := cell_below q0 Hbw.out; have q1k := cell_below q1 Hbw.out
                by_cases hltk : k < n1
                · have v5k := (hbk.cell (p := ⟨tb, p, none⟩) Htg.out).trans Hv5.out
                  have t5k := (hbk.cell (p := ⟨tb, fr, none⟩) Htg.out).trans Hr1.out
                  obtain ⟨y0, y1, -, -⟩ := Hr4.out.below hbk r3 k hltk
                  have HF := hid_ (HFo.out wr Hbw.out k j hltk hltj)
                  obtain ⟨f0, f1⟩ := HFi.out k j hltk hltj
                  obtain ⟨s0, s1, s2, s3⟩ := HSi.out fr k hfn hltk
                  obtain ⟨p0, p1, p2, p3⟩ := HPi.out fr j k hfn hltj hk
                  have hpy := HPy.out fr j k hfn hltk hltj
                  have hpn1 := @prtC_no L t fr j k
                  have hpn2 := @prtC_none L t fr j k
                  have k2k := cell_below k2 Hbw.out
                  obtain ⟨⟨x, y⟩, hxy⟩ : ∃ xy, stpC L t fr k = xy := ⟨_, rfl⟩
                  obtain ⟨⟨pc, pn⟩, hpp⟩ : ∃ xy, prtC L t fr j k = xy := ⟨_, rfl⟩
                  rw [hxy] at y0 y1 s0 s1 s2 s3 hpy hpn2
                  rw [hpp] at p0 p1 p2 p3 hpy hpn1 hpn2
                  have Hck := hid_ (show CellsAt wr gp n1 (fun q => if q = j then (pc, pn) else if q < j then stpC L t p q else (0, 0)) by rw [← hpp]; exact hck)
                  have Hbk := hid_ hbk
                  simp only [] at y0 y1 s0 s1 s2 s3 hpy hpn2 p0 p1 p2 p3
                  have Hpy := hid_ hpy; have Hpn1 := hid_ hpn1; have Hpn2 := hid_ hpn2
                  have Hst : Hid (∀ (z u : Int × Int), z = u → ∀ q, (if q = j then z else if q < j then stpC L t p q else (0, 0)) = if q = j then u else if q < j then stpC L t p q else (0, 0)) := hid_ (fun z u e q => by rw [e])
                  clear hpy hpn1 hpn2 hxy hpp hbk hck
                  generalize follV L k j = f at *
                  generalize (L.items.getD j I0).cost = cost at *
                  by_cases hf : f < 0
                  · have Hn := hid_ (Hpn1.out hf)
                    go_wp2_with (go_at_call 34; (with_reducible refine HF.out.mono ?_); rintro e w7 ⟨rfl, hb7⟩; have t57 := cell_below t5k hb7; have y07 := cell_below y0 hb7; have y17 := cell_below y1 hb7; have Hb7 := hid_ (hb7.trans ((below_alloc w7 (.cells #[.int .i64 x, .int .i64 y] 64)).mono hb7.size)); clear hb7)
                    go_roundw
                    case rel => exact ⟨k + 1, by omega, by go_num, Hbk.out.trans (Hb7.out.mono (Nat.le_of_lt hgk)), (Hck.out.below Hb7.out hgk).congr fun q _ => Hst.out _ _ Hn.out.symm q⟩
                    case measure => simp [intOf]; omega
                  · by_cases hy : y = 0
                    · have Hn := hid_ (Hpn2.out hy)
                      have hyq : (y == 0) = true := by simp [hy]
                      clear hy
                      go_wp2_with (go_at_call 34; (with_reducible refine HF.out.mono ?_); rintro e w7 ⟨rfl, hb7⟩; have t57 := cell_below t5k hb7; have y07 := cell_below y0 hb7; have y17 := cell_below y1 hb7; obtain ⟨wb, hwb⟩ : ∃ wb, w7.alloc (.cells #[.int .i64 x, .int .i64 y] 64) = wb := ⟨_, rfl⟩; have u1 : wb.cell? ⟨w7.heap.size, 1, none⟩ = some (.int .i64 y) := (by rw [← hwb]; exact cells_alloc _ _ _ 1); have Hb7 := hid_ (show Below wr.heap.size wr wb by rw [← hwb]; exact hb7.trans ((below_alloc w7 _).mono hb7.size)); clear hb7)
                      go_roundw
                      case rel => exact ⟨k + 1, by omega, by go_num, Hbk.out.trans (Hb7.out.mono (Nat.le_of_lt hgk)), (Hck.out.below Hb7.out hgk).congr fun q _ => Hst.out _ _ Hn.out.symm q⟩
                      case measure => simp [intOf]; omega
                    · have hyq : (y == 0) = false := by simpa using hy
                      have hpy := Hpy.out (by omega) hy
                      have hw1 : IntKind.i64.wrap (x + f) = x + f := IntWalk.i64_in _ (by omega)
                      have hw2 : IntKind.i64.wrap (x + f + cost) = x + f + cost := IntWalk.i64_in _ (by omega)
                      have hw3 : IntKind.i64.wrap (pn + y) = pn + y := IntWalk.i64_in _ (by omega)
                      clear hy
                      by_cases hst : pn = 0 ∨ x + f + cost < pc
                      · rw [if_pos hst] at hpy
                        have Hn := hid_ hpy
                        clear hpy
                        have hcase : (pn == 0) = true ∨ ((pn == 0) = false ∧ x + f + cost < pc) := by
                          by_cases e : pn = 0
                          · left; simp [e]
                          · right; exact ⟨by simpa using e, by omega⟩
                        rcases hcase with hpq0 | ⟨hpq0, hlt9⟩
                        all_goals
                          clear hst
                          go_wp2_with (go_at_call 34; (with_reducible refine HF.out.mono ?_); rintro e w7 ⟨rfl, hb7⟩; have t57 := cell_below t5k hb7; have y07 := cell_below y0 hb7; have y17 := cell_below y1 hb7; obtain ⟨bx, hbx⟩ : ∃ bx, w7.heap.size = bx := ⟨_, rfl⟩; obtain ⟨wb, hwb⟩ : ∃ wb, w7.alloc (.cells #[.int .i64 x, .int .i64 y] 64) = wb := ⟨_, rfl⟩; have u0 : wb.cell? ⟨bx, 0, none⟩ = some (.int .i64 x) := (by rw [← hwb, ← hbx]; exact cells_alloc _ _ _ 0); have u1 : wb.cell? ⟨bx, 1, none⟩ = some (.int .i64 y) := (by rw [← hwb, ← hbx]; exact cells_alloc _ _ _ 1); have hb8 : Below wr.heap.size wr wb := (by rw [← hwb]; exact hb7.trans ((below_alloc w7 _).mono hb7.size)); have Hgb : Hid (gp < bx) := hid_ (by have := hb7.size; omega); have q0b := cell_below q0k hb8; have q1b := cell_below q1k hb8; have k2b := cell_below k2k hb8; have v5b := cell_below v5k hb8; have Hcb := hid_ (Hck.out.below hb8 hgk); have Hbb := hid_ (Hbk.out.trans (hb8.mono (Nat.le_of_lt hgk))); have Hgz : Hid (gp < wb.heap.size) := hid_ (Nat.lt_of_lt_of_le hgk hb8.size); clear hb7 hb8)
                          go_wp2_with fail
                          go_quiet (fail)
                          obtain ⟨wx, hwx⟩ : ∃ wx, wb.drewN nq = wx := ⟨_, rfl⟩
                          have bx0 : Below wb.heap.size wb wx := by rw [← hwx]; exact below_drewN (Below.refl _ _) _
                          have u1x := cell_below u1 bx0; have v5x := cell_below v5b bx0
                          have Hcx := hid_ (Hcb.out.below bx0 Hgz.out)
                          have Hbx := hid_ (Hbb.out.trans (bx0.mono (Nat.le_of_lt Hgz.out)))
                          have Hgx : Hid (gp < wx.heap.size) := hid_ (Nat.lt_of_lt_of_le Hgz.out bx0.size)
                          obtain ⟨d0, d1, e0, e1⟩ := Hcx.out j hltj
                          replace d0 : wx.cell? ⟨gp, j * 2, none⟩ = some (.int .i64 pc) := by simpa using d0
                          replace d1 : wx.cell? ⟨gp, j * 2 + 1, none⟩ = some (.int .i64 pn) := by simpa using d1
                          rw [hwx]
                          clear hwx bx0 q0b q1b k2b v5b u0 u1
                          obtain ⟨wy, hwy⟩ : ∃ wy, wx.setCell ⟨gp, j * 2, none⟩ (.int .i64 (x + f + cost)) = wy := ⟨_, rfl⟩
                          have u1y : wy.cell? ⟨bx, 1, none⟩ = some (.int .i64 y) := by rw [← hwy, World.cell?_setCell_other _ _ _ _ (by intro e; injection e with e; have := Hgb.out; omega)]; exact u1x
                          have v5y : wy.cell? ⟨tb, p, none⟩ = some (.slice (some ⟨gp, 0, none⟩) n1 n1) := by rw [← hwy, World.cell?_setCell_other _ _ _ _ (by intro e; injection e with e; have := Htg.out; omega)]; exact v5x
                          have Hcy := hid_ (show CellsAt wy gp n1 _ by rw [← hwy]; exact Hcx.out.put0 hltj (x + f + cost))
                          have Hby := hid_ (show Below gp w5 wy by rw [← hwy]; exact Below.setCell (p := ⟨gp, j * 2, none⟩) Hbx.out (Nat.le_refl _) _)
                          have Hgy : Hid (gp < wy.heap.size) := hid_ (by rw [← hwy]; simpa [World.setCell] using Hgx.out)
                          obtain ⟨-, d1y, -, -⟩ := Hcy.out j hltj
                          replace d1y : wy.cell? ⟨gp, j * 2 + 1, none⟩ = some (.int .i64 pn) := by simpa using d1y
                          have gA := cell_regrown u1y; have gB := cell_regrown v5y; have gC := cell_regrown d1y
                          go_wp2_with fail
                          try rw [hwy]
                          clear hwy
                          refine wp_region_tail 13 (by kernel_rfl) (by kernel_rfl) ?_
                          simp only [List.take_succ_cons, List.take_zero, List.drop_succ_cons, List.drop_zero]
                          repeat (first | go_big_quiet_skip | (go_big_quiet_want; go_big_quiet_op; first | go_big_quiet_on | go_big_quiet_call (fail)))
                          refine wpQuiet_nil ?_
                          rintro wq ⟨pq, hpq⟩
                          have hbq := below_wq hpq
                          have Hcq := hid_ (Hcy.out.below hbq Hgy.out)
                          have Hbq := hid_ (Hby.out.trans (hbq.mono (Nat.le_of_lt Hgy.out)))
                          obtain ⟨g0, g1, g2, g3⟩ := Hcq.out j hltj
                          replace g1 : wq.cell? ⟨gp, j * 2 + 1, none⟩ = some (.int .i64 pn) := by simpa using g1
                          clear hpq hbq gA gB gC
                          go_wp2
                          go_roundw
                          case rel => exact ⟨k + 1, by omega, by go_num, Below.setCell (p := ⟨gp, j * 2 + 1, none⟩) Hbq.out (Nat.le_refl _) _, (Hcq.out.put1 hltj _).congr fun q _ => (by
                            rw [Hn.out]
                            by_cases e : q = j
                            · subst e; simp
                            · simp [e])⟩
                          case measure => simp [intOf]; omega
                      · rw [if_neg hst] at hpy
                        have Hn := hid_ hpy
                        have hpq0 : (pn == 0) = false := by simpa using (fun e : pn = 0 => hst (.inl e))
                        have hlt9 : ¬ x + f + cost < pc := fun e => hst (.inr e)
                        clear hpy hst
                        go_wp2_with (go_at_call 34; (with_reducible refine HF.out.mono ?_); rintro e w7 ⟨rfl, hb7⟩; have t57 := cell_below t5k hb7; have y07 := cell_below y0 hb7; have y17 := cell_below y1 hb7; obtain ⟨bx, hbx⟩ : ∃ bx, w7.heap.size = bx := ⟨_, rfl⟩; obtain ⟨wb, hwb⟩ : ∃ wb, w7.alloc (.cells #[.int .i64 x, .int .i64 y] 64) = wb := ⟨_, rfl⟩; have u0 : wb.cell? ⟨bx, 0, none⟩ = some (.int .i64 x) := (by rw [← hwb, ← hbx]; exact cells_alloc _ _ _ 0); have u1 : wb.cell? ⟨bx, 1, none⟩ = some (.int .i64 y) := (by rw [← hwb, ← hbx]; exact cells_alloc _ _ _ 1); have hb8 : Below wr.heap.size wr wb := (by rw [← hwb]; exact hb7.trans ((below_alloc w7 _).mono hb7.size)); have Hgb : Hid (gp < bx) := hid_ (by have := hb7.size; omega); have q0b := cell_below q0k hb8; have q1b := cell_below q1k hb8; have k2b := cell_below k2k hb8; have v5b := cell_below v5k hb8; have Hcb := hid_ (Hck.out.below hb8 hgk); have Hbb := hid_ (Hbk.out.trans (hb8.mono (Nat.le_of_lt hgk))); have Hgz : Hid (gp < wb.heap.size) := hid_ (Nat.lt_of_lt_of_le hgk hb8.size); clear hb7 hb8)
                        go_wp2_with fail
                        go_quiet (fail)
                        obtain ⟨wx, hwx⟩ : ∃ wx, wb.drewN nq = wx := ⟨_, rfl⟩
                        have bx0 : Below wb.heap.size wb wx := by rw [← hwx]; exact below_drewN (Below.refl _ _) _
                        have u1x := cell_below u1 bx0; have v5x := cell_below v5b bx0
                        have Hcx := hid_ (Hcb.out.below bx0 Hgz.out)
                        have Hbx := hid_ (Hbb.out.trans (bx0.mono (Nat.le_of_lt Hgz.out)))
                        have Hgx : Hid (gp < wx.heap.size) := hid_ (Nat.lt_of_lt_of_le Hgz.out bx0.size)
                        obtain ⟨d0, d1, e0, e1⟩ := Hcx.out j hltj
                        replace d0 : wx.cell? ⟨gp, j * 2, none⟩ = some (.int .i64 pc) := by simpa using d0
                        replace d1 : wx.cell? ⟨gp, j * 2 + 1, none⟩ = some (.int .i64 pn) := by simpa using d1
                        rw [hwx]
                        clear hwx bx0 q0b q1b k2b v5b u0 u1
                        have Hcy := hid_ Hcx.out
                        have Hby := hid_ Hbx.out
                        have Hgy := hid_ Hgx.out
                        have gA := cell_regrown u1x; have gB := cell_regrown v5x; have gC := cell_regrown d1
                        go_wp2_with fail
                        refine wp_region_tail 13 (by kernel_rfl) (by kernel_rfl) ?_
                        simp only [List.take_succ_cons, List.take_zero, List.drop_succ_cons, List.drop_zero]
                        repeat (first | go_big_quiet_skip | (go_big_quiet_want; go_big_quiet_op; first | go_big_quiet_on | go_big_quiet_call (fail)))
                        refine wpQuiet_nil ?_
                        rintro wq ⟨pq, hpq⟩
                        have hbq := below_wq hpq
                        have Hcq := hid_ (Hcy.out.below hbq Hgy.out)
                        have Hbq := hid_ (Hby.out.trans (hbq.mono (Nat.le_of_lt Hgy.out)))
                        obtain ⟨g0, g1, g2, g3⟩ := Hcq.out j hltj
                        replace g1 : wq.cell? ⟨gp, j * 2 + 1, none⟩ = some (.int .i64 pn) := by simpa using g1
                        clear hpq hbq gA gB gC
                        go_wp2
                        go_roundw
                        case rel => exact ⟨k + 1, by omega, by go_num, Below.setCell (p := ⟨gp, j * 2 + 1, none⟩) Hbq.out (Nat.le_refl _) _, (Hcq.out.put1 hltj _).congr fun q _ => (by
                          rw [Hn.out]
                          by_cases e : q = j
                          · subst e; simp
                          · simp [e])⟩
                        case measure => simp [intOf]; omega
                · obtain rfl : n1 = k := by omega
                  go_wp2
                  go_roundw
                  case rel => exact ⟨j + 1, by omega, by go_num, hbk, hck.congr fun q _ => Hend.out _ Hs.out.symm q⟩
                  case measure => simp [intOf]; omega
        · obtain rfl : n1 = j := by omega
          have HF := hid_ (fun i (hi : i < m) => by obtain ⟨⟨v, k1⟩, k2⟩ := HF5.out i hi; exact (⟨⟨v, (hbi.cell (p := ⟨tb, i, none⟩) Htg.out).trans k1⟩, (hbi.frozen (p := ⟨tb, i, none⟩) Htg.out).trans k2⟩ : (∃ v, wr.cell? ⟨tb, i, none⟩ = some v) ∧ wr.frozen? ⟨tb, i, none⟩ = false))
          have HRw := hid_ (fun i (hi : i < p + 1) => show ∃ b, wr.cell? ⟨tb, i, none⟩ = some (.slice (some ⟨b, 0, none⟩) n1 n1) ∧ tb < b ∧ b < wr.heap.size ∧ CellsAt wr b n1 (stpC L t i) by
            by_cases e : i = p
            · subst e
              exact ⟨gp, v5i, Htg.out, hgs, hci.congr fun k hk => if_pos hk⟩
            · obtain ⟨b, k1, k2, k3, k4⟩ := HR5.out i (by omega)
              exact ⟨b, (hbi.cell (p := ⟨tb, i, none⟩) Htg.out).trans k1, k2, by omega, k4.below hbi k3⟩)
          clear hci hbi v5i
          go_wp2
          go_roundw
          case rel => exact ⟨p + 1, by omega, by go_num, Hbw1.out, HRw.out, HF.out⟩
          case measure => simp [intOf]; omega
    · obtain rfl : m = p := by omega
      have hpl : ¬ ((m : Int) ≤ (n : Int)) := by have := Hm.out; omega
      go_wp2
      go_ret
      exact ⟨tb, by rw [Hm.out]; rfl, by rw [Hm.out]; exact Htr.out, Hc1.out.trans (Hbr.out.mono Hc1.out.size)⟩
end Go.Proofs.Ytgpenbajhndhiaa
namespace Go.Proofs.Ytgpenbajhndhiaa
open Go.RowKit Go.Proofs.Kv Go

/-! ### Count of the document -/
theorem allP_none {L : Lx} {t : List Int} {k : Nat} (h : (stpC L t t.length k).2 = 0) : allP L t (k + 1) = allP L t k := by
  have h : ((S8 L t t.length k).length : Int) = 0 := h
  rw [allP_succ, List.length_eq_zero_iff.1 (show (S8 L t t.length k).length = 0 by omega), List.append_nil]
theorem allP_len (L : Lx) (t : List Int) (k : Nat) : ((allP L t (k + 1)).length : Int) = ((allP L t k).length : Int) + (stpC L t t.length k).2 := by
  rw [allP_succ, List.length_append]; show _ = _ + ((S8 L t t.length k).length : Int); omega
set_option maxRecDepth 100000 in
set_option maxHeartbeats 4000000 in
theorem r8Count_calls (v : Value) (L : Lx) (a : Option Addr) (n c : Nat) (t : List Int) (w : World) (h : LexAt w v L) (ht : IntsAt w a n c t) :
    Calls Try.prog 11 #[v, .slice a n c] w fun e w' => e = .returned (.tuple #[.int .i64 (countV L t), .int .i64 (textE L t)]) ∧ Below w.heap.size w w' := by
  have HP := hid_ h
  obtain ⟨a1, n1, c1, a2, n2, c2, rfl, h1, h2⟩ := h
  obtain ⟨w1, hw1⟩ : ∃ w1, w.alloc (.cells #[.slice a1 n1 c1, .slice a2 n2 c2] 25) = w1 := ⟨_, rfl⟩
  have cb : Below w.heap.size w w1 := by rw [← hw1]; exact below_alloc _ _
  have q0 : w1.cell? ⟨w.heap.size, 0, none⟩ = some (.slice a1 n1 c1) := by rw [← hw1]; exact cells_alloc _ _ _ 0
  have q1 : w1.cell? ⟨w.heap.size, 1, none⟩ = some (.slice a2 n2 c2) := by rw [← hw1]; exact cells_alloc _ _ _ 1
  have HP1 := hid_ (HP.out.below cb (Nat.le_refl _)); have Hc1 := hid_ cb
  have HV := hid_ (texted_calls _ L a n c t w1 HP1.out (ht.below cb (Nat.le_refl _)))
  have HQ := hid_ (fun W (hW : Below w1.heap.size w1 W) => (⟨cell_below q0 hW, cell_below q1 hW⟩ : _ ∧ _))
  have HVv : Hid (countV L t = if textE L t = 0 then cntA L t else 0) := hid_ rfl
  have htl := ht.len
  generalize countV L t = CV at *
  by_cases he : textE L t = 0
  · obtain ⟨g, h12, -⟩ := textE_ok he
    have HV' := hid_ (HVv.out.trans (if_pos he))
    rw [he] at HV ⊢
    rw [htl] at h12
    have HTb := hid_ (fun W (hW : Below w1.heap.size w1 W) => table_calls _ L a n c t W (HP1.out.below hW (Nat.le_refl _)) ((ht.below cb (Nat.le_refl _)).below hW (Nat.le_refl _)) g h12)
    have HLn := hid_ (fun k (hk : k ≤ L.items.length) => len_allP g t (by omega) k hk)
    have HSi := hid_ (fun k (hk : k < L.items.length) => stpC_in g (t := t) (by omega) (i := t.length) (j := k) (Nat.le_refl _) hk)
    have HAl := hid_ (allP_len L t)
    have hn8 := g.le
    have hn1 : L.items.length = n1 := h1.len
    have hC0 : n = 0 → cntA L t = 1 := fun e => by unfold cntA allS; rw [if_pos (htl.trans e)]; rfl
    have hC1 : n ≠ 0 → cntA L t = ((allP L t n1).length : Int) := fun e => by unfold cntA allS; rw [if_neg (by rw [htl]; exact e), ← hn1]; rfl
    rw [hn1] at HTb HLn HSi hn8
    rw [htl] at HSi HAl
    clear h1 h2 HP HP1 cb ht he g HVv hn1 htl
    by_cases h0 : n = 0
    · have HC := hid_ (HV'.out.trans (hC0 h0))
      have hq : ((n : Int) == 0) = true := by simp [h0]
      clear hC0 hC1 h0
      go_enter Try.func11, Try.ntmps11
      go_wp2_with (go_at_call 29; (with_reducible refine HV.out.mono ?_); rintro e w2 ⟨rfl, hb2⟩; obtain ⟨q2, r2⟩ := HQ.out w2 hb2)
      go_ret2
      exact ⟨by rw [HC.out]; rfl, Hc1.out.trans (hb2.mono Hc1.out.size)⟩
    · have HC := hid_ (HV'.out.trans (hC1 h0))
      have hq : ((n : Int) == 0) = false := by simpa using (fun e : (n : Int) = 0 => h0 (by omega))
      clear hC0 hC1 h0
      go_enter Try.func11, Try.ntmps11
      go_wp2_with (first
        | (go_at_call 29; (with_reducible refine HV.out.mono ?_); rintro e w2 ⟨rfl, hb2⟩; obtain ⟨q2, r2⟩ := HQ.out w2 hb2)
        | (go_at_call 30; (with_reducible refine (HTb.out _ hb2).mono ?_); rintro e w3 ⟨tb, rfl, htr, hb3'⟩; have hb3 := below_then8 hb2 hb3'; obtain ⟨rb, hrc, -, -, hcs⟩ := htr n (by omega); have Hcs := hid_ hcs; have Hb3 := hid_ hb3; clear htr hcs hb3 hb3'))
      go_loop [8, 9] (fun x j => ∃ k : Nat, k ≤ n1 ∧ x = .int .i64 ((allP L t k).length : Int) ∧ j = .int .i64 k) (fun _ j => n1 - (intOf j).toNat)
      case atStart => exact ⟨0, Nat.zero_le _, rfl, rfl⟩
      case round =>
        obtain ⟨k, hk, rfl, rfl⟩ := hrel
        by_cases hlt : k < n1
        · obtain ⟨d0, d1, -, -⟩ := Hcs.out k hlt
          obtain ⟨-, -, s2, s3⟩ := HSi.out k hlt
          have hln := HLn.out k hk
          have hal := HAl.out k
          generalize (stpC L t n k).2 = y at *
          obtain ⟨pl, hpl⟩ : ∃ pl, (allP L t k).length = pl := ⟨_, rfl⟩
          rw [hpl] at hln hal ⊢
          have Hal := hid_ hal
          have h9 : k * 68719476736 ≤ 8 * 68719476736 := Nat.mul_le_mul_right _ (by omega)
          have hw1 : IntKind.i64.wrap ((pl : Int) + y) = (pl : Int) + y := IntWalk.i64_in _ (by omega)
          clear hal hpl
          go_wp2
          go_round
          case rel => exact ⟨k + 1, by omega, by rw [Hal.out], by go_num⟩
          case measure => simp [intOf]; omega
        · obtain rfl : n1 = k := by omega
          go_wp2
          go_ret2
          exact ⟨by rw [HC.out]; rfl, Hc1.out.trans (Hb3.out.mono Hc1.out.size)⟩
  · have HV' := hid_ (HVv.out.trans (if_neg he))
    have hq : (textE L t != 0) = true := by simpa using he
    generalize textE L t = x at *
    clear he HVv HP HP1 h1 h2 cb ht
    go_enter Try.func11, Try.ntmps11
    go_wp2_with (go_at_call 29; (with_reducible refine HV.out.mono ?_); rintro e w2 ⟨rfl, hb2⟩)
    go_ret2
    exact ⟨by rw [HV'.out]; rfl, Hc1.out.trans (hb2.mono Hc1.out.size)⟩
end Go.Proofs.Ytgpenbajhndhiaa
namespace Go.Proofs.Ytgpenbajhndhiaa
open Go.RowKit Go.Proofs.Kv Go

/-! ### Least of the document -/
def lstK (L : Lx) (t : List Int) (k : Nat) : Int × Bool := (cstN (allP L t k) L, decide ((allP L t k).length ≠ 0))
theorem lstK_none {L : Lx} {t : List Int} {k : Nat} (h : (stpC L t t.length k).2 = 0) : lstK L t (k + 1) = lstK L t k := by
  unfold lstK; rw [allP_none h]
theorem lstK_yes {L : Lx} {t : List Int} {k : Nat} {z : Int} {b : Bool} (hl : lstK L t k = (z, b)) (h : (stpC L t t.length k).2 ≠ 0) (hc : b = false ∨ (stpC L t t.length k).1 < z) (hb : (stpC L t t.length k).1 ≤ 100000) : lstK L t (k + 1) = ((stpC L t t.length k).1, true) := by
  have h : ((S8 L t t.length k).length : Int) ≠ 0 := h
  have hs : (stpC L t t.length k).1 = minN ((S8 L t t.length k).map (sumC L)) := by show cstN _ _ = _; rw [cstN, if_neg (by omega)]
  unfold lstK at hl ⊢
  injection hl with hz hd
  rw [allP_succ]
  refine Prod.ext ?_ (decide_eq_true (by rw [List.length_append]; omega))
  show cstN _ _ = _
  rw [cstN, if_neg (by rw [List.length_append]; omega), List.map_append, minN_append, ← hs]
  by_cases h0 : (allP L t k).length = 0
  · rw [List.length_eq_zero_iff.1 h0]; show min 100000 _ = _; omega
  · rw [cstN, if_neg h0] at hz
    rcases hc with hc | hc
    · rw [hc, decide_eq_false_iff_not] at hd; exact absurd h0 hd
    · rw [hz]; omega
theorem lstK_no {L : Lx} {t : List Int} {k : Nat} {z : Int} (hl : lstK L t k = (z, true)) (h : (stpC L t t.length k).2 ≠ 0) (hc : ¬ (stpC L t t.length k).1 < z) : lstK L t (k + 1) = (z, true) := by
  have h : ((S8 L t t.length k).length : Int) ≠ 0 := h
  have hs : (stpC L t t.length k).1 = minN ((S8 L t t.length k).map (sumC L)) := by show cstN _ _ = _; rw [cstN, if_neg (by omega)]
  unfold lstK at hl ⊢
  injection hl with hz hd
  have h0 : (allP L t k).length ≠ 0 := of_decide_eq_true hd
  rw [cstN, if_neg h0] at hz
  rw [allP_succ]
  refine Prod.ext ?_ (decide_eq_true (by rw [List.length_append]; omega))
  show cstN _ _ = _
  rw [cstN, if_neg (by rw [List.length_append]; omega), List.map_append, minN_append, ← hs, hz]; omega
set_option maxRecDepth 100000 in
set_option maxHeartbeats 4000000 in
theorem r8Least_calls (v : Value) (L : Lx) (a : Option Addr) (n c : Nat) (t : List Int) (w : World) (h : LexAt w v L) (ht : IntsAt w a n c t) :
    Calls Try.prog 9 #[v, .slice a n c] w fun e w' => e = .returned (.tuple #[.int .i64 (leastV L t), .bool (leastB L t), .int .i64 (textE L t)]) ∧ Below w.heap.size w w' := by
  have HP := hid_ h
  obtain ⟨a1, n1, c1, a2, n2, c2, rfl, h1, h2⟩ := h
  obtain ⟨w1, hw1⟩ : ∃ w1, w.alloc (.cells #[.slice a1 n1 c1, .slice a2 n2 c2] 25) = w1 := ⟨_, rfl⟩
  have cb : Below w.heap.size w w1 := by rw [← hw1]; exact below_alloc _ _
  have q0 : w1.cell? ⟨w.heap.size, 0, none⟩ = some (.slice a1 n1 c1) := by rw [← hw1]; exact cells_alloc _ _ _ 0
  have q1 : w1.cell? ⟨w.heap.size, 1, none⟩ = some (.slice a2 n2 c2) := by rw [← hw1]; exact cells_alloc _ _ _ 1
  have HP1 := hid_ (HP.out.below cb (Nat.le_refl _)); have Hc1 := hid_ cb
  have HV := hid_ (texted_calls _ L a n c t w1 HP1.out (ht.below cb (Nat.le_refl _)))
  have HQ := hid_ (fun W (hW : Below w1.heap.size w1 W) => (⟨cell_below q0 hW, cell_below q1 hW⟩ : _ ∧ _))
  have HBv : Hid (leastB L t = (decide (textE L t = 0) && decide (cntA L t ≠ 0))) := hid_ rfl
  have HVv : Hid (leastV L t = if leastB L t = true then lstA L t else 0) := hid_ rfl
  have htl := ht.len
  generalize leastV L t = CV at *
  generalize leastB L t = CB at *
  by_cases he : textE L t = 0
  · obtain ⟨g, h12, -⟩ := textE_ok he
    have HB' : Hid (CB = decide (cntA L t ≠ 0)) := hid_ (by rw [HBv.out, decide_eq_true he, Bool.true_and])
    rw [he] at HV ⊢
    rw [htl] at h12
    have HTb := hid_ (fun W (hW : Below w1.heap.size w1 W) => table_calls _ L a n c t W (HP1.out.below hW (Nat.le_refl _)) ((ht.below cb (Nat.le_refl _)).below hW (Nat.le_refl _)) g h12)
    have HSi := hid_ (fun k (hk : k < L.items.length) => stpC_in g (t := t) (by omega) (i := t.length) (j := k) (Nat.le_refl _) hk)
    have HNone := hid_ (fun k => @lstK_none L t k)
    have HYes := hid_ (fun k => @lstK_yes L t k)
    have HNo := hid_ (fun k => @lstK_no L t k)
    have hn8 := g.le
    have hn1 : L.items.length = n1 := h1.len
    have hC0 : n = 0 → CV = 0 ∧ CB = true := fun e => by
      have h1 : CB = true := by rw [HB'.out]; unfold cntA allS; rw [if_pos (htl.trans e)]; rfl
      exact ⟨by rw [HVv.out, if_pos h1]; unfold lstA allS; rw [if_pos (htl.trans e)]; rfl, h1⟩
    have hC1 : n ≠ 0 → (CV, CB) = lstK L t n1 := fun e => by
      have e1 : allS L t = allP L t n1 := by unfold allS allP; rw [if_neg (by rw [htl]; exact e), hn1]
      have h1 : CB = decide ((allP L t n1).length ≠ 0) := by
        rw [HB'.out]; unfold cntA; rw [e1]; exact decide_eq_decide.2 ⟨fun h h' => h (by omega), fun h h' => h (by omega)⟩
      unfold lstK
      refine Prod.ext ?_ h1
      show CV = cstN _ _
      rw [HVv.out, h1, cstN]
      unfold lstA
      rw [e1]
      by_cases h0 : (allP L t n1).length = 0
      · rw [if_pos h0, if_neg (by rw [h0]; decide)]
      · rw [if_neg h0, if_pos (decide_eq_true h0)]
    rw [hn1] at HTb HSi hn8
    rw [htl] at HSi HNone HYes HNo
    clear h1 h2 HP HP1 cb ht he g HVv hn1 htl HBv HB'
    by_cases h0 : n = 0
    · have HC := hid_ (hC0 h0)
      have hq : ((n : Int) == 0) = true := by simp [h0]
      clear hC0 hC1 h0
      go_enter Try.func9, Try.ntmps9
      go_wp2_with (go_at_call 29; (with_reducible refine HV.out.mono ?_); rintro e w2 ⟨rfl, hb2⟩; obtain ⟨q2, r2⟩ := HQ.out w2 hb2)
      go_ret3
      exact ⟨by rw [HC.out.1, HC.out.2]; rfl, Hc1.out.trans (hb2.mono Hc1.out.size)⟩
    · have HC := hid_ (hC1 h0)
      have hq : ((n : Int) == 0) = false := by simpa using (fun e : (n : Int) = 0 => h0 (by omega))
      clear hC0 hC1 h0
      go_enter Try.func9, Try.ntmps9
      go_wp2_with (first
        | (go_at_call 29; (with_reducible refine HV.out.mono ?_); rintro e w2 ⟨rfl, hb2⟩; obtain ⟨q2, r2⟩ := HQ.out w2 hb2)
        | (go_at_call 30; (with_reducible refine (HTb.out _ hb2).mono ?_); rintro e w3 ⟨tb, rfl, htr, hb3'⟩; have hb3 := below_then8 hb2 hb3'; obtain ⟨rb, hrc, -, -, hcs⟩ := htr n (by omega); have Hcs := hid_ hcs; have Hb3 := hid_ hb3; clear htr hcs hb3 hb3'))
      go_loop [9, 10, 11] (fun x bv j => ∃ (k : Nat) (z : Int) (b : Bool), k ≤ n1 ∧ lstK L t k = (z, b) ∧ x = .int .i64 z ∧ bv = .bool b ∧ j = .int .i64 k) (fun _ _ j => n1 - (intOf j).toNat)
      case atStart => exact ⟨0, 0, false, Nat.zero_le _, rfl, rfl, rfl, rfl⟩
      case round =>
        obtain ⟨k, z, b, hk, hB, rfl, rfl, rfl⟩ := hrel
        have HB := hid_ hB
        clear hB
        by_cases hlt : k < n1
        · obtain ⟨d0, d1, -, -⟩ := Hcs.out k hlt
          obtain ⟨-, s1, s2, s3⟩ := HSi.out k hlt
          have hnn := HNone.out k
          have hyes := fun hy hc => HYes.out k HB.out hy hc s1
          have hno := fun (hb : b = true) => HNo.out k (hb ▸ HB.out)
          generalize (stpC L t n k).2 = y at *
          generalize (stpC L t n k).1 = x at *
          by_cases hy : y = 0
          · have Hn := hid_ ((hnn hy).trans HB.out)
            have hyp : ¬ 0 < y := by omega
            have hyg : ¬ y > 0 := by omega
            clear hnn hyes hno hy
            go_wp2
            go_round
            case rel => exact ⟨k + 1, z, b, by omega, Hn.out, rfl, rfl, by go_num⟩
            case measure => simp [intOf]; omega
          · have hyp : 0 < y := by omega
            cases b with
            | false =>
              have Hn := hid_ (hyes hy (.inl rfl))
              clear hnn hyes hno hy
              go_wp2
              go_round
              case rel => exact ⟨k + 1, x, true, by omega, Hn.out, rfl, rfl, by go_num⟩
              case measure => simp [intOf]; omega
            | true =>
              by_cases hlt2 : x < z
              · have Hn := hid_ (hyes hy (.inr hlt2))
                clear hnn hyes hno hy
                go_wp2
                go_round
                case rel => exact ⟨k + 1, x, true, by omega, Hn.out, rfl, rfl, by go_num⟩
                case measure => simp [intOf]; omega
              · have Hn := hid_ (hno rfl hy (by omega))
                clear hnn hyes hno hy
                go_wp2
                go_round
                case rel => exact ⟨k + 1, z, true, by omega, Hn.out, rfl, rfl, by go_num⟩
                case measure => simp [intOf]; omega
        · obtain rfl : n1 = k := by omega
          have hcc := HC.out.trans HB.out
          injection hcc with hc1 hc2
          have H1 := hid_ hc1; have H2 := hid_ hc2
          clear hc1 hc2
          go_wp2
          go_ret3
          exact ⟨by rw [H1.out, H2.out]; rfl, Hc1.out.trans (Hb3.out.mono Hc1.out.size)⟩
  · have HB' : Hid (CB = false) := hid_ (by rw [HBv.out, decide_eq_false he]; rfl)
    have HV' : Hid (CV = 0) := hid_ (by rw [HVv.out, HB'.out]; rfl)
    have hq : (textE L t != 0) = true := by simpa using he
    generalize textE L t = x at *
    clear he HVv HBv HP HP1 h1 h2 cb ht
    go_enter Try.func9, Try.ntmps9
    go_wp2_with (go_at_call 29; (with_reducible refine HV.out.mono ?_); rintro e w2 ⟨rfl, hb2⟩)
    go_ret3
    exact ⟨by rw [HV'.out, HB'.out]; rfl, Hc1.out.trans (hb2.mono Hc1.out.size)⟩
end Go.Proofs.Ytgpenbajhndhiaa
