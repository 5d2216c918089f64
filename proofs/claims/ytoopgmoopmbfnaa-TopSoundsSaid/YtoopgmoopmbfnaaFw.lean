import Derived.Test.YtoopgmoopmbfnaaMk
import Derived.RangeFuncNested
import Derived.RangeFuncBound
import Derived.RangeFuncCalls
import Derived.RangeFuncLeaves
import Derived.RangeFuncWrites
namespace Go.Proofs.Ytoopgmoopmbfnaa
open Go.RowKit Go.Proofs.Kv Go.Proofs.Snd
attribute [local go_sem] Oper.semAt_some

/-! ### the program's fewest -/
def fwStep (F : List (List Int)) (acc : Option (List Int)) (o : List Int) : Option (List Int) :=
  if fitsP F o then (match acc with | none => some o | some b => if (marksV F o).length < (marksV F b).length then some o else some b) else acc
def fwTo (F : List (List Int)) (O : List (List Int)) : Option (List Int) := O.foldl (fwStep F) none
theorem fwTo_snoc {F O : List (List Int)} {k : Nat} (hk : k < O.length) : fwTo F (O.take (k + 1)) = fwStep F (fwTo F (O.take k)) (O.getD k []) := by
  unfold fwTo; rw [Kv.take_snoc O [] k hk, List.foldl_append]; rfl
theorem fw_skip {F : List (List Int)} {x : Option (List Int)} {o : List Int} (hf : fitsP F o = false) : fwStep F x o = x := by unfold fwStep; rw [hf]; rfl
theorem fw_first {F : List (List Int)} {o : List Int} (hf : fitsP F o = true) : fwStep F none o = some o := by unfold fwStep; rw [hf]; rfl
theorem fw_less {F : List (List Int)} {b o : List Int} (hf : fitsP F o = true) (h : (marksV F o).length < (marksV F b).length) : fwStep F (some b) o = some o := by unfold fwStep; rw [hf]; simp [h]
theorem fw_keep {F : List (List Int)} {b o : List Int} (hf : fitsP F o = true) (h : ¬ (marksV F o).length < (marksV F b).length) : fwStep F (some b) o = some b := by unfold fwStep; rw [hf]; simp [h]
def bestV (x : Option (List Int)) : List Int := x.getD []
def endsV (F : List (List Int)) (x : Option (List Int)) : List Int := match x with | none => [] | some b => marksV F b
/-- the three results in their cells -/
def CF (p : Addr) (v : Value) (W : World) : Prop := W.cell? p = some v ∧ W.frozen? p = false
theorem stays_cf {D : Nat} {p : Addr} {v : Value} (hp : p.block < D) : Stays (D + 2) fun W => CF p v W := fun A A' row h hg hr => by
  have hne : some p.block ≠ row := fun e => by have := (hr _ e.symm).1; omega
  exact ⟨hg.cell h.1 hne, (World.frozen?_of_block (hg.block p.block (World.block_lt_of_cell? A p h.1) hne)).trans h.2⟩
theorem cf_below {W W' : World} {p : Addr} {v : Value} (h : CF p v W) (hb : Below W.heap.size W W') : CF p v W' := ⟨cell_below h.1 hb, (hb.frozen (World.block_lt_of_cell? W p h.1)).trans h.2⟩
theorem cf_other {W : World} {p q : Addr} {v u : Value} (h : CF p v W) (hne : q ≠ p) : CF p v (W.setCell q u) := ⟨by rw [World.cell?_setCell_other _ _ _ _ hne]; exact h.1, by rw [World.frozen?_setCell]; exact h.2⟩
theorem cf_same {W : World} {p : Addr} {v u : Value} (h : CF p v W) : CF p u (W.setCell p u) := ⟨World.cell?_setCell_same _ _ _ h.1, by rw [World.frozen?_setCell]; exact h.2⟩
def FwAt (B D : Nat) (F : List (List Int)) (x : Option (List Int)) (W : World) : Prop :=
  ∃ vb ve, ((CF ⟨D + 1, 0, none⟩ vb W ∧ CF ⟨D + 1 + 1, 0, none⟩ ve W) ∧ CF ⟨D + 1 + 1 + 1, 0, none⟩ (.bool x.isSome) W) ∧
    (W.ownsRow B 3 1 vb (bestV x).length ((bestV x).map (Value.int .i64)) ∧ W.ownsRow B 3 1 ve (endsV F x).length ((endsV F x).map (Value.int .i64)))
set_option maxRecDepth 100000 in
set_option maxHeartbeats 2000000 in
theorem fewest_calls (mn : Nat) (a : Option Addr) (n c : Nat) (F : List (List Int)) (w : World) (h : ListsAt w a n c F) (hm1 : 1 ≤ mn) (hm6 : mn ≤ 6) (hn6 : n ≤ 6) :
    Calls Try.prog 56 #[.int .i64 mn, .slice a n c] w fun e w' => ∃ vb ve, e = .returned (.tuple #[vb, ve, .bool (fwTo F (ordersL mn)).isSome]) ∧
      (w'.ownsRow w.heap.size 3 1 vb (bestV (fwTo F (ordersL mn))).length ((bestV (fwTo F (ordersL mn))).map (Value.int .i64)) ∧ w'.ownsRow w.heap.size 3 1 ve (endsV F (fwTo F (ordersL mn))).length ((endsV F (fwTo F (ordersL mn))).map (Value.int .i64))) ∧ Below w.heap.size w w' := by
  have hb4 : Below w.heap.size w ((((w.alloc (.cells #[.slice a n c] 22)).alloc (.cells #[.slice none 0 0] 23)).alloc (.cells #[.slice none 0 0] 23)).alloc (.cells #[.bool false] 4)) :=
    (((((Below.refl _ w).alloc (Nat.le_refl _) _).alloc (by simp) _).alloc (by first | (simp; done) | (simp; omega)) _).alloc (by first | (simp; done) | (simp; omega)) _)
  have hsz4 : ((((w.alloc (.cells #[.slice a n c] 22)).alloc (.cells #[.slice none 0 0] 23)).alloc (.cells #[.slice none 0 0] 23)).alloc (.cells #[.bool false] 4)).heap.size = w.heap.size + 4 := by simp
  have hf4 : ∀ i, 1 ≤ i → i ≤ 3 → ((((w.alloc (.cells #[.slice a n c] 22)).alloc (.cells #[.slice none 0 0] 23)).alloc (.cells #[.slice none 0 0] 23)).alloc (.cells #[.bool false] 4)).frozen? ⟨w.heap.size + i, 0, none⟩ = false := fun i h1 h3 => by
    match i, h1, h3 with
    | 1, _, _ => rw [World.frozen?_alloc_past _ _ _ (by first | (simp; done) | (simp; omega)), World.frozen?_alloc_past _ _ _ (by first | (simp; done) | (simp; omega))]; exact World.frozen?_alloc_at _ _ _ _ (by simp)
    | 2, _, _ => rw [World.frozen?_alloc_past _ _ _ (by first | (simp; done) | (simp; omega))]; exact World.frozen?_alloc_at _ _ _ _ (by simp)
    | 3, _, _ => exact World.frozen?_alloc_at _ _ _ _ (by simp)
  have q0 : ((((w.alloc (.cells #[.slice a n c] 22)).alloc (.cells #[.slice none 0 0] 23)).alloc (.cells #[.slice none 0 0] 23)).alloc (.cells #[.bool false] 4)).cell? ⟨w.heap.size, 0, none⟩ = some (.slice a n c) := by
    rw [World.cell?_alloc_past _ _ _ (by first | (simp; done) | (simp; omega)), World.cell?_alloc_past _ _ _ (by first | (simp; done) | (simp; omega)), World.cell?_alloc_past _ _ _ (by simp), World.cell?_alloc_at _ _ _ _ (by rfl)]; rfl
  have q1 : ((((w.alloc (.cells #[.slice a n c] 22)).alloc (.cells #[.slice none 0 0] 23)).alloc (.cells #[.slice none 0 0] 23)).alloc (.cells #[.bool false] 4)).cell? ⟨w.heap.size + 1, 0, none⟩ = some (.slice none 0 0) := by
    rw [World.cell?_alloc_past _ _ _ (by first | (simp; done) | (simp; omega)), World.cell?_alloc_past _ _ _ (by first | (simp; done) | (simp; omega)), World.cell?_alloc_at _ _ _ _ (by simp)]; rfl
  have q2 : ((((w.alloc (.cells #[.slice a n c] 22)).alloc (.cells #[.slice none 0 0] 23)).alloc (.cells #[.slice none 0 0] 23)).alloc (.cells #[.bool false] 4)).cell? ⟨w.heap.size + 1 + 1, 0, none⟩ = some (.slice none 0 0) := by
    rw [World.cell?_alloc_past _ _ _ (by first | (simp; done) | (simp; omega)), World.cell?_alloc_at _ _ _ _ (by simp)]; rfl
  have q3 : ((((w.alloc (.cells #[.slice a n c] 22)).alloc (.cells #[.slice none 0 0] 23)).alloc (.cells #[.slice none 0 0] 23)).alloc (.cells #[.bool false] 4)).cell? ⟨w.heap.size + 1 + 1 + 1, 0, none⟩ = some (.bool false) := by
    rw [World.cell?_alloc_at _ _ _ _ (by simp)]; rfl
  refine (callsIn_wide (n := 9)).1 ?_
  refine callsIn_of_wp_marks Try.func56 rfl trivial ?_ rfl
  simp only [Try.ntmps56, List.size_toArray, List.length_cons, List.length_nil, Nat.reduceAdd, Nat.reduceSub, Array.replicate_succ, Array.replicate_zero, List.push_toArray, List.append_toArray, List.nil_append, List.cons_append]
  gi_wp2
  obtain ⟨w4, hw4⟩ : ∃ w4, ((((w.alloc (.cells #[.slice a n c] 22)).alloc (.cells #[.slice none 0 0] 23)).alloc (.cells #[.slice none 0 0] 23)).alloc (.cells #[.bool false] 4)) = w4 := ⟨_, rfl⟩
  rw [hw4] at hb4 hsz4 hf4 q0 q1 q2 q3
  simp only [hw4]
  have HI4 := hid_ (h.below hb4 (Nat.le_refl _))
  have Hh := hid_ (fun W (hW : Below w.heap.size w W) => h.below hW (Nat.le_refl _))
  have Hs4 := hid_ hsz4
  have Hb4 := hid_ hb4
  have Hf4 := hid_ hf4
  clear hw4 hb4 hsz4 hf4 h
  refine ⟨trivial, (callsIn_wide.2 (orders_calls mn w4)).mono ?_⟩
  rintro e w6 ⟨rfl, hw6⟩
  have hs6 : w6.heap.size = w.heap.size + 5 := by rw [hw6, size_alloc_one, Hs4.out]
  have k0 : w6.cell? ⟨w.heap.size + 4, 0, none⟩ = some (.int .i64 mn) := by rw [hw6, ← Hs4.out, World.cell?_alloc_at _ _ _ _ rfl]; rfl
  have Hp0 : Hid (w6.cell? ⟨w.heap.size, 0, none⟩ = some (.slice a n c)) := hid_ (by rw [hw6, World.cell?_alloc_past _ _ _ (by rw [Hs4.out]; omega)]; exact q0)
  have p1 : w6.cell? ⟨w.heap.size + 1, 0, none⟩ = some (.slice none 0 0) := by rw [hw6, World.cell?_alloc_past _ _ _ (by rw [Hs4.out]; omega)]; exact q1
  have p2 : w6.cell? ⟨w.heap.size + 1 + 1, 0, none⟩ = some (.slice none 0 0) := by rw [hw6, World.cell?_alloc_past _ _ _ (by rw [Hs4.out]; omega)]; exact q2
  have p3 : w6.cell? ⟨w.heap.size + 1 + 1 + 1, 0, none⟩ = some (.bool false) := by rw [hw6, World.cell?_alloc_past _ _ _ (by rw [Hs4.out]; omega)]; exact q3
  have Hf6 : Hid (∀ i, 1 ≤ i → i ≤ 3 → w6.frozen? ⟨w.heap.size + i, 0, none⟩ = false) := hid_ (fun i h1 h3 => by rw [hw6, World.frozen?_alloc_past _ _ _ (by rw [Hs4.out]; omega)]; exact Hf4.out i h1 h3)
  have Hb6 : Hid (Below w.heap.size w w6) := hid_ (by rw [hw6]; exact Hb4.out.alloc (by rw [Hs4.out]; omega) _)
  have HI6 : Hid (ListsAt w6 a n c F) := hid_ (by rw [hw6]; exact HI4.out.below ((Below.refl w4.heap.size w4).alloc (Nat.le_refl _) _) (Nat.le_refl _))
  have HF0 : Hid (FwAt (w6.heap.size + 3) w.heap.size F none w6) := hid_ ⟨_, _, ⟨⟨⟨p1, Hf6.out 1 (by omega) (by omega)⟩, p2, Hf6.out 2 (by omega) (by omega)⟩, p3, Hf6.out 3 (by omega) (by omega)⟩, World.ownsRow_nil _ _ _ _, World.ownsRow_nil _ _ _ _⟩
  have Hs6 := hid_ hs6
  have Hk0 := hid_ k0
  rw [Hs4.out]
  clear hw6 q0 q1 q2 q3 p1 p2 p3 hs6 k0
  gi_wp2
  have hO6 : ∀ k, k < (ordersL mn).length → ((ordersL mn).getD k []).length = mn := (chain_at (orders_chain hm1 hm6).1).1
  have HO6 := hid_ hO6; clear hO6
  have HS : Hid (∀ i, i < 5 → w.heap.size + i < w6.heap.size) := hid_ (fun i hi => by have := Hs6.out; omega)
  refine wpIn_rangeFunc_mem (n := 9) rfl (by omega) (gf := 125) (lb := #[.pointer (some ⟨w.heap.size + 4, 0, none⟩)]) rfl trivial (enters_of Try.func125 (by kernel_rfl) rfl) (orders_iter mn (w.heap.size + 4) hm1 hm6 8) rfl
    (fun k A A' h e => World.rowIs.of_block h e)
    (fun k W => ((Below w.heap.size w W ∧ W.cell? ⟨w.heap.size, 0, none⟩ = some (.slice a n c)) ∧ W.cell? ⟨w.heap.size + 4, 0, none⟩ = some (.int .i64 mn)) ∧ FwAt (w6.heap.size + 3) w.heap.size F (fwTo F ((ordersL mn).take k)) W)
    (fun _ _ _ => False)
    ?hIG ?hI ?hIx ⟨⟨⟨Hb6.out, Hp0.out⟩, Hk0.out⟩, HF0.out⟩
    { tmps := #[.int .i64 mn, .slice a n c, undef, .pointer (some ⟨w.heap.size, 0, none⟩), .pointer (some ⟨w.heap.size + 1, 0, none⟩), .pointer (some ⟨w.heap.size + 1 + 1, 0, none⟩), .pointer (some ⟨w.heap.size + 1 + 1 + 1, 0, none⟩), .slice (some ⟨w6.heap.size + 2, 0, none⟩) mn mn, undef, .int .i64 mn, .func (.func 125) #[] #[.pointer (some ⟨w.heap.size + 4, 0, none⟩)], .slice (some ⟨w6.heap.size + 2, 0, none⟩) mn mn, undef, undef, undef, undef, undef, undef, undef, undef, undef, undef, undef, undef, undef, undef, undef, undef, undef, undef, undef, undef, undef, undef], defers := [] }
    ?hassign ?hbody (fun k A h => World.rowIs.lt h) ?hdone ?hstop
  case hIG => exact fun k A hA => hA.1.2
  case hI => exact fun k => stays_and (stays_and (stays_and (stays_below (by have := Hs6.out; omega) (Nat.le_refl _)) (stays_cell (HS.out 0 (by omega)))) (stays_cell (HS.out 4 (by omega)))) (stays_ex fun vb => stays_ex fun ve => stays_and (stays_and (stays_and (stays_cf (HS.out 1 (by omega))) (stays_cf (HS.out 2 (by omega)))) (stays_cf (HS.out 3 (by omega)))) (stays_and stays_own stays_own))
  case hIx => exact fun c k A A' row h => h.elim
  case hassign =>
    intro l W K hK
    gi_wp2
    exact hK
  case hbody =>
    rintro l k W ⟨⟨⟨hbw, hc0⟩, hck⟩, vb, ve, ⟨⟨x1, x2⟩, x3⟩, o1, o2⟩ hkN hR hBW
    have hn := HO6.out k hkN
    have Hsn := hid_ (fwTo_snoc (F := F) hkN)
    have hII : IntsAt W (some ⟨w6.heap.size + 2, 0, none⟩) mn mn ((ordersL mn).getD k []) := by
      have := RowL.ints hR (by rw [hn]; omega)
      rwa [hn] at this
    have hLL := Hh.out W hbw
    have hfc := sndFits_calls _ _ _ _ _ _ _ _ W hLL hII (by omega)
    have Hmk := hid_ (sndMarks_calls _ _ _ _ _ _ _ _ W hLL hII (by omega))
    have HII := hid_ hII
    clear hR hLL hII
    generalize (ordersL mn).getD k [] = o at *
    generalize hX : fwTo F ((ordersL mn).take k) = x at *
    clear hX
    have Hn := hid_ hn; clear hn
    have hw5 : w.heap.size + 5 ≤ w6.heap.size := by have := Hs6.out; omega
    have HBW : Hid (w6.heap.size + 2 < W.heap.size) := hid_ hBW
    clear hBW
    cases hf : fitsP F o with
    | false =>
      rw [hf] at hfc
      have Hfc := hid_ hfc; clear hfc
      have HI : Hid (FwAt (w6.heap.size + 3) w.heap.size F (fwTo F ((ordersL mn).take (k + 1))) W) := hid_ (by
        rw [Hsn.out, fw_skip hf]; exact ⟨vb, ve, ⟨⟨x1, x2⟩, x3⟩, o1, o2⟩)
      clear hf x1 x2 x3 o1 o2 Hsn
      gi_wp2
      refine ⟨trivial, (CallsIn.inRound l (callsIn_wide.2 Hfc.out)).mono ?_⟩
      rintro e W2 ⟨rfl, rfl⟩
      gi_wp2
      exact ⟨KeepsOthers.refl _, rfl, ⟨⟨hbw, hc0⟩, hck⟩, HI.out⟩
    | true =>
      rw [hf] at hfc
      have Hfc := hid_ hfc; clear hfc
      have Hf := hid_ hf; clear hf
      have HX1 := hid_ x1
      have HX2 := hid_ x2
      have HX3 := hid_ x3
      have HO1 := hid_ o1
      have HO2 := hid_ o2
      clear x1 x2 x3 o1 o2
      gi_wp2
      refine ⟨trivial, (CallsIn.inRound l (callsIn_wide.2 Hfc.out)).mono ?_⟩
      rintro e W2 ⟨rfl, rfl⟩
      gi_wp2
      refine ⟨trivial, (CallsIn.inRound l (callsIn_wide.2 Hmk.out)).mono ?_⟩
      rintro e W3 ⟨vm, rfl, hm3⟩
      obtain ⟨am, cm, rfl, -⟩ := hm3.at_
      have HOm := hid_ (own_base hm3.own (show w6.heap.size + 3 ≤ W.heap.size from HBW.out))
      have Hb3 := hid_ hm3.bel
      have Hbw3 : Hid (Below w.heap.size w W3) := hid_ (below_then hbw hm3.bel)
      have Hc03 := hid_ (cell_below hc0 hm3.bel)
      have Hck3 := hid_ (cell_below hck hm3.bel)
      have Hy1 := hid_ (cf_below HX1.out hm3.bel)
      have Hy2 := hid_ (cf_below HX2.out hm3.bel)
      have Hy3 := hid_ (cf_below HX3.out hm3.bel)
      have Hp1 := hid_ (own_below HO1.out hm3.bel (Nat.le_refl _))
      have Hp2 := hid_ (own_below HO2.out hm3.bel (Nat.le_refl _))
      have HII3 := hid_ (HII.out.below hm3.bel (Nat.le_refl _))
      have Hko : Hid (KeepsOthers W W3) := hid_ ⟨hm3.bel.size, fun j o ho _ => by rw [hm3.bel.block j (Array.getElem?_eq_some_iff.1 ho).1]; exact ho⟩
      have Hkb : Hid (W3.heap[w6.heap.size + 2]? = W.heap[w6.heap.size + 2]?) := hid_ (hm3.bel.block _ HBW.out)
      clear hm3 hc0 hck hbw HX1 HX2 HX3 HO1 HO2 Hmk Hfc
      have Hcl := hid_ (clone_calls _ _ _ _ W3 HII3.out (by omega))
      cases x with
      | none =>
        have Hst := hid_ (fw_first Hf.out)
        have y3 : W3.cell? ⟨w.heap.size + 1 + 1 + 1, 0, none⟩ = some (.bool false) := Hy3.out.1
        gi_wp2
        refine ⟨trivial, (CallsIn.inRound l (callsIn_wide.2 Hcl.out)).mono ?_⟩
        rintro e W4 ⟨vc, rfl, hm4⟩
        obtain ⟨ac, cc, rfl, -⟩ := hm4.at_
        have HOc := hid_ (own_base hm4.own (show w6.heap.size + 3 ≤ W3.heap.size from Nat.le_trans HBW.out Hb3.out.size))
        have HOm4 := hid_ (own_below HOm.out hm4.bel (Nat.le_refl _))
        have hbw4 := below_then Hbw3.out hm4.bel
        have Hc04 := hid_ (cell_below Hc03.out hm4.bel)
        have Hck4 := hid_ (cell_below Hck3.out hm4.bel)
        have hz1 := cf_below Hy1.out hm4.bel
        have hz2 := cf_below Hy2.out hm4.bel
        have hz3 := cf_below Hy3.out hm4.bel
        have Hz1 := hid_ hz1
        have Hz2 := hid_ hz2
        have Hz3 := hid_ hz3
        obtain ⟨z1, z1'⟩ := hz1
        obtain ⟨z2, z2'⟩ := hz2
        obtain ⟨z3, z3'⟩ := hz3
        have Hko4 : Hid (KeepsOthers W W4) := hid_ (Hko.out.trans ⟨hm4.bel.size, fun j o ho _ => by rw [hm4.bel.block j (Array.getElem?_eq_some_iff.1 ho).1]; exact ho⟩)
        have Hkb4 : Hid (W4.heap[w6.heap.size + 2]? = W.heap[w6.heap.size + 2]?) := hid_ ((hm4.bel.block _ (Nat.lt_of_lt_of_le HBW.out Hb3.out.size)).trans Hkb.out)
        have Hbw4 := hid_ hbw4
        clear hm4 hbw4 Hcl y3
        gi_wp2
        have e1 : (⟨w.heap.size + 1 + 1, 0, none⟩ : Addr) ≠ ⟨w.heap.size + 1, 0, none⟩ := by simp
        refine ⟨((Hko4.out.trans (KeepsOthers.setCell _ _ _)).trans (KeepsOthers.setCell _ _ _)).trans (KeepsOthers.setCell _ _ _), ?_, ⟨⟨?_, ?_⟩, ?_⟩, ?_⟩
        · rw [Below.heap_setCell _ _ _ _ (by show w6.heap.size + 2 ≠ w.heap.size + 1 + 1 + 1; omega), Below.heap_setCell _ _ _ _ (by show w6.heap.size + 2 ≠ w.heap.size + 1 + 1; omega), Below.heap_setCell _ _ _ _ (by show w6.heap.size + 2 ≠ w.heap.size + 1; omega)]
          exact Hkb4.out
        · exact ((Hbw4.out.setCell (p := ⟨w.heap.size + 1, 0, none⟩) (by show _ ≤ _ + 1; omega) _).setCell (p := ⟨w.heap.size + 1 + 1, 0, none⟩) (by show _ ≤ _ + 1 + 1; omega) _).setCell (p := ⟨w.heap.size + 1 + 1 + 1, 0, none⟩) (by show _ ≤ _ + 1 + 1 + 1; omega) _
        · rw [World.cell?_setCell_other _ _ _ _ (by first | (simp; done) | (simp; omega)), World.cell?_setCell_other _ _ _ _ (by first | (simp; done) | (simp; omega)), World.cell?_setCell_other _ _ _ _ (by simp)]; exact Hc04.out
        · rw [World.cell?_setCell_other _ _ _ _ (by first | (simp; done) | (simp; omega)), World.cell?_setCell_other _ _ _ _ (by first | (simp; done) | (simp; omega)), World.cell?_setCell_other _ _ _ _ (by simp)]; exact Hck4.out
        · rw [Hsn.out, Hst.out]
          exact ⟨_, _, ⟨⟨cf_other (cf_other (cf_same Hz1.out) (by simp)) (by simp), cf_other (cf_same (cf_other Hz2.out (by simp))) (by simp)⟩, cf_same (cf_other (cf_other Hz3.out (by simp)) (by simp))⟩,
            ownsRow_setCell_below (ownsRow_setCell_below (ownsRow_setCell_below HOc.out (by show w.heap.size + 1 < _; omega) _) (by show w.heap.size + 1 + 1 < _; omega) _) (by show w.heap.size + 1 + 1 + 1 < _; omega) _,
            ownsRow_setCell_below (ownsRow_setCell_below (ownsRow_setCell_below HOm4.out (by show w.heap.size + 1 < _; omega) _) (by show w.heap.size + 1 + 1 < _; omega) _) (by show w.heap.size + 1 + 1 + 1 < _; omega) _⟩
      | some b =>
        obtain ⟨ae, ce, rfl, -⟩ := IntsAt.own Hp2.out
        have y3 : W3.cell? ⟨w.heap.size + 1 + 1 + 1, 0, none⟩ = some (.bool true) := Hy3.out.1
        have y2 : W3.cell? ⟨w.heap.size + 1 + 1, 0, none⟩ = some (.slice ae (marksV F b).length ce) := Hy2.out.1
        by_cases hlen : (marksV F o).length < (marksV F b).length
        · have Hst := hid_ (fw_less Hf.out hlen)
          have hd : decide ((marksV F o).length < (marksV F b).length) = true := by simp [hlen]
          clear hlen
          gi_wp2
          refine ⟨trivial, (CallsIn.inRound l (callsIn_wide.2 Hcl.out)).mono ?_⟩
          rintro e W4 ⟨vc, rfl, hm4⟩
          obtain ⟨ac, cc, rfl, -⟩ := hm4.at_
          have HOc := hid_ (own_base hm4.own (show w6.heap.size + 3 ≤ W3.heap.size from Nat.le_trans HBW.out Hb3.out.size))
          have HOm4 := hid_ (own_below HOm.out hm4.bel (Nat.le_refl _))
          have hbw4 := below_then Hbw3.out hm4.bel
          have Hc04 := hid_ (cell_below Hc03.out hm4.bel)
          have Hck4 := hid_ (cell_below Hck3.out hm4.bel)
          have hz1 := cf_below Hy1.out hm4.bel
          have hz2 := cf_below Hy2.out hm4.bel
          have hz3 := cf_below Hy3.out hm4.bel
          have Hz1 := hid_ hz1
          have Hz2 := hid_ hz2
          have Hz3 := hid_ hz3
          obtain ⟨z1, z1'⟩ := hz1
          obtain ⟨z2, z2'⟩ := hz2
          obtain ⟨z3, z3'⟩ := hz3
          have Hko4 : Hid (KeepsOthers W W4) := hid_ (Hko.out.trans ⟨hm4.bel.size, fun j o ho _ => by rw [hm4.bel.block j (Array.getElem?_eq_some_iff.1 ho).1]; exact ho⟩)
          have Hkb4 : Hid (W4.heap[w6.heap.size + 2]? = W.heap[w6.heap.size + 2]?) := hid_ ((hm4.bel.block _ (Nat.lt_of_lt_of_le HBW.out Hb3.out.size)).trans Hkb.out)
          have Hbw4 := hid_ hbw4
          clear hm4 hbw4 Hcl y3 y2 hd
          gi_wp2
          have e1 : (⟨w.heap.size + 1 + 1, 0, none⟩ : Addr) ≠ ⟨w.heap.size + 1, 0, none⟩ := by simp
          refine ⟨((Hko4.out.trans (KeepsOthers.setCell _ _ _)).trans (KeepsOthers.setCell _ _ _)).trans (KeepsOthers.setCell _ _ _), ?_, ⟨⟨?_, ?_⟩, ?_⟩, ?_⟩
          · rw [Below.heap_setCell _ _ _ _ (by show w6.heap.size + 2 ≠ w.heap.size + 1 + 1 + 1; omega), Below.heap_setCell _ _ _ _ (by show w6.heap.size + 2 ≠ w.heap.size + 1 + 1; omega), Below.heap_setCell _ _ _ _ (by show w6.heap.size + 2 ≠ w.heap.size + 1; omega)]
            exact Hkb4.out
          · exact ((Hbw4.out.setCell (p := ⟨w.heap.size + 1, 0, none⟩) (by show _ ≤ _ + 1; omega) _).setCell (p := ⟨w.heap.size + 1 + 1, 0, none⟩) (by show _ ≤ _ + 1 + 1; omega) _).setCell (p := ⟨w.heap.size + 1 + 1 + 1, 0, none⟩) (by show _ ≤ _ + 1 + 1 + 1; omega) _
          · rw [World.cell?_setCell_other _ _ _ _ (by first | (simp; done) | (simp; omega)), World.cell?_setCell_other _ _ _ _ (by first | (simp; done) | (simp; omega)), World.cell?_setCell_other _ _ _ _ (by simp)]; exact Hc04.out
          · rw [World.cell?_setCell_other _ _ _ _ (by first | (simp; done) | (simp; omega)), World.cell?_setCell_other _ _ _ _ (by first | (simp; done) | (simp; omega)), World.cell?_setCell_other _ _ _ _ (by simp)]; exact Hck4.out
          · rw [Hsn.out, Hst.out]
            exact ⟨_, _, ⟨⟨cf_other (cf_other (cf_same Hz1.out) (by simp)) (by simp), cf_other (cf_same (cf_other Hz2.out (by simp))) (by simp)⟩, cf_same (cf_other (cf_other Hz3.out (by simp)) (by simp))⟩,
              ownsRow_setCell_below (ownsRow_setCell_below (ownsRow_setCell_below HOc.out (by show w.heap.size + 1 < _; omega) _) (by show w.heap.size + 1 + 1 < _; omega) _) (by show w.heap.size + 1 + 1 + 1 < _; omega) _,
              ownsRow_setCell_below (ownsRow_setCell_below (ownsRow_setCell_below HOm4.out (by show w.heap.size + 1 < _; omega) _) (by show w.heap.size + 1 + 1 < _; omega) _) (by show w.heap.size + 1 + 1 + 1 < _; omega) _⟩
        · have Hst := hid_ (fw_keep Hf.out hlen)
          have hd : decide ((marksV F o).length < (marksV F b).length) = false := by simp; omega
          clear hlen
          gi_wp2
          exact ⟨Hko.out, Hkb.out, ⟨⟨Hbw3.out, Hc03.out⟩, Hck3.out⟩, by rw [Hsn.out, Hst.out]; exact ⟨_, _, ⟨⟨Hy1.out, Hy2.out⟩, Hy3.out⟩, Hp1.out, Hp2.out⟩⟩
  case hdone =>
    rintro D W hD ⟨⟨⟨hbw, hc0⟩, hck⟩, vb, ve, ⟨⟨x1, x2⟩, x3⟩, o1, o2⟩ hK
    rw [List.take_length] at x3 o1 o2
    have HO1 := hid_ o1
    have HO2 := hid_ o2
    obtain ⟨ab, cb, rfl, -⟩ := IntsAt.own o1
    obtain ⟨ae, ce, rfl, -⟩ := IntsAt.own o2
    obtain ⟨z1, z1'⟩ := x1
    obtain ⟨z2, z2'⟩ := x2
    obtain ⟨z3, z3'⟩ := x3
    have HK := hid_ hK
    have Hbw := hid_ hbw
    clear o1 o2 hc0 hck hK hbw
    obtain ⟨x, hx⟩ : ∃ x, fwTo F (ordersL mn) = x := ⟨_, rfl⟩
    rw [hx] at z3 HO1 HO2 z1 z2
    have Hx := hid_ hx
    clear hx
    have hw5 : w.heap.size + 5 ≤ w6.heap.size := by have := Hs6.out; omega
    have hDw : w6.heap.size ≤ D := hD
    gi_wp2
    gi_region
    gi_wp2
    obtain ⟨W1, hW1⟩ : ∃ W1, (((W.setCell ⟨w.heap.size + 1, 0, none⟩ (.slice ab (bestV x).length cb)).setCell ⟨w.heap.size + 1 + 1, 0, none⟩ (.slice ae (endsV F x).length ce)).setCell ⟨w.heap.size + 1 + 1 + 1, 0, none⟩ (.bool x.isSome)).drew = W1 := ⟨_, rfl⟩
    have r1 : W1.cell? ⟨w.heap.size + 1, 0, none⟩ = some (.slice ab (bestV x).length cb) := by
      rw [← hW1]; show (((W.setCell _ _).setCell _ _).setCell _ _).cell? _ = _
      rw [World.cell?_setCell_other _ _ _ _ (by simp), World.cell?_setCell_other _ _ _ _ (by simp), World.cell?_setCell_same _ _ _ z1]
    have r2 : W1.cell? ⟨w.heap.size + 1 + 1, 0, none⟩ = some (.slice ae (endsV F x).length ce) := by
      rw [← hW1]; show (((W.setCell _ _).setCell _ _).setCell _ _).cell? _ = _
      rw [World.cell?_setCell_other _ _ _ _ (by simp), World.cell?_setCell_same _ _ _ (by rw [World.cell?_setCell_other _ _ _ _ (by simp)]; exact z2)]
    have r3 : W1.cell? ⟨w.heap.size + 1 + 1 + 1, 0, none⟩ = some (.bool x.isSome) := by
      rw [← hW1]; show (((W.setCell _ _).setCell _ _).setCell _ _).cell? _ = _
      rw [World.cell?_setCell_same _ _ _ (by rw [World.cell?_setCell_other _ _ _ _ (by simp), World.cell?_setCell_other _ _ _ _ (by simp)]; exact z3)]
    have hK1 : W1.heap[D]? = some (.deferred (some [])) := by
      rw [← hW1]; exact (((KeepsOthers.setCell _ _ _).trans (KeepsOthers.setCell _ _ _)).trans (KeepsOthers.setCell _ _ _)).same D _ HK.out rfl
    have hb1 : Below w.heap.size w W1 := by
      rw [← hW1]; exact Below.drew (((Hbw.out.setCell (p := ⟨w.heap.size + 1, 0, none⟩) (by show _ ≤ _ + 1; omega) _).setCell (p := ⟨w.heap.size + 1 + 1, 0, none⟩) (by show _ ≤ _ + 1 + 1; omega) _).setCell (p := ⟨w.heap.size + 1 + 1 + 1, 0, none⟩) (by show _ ≤ _ + 1 + 1 + 1; omega) _)
    have ho1 : W1.ownsRow (w6.heap.size + 3) 3 1 (.slice ab (bestV x).length cb) (bestV x).length ((bestV x).map (Value.int .i64)) := by
      rw [← hW1]
      exact ownsRow_setCell_below (ownsRow_setCell_below (ownsRow_setCell_below HO1.out (by show w.heap.size + 1 < _; omega) _) (by show w.heap.size + 1 + 1 < _; omega) _) (by show w.heap.size + 1 + 1 + 1 < _; omega) _
    have ho2 : W1.ownsRow (w6.heap.size + 3) 3 1 (.slice ae (endsV F x).length ce) (endsV F x).length ((endsV F x).map (Value.int .i64)) := by
      rw [← hW1]
      exact ownsRow_setCell_below (ownsRow_setCell_below (ownsRow_setCell_below HO2.out (by show w.heap.size + 1 < _; omega) _) (by show w.heap.size + 1 + 1 < _; omega) _) (by show w.heap.size + 1 + 1 + 1 < _; omega) _
    rw [hW1]
    clear hW1
    have hDr : ∀ r, some D = some r → ∃ o : Obj, W1.heap[r]? = some o ∧ o.isCells = false := fun r e => by cases e; exact ⟨_, hK1, rfl⟩
    have s1 := cell_kept r1 (grownBy_putObj' W1 D (.deferred none)) hDr
    have s2 := cell_kept r2 (grownBy_putObj' W1 D (.deferred none)) hDr
    have s3 := cell_kept r3 (grownBy_putObj' W1 D (.deferred none)) hDr
    have hb2 : Below w.heap.size w (W1.putObj D (.deferred none)) := hb1.grown (grownBy_putObj' W1 D (.deferred none)) hb1.size fun r e => by cases e; omega
    have hp1 := stays_own (D := w6.heap.size) W1 _ (some D) ho1 (grownBy_putObj' W1 D (.deferred none)) fun r e => by cases e; exact ⟨by omega, .inr ⟨_, hK1, rfl⟩⟩
    have hp2 := stays_own (D := w6.heap.size) W1 _ (some D) ho2 (grownBy_putObj' W1 D (.deferred none)) fun r e => by cases e; exact ⟨by omega, .inr ⟨_, hK1, rfl⟩⟩
    refine ⟨by simp, .inl ⟨_, _, rfl, run_takeDeferred hK1, ?_⟩⟩
    refine ⟨.tuple #[.slice ab (bestV x).length cb, .slice ae (endsV F x).length ce, .bool x.isSome], by simp [results, Try.results56, go_sem, s1, s2, s3], ?_⟩
    rw [Hx.out]
    exact ⟨_, _, rfl, ⟨own_base hp1 (by omega), own_base hp2 (by omega)⟩, hb2⟩
  case hstop => exact fun D c k W hD hkN h => h.elim
end Go.Proofs.Ytoopgmoopmbfnaa
