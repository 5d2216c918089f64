import Derived.Test.YtgpenbajhndhiaaVw
import Derived.Test.YtgpenbajhndhiaaVow
namespace Go.Proofs.Ytgpenbajhndhiaa
open Go.RowKit Go.Proofs.Kv Go

/-! ### the lexicon of the examples -/
theorem Try.infoInts : (Try.prog.info? 26).map (fun i => (i.zero, i.size, i.bytes)) = some (some (.slice none 0 0), 1, 24) := by kernel_rfl
theorem OwnRw.store {E E1 : TypeId} {w : World} {B : Nat} {v : Value} {us : List Value} {L : List (List Int)} (h : OwnRw E E1 w B v us L) {p : Addr} (hp : p.block < B) (x : Value) : OwnRw E E1 (w.setCell p x) B v us L :=
  ⟨h.ne, own_store8 h.top hp x, fun i hi => by obtain ⟨u, e, ho⟩ := h.row i hi; exact ⟨u, e, own_store8 ho hp x⟩, h.apart⟩
theorem IntsAt.setOther {w : World} {a : Option Addr} {n c : Nat} {l : List Int} {p : Addr} {u v : Value} (h : IntsAt w a n c l) (hq : w.cell? p = some u) (hu : ∀ x, u ≠ .int .i64 x) : IntsAt (w.setCell p v) a n c l :=
  ⟨h.len, h.le, h.small, fun i hi => by
    obtain ⟨b, off, ha, hb, hc⟩ := h.cells i hi
    refine ⟨b, off, ha, by simpa [World.setCell] using hb, ?_⟩
    rw [World.cell?_setCell_other _ _ _ _ (by intro e; rw [← e, hq] at hc; injection hc with hc; exact hu _ hc)]
    exact hc⟩
theorem ItemsAt.setOther {w : World} {a : Option Addr} {n c : Nat} {L : List It} {p : Addr} {u v : Value} (h : ItemsAt w a n c L) (hq : w.cell? p = some u) (hu : ∀ x, u ≠ .int .i64 x) (hne : ∀ b off, a = some ⟨b, off, none⟩ → p.block ≠ b) : ItemsAt (w.setCell p v) a n c L :=
  ⟨h.len, h.le, h.small, fun i hi => by
    obtain ⟨b, off, a1, n1, c1, ha, hb, k0, k1, k2, hw⟩ := h.cells i hi
    have hn := hne b off ha
    refine ⟨b, off, a1, n1, c1, ha, by simpa [World.setCell] using hb, ?_, ?_, ?_, IntsAt.setOther hw hq hu⟩
    · rw [World.cell?_setCell_other _ _ _ _ (by intro e; rw [e] at hn; exact hn rfl)]; exact k0
    · rw [World.cell?_setCell_other _ _ _ _ (by intro e; rw [e] at hn; exact hn rfl)]; exact k1
    · rw [World.cell?_setCell_other _ _ _ _ (by intro e; rw [e] at hn; exact hn rfl)]; exact k2⟩
theorem ints_one8 (w : World) (x : Int) (E : TypeId) : IntsAt (w.alloc (.cells #[.int .i64 x] E)) (some ⟨w.heap.size, 0, none⟩) 1 1 [x] := IntsAt.one _ _ _
theorem ints_two8 (w : World) (x y : Int) (E : TypeId) : IntsAt (w.alloc (.cells #[.int .i64 x, .int .i64 y] E)) (some ⟨w.heap.size, 0, none⟩) 2 2 [x, y] :=
  ⟨rfl, Nat.le_refl _, by omega, fun i hi => ⟨w.heap.size, 0, rfl, by simp, by
    rcases (show i = 0 ∨ i = 1 by omega) with rfl | rfl
    · exact cells_alloc _ _ _ 0
    · exact cells_alloc _ _ _ 1⟩⟩
def threeI : List It := [⟨[0], 0, 1⟩, ⟨[0, 1], 0, 3⟩, ⟨[1], 0, 1⟩]
def threeF (k : Nat) : List (List Int) := List.replicate k [0, 0, 0, 0]
def threeL : Lx := ⟨threeI, threeF 4⟩
set_option maxRecDepth 100000 in
set_option maxHeartbeats 4000000 in
theorem three_calls (w : World) : Calls Try.prog 25 #[] w fun e w' => ∃ v, e = .returned v ∧ LexAt w' v threeL ∧ Below w.heap.size w w' := by
  obtain ⟨i0, hi0, hz0, hz1, hz2⟩ := info_parts Try.infoInt
  obtain ⟨i1, hi1, hz0', hz1', hz2'⟩ := info_parts Try.infoInts
  have hmk : ∀ W' : World, (Instr.makeSlice 26 (.int .i64 4) (.int .i64 4)).run Try.prog W' = .ok (.slice (some ⟨W'.heap.size, 0, none⟩) 4 4) (W'.alloc (.cells (madeCells #[.int .i64 0] 4) 3)) := fun W' => by
    have := run_make (P := Try.prog) W' 26 3 i0 (.int .i64 0) Try.underlying26 hi0 hz0 .i64 .i64 4 4 (by omega) (by omega) (by rw [hz2]; omega) (by omega)
    simpa [hz1, Value.cells] using this
  obtain ⟨s, hs⟩ : ∃ s, w.heap.size = s := ⟨_, rfl⟩
  obtain ⟨u0, hu0⟩ : ∃ u0, w.alloc (.cells #[.slice none 0 0, .slice none 0 0] 25) = u0 := ⟨_, rfl⟩
  obtain ⟨u1, hu1⟩ : ∃ u1, u0.alloc (.cells #[.int .i64 0] 3) = u1 := ⟨_, rfl⟩
  obtain ⟨u2, hu2⟩ : ∃ u2, u1.alloc (.cells #[.int .i64 0, .int .i64 1] 3) = u2 := ⟨_, rfl⟩
  obtain ⟨u3, hu3⟩ : ∃ u3, u2.alloc (.cells #[.int .i64 1] 3) = u3 := ⟨_, rfl⟩
  obtain ⟨u4, hu4⟩ : ∃ u4, u3.alloc (.cells #[.slice (some ⟨u0.heap.size, 0, none⟩) 1 1, .int .i64 0, .int .i64 1, .slice (some ⟨u1.heap.size, 0, none⟩) 2 2, .int .i64 0, .int .i64 3, .slice (some ⟨u2.heap.size, 0, none⟩) 1 1, .int .i64 0, .int .i64 1] 42) = u4 := ⟨_, rfl⟩
  obtain ⟨u5, hu5⟩ : ∃ u5, u4.alloc (.cells #[.slice (some ⟨u3.heap.size, 0, none⟩) 3 3, .slice none 0 0] 25) = u5 := ⟨_, rfl⟩
  have z0 : u0.heap.size = s + 1 := by rw [← hu0]; simp; omega
  have z1 : u1.heap.size = s + 2 := by rw [← hu1]; simp; omega
  have z2 : u2.heap.size = s + 3 := by rw [← hu2]; simp; omega
  have z3 : u3.heap.size = s + 4 := by rw [← hu3]; simp; omega
  have z4 : u4.heap.size = s + 5 := by rw [← hu4]; simp; omega
  have z5 : u5.heap.size = s + 6 := by rw [← hu5]; simp; omega
  have b0 : Below w.heap.size w u0 := by rw [← hu0]; exact below_alloc _ _
  have b1 : Below u0.heap.size u0 u1 := by rw [← hu1]; exact below_alloc _ _
  have b2 : Below u1.heap.size u1 u2 := by rw [← hu2]; exact below_alloc _ _
  have b3 : Below u2.heap.size u2 u3 := by rw [← hu3]; exact below_alloc _ _
  have b4 : Below u3.heap.size u3 u4 := by rw [← hu4]; exact below_alloc _ _
  have b5 : Below u4.heap.size u4 u5 := by rw [← hu5]; exact below_alloc _ _
  have i1 : IntsAt u1 (some ⟨u0.heap.size, 0, none⟩) 1 1 [0] := by rw [← hu1]; exact IntsAt.one _ _ _
  have i2 : IntsAt u2 (some ⟨u1.heap.size, 0, none⟩) 2 2 [0, 1] := by rw [← hu2]; exact ints_two8 _ _ _ _
  have i3 : IntsAt u3 (some ⟨u2.heap.size, 0, none⟩) 1 1 [1] := by rw [← hu3]; exact IntsAt.one _ _ _
  have c45 := b5
  have c35 := b4.trans (b5.mono b4.size)
  have c25 := b3.trans (c35.mono b3.size)
  have c15 := b2.trans (c25.mono b2.size)
  have c05 := b1.trans (c15.mono b1.size)
  have c24 := b3.trans (b4.mono b3.size)
  have c14 := b2.trans (c24.mono b2.size)
  have ce : ∀ i (x : Value), #[Value.slice (some ⟨u0.heap.size, 0, none⟩) 1 1, .int .i64 0, .int .i64 1, .slice (some ⟨u1.heap.size, 0, none⟩) 2 2, .int .i64 0, .int .i64 3, .slice (some ⟨u2.heap.size, 0, none⟩) 1 1, .int .i64 0, .int .i64 1][i]? = some x → u4.cell? ⟨u3.heap.size, i, none⟩ = some x := fun i x hx => by rw [← hu4, cells_alloc]; exact hx
  have r0 : u0.cell? ⟨s, 0, none⟩ = some (.slice none 0 0) := by rw [← hs, ← hu0]; exact cells_alloc _ _ _ 0
  have r1 : u0.cell? ⟨s, 1, none⟩ = some (.slice none 0 0) := by rw [← hs, ← hu0]; exact cells_alloc _ _ _ 1
  have rf : ∀ k, u0.frozen? ⟨s, k, none⟩ = false := fun k => by rw [← hs, ← hu0]; exact World.frozen?_alloc_at _ _ _ _ (by simp)
  have l0 : u5.cell? ⟨u4.heap.size, 0, none⟩ = some (.slice (some ⟨u3.heap.size, 0, none⟩) 3 3) := by rw [← hu5]; exact cells_alloc _ _ _ 0
  have l1 : u5.cell? ⟨u4.heap.size, 1, none⟩ = some (.slice none 0 0) := by rw [← hu5]; exact cells_alloc _ _ _ 1
  have lf : u5.frozen? ⟨u4.heap.size, 1, none⟩ = false := by rw [← hu5]; exact World.frozen?_alloc_at _ _ _ _ (by simp)
  have HI := hid_ (show ItemsAt u4 (some ⟨u3.heap.size, 0, none⟩) 3 3 threeI from ⟨rfl, Nat.le_refl _, by omega, fun i hi => by
    have hz : u3.heap.size < u4.heap.size := by omega
    rcases (show i = 0 ∨ i = 1 ∨ i = 2 by omega) with rfl | rfl | rfl
    · exact ⟨_, 0, _, _, _, rfl, hz, ce 0 _ rfl, ce 1 _ rfl, ce 2 _ rfl, i1.below c14 (Nat.le_refl _)⟩
    · exact ⟨_, 0, _, _, _, rfl, hz, ce 3 _ rfl, ce 4 _ rfl, ce 5 _ rfl, i2.below c24 (Nat.le_refl _)⟩
    · exact ⟨_, 0, _, _, _, rfl, hz, ce 6 _ rfl, ce 7 _ rfl, ce 8 _ rfl, i3.below b4 (Nat.le_refl _)⟩⟩)
  have Hb := hid_ (b0.trans (c05.mono b0.size))
  have s0 := (c05.cell (p := ⟨s, 0, none⟩) (show s < u0.heap.size by omega)).trans r0
  have s1 := (c05.cell (p := ⟨s, 1, none⟩) (show s < u0.heap.size by omega)).trans r1
  have sf0 := (c05.frozen (p := ⟨s, 0, none⟩) (show s < u0.heap.size by omega)).trans (rf 0)
  have sf1 := (c05.frozen (p := ⟨s, 1, none⟩) (show s < u0.heap.size by omega)).trans (rf 1)
  have Hz5 := hid_ z5
  have Hz4 := hid_ z4; have Hz3 := hid_ z3; have Hb5 := hid_ b5
  clear c24 c14 b0 b1 b2 b3 b4 b5 c45 c35 c25 c15 c05 i1 i2 i3 ce r0 r1 rf z0 z1 z2 z3 z4
  go_enter Try.func25, Try.ntmps25
  go_wp2
  clear hu0 hu1 hu2 hu3 hu4 hu5
  obtain ⟨lb, hlb⟩ : ∃ lb, u4.heap.size = lb := ⟨_, rfl⟩
  have Hlb := hid_ (show lb = s + 5 by rw [← hlb]; exact Hz4.out)
  have H4 := hid_ hlb
  rw [hlb] at l0 l1 lf ⊢
  obtain ⟨bb, hbb⟩ : ∃ bb, u5.heap.size = bb := ⟨_, rfl⟩
  have Hbb := hid_ (show bb = s + 6 by rw [← hbb]; exact Hz5.out)
  have Hu5 := hid_ hbb
  clear hlb hbb
  obtain ⟨u6, hu6⟩ : ∃ u6, u5.setCell ⟨lb, 1, none⟩ (.slice none 0 0) = u6 := ⟨_, rfl⟩
  rw [hu6]
  have m1 : u6.cell? ⟨lb, 1, none⟩ = some (.slice none 0 0) := by rw [← hu6]; exact World.cell?_setCell_same _ _ _ l1
  have m0 : u6.cell? ⟨lb, 0, none⟩ = some (.slice (some ⟨u3.heap.size, 0, none⟩) 3 3) := by rw [← hu6, World.cell?_setCell_other _ _ _ _ (by simp)]; exact l0
  have mf : u6.frozen? ⟨lb, 1, none⟩ = false := by rw [← hu6, World.frozen?_setCell]; exact lf
  have Hm := hid_ (show Below lb u5 u6 by rw [← hu6]; exact Below.setCell (p := ⟨lb, 1, none⟩) (Below.refl _ _) (Nat.le_refl _) _)
  have Hu6 := hid_ (show u6.heap.size = bb by rw [← hu6]; simp [World.setCell]; exact Hu5.out)
  clear hu6 l1 l0 lf
  go_loopw [2] (fun i wr => ∃ (k : Nat) (us : List Value) (v : Value), k ≤ 4 ∧ i = .int .i64 k ∧ wr.cell? ⟨lb, 1, none⟩ = some v ∧ wr.frozen? ⟨lb, 1, none⟩ = false ∧ wr.cell? ⟨lb, 0, none⟩ = some (.slice (some ⟨u3.heap.size, 0, none⟩) 3 3) ∧ OwnRw 26 3 wr bb v us (threeF k) ∧ Below lb u5 wr) (fun i _ => 4 - (intOf i).toNat)
  case atStart => exact ⟨0, [], _, by omega, rfl, m1, mf, m0, OwnRw.nil _ _ (by decide), Hm.out⟩
  case round =>
    obtain ⟨k, us, v, hk, rfl, hc1, hf1, hc0, hO, hbr⟩ := hrel
    have hsz := hbr.size
    by_cases hlt : k < 4
    · have hle : (k : Int) ≤ 3 := by omega
      obtain ⟨av, cv, hv, -⟩ := hO.lists
      have hkl : (threeF k).length = k := List.length_replicate
      rw [hkl] at hv
      subst hv
      have hzb : bb ≤ wr.heap.size := by rw [← Hu5.out]; exact hsz
      have hlbb : lb < bb := by rw [Hlb.out, Hbb.out]; omega
      obtain ⟨w1, hw1⟩ : ∃ w1, wr.drew.alloc (.cells (madeCells #[.int .i64 0] 4) 3) = w1 := ⟨_, rfl⟩
      have c1 : Below wr.heap.size wr w1 := by rw [← hw1]; exact (Below.drew (Below.refl _ _)).alloc (Nat.le_refl _) _
      have o1 : w1.ownsRow wr.heap.size 3 1 (.slice (some ⟨wr.heap.size, 0, none⟩) 4 4) 4 ([0, 0, 0, 0].map (Value.int .i64)) := by
        have hm : (madeCells #[Value.int .i64 0] 4).toList = [0, 0, 0, 0].map (Value.int .i64) := by simp [madeCells]; rfl
        rw [← hw1, ← hm]; exact World.ownsRow_lit (base := wr.heap.size) (e := 3) (size := 1) wr.drew (madeCells #[.int .i64 0] 4) 4 (Nat.le_refl _) (by unfold maxLen; omega) (by rw [size_madeCells])
      have z1 : w1.heap.size = wr.heap.size + 1 := by rw [← hw1]; simp
      have c2 := c1.trans ((below_alloc w1 (.cells #[.slice (some ⟨wr.heap.size, 0, none⟩) 4 4] 26)).mono c1.size)
      have ht2 := (hO.below c2 (Nat.le_refl _)).top
      rw [hkl] at ht2
      have HS := hid_ (fun W (hW : Below wr.heap.size wr W) => cell_below hc1 hW)
      have hca : (w1.alloc (.cells #[.slice (some ⟨wr.heap.size, 0, none⟩) 4 4] 26)).cell? ⟨wr.heap.size + 1, 0, none⟩ = some (.slice (some ⟨wr.heap.size, 0, none⟩) 4 4) := by rw [← z1]; exact cells_alloc _ _ _ 0
      have hne : ∀ b, (Value.slice av k cv).ownBlock = some b → lb < b := fun b hb => by have := (hO.top.lt b hb).1; omega
      go_wp2
      refine wp_region_last (n := 6) (S := fun W' => W'.cell? ⟨lb, 1, none⟩ = some (.slice av k cv)) (by kernel_rfl) (by kernel_rfl) (HS.out _ (Below.drew (Below.refl _ _))) (fun hHeld => ?_)
      refine wpAnyH_take (i := 0) (oi := ?oi0h1) (v := ?v0h1) ?hi0h1 (by kernel_rfl) ?hf0h1 (by kernel_rfl) ?hQ0h1 ?hy0h1 (by assumption) ?rest0h1
      case hi0h1 => (simp only [List.getElem?_toArray, List.getElem?_cons_zero]; rfl)
      case hf0h1 => kernel_rfl
      case hQ0h1 => exact fun _ _ _ h => h
      case hy0h1 => (refine Or.inl ⟨by rfl, ?_⟩; intro W hSw; (try dsimp only at hSw); go_simp; try with_reducible rfl)
      try simp only [Act.put, List.setIfInBounds_toArray, List.set_cons_zero, List.set_cons_succ]
      refine wpAnyH_take (i := 1) (oi := ?oi1h2) (v := ?v1h2) ?hi1h2 (by kernel_rfl) ?hf1h2 (by kernel_rfl) ?hQ1h2 ?hy1h2 (by assumption) ?rest1h2
      case hi1h2 => (simp only [List.getElem?_toArray, List.getElem?_cons_succ, List.getElem?_cons_zero]; rfl)
      case hf1h2 => kernel_rfl
      case hQ1h2 => exact fun _ _ _ h => h
      case hy1h2 => (refine Or.inl ⟨by rfl, ?_⟩; intro W hSw; (try dsimp only at hSw); go_simp; try with_reducible rfl)
      try simp only [Act.put, List.setIfInBounds_toArray, List.set_cons_zero, List.set_cons_succ]
      refine wpAnyH_ready (rs := [2]) (by kernel_rfl) (by simp) ?_
      refine AllReadyH.cons (o := _) (by (simp only [List.getElem?_toArray, List.getElem?_cons_succ, List.getElem?_cons_zero]; rfl)) (fun K hK => ?_) AllReadyH.nil
      go_simp
      refine hK.out _ _ ?_ (fun hHeld => ?_)
      · exact HS.out _ c1
      clear hK K
      try simp only [Act.put, List.setIfInBounds_toArray, List.set_cons_zero, List.set_cons_succ]
      refine wpAnyH_ready (rs := [3]) (by kernel_rfl) (by simp) ?_
      refine AllReadyH.cons (o := _) (by (simp only [List.getElem?_toArray, List.getElem?_cons_succ, List.getElem?_cons_zero]; rfl)) (fun K hK => ?_) AllReadyH.nil
      go_simp
      refine hK.out _ _ ?_ (fun hHeld => ?_)
      · exact HS.out _ c2
      clear hK K
      try simp only [Act.put, List.setIfInBounds_toArray, List.set_cons_zero, List.set_cons_succ]
      refine wpAnyH_ready (rs := [4]) (by kernel_rfl) (by simp) ?_
      refine AllReadyH.cons (o := _) (by (simp only [List.getElem?_toArray, List.getElem?_cons_succ, List.getElem?_cons_zero]; rfl)) (fun K hK => ?_) AllReadyH.nil
      refine step_push_val2 rfl (.tmp 16) (.tmp 18) _ rfl bb 26 i1 Try.underlying23 hi1 hz0' rfl hz1' hz2' (by omega) (.slice av k cv) k us (by rfl) ht2 (.slice (some ⟨wr.heap.size, 0, none⟩) 4 4) rfl (wr.heap.size + 1) (by rfl) hca (by omega) (by have := c2.size; omega) ?_; intro v7 w7 hown7 hg7; obtain ⟨g7, cap7, e7⟩ := own_sliceV hown7; subst e7
      refine hK.out _ _ ?_ (fun hHeld => ?_)
      · exact hg7.cell (HS.out _ c2) (fun e => by have := hne _ e.symm; have : lb < lb := this; omega)
      clear hK K
      try simp only [Act.put, List.setIfInBounds_toArray, List.set_cons_zero, List.set_cons_succ]
      refine wpAnyH_take (i := 5) (oi := ?oi5h3) (v := ?v5h3) ?hi5h3 (by kernel_rfl) ?hf5h3 (by kernel_rfl) ?hQ5h3 ?hy5h3 (by assumption) ?rest5h3
      case hi5h3 => (simp only [List.getElem?_toArray, List.getElem?_cons_succ, List.getElem?_cons_zero]; rfl)
      case hf5h3 => kernel_rfl
      case hQ5h3 => exact fun _ _ _ h => h
      case hy5h3 => (refine Or.inl ⟨by rfl, ?_⟩; intro W hSw; (try dsimp only at hSw); go_simp; try with_reducible rfl)
      try simp only [Act.put, List.setIfInBounds_toArray, List.set_cons_zero, List.set_cons_succ]
      have hc7 := hg7.cell (HS.out _ c2) (fun e => by have := hne _ e.symm; have : lb < lb := this; omega)
      have hf7 : w7.frozen? ⟨lb, 1, none⟩ = false := (World.frozen?_of_block (a := ⟨lb, 1, none⟩) (hg7.block lb (by have := c2.size; omega) (fun e => by have := hne _ e.symm; omega))).trans ((c2.frozen (p := ⟨lb, 1, none⟩) (show lb < wr.heap.size by omega)).trans hf1)
      have hc70 := hg7.cell (cell_below hc0 c2) (fun e => by have := hne _ e.symm; have : lb < lb := this; omega)
      refine wpAnyH_done (by kernel_rfl) ?_ _
      clear hHeld
      refine last_of ?_
      refine wpOp_step (o := _) (by (simp only [List.getElem?_toArray, List.getElem?_cons_succ, List.getElem?_cons_zero]; rfl)) (fun K hK => ?_)
      go_simp
      refine hK _ _ ?_
      clear hK K
      try simp only [Act.put, List.setIfInBounds_toArray, List.set_cons_zero, List.set_cons_succ]
      have HP7 := hid_ (OwnRw.push (r := [0, 0, 0, 0]) hzb hO c1 o1 (by rw [hkl]; exact hown7) hg7)
      have Hb7 : Hid (Below lb u5 w7) := hid_ (((hbr.trans (c2.mono (Nat.le_of_lt (Nat.lt_of_lt_of_le hlbb hzb)))).grown hg7 (by have := c2.size; omega) (fun b q => Nat.le_of_lt (hne b q))))
      have Hth : Hid (threeF (k + 1) = threeF k ++ [[0, 0, 0, 0]]) := hid_ List.replicate_succ'
      have Hlt7 := hid_ hlbb
      have Hc70 := hid_ hc70
      clear hown7 hg7 ht2 hO o1 c1 c2 hca hc70 hc1 hc0 hf1
      go_wp2
      go_roundw
      case rel => exact ⟨k + 1, _, _, by omega, by go_num, World.cell?_setCell_same _ _ _ hc7, by rw [World.frozen?_setCell]; exact hf7, by rw [World.cell?_setCell_other _ _ _ _ (by simp)]; exact Hc70.out, by rw [Hth.out]; exact OwnRw.store HP7.out (p := ⟨lb, 1, none⟩) Hlt7.out _, Below.setCell (p := ⟨lb, 1, none⟩) Hb7.out (Nat.le_refl _) _⟩
      case measure => simp [intOf]; omega
    · have hle : ¬ (k : Int) ≤ 3 := by omega
      obtain rfl : k = 4 := by omega
      obtain ⟨av, cv, hv, hli⟩ := hO.lists
      have hkl : (threeF 4).length = 4 := rfl
      rw [hkl] at hv hli
      subst hv
      have hsl : s < lb := by rw [Hlb.out]; omega
      have t0 := (hbr.cell (p := ⟨s, 0, none⟩) hsl).trans s0
      have t1 := (hbr.cell (p := ⟨s, 1, none⟩) hsl).trans s1
      have tf0 := (hbr.frozen (p := ⟨s, 0, none⟩) hsl).trans sf0
      have tf1 := (hbr.frozen (p := ⟨s, 1, none⟩) hsl).trans sf1
      have HIr := hid_ (HI.out.below (Hb5.out.trans (hbr.mono (by rw [H4.out]; exact Nat.le_refl _))) (Nat.le_refl _))
      have HOr := hid_ hO
      have Hli := hid_ hli
      have Hb1 : Hid (Below w.heap.size w wr) := hid_ (Hb.out.trans (hbr.mono (by rw [hs]; exact Nat.le_of_lt hsl)))
      clear hli hO s0 s1 sf0 sf1
      go_wp2
      obtain ⟨we, hwe⟩ : ∃ we, (wr.setCell ⟨s, 0, none⟩ (.slice (some ⟨u3.heap.size, 0, none⟩) 3 3)).setCell ⟨s, 1, none⟩ (.slice av 4 cv) = we := ⟨_, rfl⟩
      rw [hwe]
      have e0 : we.cell? ⟨s, 0, none⟩ = some (.slice (some ⟨u3.heap.size, 0, none⟩) 3 3) := by rw [← hwe, World.cell?_setCell_other _ _ _ _ (by simp)]; exact World.cell?_setCell_same _ _ _ t0
      have e1 : we.cell? ⟨s, 1, none⟩ = some (.slice av 4 cv) := by rw [← hwe]; exact World.cell?_setCell_same _ _ _ (by rw [World.cell?_setCell_other _ _ _ _ (by simp)]; exact t1)
      refine bodyPost_ret (v := .agg #[.slice (some ⟨u3.heap.size, 0, none⟩) 3 3, .slice av 4 cv]) ?_ rfl ⟨_, rfl, ⟨_, _, _, _, _, _, rfl, ?_, ?_⟩, ?_⟩
      · simp [results, Try.results25, go_sem, e0, e1]
      · have h3 : s ≠ u3.heap.size := by rw [Hz3.out]; omega
        rw [← hwe]
        exact ItemsAt.setOther (ItemsAt.setOther HIr.out t0 (fun x => by simp) (fun b off e => by injection e with e; injection e with e _; rw [← e]; exact h3)) (by rw [World.cell?_setCell_other _ _ _ _ (by simp)]; exact t1) (fun x => by simp) (fun b off e => by injection e with e; injection e with e _; rw [← e]; exact h3)
      · have hsb : s < bb := by rw [Hbb.out]; omega
        obtain ⟨a9, c9, e9, h9⟩ := (OwnRw.store (OwnRw.store HOr.out (p := ⟨s, 0, none⟩) hsb (.slice (some ⟨u3.heap.size, 0, none⟩) 3 3)) (p := ⟨s, 1, none⟩) hsb (.slice av 4 cv)).lists
        rw [hkl] at e9 h9
        injection e9 with e9 _ e10
        subst e9; subst e10
        rw [← hwe]; exact h9
      · rw [← hwe]; exact Below.setCell (p := ⟨s, 1, none⟩) (Below.setCell (p := ⟨s, 0, none⟩) (hs ▸ Hb1.out) (Nat.le_refl _) _) (Nat.le_refl _) _
end Go.Proofs.Ytgpenbajhndhiaa
