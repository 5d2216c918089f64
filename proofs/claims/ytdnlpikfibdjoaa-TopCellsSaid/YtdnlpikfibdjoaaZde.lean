import Derived.Test.YtdnlpikfibdjoaaZdd
namespace Go.Proofs.Ytdnlpikfibdjoaa
open Go.RowKit Go.Proofs.Kv Go

/-- v is a paradigm in new memory -/
def MadeP6 (w w' : World) (v : Value) (P : Par) : Prop := ∃ u x, v = .agg #[u, x] ∧ SpecV w' w.heap.size x.ownBlock u P.sizes ∧ OwnE w' w.heap.size x P.ents ∧ Below w.heap.size w w'
set_option maxRecDepth 100000 in
set_option maxHeartbeats 8000000 in
theorem copied_calls (v : Value) (P : Par) (w : World) (h : ParAt w v P) (hs3 : P.sizes.length ≤ 1000) (h50 : P.ents.length ≤ 1000) (hsp : ∀ k, k < P.ents.length → (P.ents.getD k E0).spec.length ≤ 1000) :
    Calls Try.prog 57 #[v] w fun e w' => ∃ v', e = .returned v' ∧ MadeP6 w w' v' P := by
  have HP := hid_ h
  obtain ⟨a1, n1, c1, a2, n2, c2, rfl, h1, h2⟩ := h
  obtain ⟨w1, hw1⟩ : ∃ w1, w.alloc (.cells #[.slice a1 n1 c1, .slice a2 n2 c2] 25) = w1 := ⟨_, rfl⟩
  have cb : Below w.heap.size w w1 := by rw [← hw1]; exact below_alloc _ _
  have q0 : w1.cell? ⟨w.heap.size, 0, none⟩ = some (.slice a1 n1 c1) := by rw [← hw1]; exact cells_alloc _ _ _ 0
  have q1 : w1.cell? ⟨w.heap.size, 1, none⟩ = some (.slice a2 n2 c2) := by rw [← hw1]; exact cells_alloc _ _ _ 1
  have HP1 := hid_ (HP.out.below cb (Nat.le_refl _)); have Hc1 := hid_ cb
  obtain ⟨w2, hw2⟩ : ∃ w2, w1.alloc (.cells #[.slice none 0 0, .slice none 0 0] 25) = w2 := ⟨_, rfl⟩
  have z1 : w1.heap.size = w.heap.size + 1 := by rw [← hw1]; simp
  have z2 : w2.heap.size = w.heap.size + 2 := by rw [← hw2]; simp [z1]
  have b2 : Below w1.heap.size w1 w2 := by rw [← hw2]; exact below_alloc _ _
  have r0 : w2.cell? ⟨w.heap.size + 1, 0, none⟩ = some (.slice none 0 0) := by rw [← z1, ← hw2]; exact cells_alloc _ _ _ 0
  have r1 : w2.cell? ⟨w.heap.size + 1, 1, none⟩ = some (.slice none 0 0) := by rw [← z1, ← hw2]; exact cells_alloc _ _ _ 1
  have f0 : ∀ j, w2.frozen? ⟨w.heap.size + 1, j, none⟩ = false := fun j => by rw [← z1, ← hw2]; exact World.frozen?_alloc_at _ _ _ _ (by simp)
  have q02 := cell_below q0 b2; have q12 := cell_below q1 b2
  have hn := h1.len
  have hn2 : n2 ≤ 9223372036854775807 := Nat.le_trans h2.le h2.small
  have hln := h2.len
  have H1 := hid_ ((h1.below cb (Nat.le_refl _)).below b2 (Nat.le_refl _))
  have H2 := hid_ ((h2.below cb (Nat.le_refl _)).below b2 (Nat.le_refl _))
  have HC := hid_ (clone_calls a1 n1 c1 _ w2 H1.out (by omega))
  have Hb2 : Hid (Below w.heap.size w w2) := hid_ (Hc1.out.trans (b2.mono Hc1.out.size))
  have Hn1 := hid_ hn
  clear h1 h2 cb hn b2 q0 q1
  go_enter Try.func57, Try.ntmps57
  go_wp2_with (go_at_call 109; (with_reducible refine HC.out.mono ?_); rintro e w3 ⟨v3, rfl, hm3⟩; obtain ⟨a3, c3, rfl, -⟩ := hm3.at_; have hb3 := hm3.bel; have q03 := cell_below q02 hb3; have q13 := cell_below q12 hb3; have hz3 : w.heap.size < w3.heap.size := (by have := hb3.size; omega); rw [Hn1.out] at hm3 ⊢; have q14 := cell_below q13 (below_alloc w3 (.cells #[.slice a3 n1 c3, .slice none 0 0] 25)))
  have Hm3 := hid_ hm3
  have Hb3 := hid_ hb3
  have E4 : ∀ j, (w3.alloc (.cells #[.slice a3 n1 c3, .slice none 0 0] 25)).frozen? ⟨w3.heap.size, j, none⟩ = false := fun j => World.frozen?_alloc_at _ _ _ _ (by simp)
  have Hr0 := hid_ (cell_below r0 hb3); have Hr1 := hid_ (cell_below r1 hb3)
  have Hf := hid_ (fun j => (hb3.frozen (p := ⟨w.heap.size + 1, j, none⟩) (by show w.heap.size + 1 < w2.heap.size; omega)).trans (f0 j))
  have Hln := hid_ hln
  have hn50 : n2 ≤ 1000 := by omega
  have Hsp := hid_ hsp
  have hz5 : w.heap.size + 2 ≤ w3.heap.size := by have := hb3.size; omega
  clear hm3 hb3 r0 r1 f0 q02 q12 hw1 hw2 hsp hln h50
  go_loopw [13] (fun i wr => ∃ k : Nat, ∃ x : Value, k ≤ n2 ∧ i = .int .i64 k ∧ (Below w3.heap.size w3 wr ∧ w3.heap.size + 1 ≤ wr.heap.size) ∧ (wr.cell? ⟨w3.heap.size, 0, none⟩ = some (.slice a3 n1 c3) ∧ CF ⟨w3.heap.size, 1, none⟩ x wr) ∧ OwnE wr (w3.heap.size + 1) x (P.ents.take k)) (fun i _ => n2 - (intOf i).toNat)
  case atStart => exact ⟨0, .slice none 0 0, Nat.zero_le _, rfl, ⟨below_alloc _ _, by simp⟩, ⟨cells_alloc _ _ _ 0, cells_alloc _ _ _ 1, E4 1⟩, OwnE.nil _ _⟩
  case round =>
    clear E4
    obtain ⟨k, x, hk, rfl, ⟨hb, hsz⟩, ⟨hc0, hc1, hc1f⟩, hown⟩ := hrel
    by_cases hlt : k < n2
    · obtain ⟨b, off, a5, n5, c5, rfl, hbl, k0, k1, hi⟩ := ((H2.out.below Hb3.out (Nat.le_refl _)).below hb (Nat.le_refl _)).cells k hlt
      have hl5 : n5 ≤ 1000 := by rw [← hi.len]; exact Hsp.out k (by rw [Hln.out]; exact hlt)
      have Hsn : Hid (P.ents.take (k + 1) = P.ents.take k ++ [P.ents.getD k E0]) := hid_ (take_snoc _ E0 k (by rw [Hln.out]; exact hlt))
      have Hl1 : Hid ((P.ents.take k ++ [P.ents.getD k E0]).length = k + 1) := hid_ (by rw [← Hsn.out, List.length_take, Hln.out]; omega)
      have Hlk : Hid ((P.ents.take k).length + 1 ≤ 100000) := hid_ (by rw [List.length_take]; omega)
      generalize hen : P.ents.getD k E0 = en at *
      clear hen
      obtain ⟨l, fm⟩ := en
      dsimp only at hi k1
      obtain ⟨wb, hwb⟩ : ∃ wb, wr.alloc (.cells #[.slice a5 n5 c5, .int .i64 fm] 39) = wb := ⟨_, rfl⟩
      have bb : Below wr.heap.size wr wb := by rw [← hwb]; exact below_alloc _ _
      have zb : wb.heap.size = wr.heap.size + 1 := by rw [← hwb]; simp
      have e0 : wb.cell? ⟨wr.heap.size, 0, none⟩ = some (.slice a5 n5 c5) := by rw [← hwb]; exact cells_alloc _ _ _ 0
      have e1 : wb.cell? ⟨wr.heap.size, 1, none⟩ = some (.int .i64 fm) := by rw [← hwb]; exact cells_alloc _ _ _ 1
      have d0 := cell_below hc0 bb; have d1 := cell_below hc1 bb
      have d1f : wb.frozen? ⟨w3.heap.size, 1, none⟩ = false := (bb.frozen (p := ⟨w3.heap.size, 1, none⟩) (by show w3.heap.size < _; omega)).trans hc1f
      have HCE := hid_ (copiedEntry_calls a5 n5 c5 l fm wb.drew ((hi.below bb (Nat.le_refl _)).drewN 1) hl5)
      have HOw := hid_ (hown.next bb)
      have HOl := hid_ (fun q hq => (hown.lt q hq).2)
      have Hbb := hid_ (hb.trans (bb.mono (by omega)))
      have hsb : w3.heap.size + 1 ≤ wb.heap.size := by omega
      clear hi hown hc1f
      go_wp2_with fail
      refine wp_region_last (n := 7) (S := fun W' => W'.cell? ⟨w3.heap.size, 1, none⟩ = some x ∧ W'.cell? ⟨wr.heap.size, 0, none⟩ = some (.slice a5 n5 c5) ∧ W'.cell? ⟨wr.heap.size, 1, none⟩ = some (.int .i64 fm)) (by kernel_rfl) (by kernel_rfl) ⟨d1, e0, e1⟩ (fun hHeld => ?_)
      refine wpAnyH_take (i := 0) (oi := ?oi0h1) (v := ?v0h1) ?hi0h1 (by kernel_rfl) ?hf0h1 (by kernel_rfl) ?hQ0h1 ?hy0h1 (by assumption) ?rest0h1
      case hi0h1 => (simp only [List.getElem?_toArray, List.getElem?_cons_zero]; rfl)
      case hf0h1 => kernel_rfl
      case hQ0h1 => exact fun _ _ _ h => h
      case hy0h1 => (refine Or.inl ⟨by rfl, ?_⟩; intro W hSw; (try dsimp only at hSw); go_simp; try with_reducible rfl)
      try simp only [Act.put, List.setIfInBounds_toArray, List.set_cons_zero, List.set_cons_succ]
      refine wpAnyH_take (i := 1) (oi := ?oi1h2) (v := ?v1h2) ?hi1h2 (by kernel_rfl) ?hf1h2 (by kernel_rfl) ?hQ1h2 ?hy1h2 (by assumption) ?rest1h2
      case hi1h2 => (simp only [List.getElem?_toArray, List.getElem?_cons_succ, List.getElem?_cons_zero]; rfl)
      case hf1h2 => kernel_rfl
      case hQ1h2 => exact fun _ _ _ h => h
      case hy1h2 => (refine Or.inl ⟨by rfl, ?_⟩; intro W hSw; (try dsimp only at hSw); obtain ⟨g0, g1, g2⟩ := hSw; go_simp; try with_reducible rfl)
      try simp only [Act.put, List.setIfInBounds_toArray, List.set_cons_zero, List.set_cons_succ]
      refine wpAnyH_take (i := 2) (oi := ?oi2h3) (v := ?v2h3) ?hi2h3 (by kernel_rfl) ?hf2h3 (by kernel_rfl) ?hQ2h3 ?hy2h3 (by assumption) ?rest2h3
      case hi2h3 => (simp only [List.getElem?_toArray, List.getElem?_cons_succ, List.getElem?_cons_zero]; rfl)
      case hf2h3 => kernel_rfl
      case hQ2h3 => exact fun _ _ _ h => h
      case hy2h3 => (refine Or.inl ⟨by rfl, ?_⟩; intro W hSw; (try dsimp only at hSw); obtain ⟨g0, g1, g2⟩ := hSw; go_simp; try with_reducible rfl)
      try simp only [Act.put, List.setIfInBounds_toArray, List.set_cons_zero, List.set_cons_succ]
      refine wpAnyH_ready (rs := [3]) (by kernel_rfl) (by simp) ?_
      refine AllReadyH.cons (o := _) (by (simp only [List.getElem?_toArray, List.getElem?_cons_succ, List.getElem?_cons_zero]; rfl)) (fun K hK => ?_) AllReadyH.nil
      go_simp
      with_reducible refine HCE.out.mono ?_; rintro e w5 ⟨v5, rfl, hm5⟩; obtain ⟨a6, c6, rfl, hi6⟩ := hm5.at_
      refine hK.out _ _ ?_ (fun hHeld => ?_)
      · exact ⟨cell_below (w := wb.drew) d1 hm5.bel, cell_below (w := wb.drew) e0 hm5.bel, cell_below (w := wb.drew) e1 hm5.bel⟩
      clear hK K
      try simp only [Act.put, List.setIfInBounds_toArray, List.set_cons_zero, List.set_cons_succ]
      refine wpAnyH_ready (rs := [4]) (by kernel_rfl) (by simp) ?_
      refine AllReadyH.cons (o := _) (by (simp only [List.getElem?_toArray, List.getElem?_cons_succ, List.getElem?_cons_zero]; rfl)) (fun K hK => ?_) AllReadyH.nil
      go_simp
      refine hK.out _ _ ?_ (fun hHeld => ?_)
      · exact ⟨cell_below (cell_below (w := wb.drew) d1 hm5.bel) (below_alloc _ _), cell_below (cell_below (w := wb.drew) e0 hm5.bel) (below_alloc _ _), cell_below (cell_below (w := wb.drew) e1 hm5.bel) (below_alloc _ _)⟩
      clear hK K
      try simp only [Act.put, List.setIfInBounds_toArray, List.set_cons_zero, List.set_cons_succ]
      have hs5 : wb.heap.size ≤ w5.heap.size := hm5.bel.size
      have bw5 : Below wb.heap.size wb w5 := (Below.drew (Below.refl _ _)).trans hm5.bel
      have bw6 := bw5.alloc bw5.size (.cells #[.slice a6 l.length c6, .int .i64 fm] 39)
      have hO6 : OwnE (w5.alloc (.cells #[.slice a6 l.length c6, .int .i64 fm] 39)) (w3.heap.size + 1) x (P.ents.take k) := HOw.out.next bw6
      have hSp : SpecV (w5.alloc (.cells #[.slice a6 l.length c6, .int .i64 fm] 39)) (w3.heap.size + 1) x.ownBlock (.slice a6 l.length c6) l := (((SpecV.made hm5).next (below_alloc _ _)).lo x.ownBlock (fun q hq => (HOw.out.lt q hq).2)).base (show w3.heap.size + 1 ≤ wb.heap.size from hsb)
      have hne : ∀ q, x.ownBlock = some q → w3.heap.size + 1 ≤ q := fun q hq => (HOw.out.lt q hq).1
      have y0 := cell_below (cell_below (w := wb.drew) d0 hm5.bel) (below_alloc w5 (.cells #[.slice a6 l.length c6, .int .i64 fm] 39))
      have y1 := cell_below (cell_below (w := wb.drew) d1 hm5.bel) (below_alloc w5 (.cells #[.slice a6 l.length c6, .int .i64 fm] 39))
      have y2 := cell_below (cell_below (w := wb.drew) e0 hm5.bel) (below_alloc w5 (.cells #[.slice a6 l.length c6, .int .i64 fm] 39))
      have y3 := cell_below (cell_below (w := wb.drew) e1 hm5.bel) (below_alloc w5 (.cells #[.slice a6 l.length c6, .int .i64 fm] 39))
      refine wpAnyH_ready (rs := [5]) (by kernel_rfl) (by simp) ?_
      refine AllReadyH.cons (o := _) (by (simp only [List.getElem?_toArray, List.getElem?_cons_succ, List.getElem?_cons_zero]; rfl)) (fun K hK => ?_) AllReadyH.nil
      refine step_append_ent rfl (.tmp 18) (.tmp 21) rfl (w3.heap.size + 1) x (P.ents.take k) (by rfl) hO6 ⟨w5.heap.size, 0, none⟩ 1 (.slice a6 l.length c6, fm) ⟨l, fm⟩ (by rfl) (cells_new2 _ _ _ _) hSp rfl Hlk.out (by simp; omega) ?_; intro v6 w6 hown6 hg6 hat6
      refine hK.out _ _ ?_ (fun hHeld => ?_)
      · exact ⟨hg6.cell y1 (fun e => by have : w3.heap.size + 1 ≤ w3.heap.size := hne _ e.symm; omega), hg6.cell y2 (fun e => by have : wr.heap.size < wr.heap.size := HOl.out _ e.symm; omega), hg6.cell y3 (fun e => by have : wr.heap.size < wr.heap.size := HOl.out _ e.symm; omega)⟩
      clear hK K
      try simp only [Act.put, List.setIfInBounds_toArray, List.set_cons_zero, List.set_cons_succ]
      refine wpAnyH_take (i := 6) (oi := ?oi6h4) (v := ?v6h4) ?hi6h4 (by kernel_rfl) ?hf6h4 (by kernel_rfl) ?hQ6h4 ?hy6h4 (by assumption) ?rest6h4
      case hi6h4 => (simp only [List.getElem?_toArray, List.getElem?_cons_succ, List.getElem?_cons_zero]; rfl)
      case hf6h4 => kernel_rfl
      case hQ6h4 => exact fun _ _ _ h => h
      case hy6h4 => (refine Or.inl ⟨by rfl, ?_⟩; intro W hSw; (try dsimp only at hSw); go_simp; try with_reducible rfl)
      try simp only [Act.put, List.setIfInBounds_toArray, List.set_cons_zero, List.set_cons_succ]
      have B6 : Below (w3.heap.size + 1) wb w6 := Below.grown (bw6.mono hsb) hg6 (by simp; omega) (fun r e => hne r e)
      have c0 : w6.cell? ⟨w3.heap.size, 0, none⟩ = some (.slice a3 n1 c3) := (B6.cell (p := ⟨w3.heap.size, 0, none⟩) (by show w3.heap.size < _; omega)).trans d0
      have c1 : w6.cell? ⟨w3.heap.size, 1, none⟩ = some x := (B6.cell (p := ⟨w3.heap.size, 1, none⟩) (by show w3.heap.size < _; omega)).trans d1
      have c1f : w6.frozen? ⟨w3.heap.size, 1, none⟩ = false := (B6.frozen (p := ⟨w3.heap.size, 1, none⟩) (by show w3.heap.size < _; omega)).trans d1f
      have hs6 : w3.heap.size + 1 ≤ w6.heap.size := Nat.le_trans hsb B6.size
      have Hb6 := hid_ (Hbb.out.trans (B6.mono (by omega)))
      clear bw5 bw6 hO6 hSp hm5 hi6 hg6 hat6 y0 y1 y2 y3
      obtain ⟨a7, c7, hv6, -⟩ := hown6.at_
      rw [Hl1.out] at hv6
      subst hv6
      have Hown6 := hid_ hown6
      clear hown6
      refine wpAnyH_done (by kernel_rfl) ?_ _
      clear hHeld
      refine last_of ?_
      refine wpOp_step (o := _) (by (simp only [List.getElem?_toArray, List.getElem?_cons_succ, List.getElem?_cons_zero]; rfl)) (fun K hK => ?_)
      go_simp
      refine hK _ _ ?_
      clear hK K
      try simp only [Act.put, List.setIfInBounds_toArray, List.set_cons_zero, List.set_cons_succ]
      go_wp2
      go_roundw
      case rel =>
        refine ⟨k + 1, .slice a7 (k + 1) c7, by omega, by go_num, ⟨Hb6.out.setCell (p := ⟨w3.heap.size, 1, none⟩) (by show _ ≤ w3.heap.size; omega) _, by simpa using hs6⟩, ⟨?_, ?_, ?_⟩, ?_⟩
        rotate_left
        · rw [World.cell?_setCell_same _ _ _ c1]
        · rw [World.frozen?_setCell]; exact c1f
        · rw [Hsn.out]; exact Hown6.out.store (by show w3.heap.size < _; omega) _
        · rw [World.cell?_setCell_other _ _ _ _ (by simp)]; exact c0
      case measure => simp [intOf]; omega
    · obtain rfl : n2 = k := by omega
      have hta : P.ents.take n2 = P.ents := by rw [← Hln.out, List.take_length]
      rw [hta] at hown
      obtain ⟨a8, c8, hx8, -⟩ := hown.at_
      rw [Hln.out] at hx8
      subst hx8
      have y0 : wr.cell? ⟨w.heap.size + 1, 0, none⟩ = some (.slice none 0 0) := cell_below Hr0.out hb
      have y1 : wr.cell? ⟨w.heap.size + 1, 1, none⟩ = some (.slice none 0 0) := cell_below Hr1.out hb
      have x0 : wr.frozen? ⟨w.heap.size + 1, 0, none⟩ = false := (hb.frozen (p := ⟨w.heap.size + 1, 0, none⟩) (by show w.heap.size + 1 < w3.heap.size; omega)).trans (Hf.out 0)
      have x1 : wr.frozen? ⟨w.heap.size + 1, 1, none⟩ = false := (hb.frozen (p := ⟨w.heap.size + 1, 1, none⟩) (by show w.heap.size + 1 < w3.heap.size; omega)).trans (Hf.out 1)
      obtain ⟨t0, t1⟩ : (((wr.setCell ⟨w.heap.size + 1, 0, none⟩ (.slice a3 n1 c3)).setCell ⟨w.heap.size + 1, 1, none⟩ (.slice a8 n2 c8)).cell? ⟨w.heap.size + 1, 0, none⟩ = some (.slice a3 n1 c3)) ∧ (((wr.setCell ⟨w.heap.size + 1, 0, none⟩ (.slice a3 n1 c3)).setCell ⟨w.heap.size + 1, 1, none⟩ (.slice a8 n2 c8)).cell? ⟨w.heap.size + 1, 1, none⟩ = some (.slice a8 n2 c8)) := by
        refine ⟨?_, ?_⟩
        · rw [World.cell?_setCell_other _ _ _ _ (by simp), World.cell?_setCell_same _ _ _ y0]
        · rw [World.cell?_setCell_same _ _ _ (by rw [World.cell?_setCell_other _ _ _ _ (by simp)]; exact y1)]
      have Hown := hid_ hown
      have Hb := hid_ hb
      clear hown hb hta
      go_wp2
      refine bodyPost_ret (v := .agg #[.slice a3 n1 c3, .slice a8 n2 c8]) ?_ rfl ⟨_, rfl, ⟨_, _, rfl, ?_, ?_, ?_⟩⟩
      · simp [results, Try.results57, go_sem, t0, t1]
      · have hp : w.heap.size + 1 < w2.heap.size := by omega
        exact (((((SpecV.made Hm3.out).hi (Value.slice a8 n2 c8).ownBlock (fun q hq => by have := (Hown.out.lt q hq).1; omega)).next Hb.out).store (p := ⟨w.heap.size + 1, 0, none⟩) hp _).store (p := ⟨w.heap.size + 1, 1, none⟩) hp _).base (by omega)
      · have hp : w.heap.size + 1 < w3.heap.size + 1 := by omega
        exact ((Hown.out.store (p := ⟨w.heap.size + 1, 0, none⟩) hp _).store (p := ⟨w.heap.size + 1, 1, none⟩) hp _).base (by omega)
      · have hf : Below w.heap.size w wr := Hb2.out.trans ((Hb3.out.trans (Hb.out.mono Hb3.out.size)).mono Hb2.out.size)
        exact (hf.setCell (p := ⟨w.heap.size + 1, 0, none⟩) (by show _ ≤ _ + 1; omega) _).setCell (p := ⟨w.heap.size + 1, 1, none⟩) (by show _ ≤ _ + 1; omega) _
end Go.Proofs.Ytdnlpikfibdjoaa
