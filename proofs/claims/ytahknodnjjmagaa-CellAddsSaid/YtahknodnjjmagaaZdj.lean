import Derived.Test.YtahknodnjjmagaaZdi
import Derived.Test.YtahknodnjjmagaaZj
namespace Go.Proofs.Ytahknodnjjmagaa
open Go.RowKit Go.Proofs.Kv Go

/-! ### Swap of the document -/
theorem far_two (w : World) {a : Addr} {d : Nat} (h : ¬ a.block = d) (u v : Value) : ((w.setCell ⟨d, 0, none⟩ u).setCell ⟨d, 1, none⟩ v).cell? a = w.cell? a := by
  rw [World.cell?_setCell_other _ _ _ _ (fun e => h (by rw [← e])), World.cell?_setCell_other _ _ _ _ (fun e => h (by rw [← e]))]
set_option maxRecDepth 100000 in
set_option maxHeartbeats 8000000 in
theorem r6Swap_calls (v : Value) (P : Par) (i j : Int) (w : World) (h : ParAt w v P) :
    Calls Try.prog 62 #[v, .int .i64 i, .int .i64 j] w fun e w' => ∃ v', e = .returned (.tuple #[v', .int .i64 (errN P [i, j])]) ∧ MadeP6 w w' v' (resSwap P i j) := by
  have HP := hid_ h
  obtain ⟨a1, n1, c1, a2, n2, c2, rfl, h1, h2⟩ := h
  obtain ⟨w1, hw1⟩ : ∃ w1, w.alloc (.cells #[.slice a1 n1 c1, .slice a2 n2 c2] 25) = w1 := ⟨_, rfl⟩
  have cb : Below w.heap.size w w1 := by rw [← hw1]; exact below_alloc _ _
  have q0 : w1.cell? ⟨w.heap.size, 0, none⟩ = some (.slice a1 n1 c1) := by rw [← hw1]; exact cells_alloc _ _ _ 0
  have q1 : w1.cell? ⟨w.heap.size, 1, none⟩ = some (.slice a2 n2 c2) := by rw [← hw1]; exact cells_alloc _ _ _ 1
  have HP1 := hid_ (HP.out.below cb (Nat.le_refl _)); have Hc1 := hid_ cb
  obtain ⟨w2, hw2⟩ : ∃ w2, w1.alloc (.cells #[.slice none 0 0, .slice none 0 0] 25) = w2 := ⟨_, rfl⟩
  have z1 : w1.heap.size = w.heap.size + 1 := by rw [← hw1]; simp
  have z2 : w2.heap.size = w.heap.size + 2 := by rw [← hw2]; simp [z1]
  have b2 : Below w1.heap.size w1 w2 := by rw [← hw2]; exact below_alloc _ _
  have r0 : w2.cell? ⟨w.heap.size + 1, 0, none⟩ = some (.slice none 0 0) := by rw [← z1, ← hw2]; exact cells_alloc _ _ _ 0
  have r1 : w2.cell? ⟨w.heap.size + 1, 1, none⟩ = some (.slice none 0 0) := by rw [← z1, ← hw2]; exact cells_alloc _ _ _ 1
  have f0 : ∀ j, w2.frozen? ⟨w.heap.size + 1, j, none⟩ = false := fun j => by rw [← z1, ← hw2]; exact World.frozen?_alloc_at _ _ _ _ (by simp)
  have q02 := cell_below q0 b2; have q12 := cell_below q1 b2
  have HP2 := hid_ (HP1.out.below b2 (Nat.le_refl _))
  have HE := hid_ (numbered_calls _ P i j w2 HP2.out)
  have HR : Hid (resSwap P i j = if errN P [i, j] = 0 then swapP P i.toNat j.toNat else ⟨[], []⟩) := hid_ rfl
  have Hb2 : Hid (Below w.heap.size w w2) := hid_ (Hc1.out.trans (b2.mono Hc1.out.size))
  have hln := h2.len
  have Z2 := hid_ z2
  have hwz : w.heap.size + 2 ≤ w2.heap.size := by omega
  clear h1 h2 cb b2 q0 q1 z2
  by_cases he : errN P [i, j] = 0
  · obtain ⟨hv, hi, hj⟩ := errN_ok he
    obtain ⟨i', rfl, hi'⟩ := isNo_ok hi
    obtain ⟨j', rfl, hj'⟩ := isNo_ok hj
    have Hf : Hid (resSwap P i' j' = swapP P i' j') := hid_ (by rw [HR.out, if_pos he, Int.toNat_natCast, Int.toNat_natCast])
    obtain ⟨-, -, h10, hent⟩ := validP_ok hv
    have h3 := (validP_ok hv).1.2
    have HC := hid_ (fun W (hW : Below w2.heap.size w2 W) => r6Copy_calls _ P W (HP2.out.below hW (Nat.le_refl _)) (by omega) (by omega) (fun k hk => by have := (specB_ok (hent k hk).1).1; omega))
    have Hi := hid_ hi'; have Hj := hid_ hj'
    have hi2 : i' < n2 := by omega
    have hj2 : j' < n2 := by omega
    have h10' : n2 ≤ 10 := by omega
    have Hln := hid_ hln
    rw [he] at HE ⊢
    rw [Hf.out]
    clear he hv hi hj hent h10 h3 hi' hj' HR hln
    go_enter Try.func62, Try.ntmps62
    go_wp2_with (first
      | (go_at_call 84; (with_reducible refine HE.out.mono ?_); rintro e w3 ⟨rfl, hb3⟩; have q03 := cell_below q02 hb3; have q13 := cell_below q12 hb3)
      | (go_at_call 55; (with_reducible refine (HC.out _ hb3).mono ?_); rintro e w4 ⟨v4, rfl, u4, x4, rfl, hu4, hx4, hb4⟩; obtain ⟨a3, n3, c3, rfl, -⟩ := hu4.ints; obtain ⟨g, c4, -, -, -, rfl, -⟩ := hx4.get i' Hi.out; rw [Hln.out]))
    obtain ⟨W, hW⟩ : ∃ W, w4.alloc (.cells #[.slice a3 n3 c3, .slice (some ⟨g, 0, none⟩) n2 c4] 25) = W := ⟨_, rfl⟩
    rw [hW]
    have bW : Below w4.heap.size w4 W := by rw [← hW]; exact below_alloc _ _
    have t0 : W.cell? ⟨w4.heap.size, 0, none⟩ = some (.slice a3 n3 c3) := by rw [← hW]; exact cells_alloc _ _ _ 0
    have t1 : W.cell? ⟨w4.heap.size, 1, none⟩ = some (.slice (some ⟨g, 0, none⟩) n2 c4) := by rw [← hW]; exact cells_alloc _ _ _ 1
    have hx := hx4.next bW

    have hown := hx
    obtain ⟨g', c', ai, ni, ci, ei, hgB, hgl, x0, x1, hsi, hfr⟩ := hx.get i' Hi.out
    injection ei with ei _ ei2
    injection ei with ei
    injection ei with ei
    subst ei ei2
    obtain ⟨g', c', aj, nj, cj, ej, -, -, y0, y1, hsj, -⟩ := hx.get j' Hj.out
    injection ej with ej _ ej2
    injection ej with ej
    injection ej with ej
    subst ej ej2

    have hgw : g < w4.heap.size := by
      have := hx4.lt g rfl
      exact this.2
    have hne1 : ¬ g = w4.heap.size := by omega
    have hne2 : ¬ w4.heap.size = g := by omega
    have Hx4 := hid_ hx4; have Hu4 := hid_ hu4; have HbW := hid_ bW; have Hb4 := hid_ hb4; have Hb3 := hid_ hb3; have Hown := hid_ hown; have Hsi := hid_ hsi; have Hsj := hid_ hsj
    have f1 := hfr (i' * 2); have f2 := hfr (i' * 2 + 1); have f3 := hfr (j' * 2); have f4 := hfr (j' * 2 + 1)
    generalize hfi : (P.ents.getD i' E0).form = fi at *
    generalize hfj : (P.ents.getD j' E0).form = fj at *
    have Hfi := hid_ hfi; have Hfj := hid_ hfj
    clear hx4 hu4 bW hb4 hb3 hown hx hsi hsj hfr hW hw1 hw2 hfi hfj
    have hWS : ∀ W', Below W.heap.size W W' → W'.cell? ⟨w4.heap.size, 1, none⟩ = some (.slice (some ⟨g, 0, none⟩) n2 c4) ∧ W'.cell? ⟨g, i' * 2, none⟩ = some (.slice ai ni ci) ∧ W'.cell? ⟨g, i' * 2 + 1, none⟩ = some (.int .i64 fi) ∧ W'.cell? ⟨g, j' * 2, none⟩ = some (.slice aj nj cj) ∧ W'.cell? ⟨g, j' * 2 + 1, none⟩ = some (.int .i64 fj) := fun W' h => ⟨cell_below t1 h, cell_below x0 h, cell_below x1 h, cell_below y0 h, cell_below y1 h⟩
    have HWS := hid_ hWS
    have bd : Below W.heap.size W W.drew := Below.drew (Below.refl _ _)
    have bd1 := bd.alloc (Nat.le_refl _) (.cells #[.slice none 0 0, .int .i64 0] 56)
    have bd2 := bd1.alloc (by simp) (.cells #[.slice none 0 0, .int .i64 0] 56)
    have hgW : g < W.heap.size := by have := HbW.out.size; omega
    have hg1 : ¬ g = W.heap.size := by omega
    have hg2 : ¬ W.heap.size = g := by omega
    have hg3 : ¬ g = W.heap.size + 1 := by omega
    have hg4 : ¬ W.heap.size + 1 = g := by omega
    have hw4 : w4.heap.size < W.heap.size := World.block_lt_of_cell? W ⟨w4.heap.size, 0, none⟩ t0
    have hw41 : ¬ w4.heap.size = W.heap.size := by omega
    have hw42 : ¬ W.heap.size = w4.heap.size := by omega
    have hw43 : ¬ w4.heap.size = W.heap.size + 1 := by omega
    have hw44 : ¬ W.heap.size + 1 = w4.heap.size := by omega
    clear hWS
    go_wp2_with fail
    refine wp_region_last (n := 13) (S := fun W' => W'.cell? ⟨w4.heap.size, 1, none⟩ = some (.slice (some ⟨g, 0, none⟩) n2 c4) ∧ W'.cell? ⟨g, i' * 2, none⟩ = some (.slice ai ni ci) ∧ W'.cell? ⟨g, i' * 2 + 1, none⟩ = some (.int .i64 fi) ∧ W'.cell? ⟨g, j' * 2, none⟩ = some (.slice aj nj cj) ∧ W'.cell? ⟨g, j' * 2 + 1, none⟩ = some (.int .i64 fj)) (by kernel_rfl) (by kernel_rfl) (HWS.out _ bd) (fun hHeld => ?_)
    refine wpAnyH_take (i := 0) (oi := ?oi0h1) (v := ?v0h1) ?hi0h1 (by kernel_rfl) ?hf0h1 (by kernel_rfl) ?hQ0h1 ?hy0h1 (by assumption) ?rest0h1
    case hi0h1 => (simp only [List.getElem?_toArray, List.getElem?_cons_zero]; rfl)
    case hf0h1 => kernel_rfl
    case hQ0h1 => exact fun _ _ _ h => h
    case hy0h1 => (refine Or.inl ⟨by rfl, ?_⟩; intro W hSw; (try dsimp only at hSw); go_simp; try with_reducible rfl)
    try simp only [Act.put, List.setIfInBounds_toArray, List.set_cons_zero, List.set_cons_succ]
    refine wpAnyH_take (i := 1) (oi := ?oi1h2) (v := ?v1h2) ?hi1h2 (by kernel_rfl) ?hf1h2 (by kernel_rfl) ?hQ1h2 ?hy1h2 (by assumption) ?rest1h2
    case hi1h2 => (simp only [List.getElem?_toArray, List.getElem?_cons_succ, List.getElem?_cons_zero]; rfl)
    case hf1h2 => kernel_rfl
    case hQ1h2 => exact fun _ _ _ h => h
    case hy1h2 => (refine Or.inl ⟨by rfl, ?_⟩; intro W hSw; (try dsimp only at hSw); obtain ⟨g0, g1, g2, g3, g4⟩ := hSw; go_simp; try with_reducible rfl)
    try simp only [Act.put, List.setIfInBounds_toArray, List.set_cons_zero, List.set_cons_succ]
    refine wpAnyH_take (i := 2) (oi := ?oi2h3) (v := ?v2h3) ?hi2h3 (by kernel_rfl) ?hf2h3 (by kernel_rfl) ?hQ2h3 ?hy2h3 (by assumption) ?rest2h3
    case hi2h3 => (simp only [List.getElem?_toArray, List.getElem?_cons_succ, List.getElem?_cons_zero]; rfl)
    case hf2h3 => kernel_rfl
    case hQ2h3 => exact fun _ _ _ h => h
    case hy2h3 => (refine Or.inl ⟨by rfl, ?_⟩; intro W hSw; (try dsimp only at hSw); go_simp; try with_reducible rfl)
    try simp only [Act.put, List.setIfInBounds_toArray, List.set_cons_zero, List.set_cons_succ]
    refine wpAnyH_take (i := 3) (oi := ?oi3h4) (v := ?v3h4) ?hi3h4 (by kernel_rfl) ?hf3h4 (by kernel_rfl) ?hQ3h4 ?hy3h4 (by assumption) ?rest3h4
    case hi3h4 => (simp only [List.getElem?_toArray, List.getElem?_cons_succ, List.getElem?_cons_zero]; rfl)
    case hf3h4 => kernel_rfl
    case hQ3h4 => exact fun _ _ _ h => h
    case hy3h4 => (refine Or.inl ⟨by rfl, ?_⟩; intro W hSw; (try dsimp only at hSw); go_simp; try with_reducible rfl)
    try simp only [Act.put, List.setIfInBounds_toArray, List.set_cons_zero, List.set_cons_succ]
    refine wpAnyH_take (i := 4) (oi := ?oi4h5) (v := ?v4h5) ?hi4h5 (by kernel_rfl) ?hf4h5 (by kernel_rfl) ?hQ4h5 ?hy4h5 (by assumption) ?rest4h5
    case hi4h5 => (simp only [List.getElem?_toArray, List.getElem?_cons_succ, List.getElem?_cons_zero]; rfl)
    case hf4h5 => kernel_rfl
    case hQ4h5 => exact fun _ _ _ h => h
    case hy4h5 => (refine Or.inl ⟨by rfl, ?_⟩; intro W hSw; (try dsimp only at hSw); obtain ⟨g0, g1, g2, g3, g4⟩ := hSw; go_simp; try with_reducible rfl)
    try simp only [Act.put, List.setIfInBounds_toArray, List.set_cons_zero, List.set_cons_succ]
    refine wpAnyH_take (i := 5) (oi := ?oi5h6) (v := ?v5h6) ?hi5h6 (by kernel_rfl) ?hf5h6 (by kernel_rfl) ?hQ5h6 ?hy5h6 (by assumption) ?rest5h6
    case hi5h6 => (simp only [List.getElem?_toArray, List.getElem?_cons_succ, List.getElem?_cons_zero]; rfl)
    case hf5h6 => kernel_rfl
    case hQ5h6 => exact fun _ _ _ h => h
    case hy5h6 => (refine Or.inl ⟨by rfl, ?_⟩; intro W hSw; (try dsimp only at hSw); go_simp; try with_reducible rfl)
    try simp only [Act.put, List.setIfInBounds_toArray, List.set_cons_zero, List.set_cons_succ]
    refine wpAnyH_take (i := 6) (oi := ?oi6h7) (v := ?v6h7) ?hi6h7 (by kernel_rfl) ?hf6h7 (by kernel_rfl) ?hQ6h7 ?hy6h7 (by assumption) ?rest6h7
    case hi6h7 => (simp only [List.getElem?_toArray, List.getElem?_cons_succ, List.getElem?_cons_zero]; rfl)
    case hf6h7 => kernel_rfl
    case hQ6h7 => exact fun _ _ _ h => h
    case hy6h7 => (refine Or.inl ⟨by rfl, ?_⟩; intro W hSw; (try dsimp only at hSw); obtain ⟨g0, g1, g2, g3, g4⟩ := hSw; go_simp; try with_reducible rfl)
    try simp only [Act.put, List.setIfInBounds_toArray, List.set_cons_zero, List.set_cons_succ]
    refine wpAnyH_take (i := 7) (oi := ?oi7h8) (v := ?v7h8) ?hi7h8 (by kernel_rfl) ?hf7h8 (by kernel_rfl) ?hQ7h8 ?hy7h8 (by assumption) ?rest7h8
    case hi7h8 => (simp only [List.getElem?_toArray, List.getElem?_cons_succ, List.getElem?_cons_zero]; rfl)
    case hf7h8 => kernel_rfl
    case hQ7h8 => exact fun _ _ _ h => h
    case hy7h8 => (refine Or.inl ⟨by rfl, ?_⟩; intro W hSw; (try dsimp only at hSw); go_simp; try with_reducible rfl)
    try simp only [Act.put, List.setIfInBounds_toArray, List.set_cons_zero, List.set_cons_succ]
    refine wpAnyH_take (i := 8) (oi := ?oi8h9) (v := ?v8h9) ?hi8h9 (by kernel_rfl) ?hf8h9 (by kernel_rfl) ?hQ8h9 ?hy8h9 (by assumption) ?rest8h9
    case hi8h9 => (simp only [List.getElem?_toArray, List.getElem?_cons_succ, List.getElem?_cons_zero]; rfl)
    case hf8h9 => kernel_rfl
    case hQ8h9 => exact fun _ _ _ h => h
    case hy8h9 => (refine Or.inl ⟨by rfl, ?_⟩; intro W hSw; (try dsimp only at hSw); go_simp; try with_reducible rfl)
    try simp only [Act.put, List.setIfInBounds_toArray, List.set_cons_zero, List.set_cons_succ]
    refine wpAnyH_take (i := 9) (oi := ?oi9h10) (v := ?v9h10) ?hi9h10 (by kernel_rfl) ?hf9h10 (by kernel_rfl) ?hQ9h10 ?hy9h10 (by assumption) ?rest9h10
    case hi9h10 => (simp only [List.getElem?_toArray, List.getElem?_cons_succ, List.getElem?_cons_zero]; rfl)
    case hf9h10 => kernel_rfl
    case hQ9h10 => exact fun _ _ _ h => h
    case hy9h10 => (refine Or.inl ⟨by rfl, ?_⟩; intro W hSw; (try dsimp only at hSw); obtain ⟨g0, g1, g2, g3, g4⟩ := hSw; go_simp; try with_reducible rfl)
    try simp only [Act.put, List.setIfInBounds_toArray, List.set_cons_zero, List.set_cons_succ]
    refine wpAnyH_ready (rs := [10, 11]) (by kernel_rfl) (by simp) ?_
    refine AllReadyH.cons (o := _) (by (simp only [List.getElem?_toArray, List.getElem?_cons_succ, List.getElem?_cons_zero]; rfl)) (fun K hK => ?_) (AllReadyH.cons (o := _) (by (simp only [List.getElem?_toArray, List.getElem?_cons_succ, List.getElem?_cons_zero]; rfl)) (fun K hK => ?_) AllReadyH.nil)
    · go_simp
      refine hK.out _ _ ?_ (fun hHeld => ?_)
      · exact HWS.out _ bd1
      clear hK K
      try simp only [Act.put, List.setIfInBounds_toArray, List.set_cons_zero, List.set_cons_succ]
      refine wpAnyH_ready (rs := [11]) (by kernel_rfl) (by simp) ?_
      refine AllReadyH.cons (o := _) (by (simp only [List.getElem?_toArray, List.getElem?_cons_succ, List.getElem?_cons_zero]; rfl)) (fun K hK => ?_) AllReadyH.nil
      go_simp
      refine hK.out _ _ ?_ (fun hHeld => ?_)
      · exact HWS.out _ bd2
      clear hK K
      try simp only [Act.put, List.setIfInBounds_toArray, List.set_cons_zero, List.set_cons_succ]
      obtain ⟨D, hD⟩ : ∃ D, (W.alloc (.cells #[.slice none 0 0, .int .i64 0] 56)).alloc (.cells #[.slice none 0 0, .int .i64 0] 56) = D := ⟨_, rfl⟩
      have hDb : Below W.heap.size W D := by rw [← hD]; exact (below_alloc _ _).trans ((below_alloc _ _).mono (by simp))
      have hz : (W.alloc (.cells #[.slice none 0 0, .int .i64 0] 56)).heap.size = W.heap.size + 1 := by simp
      have m0 : D.cell? ⟨W.heap.size, 0, none⟩ = some (.slice none 0 0) := by rw [← hD]; exact cell_below (cells_alloc _ _ _ 0) (below_alloc _ _)
      have m1 : D.cell? ⟨W.heap.size, 1, none⟩ = some (.int .i64 0) := by rw [← hD]; exact cell_below (cells_alloc _ _ _ 1) (below_alloc _ _)
      have m2 : D.cell? ⟨W.heap.size + 1, 0, none⟩ = some (.slice none 0 0) := by rw [← hD, ← hz]; exact cells_alloc _ _ _ 0
      have m3 : D.cell? ⟨W.heap.size + 1, 1, none⟩ = some (.int .i64 0) := by rw [← hD, ← hz]; exact cells_alloc _ _ _ 1
      have n0 : ∀ x, D.frozen? ⟨W.heap.size, x, none⟩ = false := fun x => by rw [← hD]; exact ((below_alloc (W.alloc (.cells #[.slice none 0 0, .int .i64 0] 56)) (.cells #[.slice none 0 0, .int .i64 0] 56)).frozen (p := ⟨W.heap.size, x, none⟩) (by simp)).trans (World.frozen?_alloc_at _ _ _ _ (by simp))
      have n1 : ∀ x, D.frozen? ⟨W.heap.size + 1, x, none⟩ = false := fun x => by rw [← hD, ← hz]; exact World.frozen?_alloc_at _ _ _ _ (by simp)
      have n00 := n0 0; have n01 := n0 1; have n10 := n1 0; have n11 := n1 1
      have hDS := HWS.out _ hDb
      have hne01 : ¬ W.heap.size = W.heap.size + 1 := by omega
      have hne10 : ¬ W.heap.size + 1 = W.heap.size := by omega
      rw [hD]
      refine wpAnyH_ready (rs := [12]) (by kernel_rfl) (by simp) ?_
      refine AllReadyH.cons (o := _) (by (simp only [List.getElem?_toArray, List.getElem?_cons_succ, List.getElem?_cons_zero]; rfl)) (fun K hK => ?_) AllReadyH.nil
      go_simp
      refine hK.out _ _ ?_ (fun hHeld => ?_)
      · exact ⟨(far_two _ (by show ¬ _ = _; assumption) _ _).trans hDS.1, (far_two _ (by show ¬ _ = _; assumption) _ _).trans hDS.2.1, (far_two _ (by show ¬ _ = _; assumption) _ _).trans hDS.2.2.1, (far_two _ (by show ¬ _ = _; assumption) _ _).trans hDS.2.2.2.1, (far_two _ (by show ¬ _ = _; assumption) _ _).trans hDS.2.2.2.2⟩
      clear hK K
      try simp only [Act.put, List.setIfInBounds_toArray, List.set_cons_zero, List.set_cons_succ]
      refine wpAnyH_done (by kernel_rfl) ?_ _
      clear hHeld
      refine last_of ?_
      refine wpOp_step (o := _) (by (simp only [List.getElem?_toArray, List.getElem?_cons_succ, List.getElem?_cons_zero]; rfl)) (fun K hK => ?_)
      go_simp
      refine hK _ _ ?_
      clear hK K
      try simp only [Act.put, List.setIfInBounds_toArray, List.set_cons_zero, List.set_cons_succ]
      obtain ⟨U, hU⟩ : ∃ U, (((D.setCell ⟨W.heap.size, 0, none⟩ (.slice ai ni ci)).setCell ⟨W.heap.size, 1, none⟩ (.int .i64 fi)).setCell ⟨W.heap.size + 1, 0, none⟩ (.slice aj nj cj)).setCell ⟨W.heap.size + 1, 1, none⟩ (.int .i64 fj) = U := ⟨_, rfl⟩
      rw [hU]
      have hUb : Below W.heap.size W U := by
        rw [← hU]
        exact (((hDb.setCell (p := ⟨W.heap.size, 0, none⟩) (by simp) _).setCell (p := ⟨W.heap.size, 1, none⟩) (by simp) _).setCell (p := ⟨W.heap.size + 1, 0, none⟩) (by simp) _).setCell (p := ⟨W.heap.size + 1, 1, none⟩) (by simp) _
      obtain ⟨e1, e2⟩ : U.cell? ⟨W.heap.size + 1, 0, none⟩ = some (.slice aj nj cj) ∧ U.cell? ⟨W.heap.size + 1, 1, none⟩ = some (.int .i64 fj) := by
        rw [← hU]
        exact cells_two ((far_two _ (by show ¬ _ = _; assumption) _ _).trans (by assumption)) ((far_two _ (by show ¬ _ = _; assumption) _ _).trans (by assumption)) _ _
      obtain ⟨e3, e4⟩ : U.cell? ⟨W.heap.size, 0, none⟩ = some (.slice ai ni ci) ∧ U.cell? ⟨W.heap.size, 1, none⟩ = some (.int .i64 fi) := by
        have h1 : ∀ x, ((((D.setCell ⟨W.heap.size, 0, none⟩ (.slice ai ni ci)).setCell ⟨W.heap.size, 1, none⟩ (.int .i64 fi)).setCell ⟨W.heap.size + 1, 0, none⟩ (.slice aj nj cj)).setCell ⟨W.heap.size + 1, 1, none⟩ (.int .i64 fj)).cell? ⟨W.heap.size, x, none⟩ = ((D.setCell ⟨W.heap.size, 0, none⟩ (.slice ai ni ci)).setCell ⟨W.heap.size, 1, none⟩ (.int .i64 fi)).cell? ⟨W.heap.size, x, none⟩ := fun x => far_two _ (by show ¬ _ = _; assumption) _ _
        rw [← hU]
        have h2 : ((D.setCell ⟨W.heap.size, 0, none⟩ (.slice ai ni ci)).setCell ⟨W.heap.size, 1, none⟩ (.int .i64 fi)).cell? ⟨W.heap.size, 0, none⟩ = some (.slice ai ni ci) ∧ ((D.setCell ⟨W.heap.size, 0, none⟩ (.slice ai ni ci)).setCell ⟨W.heap.size, 1, none⟩ (.int .i64 fi)).cell? ⟨W.heap.size, 1, none⟩ = some (.int .i64 fi) := cells_two (by assumption) (by assumption) _ _
        exact ⟨(h1 0).trans h2.1, (h1 1).trans h2.2⟩
      have t0 : U.cell? ⟨w4.heap.size, 0, none⟩ = some (.slice a3 n3 c3) := cell_below t0 hUb
      obtain ⟨t1, x0, x1, y0, y1⟩ := HWS.out _ hUb
      have f1 : U.frozen? ⟨g, i' * 2, none⟩ = false := (hUb.frozen (p := ⟨g, i' * 2, none⟩) hgW).trans f1
      have f2 : U.frozen? ⟨g, i' * 2 + 1, none⟩ = false := (hUb.frozen (p := ⟨g, i' * 2 + 1, none⟩) hgW).trans f2
      have f3 : U.frozen? ⟨g, j' * 2, none⟩ = false := (hUb.frozen (p := ⟨g, j' * 2, none⟩) hgW).trans f3
      have f4 : U.frozen? ⟨g, j' * 2 + 1, none⟩ = false := (hUb.frozen (p := ⟨g, j' * 2 + 1, none⟩) hgW).trans f4
      have Hown2 := hid_ (Hown.out.next hUb); have Hsi2 := hid_ (Hsi.out.next hUb); have Hsj2 := hid_ (Hsj.out.next hUb)
      have HbU := hid_ (HbW.out.trans (hUb.mono HbW.out.size))
      clear hU hUb hD hDb hz m0 m1 m2 m3 n0 n1 n00 n01 n10 n11 hDS bd bd1 bd2 HWS Hown Hsi Hsj HbW
      have Hown := Hown2; have Hsi := Hsi2; have Hsj := Hsj2; have HbW := HbU
      clear Hown2 Hsi2 Hsj2 HbU
      have s0 : (U.setCell ⟨g, i' * 2, none⟩ (.slice aj nj cj)).cell? ⟨g, j' * 2, none⟩ = some (.slice aj nj cj) := by
        by_cases h : i' = j'
        · subst h
          rw [World.cell?_setCell_same _ _ _ x0]
        · rw [World.cell?_setCell_other _ _ _ _ (by first | (simp; done) | (simp; omega))]; exact y0
      have s1 : ((U.setCell ⟨g, i' * 2, none⟩ (.slice aj nj cj)).setCell ⟨g, i' * 2 + 1, none⟩ (.int .i64 fj)).cell? ⟨g, j' * 2 + 1, none⟩ = some (.int .i64 fj) := by
        by_cases h : i' = j'
        · subst h
          rw [World.cell?_setCell_same _ _ _ (by rw [World.cell?_setCell_other _ _ _ _ (by simp)]; exact x1)]
        · rw [World.cell?_setCell_other _ _ _ _ (by first | (simp; done) | (simp; omega)), World.cell?_setCell_other _ _ _ _ (by first | (simp; done) | (simp; omega))]; exact y1
      have hgB3 : w3.heap.size ≤ g := hgB
      have hp2 := (Hown.out.put i' Hi.out (.slice aj nj cj) _ fj Hsj.out)
      have hp3 := hp2.put j' (by rw [List.length_set]; exact Hj.out) (.slice ai ni ci) _ fi ((Hsi.out.put _ _).put _ _)
      have hL : (P.ents.set i' ⟨(P.ents.getD j' E0).spec, fj⟩).set j' ⟨(P.ents.getD i' E0).spec, fi⟩ = (swapP P i' j').ents := by rw [swapP, ← Hfi.out, ← Hfj.out]
      rw [hL] at hp3
      have hbV : Below w4.heap.size w4 U := HbW.out
      obtain ⟨V, hV⟩ : ∃ V, ((((U.setCell ⟨g, i' * 2, none⟩ (.slice aj nj cj)).setCell ⟨g, i' * 2 + 1, none⟩ (.int .i64 fj)).setCell ⟨g, j' * 2, none⟩ (.slice ai ni ci)).setCell ⟨g, j' * 2 + 1, none⟩ (.int .i64 fi)) = V := ⟨_, rfl⟩
      rw [hV] at hp3
      have hother : ∀ p : Addr, p.block ≠ g → V.cell? p = U.cell? p := fun p hp => by
        have hp' : ∀ x, ¬ (⟨g, x, none⟩ : Addr) = p := fun x e => hp (by rw [← e])
        rw [← hV, World.cell?_setCell_other _ _ _ _ (hp' _), World.cell?_setCell_other _ _ _ _ (hp' _), World.cell?_setCell_other _ _ _ _ (hp' _), World.cell?_setCell_other _ _ _ _ (hp' _)]
      have hfrz : ∀ p : Addr, V.frozen? p = U.frozen? p := fun p => by rw [← hV]; simp only [World.frozen?_setCell]
      have hu := (((((Hu4.out.next HbW.out).put (i' * 2) (.slice aj nj cj)).put (i' * 2 + 1) (.int .i64 fj)).put (j' * 2) (.slice ai ni ci)).put (j' * 2 + 1) (.int .i64 fi))
      rw [hV] at hu
      have hVw : Below w2.heap.size w2 V := by
        have h0 : Below w2.heap.size w2 U := Hb3.out.trans ((Hb4.out.trans (HbW.out.mono Hb4.out.size)).mono Hb3.out.size)
        have hg2 : w2.heap.size ≤ g := Nat.le_trans Hb3.out.size hgB3
        rw [← hV]
        exact (((h0.setCell (p := ⟨g, i' * 2, none⟩) hg2 _).setCell (p := ⟨g, i' * 2 + 1, none⟩) hg2 _).setCell (p := ⟨g, j' * 2, none⟩) hg2 _).setCell (p := ⟨g, j' * 2 + 1, none⟩) hg2 _
      have c0 : V.cell? ⟨w4.heap.size, 0, none⟩ = some (.slice a3 n3 c3) := (hother _ hne2).trans t0
      have c1 : V.cell? ⟨w4.heap.size, 1, none⟩ = some (.slice (some ⟨g, 0, none⟩) n2 c4) := (hother _ hne2).trans t1
      have z0 : V.cell? ⟨w.heap.size + 1, 0, none⟩ = some (.slice none 0 0) := cell_below r0 hVw
      have z1' : V.cell? ⟨w.heap.size + 1, 1, none⟩ = some (.slice none 0 0) := cell_below r1 hVw
      have z2' : V.frozen? ⟨w.heap.size + 1, 0, none⟩ = false := (hVw.frozen (p := ⟨w.heap.size + 1, 0, none⟩) (by show w.heap.size + 1 < w2.heap.size; omega)).trans (f0 0)
      have z3' : V.frozen? ⟨w.heap.size + 1, 1, none⟩ = false := (hVw.frozen (p := ⟨w.heap.size + 1, 1, none⟩) (by show w.heap.size + 1 < w2.heap.size; omega)).trans (f0 1)
      obtain ⟨k0, k1⟩ := cells_two (W := V) z0 z1' (.slice a3 n3 c3) (.slice (some ⟨g, 0, none⟩) n2 c4)
      rw [Hln.out] at hp3
      have Hp3 := hid_ hp3; have Hu := hid_ hu; have HVw := hid_ hVw
      clear hp2 hp3 hu hVw hother hfrz hL hbV
      go_wp2
      have z2 := Z2.out
      have h23 : w2.heap.size ≤ w3.heap.size := Hb3.out.size
      have hp : w.heap.size + 1 < w3.heap.size := by omega
      have bd : ∀ U : World, Below U.heap.size U U.drew := fun U => Below.drew (Below.refl _ _)
      refine bodyPost_ret (v := .tuple #[.agg #[.slice a3 n3 c3, .slice (some ⟨g, 0, none⟩) n2 c4], .int .i64 0]) ?_ rfl ⟨_, rfl, _, _, rfl, ?_, ?_, ?_⟩
      · simp [results, Try.results62, go_sem, k0, k1]
      · exact (((Hu.out.store (p := ⟨w.heap.size + 1, 0, none⟩) hp _).store (p := ⟨w.heap.size + 1, 1, none⟩) hp _).base (by omega)).next (bd _)
      · exact (((Hp3.out.store (p := ⟨w.heap.size + 1, 0, none⟩) hp _).store (p := ⟨w.heap.size + 1, 1, none⟩) hp _).base (by omega)).next (bd _)
      · have hf : Below w.heap.size w V := Hb2.out.trans (HVw.out.mono Hb2.out.size)
        exact ((hf.setCell (p := ⟨w.heap.size + 1, 0, none⟩) (by show _ ≤ _ + 1; omega) _).setCell (p := ⟨w.heap.size + 1, 1, none⟩) (by show _ ≤ _ + 1; omega) _).drew
    · go_simp
      refine hK.out _ _ ?_ (fun hHeld => ?_)
      · exact HWS.out _ bd1
      clear hK K
      try simp only [Act.put, List.setIfInBounds_toArray, List.set_cons_zero, List.set_cons_succ]
      refine wpAnyH_ready (rs := [10]) (by kernel_rfl) (by simp) ?_
      refine AllReadyH.cons (o := _) (by (simp only [List.getElem?_toArray, List.getElem?_cons_succ, List.getElem?_cons_zero]; rfl)) (fun K hK => ?_) AllReadyH.nil
      go_simp
      refine hK.out _ _ ?_ (fun hHeld => ?_)
      · exact HWS.out _ bd2
      clear hK K
      try simp only [Act.put, List.setIfInBounds_toArray, List.set_cons_zero, List.set_cons_succ]
      obtain ⟨D, hD⟩ : ∃ D, (W.alloc (.cells #[.slice none 0 0, .int .i64 0] 56)).alloc (.cells #[.slice none 0 0, .int .i64 0] 56) = D := ⟨_, rfl⟩
      have hDb : Below W.heap.size W D := by rw [← hD]; exact (below_alloc _ _).trans ((below_alloc _ _).mono (by simp))
      have hz : (W.alloc (.cells #[.slice none 0 0, .int .i64 0] 56)).heap.size = W.heap.size + 1 := by simp
      have m0 : D.cell? ⟨W.heap.size, 0, none⟩ = some (.slice none 0 0) := by rw [← hD]; exact cell_below (cells_alloc _ _ _ 0) (below_alloc _ _)
      have m1 : D.cell? ⟨W.heap.size, 1, none⟩ = some (.int .i64 0) := by rw [← hD]; exact cell_below (cells_alloc _ _ _ 1) (below_alloc _ _)
      have m2 : D.cell? ⟨W.heap.size + 1, 0, none⟩ = some (.slice none 0 0) := by rw [← hD, ← hz]; exact cells_alloc _ _ _ 0
      have m3 : D.cell? ⟨W.heap.size + 1, 1, none⟩ = some (.int .i64 0) := by rw [← hD, ← hz]; exact cells_alloc _ _ _ 1
      have n0 : ∀ x, D.frozen? ⟨W.heap.size, x, none⟩ = false := fun x => by rw [← hD]; exact ((below_alloc (W.alloc (.cells #[.slice none 0 0, .int .i64 0] 56)) (.cells #[.slice none 0 0, .int .i64 0] 56)).frozen (p := ⟨W.heap.size, x, none⟩) (by simp)).trans (World.frozen?_alloc_at _ _ _ _ (by simp))
      have n1 : ∀ x, D.frozen? ⟨W.heap.size + 1, x, none⟩ = false := fun x => by rw [← hD, ← hz]; exact World.frozen?_alloc_at _ _ _ _ (by simp)
      have n00 := n0 0; have n01 := n0 1; have n10 := n1 0; have n11 := n1 1
      have hDS := HWS.out _ hDb
      have hne01 : ¬ W.heap.size = W.heap.size + 1 := by omega
      have hne10 : ¬ W.heap.size + 1 = W.heap.size := by omega
      rw [hD]
      refine wpAnyH_ready (rs := [12]) (by kernel_rfl) (by simp) ?_
      refine AllReadyH.cons (o := _) (by (simp only [List.getElem?_toArray, List.getElem?_cons_succ, List.getElem?_cons_zero]; rfl)) (fun K hK => ?_) AllReadyH.nil
      go_simp
      refine hK.out _ _ ?_ (fun hHeld => ?_)
      · exact ⟨(far_two _ (by show ¬ _ = _; assumption) _ _).trans hDS.1, (far_two _ (by show ¬ _ = _; assumption) _ _).trans hDS.2.1, (far_two _ (by show ¬ _ = _; assumption) _ _).trans hDS.2.2.1, (far_two _ (by show ¬ _ = _; assumption) _ _).trans hDS.2.2.2.1, (far_two _ (by show ¬ _ = _; assumption) _ _).trans hDS.2.2.2.2⟩
      clear hK K
      try simp only [Act.put, List.setIfInBounds_toArray, List.set_cons_zero, List.set_cons_succ]
      refine wpAnyH_done (by kernel_rfl) ?_ _
      clear hHeld
      refine last_of ?_
      refine wpOp_step (o := _) (by (simp only [List.getElem?_toArray, List.getElem?_cons_succ, List.getElem?_cons_zero]; rfl)) (fun K hK => ?_)
      go_simp
      refine hK _ _ ?_
      clear hK K
      try simp only [Act.put, List.setIfInBounds_toArray, List.set_cons_zero, List.set_cons_succ]
      obtain ⟨U, hU⟩ : ∃ U, (((D.setCell ⟨W.heap.size + 1, 0, none⟩ (.slice ai ni ci)).setCell ⟨W.heap.size + 1, 1, none⟩ (.int .i64 fi)).setCell ⟨W.heap.size, 0, none⟩ (.slice aj nj cj)).setCell ⟨W.heap.size, 1, none⟩ (.int .i64 fj) = U := ⟨_, rfl⟩
      rw [hU]
      have hUb : Below W.heap.size W U := by
        rw [← hU]
        exact (((hDb.setCell (p := ⟨W.heap.size + 1, 0, none⟩) (by simp) _).setCell (p := ⟨W.heap.size + 1, 1, none⟩) (by simp) _).setCell (p := ⟨W.heap.size, 0, none⟩) (by simp) _).setCell (p := ⟨W.heap.size, 1, none⟩) (by simp) _
      obtain ⟨e1, e2⟩ : U.cell? ⟨W.heap.size, 0, none⟩ = some (.slice aj nj cj) ∧ U.cell? ⟨W.heap.size, 1, none⟩ = some (.int .i64 fj) := by
        rw [← hU]
        exact cells_two ((far_two _ (by show ¬ _ = _; assumption) _ _).trans (by assumption)) ((far_two _ (by show ¬ _ = _; assumption) _ _).trans (by assumption)) _ _
      obtain ⟨e3, e4⟩ : U.cell? ⟨W.heap.size + 1, 0, none⟩ = some (.slice ai ni ci) ∧ U.cell? ⟨W.heap.size + 1, 1, none⟩ = some (.int .i64 fi) := by
        have h1 : ∀ x, ((((D.setCell ⟨W.heap.size + 1, 0, none⟩ (.slice ai ni ci)).setCell ⟨W.heap.size + 1, 1, none⟩ (.int .i64 fi)).setCell ⟨W.heap.size, 0, none⟩ (.slice aj nj cj)).setCell ⟨W.heap.size, 1, none⟩ (.int .i64 fj)).cell? ⟨W.heap.size + 1, x, none⟩ = ((D.setCell ⟨W.heap.size + 1, 0, none⟩ (.slice ai ni ci)).setCell ⟨W.heap.size + 1, 1, none⟩ (.int .i64 fi)).cell? ⟨W.heap.size + 1, x, none⟩ := fun x => far_two _ (by show ¬ _ = _; assumption) _ _
        rw [← hU]
        have h2 : ((D.setCell ⟨W.heap.size + 1, 0, none⟩ (.slice ai ni ci)).setCell ⟨W.heap.size + 1, 1, none⟩ (.int .i64 fi)).cell? ⟨W.heap.size + 1, 0, none⟩ = some (.slice ai ni ci) ∧ ((D.setCell ⟨W.heap.size + 1, 0, none⟩ (.slice ai ni ci)).setCell ⟨W.heap.size + 1, 1, none⟩ (.int .i64 fi)).cell? ⟨W.heap.size + 1, 1, none⟩ = some (.int .i64 fi) := cells_two (by assumption) (by assumption) _ _
        exact ⟨(h1 0).trans h2.1, (h1 1).trans h2.2⟩
      have t0 : U.cell? ⟨w4.heap.size, 0, none⟩ = some (.slice a3 n3 c3) := cell_below t0 hUb
      obtain ⟨t1, x0, x1, y0, y1⟩ := HWS.out _ hUb
      have f1 : U.frozen? ⟨g, i' * 2, none⟩ = false := (hUb.frozen (p := ⟨g, i' * 2, none⟩) hgW).trans f1
      have f2 : U.frozen? ⟨g, i' * 2 + 1, none⟩ = false := (hUb.frozen (p := ⟨g, i' * 2 + 1, none⟩) hgW).trans f2
      have f3 : U.frozen? ⟨g, j' * 2, none⟩ = false := (hUb.frozen (p := ⟨g, j' * 2, none⟩) hgW).trans f3
      have f4 : U.frozen? ⟨g, j' * 2 + 1, none⟩ = false := (hUb.frozen (p := ⟨g, j' * 2 + 1, none⟩) hgW).trans f4
      have Hown2 := hid_ (Hown.out.next hUb); have Hsi2 := hid_ (Hsi.out.next hUb); have Hsj2 := hid_ (Hsj.out.next hUb)
      have HbU := hid_ (HbW.out.trans (hUb.mono HbW.out.size))
      clear hU hUb hD hDb hz m0 m1 m2 m3 n0 n1 n00 n01 n10 n11 hDS bd bd1 bd2 HWS Hown Hsi Hsj HbW
      have Hown := Hown2; have Hsi := Hsi2; have Hsj := Hsj2; have HbW := HbU
      clear Hown2 Hsi2 Hsj2 HbU
      have s0 : (U.setCell ⟨g, i' * 2, none⟩ (.slice aj nj cj)).cell? ⟨g, j' * 2, none⟩ = some (.slice aj nj cj) := by
        by_cases h : i' = j'
        · subst h
          rw [World.cell?_setCell_same _ _ _ x0]
        · rw [World.cell?_setCell_other _ _ _ _ (by first | (simp; done) | (simp; omega))]; exact y0
      have s1 : ((U.setCell ⟨g, i' * 2, none⟩ (.slice aj nj cj)).setCell ⟨g, i' * 2 + 1, none⟩ (.int .i64 fj)).cell? ⟨g, j' * 2 + 1, none⟩ = some (.int .i64 fj) := by
        by_cases h : i' = j'
        · subst h
          rw [World.cell?_setCell_same _ _ _ (by rw [World.cell?_setCell_other _ _ _ _ (by simp)]; exact x1)]
        · rw [World.cell?_setCell_other _ _ _ _ (by first | (simp; done) | (simp; omega)), World.cell?_setCell_other _ _ _ _ (by first | (simp; done) | (simp; omega))]; exact y1
      have hgB3 : w3.heap.size ≤ g := hgB
      have hp2 := (Hown.out.put i' Hi.out (.slice aj nj cj) _ fj Hsj.out)
      have hp3 := hp2.put j' (by rw [List.length_set]; exact Hj.out) (.slice ai ni ci) _ fi ((Hsi.out.put _ _).put _ _)
      have hL : (P.ents.set i' ⟨(P.ents.getD j' E0).spec, fj⟩).set j' ⟨(P.ents.getD i' E0).spec, fi⟩ = (swapP P i' j').ents := by rw [swapP, ← Hfi.out, ← Hfj.out]
      rw [hL] at hp3
      have hbV : Below w4.heap.size w4 U := HbW.out
      obtain ⟨V, hV⟩ : ∃ V, ((((U.setCell ⟨g, i' * 2, none⟩ (.slice aj nj cj)).setCell ⟨g, i' * 2 + 1, none⟩ (.int .i64 fj)).setCell ⟨g, j' * 2, none⟩ (.slice ai ni ci)).setCell ⟨g, j' * 2 + 1, none⟩ (.int .i64 fi)) = V := ⟨_, rfl⟩
      rw [hV] at hp3
      have hother : ∀ p : Addr, p.block ≠ g → V.cell? p = U.cell? p := fun p hp => by
        have hp' : ∀ x, ¬ (⟨g, x, none⟩ : Addr) = p := fun x e => hp (by rw [← e])
        rw [← hV, World.cell?_setCell_other _ _ _ _ (hp' _), World.cell?_setCell_other _ _ _ _ (hp' _), World.cell?_setCell_other _ _ _ _ (hp' _), World.cell?_setCell_other _ _ _ _ (hp' _)]
      have hfrz : ∀ p : Addr, V.frozen? p = U.frozen? p := fun p => by rw [← hV]; simp only [World.frozen?_setCell]
      have hu := (((((Hu4.out.next HbW.out).put (i' * 2) (.slice aj nj cj)).put (i' * 2 + 1) (.int .i64 fj)).put (j' * 2) (.slice ai ni ci)).put (j' * 2 + 1) (.int .i64 fi))
      rw [hV] at hu
      have hVw : Below w2.heap.size w2 V := by
        have h0 : Below w2.heap.size w2 U := Hb3.out.trans ((Hb4.out.trans (HbW.out.mono Hb4.out.size)).mono Hb3.out.size)
        have hg2 : w2.heap.size ≤ g := Nat.le_trans Hb3.out.size hgB3
        rw [← hV]
        exact (((h0.setCell (p := ⟨g, i' * 2, none⟩) hg2 _).setCell (p := ⟨g, i' * 2 + 1, none⟩) hg2 _).setCell (p := ⟨g, j' * 2, none⟩) hg2 _).setCell (p := ⟨g, j' * 2 + 1, none⟩) hg2 _
      have c0 : V.cell? ⟨w4.heap.size, 0, none⟩ = some (.slice a3 n3 c3) := (hother _ hne2).trans t0
      have c1 : V.cell? ⟨w4.heap.size, 1, none⟩ = some (.slice (some ⟨g, 0, none⟩) n2 c4) := (hother _ hne2).trans t1
      have z0 : V.cell? ⟨w.heap.size + 1, 0, none⟩ = some (.slice none 0 0) := cell_below r0 hVw
      have z1' : V.cell? ⟨w.heap.size + 1, 1, none⟩ = some (.slice none 0 0) := cell_below r1 hVw
      have z2' : V.frozen? ⟨w.heap.size + 1, 0, none⟩ = false := (hVw.frozen (p := ⟨w.heap.size + 1, 0, none⟩) (by show w.heap.size + 1 < w2.heap.size; omega)).trans (f0 0)
      have z3' : V.frozen? ⟨w.heap.size + 1, 1, none⟩ = false := (hVw.frozen (p := ⟨w.heap.size + 1, 1, none⟩) (by show w.heap.size + 1 < w2.heap.size; omega)).trans (f0 1)
      obtain ⟨k0, k1⟩ := cells_two (W := V) z0 z1' (.slice a3 n3 c3) (.slice (some ⟨g, 0, none⟩) n2 c4)
      rw [Hln.out] at hp3
      have Hp3 := hid_ hp3; have Hu := hid_ hu; have HVw := hid_ hVw
      clear hp2 hp3 hu hVw hother hfrz hL hbV
      go_wp2
      have z2 := Z2.out
      have h23 : w2.heap.size ≤ w3.heap.size := Hb3.out.size
      have hp : w.heap.size + 1 < w3.heap.size := by omega
      have bd : ∀ U : World, Below U.heap.size U U.drew := fun U => Below.drew (Below.refl _ _)
      refine bodyPost_ret (v := .tuple #[.agg #[.slice a3 n3 c3, .slice (some ⟨g, 0, none⟩) n2 c4], .int .i64 0]) ?_ rfl ⟨_, rfl, _, _, rfl, ?_, ?_, ?_⟩
      · simp [results, Try.results62, go_sem, k0, k1]
      · exact (((Hu.out.store (p := ⟨w.heap.size + 1, 0, none⟩) hp _).store (p := ⟨w.heap.size + 1, 1, none⟩) hp _).base (by omega)).next (bd _)
      · exact (((Hp3.out.store (p := ⟨w.heap.size + 1, 0, none⟩) hp _).store (p := ⟨w.heap.size + 1, 1, none⟩) hp _).base (by omega)).next (bd _)
      · have hf : Below w.heap.size w V := Hb2.out.trans (HVw.out.mono Hb2.out.size)
        exact ((hf.setCell (p := ⟨w.heap.size + 1, 0, none⟩) (by show _ ≤ _ + 1; omega) _).setCell (p := ⟨w.heap.size + 1, 1, none⟩) (by show _ ≤ _ + 1; omega) _).drew
  · have hq : (errN P [i, j] != 0) = true := by simpa using he
    have Hf : Hid (resSwap P i j = ⟨[], []⟩) := hid_ (by rw [HR.out, if_neg he])
    rw [Hf.out]
    generalize errN P [i, j] = x at *
    clear he HR
    have qf : ∀ W, Below w2.heap.size w2 W → (W.cell? ⟨w.heap.size + 1, 0, none⟩ = some (.slice none 0 0) ∧ W.cell? ⟨w.heap.size + 1, 1, none⟩ = some (.slice none 0 0)) ∧ (W.frozen? ⟨w.heap.size + 1, 0, none⟩ = false ∧ W.frozen? ⟨w.heap.size + 1, 1, none⟩ = false) := fun W hW => ⟨⟨cell_below r0 hW, cell_below r1 hW⟩, (hW.frozen (p := ⟨w.heap.size + 1, 0, none⟩) (by show w.heap.size + 1 < w2.heap.size; omega)).trans (f0 0), (hW.frozen (p := ⟨w.heap.size + 1, 1, none⟩) (by show w.heap.size + 1 < w2.heap.size; omega)).trans (f0 1)⟩
    have Qf := hid_ qf
    clear qf r0 r1 f0
    go_enter Try.func62, Try.ntmps62
    go_wp2_with (go_at_call 84; (with_reducible refine HE.out.mono ?_); rintro e w3 ⟨rfl, hb3⟩; obtain ⟨⟨y0, y1⟩, y2, y3⟩ := Qf.out _ hb3)
    obtain ⟨t0, t1⟩ := cells_two y0 y1 (.slice none 0 0) (.slice none 0 0)
    refine bodyPost_ret (v := .tuple #[.agg #[.slice none 0 0, .slice none 0 0], .int .i64 x]) ?_ rfl ⟨_, rfl, MadeP6.zero ?_⟩
    · simp [results, Try.results62, go_sem, t0, t1]
    · have hf : Below w.heap.size w w3 := Hb2.out.trans (hb3.mono Hb2.out.size)
      exact (hf.setCell (p := ⟨w.heap.size + 1, 0, none⟩) (by show _ ≤ _ + 1; omega) _).setCell (p := ⟨w.heap.size + 1, 1, none⟩) (by show _ ≤ _ + 1; omega) _
end Go.Proofs.Ytahknodnjjmagaa
