import Derived.Test.YtahknodnjjmagaaZdl
import Derived.Test.YtahknodnjjmagaaZdk
namespace Go.Proofs.Ytahknodnjjmagaa
open Go.RowKit Go.Proofs.Kv Go

/-! ### Add of the program -/
def addP (P : Par) (E : Ent) : Par := ⟨P.sizes, P.ents ++ [E]⟩
def errAdd (P : Par) (E : Ent) : Int := if validP P = 0 then validP (addP P E) else validP P
def resAdd (P : Par) (E : Ent) : Par := if errAdd P E = 0 then addP P E else ⟨[], []⟩
theorem cf_grown {p : Addr} {v : Value} {w w' : World} {row : Option Nat} (h : CF p v w) (hg : w.grownBy w' row) (hne : row ≠ some p.block) : CF p v w' := by
  refine ⟨hg.cell h.1 (fun e => hne e.symm), ?_⟩
  have hb := hg.block p.block (World.block_lt_of_cell? w p h.1) (fun e => hne e.symm)
  have := h.2
  unfold World.frozen? at this ⊢
  rw [hb]; exact this
set_option maxRecDepth 100000 in
set_option maxHeartbeats 8000000 in
theorem ceAdd_calls (v : Value) (P : Par) (a : Option Addr) (n c : Nat) (l : List Int) (f : Int) (w : World) (h : ParAt w v P) (hl : IntsAt w a n c l) (hn1000 : n ≤ 1000) :
    Calls Try.prog 63 #[v, .agg #[.slice a n c, .int .i64 f]] w fun e w' => ∃ v', e = .returned (.tuple #[v', .int .i64 (errAdd P ⟨l, f⟩)]) ∧ MadeP6 w w' v' (resAdd P ⟨l, f⟩) := by
  have HP := hid_ h
  obtain ⟨a1, n1, c1, a2, n2, c2, rfl, h1, h2⟩ := h
  obtain ⟨w1, hw1⟩ : ∃ w1, w.alloc (.cells #[.slice a1 n1 c1, .slice a2 n2 c2] 25) = w1 := ⟨_, rfl⟩
  have cb : Below w.heap.size w w1 := by rw [← hw1]; exact below_alloc _ _
  have q0 : w1.cell? ⟨w.heap.size, 0, none⟩ = some (.slice a1 n1 c1) := by rw [← hw1]; exact cells_alloc _ _ _ 0
  have q1 : w1.cell? ⟨w.heap.size, 1, none⟩ = some (.slice a2 n2 c2) := by rw [← hw1]; exact cells_alloc _ _ _ 1
  have HP1 := hid_ (HP.out.below cb (Nat.le_refl _)); have Hc1 := hid_ cb
  obtain ⟨w2, hw2⟩ : ∃ w2, w1.alloc (.cells #[.slice a n c, .int .i64 f] 56) = w2 := ⟨_, rfl⟩
  obtain ⟨w3, hw3⟩ : ∃ w3, w2.alloc (.cells #[.slice none 0 0, .slice none 0 0] 25) = w3 := ⟨_, rfl⟩
  have z1 : w1.heap.size = w.heap.size + 1 := by rw [← hw1]; simp
  have z2 : w2.heap.size = w.heap.size + 2 := by rw [← hw2]; simp [z1]
  have z3 : w3.heap.size = w.heap.size + 3 := by rw [← hw3]; simp [z2]
  have b2 : Below w1.heap.size w1 w2 := by rw [← hw2]; exact below_alloc _ _
  have b3 : Below w2.heap.size w2 w3 := by rw [← hw3]; exact below_alloc _ _
  have b13 := b2.trans (b3.mono b2.size)
  have e0 : w3.cell? ⟨w.heap.size + 1, 0, none⟩ = some (.slice a n c) := cell_below (by rw [← z1, ← hw2]; exact cells_alloc _ _ _ 0) b3
  have e1 : w3.cell? ⟨w.heap.size + 1, 1, none⟩ = some (.int .i64 f) := cell_below (by rw [← z1, ← hw2]; exact cells_alloc _ _ _ 1) b3
  have r0 : w3.cell? ⟨w.heap.size + 2, 0, none⟩ = some (.slice none 0 0) := by rw [← z2, ← hw3]; exact cells_alloc _ _ _ 0
  have r1 : w3.cell? ⟨w.heap.size + 2, 1, none⟩ = some (.slice none 0 0) := by rw [← z2, ← hw3]; exact cells_alloc _ _ _ 1
  have f0 : ∀ j, w3.frozen? ⟨w.heap.size + 2, j, none⟩ = false := fun j => by rw [← z2, ← hw3]; exact World.frozen?_alloc_at _ _ _ _ (by simp)
  have q03 := cell_below q0 b13; have q13 := cell_below q1 b13
  have HP3 := hid_ (HP1.out.below b13 (Nat.le_refl _))
  have HI3 := hid_ ((hl.below cb (Nat.le_refl _)).below b13 (Nat.le_refl _))
  have HV := hid_ (ceValidate_calls _ P w3 HP3.out)
  have HEr : Hid (errAdd P ⟨l, f⟩ = if validP P = 0 then validP (addP P ⟨l, f⟩) else validP P) := hid_ rfl
  have HR : Hid (resAdd P ⟨l, f⟩ = if errAdd P ⟨l, f⟩ = 0 then addP P ⟨l, f⟩ else ⟨[], []⟩) := hid_ rfl
  have Hb3 : Hid (Below w.heap.size w w3) := hid_ (Hc1.out.trans (b13.mono Hc1.out.size))
  have hln := h2.len
  have CR : Hid (∀ W, Below w3.heap.size w3 W → CF ⟨w.heap.size + 2, 0, none⟩ (.slice none 0 0) W ∧ CF ⟨w.heap.size + 2, 1, none⟩ (.slice none 0 0) W) := hid_ (fun W hW => ⟨cf_below ⟨r0, f0 0⟩ hW, cf_below ⟨r1, f0 1⟩ hW⟩)
  have hz3 : w.heap.size + 3 ≤ w3.heap.size := by omega
  clear h1 h2 cb b2 b3 b13 q0 q1 z3 r0 r1 f0 hl
  by_cases hv : validP P = 0
  · obtain ⟨-, -, h10, hent⟩ := validP_ok hv
    have h3 := (validP_ok hv).1.2
    have HC := hid_ (fun W (hW : Below w3.heap.size w3 W) => copied_calls _ P W (HP3.out.below hW (Nat.le_refl _)) (by omega) (by omega) (fun k hk => by have := (specB_ok (hent k hk).1).1; omega))
    have Hln := hid_ hln
    have h10' : n2 ≤ 10 := by omega
    have HE2 : Hid (errAdd P ⟨l, f⟩ = validP (addP P ⟨l, f⟩)) := hid_ (by rw [HEr.out, if_pos hv])
    rw [hv] at HV
    clear hv h10 hent h3 hln HEr
    go_enter Try.func63, Try.ntmps63
    go_wp2_with (first
      | (go_at_call 21; (with_reducible refine HV.out.mono ?_); rintro e w4 ⟨rfl, hb4⟩; have q04 := cell_below q03 hb4; have q14 := cell_below q13 hb4; have e04 := cell_below e0 hb4; have e14 := cell_below e1 hb4)
      | (go_at_call 106; (with_reducible refine (HC.out _ hb4).mono ?_); rintro e w5 ⟨v5, rfl, u5, x5, rfl, hu5, hx5, hb5⟩; have e05 := cell_below e04 hb5; have e15 := cell_below e14 hb5; obtain ⟨a3, n3, c3, rfl, -⟩ := hu5.ints; obtain ⟨a5, c5, rfl, -⟩ := hx5.at_; rw [Hln.out] at hx5 hu5 ⊢))
    obtain ⟨W, hW⟩ : ∃ W, w5.alloc (.cells #[.slice a3 n3 c3, .slice a5 n2 c5] 25) = W := ⟨_, rfl⟩
    rw [hW]
    have bW : Below w5.heap.size w5 W := by rw [← hW]; exact below_alloc _ _
    have zW : W.heap.size = w5.heap.size + 1 := by rw [← hW]; simp
    have t0 : CF ⟨w5.heap.size, 0, none⟩ (.slice a3 n3 c3) W := by rw [← hW]; exact ⟨cells_alloc _ _ _ 0, World.frozen?_alloc_at _ _ _ _ (by simp)⟩
    have t1 : CF ⟨w5.heap.size, 1, none⟩ (.slice a5 n2 c5) W := by rw [← hW]; exact ⟨cells_alloc _ _ _ 1, World.frozen?_alloc_at _ _ _ _ (by simp)⟩
    have d0 := cell_below e05 bW; have d1 := cell_below e15 bW
    obtain ⟨F, hF⟩ : ∃ F : Nat → Prop, F = fun b => w4.heap.size ≤ b ∧ b ≠ w5.heap.size := ⟨_, rfl⟩
    have hs34 : w3.heap.size ≤ w4.heap.size := hb4.size
    have hs45 : w4.heap.size ≤ w5.heap.size := hb5.size
    have HOF : Hid (OwnF F W (.slice a5 n2 c5) P.ents) := hid_ ((hx5.toF (fun b h1 h2 => by rw [hF]; exact ⟨h1, by omega⟩)).next bW)
    have HU : Hid (SpecF F W (Value.slice a5 n2 c5).ownBlock (.slice a3 n3 c3) P.sizes) := hid_ ((hu5.toF (fun b h1 h2 => by rw [hF]; exact ⟨h1, by omega⟩)).next bW)
    have Hb34 := hid_ hb4; have Hb45 := hid_ hb5
    have bAll : Below w3.heap.size w3 W := hb4.trans ((hb5.trans (bW.mono hb5.size)).mono hb4.size)
    have HCE := hid_ (copiedEntry_calls a n c l f W.drew ((HI3.out.below bAll (Nat.le_refl _)).drewN 1) hn1000)
    have HbAll := hid_ bAll
    have HF := hid_ hF
    have nG : ¬ F w5.heap.size := by rw [hF]; exact fun h => h.2 rfl
    have nE : ¬ F (w.heap.size + 1) := by rw [hF]; exact fun h => by have := h.1; omega
    have nR : ¬ F (w.heap.size + 2) := by rw [hF]; exact fun h => by have := h.1; omega
    have Hlk : Hid (P.ents.length + 1 ≤ 100000) := hid_ (by rw [Hln.out]; omega)
    have Hl1 : Hid ((P.ents ++ [(⟨l, f⟩ : Ent)]).length = n2 + 1) := hid_ (by rw [List.length_append, Hln.out]; rfl)
    obtain ⟨t1c, t1f⟩ := t1
    have T0 := hid_ t0
    clear hx5 hu5 hb4 hb5 bW hW bAll e0 e1 e04 e14 e05 e15 hw1 hw2 hw3 hF t0
    refine wp_region_last (n := 7) (S := fun W' => W'.cell? ⟨w5.heap.size, 1, none⟩ = some (.slice a5 n2 c5) ∧ W'.cell? ⟨w.heap.size + 1, 0, none⟩ = some (.slice a n c) ∧ W'.cell? ⟨w.heap.size + 1, 1, none⟩ = some (.int .i64 f)) (by kernel_rfl) (by kernel_rfl) ⟨t1c, d0, d1⟩ (fun hHeld => ?_)
    refine wpAnyH_take (i := 0) (oi := ?oi0h1) (v := ?v0h1) ?hi0h1 (by kernel_rfl) ?hf0h1 (by kernel_rfl) ?hQ0h1 ?hy0h1 (by assumption) ?rest0h1
    case hi0h1 => (simp only [List.getElem?_toArray, List.getElem?_cons_zero]; rfl)
    case hf0h1 => kernel_rfl
    case hQ0h1 => exact fun _ _ _ h => h
    case hy0h1 => (refine Or.inl ⟨by rfl, ?_⟩; intro W hSw; (try dsimp only at hSw); go_simp; try with_reducible rfl)
    try simp only [Act.put, List.setIfInBounds_toArray, List.set_cons_zero, List.set_cons_succ]
    refine wpAnyH_take (i := 1) (oi := ?oi1h2) (v := ?v1h2) ?hi1h2 (by kernel_rfl) ?hf1h2 (by kernel_rfl) ?hQ1h2 ?hy1h2 (by assumption) ?rest1h2
    case hi1h2 => (simp only [List.getElem?_toArray, List.getElem?_cons_succ, List.getElem?_cons_zero]; rfl)
    case hf1h2 => kernel_rfl
    case hQ1h2 => exact fun _ _ _ h => h
    case hy1h2 => (refine Or.inl ⟨by rfl, ?_⟩; intro W hSw; (try dsimp only at hSw); obtain ⟨g0, g1, g2⟩ := hSw; go_simp; try with_reducible rfl)
    try simp only [Act.put, List.setIfInBounds_toArray, List.set_cons_zero, List.set_cons_succ]
    refine wpAnyH_take (i := 2) (oi := ?oi2h3) (v := ?v2h3) ?hi2h3 (by kernel_rfl) ?hf2h3 (by kernel_rfl) ?hQ2h3 ?hy2h3 (by assumption) ?rest2h3
    case hi2h3 => (simp only [List.getElem?_toArray, List.getElem?_cons_succ, List.getElem?_cons_zero]; rfl)
    case hf2h3 => kernel_rfl
    case hQ2h3 => exact fun _ _ _ h => h
    case hy2h3 => (refine Or.inl ⟨by rfl, ?_⟩; intro W hSw; (try dsimp only at hSw); obtain ⟨g0, g1, g2⟩ := hSw; go_simp; try with_reducible rfl)
    try simp only [Act.put, List.setIfInBounds_toArray, List.set_cons_zero, List.set_cons_succ]
    refine wpAnyH_ready (rs := [3]) (by kernel_rfl) (by simp) ?_
    refine AllReadyH.cons (o := _) (by (simp only [List.getElem?_toArray, List.getElem?_cons_succ, List.getElem?_cons_zero]; rfl)) (fun K hK => ?_) AllReadyH.nil
    go_simp
    with_reducible refine HCE.out.mono ?_; rintro e w6 ⟨v6, rfl, hm6⟩; obtain ⟨a6, c6, rfl, hi6⟩ := hm6.at_
    refine hK.out _ _ ?_ (fun hHeld => ?_)
    · exact ⟨cell_below (w := W.drew) t1c hm6.bel, cell_below (w := W.drew) d0 hm6.bel, cell_below (w := W.drew) d1 hm6.bel⟩
    clear hK K
    try simp only [Act.put, List.setIfInBounds_toArray, List.set_cons_zero, List.set_cons_succ]
    refine wpAnyH_ready (rs := [4]) (by kernel_rfl) (by simp) ?_
    refine AllReadyH.cons (o := _) (by (simp only [List.getElem?_toArray, List.getElem?_cons_succ, List.getElem?_cons_zero]; rfl)) (fun K hK => ?_) AllReadyH.nil
    go_simp
    refine hK.out _ _ ?_ (fun hHeld => ?_)
    · exact ⟨cell_below (cell_below (w := W.drew) t1c hm6.bel) (below_alloc _ _), cell_below (cell_below (w := W.drew) d0 hm6.bel) (below_alloc _ _), cell_below (cell_below (w := W.drew) d1 hm6.bel) (below_alloc _ _)⟩
    clear hK K
    try simp only [Act.put, List.setIfInBounds_toArray, List.set_cons_zero, List.set_cons_succ]
    have bw6 : Below W.heap.size W w6 := (Below.drew (Below.refl _ _)).trans hm6.bel
    have bw7 := bw6.alloc bw6.size (.cells #[.slice a6 l.length c6, .int .i64 f] 56)
    have hs6 : W.heap.size ≤ w6.heap.size := bw6.size
    obtain ⟨Y, hY⟩ : ∃ Y, w6.alloc (.cells #[.slice a6 l.length c6, .int .i64 f] 56) = Y := ⟨_, rfl⟩
    have hO7 : OwnF F Y (.slice a5 n2 c5) P.ents := by rw [← hY]; exact HOF.out.next bw7
    have hSp : SpecF F Y (Value.slice a5 n2 c5).ownBlock (.slice a6 l.length c6) l := by
      rw [← hY]
      exact (((SpecV.made hm6).next (below_alloc _ _)).lo _ (fun q hq => (HOF.out.lt q hq).2)).toF (fun b h1 h2 => by
        have h1' : W.heap.size ≤ b := h1
        rw [HF.out]; exact ⟨by omega, by omega⟩)
    have hcn : ∀ j u, (encE ((.slice a6 l.length c6, f) : Ec))[j]? = some u → Y.cell? ((⟨w6.heap.size, 0, none⟩ : Addr).add j) = some u := by rw [← hY]; exact cells_new2 _ _ _ _
    have hnew : F Y.heap.size := by rw [HF.out, ← hY]; simp; omega
    have bY : Below W.heap.size W Y := by rw [← hY]; exact bw7
    rw [hY]
    refine wpAnyH_ready (rs := [5]) (by kernel_rfl) (by simp) ?_
    refine AllReadyH.cons (o := _) (by (simp only [List.getElem?_toArray, List.getElem?_cons_succ, List.getElem?_cons_zero]; rfl)) (fun K hK => ?_) AllReadyH.nil
    refine step_append_entF rfl (.tmp 18) (.tmp 21) rfl (.slice a5 n2 c5) P.ents (by rfl) hO7 ⟨w6.heap.size, 0, none⟩ 1 (.slice a6 l.length c6, f) ⟨l, f⟩ (by rfl) hcn hSp rfl Hlk.out hnew ?_; intro v8 w8 hown8 hg8 hat8
    refine hK.out _ _ ?_ (fun hHeld => ?_)
    · exact ⟨hg8.cell (cell_below t1c bY) (fun e => nG (hO7.lt _ e.symm).1), hg8.cell (cell_below d0 bY) (fun e => nE (hO7.lt _ e.symm).1), hg8.cell (cell_below d1 bY) (fun e => nE (hO7.lt _ e.symm).1)⟩
    clear hK K
    try simp only [Act.put, List.setIfInBounds_toArray, List.set_cons_zero, List.set_cons_succ]
    refine wpAnyH_take (i := 6) (oi := ?oi6h4) (v := ?v6h4) ?hi6h4 (by kernel_rfl) ?hf6h4 (by kernel_rfl) ?hQ6h4 ?hy6h4 (by assumption) ?rest6h4
    case hi6h4 => (simp only [List.getElem?_toArray, List.getElem?_cons_succ, List.getElem?_cons_zero]; rfl)
    case hf6h4 => kernel_rfl
    case hQ6h4 => exact fun _ _ _ h => h
    case hy6h4 => (refine Or.inl ⟨by rfl, ?_⟩; intro W hSw; (try dsimp only at hSw); go_simp; try with_reducible rfl)
    try simp only [Act.put, List.setIfInBounds_toArray, List.set_cons_zero, List.set_cons_succ]
    have B8 : Below w.heap.size W w8 := Below.grown (bY.mono (by omega)) hg8 (by have := bY.size; omega) (fun r e => by have h := (hO7.lt r e).1; rw [HF.out] at h; have := h.1; omega)
    have T8 : CF ⟨w5.heap.size, 0, none⟩ (.slice a3 n3 c3) w8 := cf_grown (cf_below T0.out bY) hg8 (fun e => nG (hO7.lt _ e).1)
    have T9 : CF ⟨w5.heap.size, 1, none⟩ (.slice a5 n2 c5) w8 := cf_grown (cf_below ⟨t1c, t1f⟩ bY) hg8 (fun e => nG (hO7.lt _ e).1)
    obtain ⟨R0, R1⟩ := CR.out _ (HbAll.out.trans (bY.mono HbAll.out.size))
    have R08 := cf_grown R0 hg8 (fun e => nR (hO7.lt _ e).1)
    have R18 := cf_grown R1 hg8 (fun e => nR (hO7.lt _ e).1)
    have hu8 := (HU.out.next bY).after hg8 (hat8.imp id fun e => ⟨_, e, Nat.le_refl _⟩)
    obtain ⟨a8, c8, hv8, -⟩ := (hown8.toE (B := 0) (fun _ _ => Nat.zero_le _)).at_
    rw [Hl1.out] at hv8
    subst hv8
    have Hown8 := hid_ hown8; have Hu8 := hid_ hu8; have HB8 := hid_ B8; have HR08 := hid_ R08; have HR18 := hid_ R18
    obtain ⟨c0, -⟩ := T8
    obtain ⟨c1, c1f⟩ := T9
    clear hown8 hu8 B8 R08 R18 R0 R1 hO7 hSp hcn hnew bY hY hg8 hat8 bw6 bw7 hm6 hi6 d0 d1 t1c t1f
    refine wpAnyH_done (by kernel_rfl) ?_ _
    clear hHeld
    refine last_of ?_
    refine wpOp_step (o := _) (by (simp only [List.getElem?_toArray, List.getElem?_cons_succ, List.getElem?_cons_zero]; rfl)) (fun K hK => ?_)
    go_simp
    refine hK _ _ ?_
    clear hK K
    try simp only [Act.put, List.setIfInBounds_toArray, List.set_cons_zero, List.set_cons_succ]
    obtain ⟨X, hX⟩ : ∃ X, w8.setCell ⟨w5.heap.size, 1, none⟩ (.slice a8 (n2 + 1) c8) = X := ⟨_, rfl⟩
    rw [hX]
    have x0 : X.cell? ⟨w5.heap.size, 0, none⟩ = some (.slice a3 n3 c3) := by rw [← hX, World.cell?_setCell_other _ _ _ _ (by simp)]; exact c0
    have x1 : X.cell? ⟨w5.heap.size, 1, none⟩ = some (.slice a8 (n2 + 1) c8) := by rw [← hX, World.cell?_setCell_same _ _ _ c1]
    have hne2 : ¬ (w5.heap.size = w.heap.size + 2) := by omega
    have X0 : CF ⟨w.heap.size + 2, 0, none⟩ (.slice none 0 0) X := by rw [← hX]; exact ⟨by rw [World.cell?_setCell_other _ _ _ _ (by simp)]; exact HR08.out.1, by rw [World.frozen?_setCell]; exact HR08.out.2⟩
    have X1 : CF ⟨w.heap.size + 2, 1, none⟩ (.slice none 0 0) X := by rw [← hX]; exact ⟨by rw [World.cell?_setCell_other _ _ _ _ (by simp)]; exact HR18.out.1, by rw [World.frozen?_setCell]; exact HR18.out.2⟩
    have HOX : Hid (OwnF F X (.slice a8 (n2 + 1) c8) (addP P ⟨l, f⟩).ents) := hid_ (by rw [← hX]; exact Hown8.out.store nG _)
    have HUX : Hid (SpecF F X (Value.slice a8 (n2 + 1) c8).ownBlock (.slice a3 n3 c3) (addP P ⟨l, f⟩).sizes) := hid_ (by rw [← hX]; exact Hu8.out.store nG _)
    have HBX : Hid (Below w.heap.size w X) := hid_ (by
      have h0 : Below w.heap.size w W := Hb3.out.trans (HbAll.out.mono Hb3.out.size)
      rw [← hX]
      exact (h0.trans HB8.out).setCell (p := ⟨w5.heap.size, 1, none⟩) (by show w.heap.size ≤ w5.heap.size; omega) _)
    have HPX : Hid (ParAt X (.agg #[.slice a3 n3 c3, .slice a8 (n2 + 1) c8]) (addP P ⟨l, f⟩)) := hid_ (by
      obtain ⟨p1, p2, p3, e, hi⟩ := (HUX.out.toV (B := 0) (fun _ _ => Nat.zero_le _)).ints
      obtain ⟨p4, p5, e', hx⟩ := (HOX.out.toE (B := 0) (fun _ _ => Nat.zero_le _)).at_
      rw [e, e']
      exact ⟨_, _, _, _, _, _, rfl, hi, hx⟩)
    have HV2 := hid_ (ceValidate_calls _ _ X HPX.out)
    have hge : ∀ b, F b → w.heap.size ≤ b := fun b h => by rw [HF.out] at h; have := h.1; omega
    have Hge := hid_ hge
    clear hX hge c0 c1 c1f
    by_cases hy : validP (addP P ⟨l, f⟩) = 0
    · have Hf : Hid (resAdd P ⟨l, f⟩ = addP P ⟨l, f⟩) := hid_ (by rw [HR.out, HE2.out, if_pos hy])
      have He : Hid (errAdd P ⟨l, f⟩ = 0) := hid_ (HE2.out.trans hy)
      rw [hy] at HV2
      clear hy
      go_wp2_with (go_at_call 21; (with_reducible refine HV2.out.mono ?_); rintro e w9 ⟨rfl, hb9⟩; have x09 := cell_below x0 hb9; have x19 := cell_below x1 hb9; obtain ⟨y0, y2⟩ := cf_below X0 hb9; obtain ⟨y1, y3⟩ := cf_below X1 hb9)
      obtain ⟨k0, k1⟩ := cells_two y0 y1 (.slice a3 n3 c3) (.slice a8 (n2 + 1) c8)
      refine bodyPost_ret (v := .tuple #[.agg #[.slice a3 n3 c3, .slice a8 (n2 + 1) c8], .int .i64 0]) ?_ rfl ⟨_, by rw [He.out], (congrArg (MadeP6 w _ _) Hf.out).mpr ⟨_, _, rfl, ?_, ?_, ?_⟩⟩
      · simp [results, Try.results63, go_sem, k0, k1]
      · exact (((HUX.out.next hb9).store (p := ⟨w.heap.size + 2, 0, none⟩) nR _).store (p := ⟨w.heap.size + 2, 1, none⟩) nR _).toV Hge.out
      · exact (((HOX.out.next hb9).store (p := ⟨w.heap.size + 2, 0, none⟩) nR _).store (p := ⟨w.heap.size + 2, 1, none⟩) nR _).toE Hge.out
      · have hf : Below w.heap.size w w9 := HBX.out.trans (hb9.mono HBX.out.size)
        exact (hf.setCell (p := ⟨w.heap.size + 2, 0, none⟩) (by show _ ≤ _ + 2; omega) _).setCell (p := ⟨w.heap.size + 2, 1, none⟩) (by show _ ≤ _ + 2; omega) _
    · have hq : (validP (addP P ⟨l, f⟩) != 0) = true := by simpa using hy
      have Hf : Hid (resAdd P ⟨l, f⟩ = ⟨[], []⟩) := hid_ (by rw [HR.out, HE2.out, if_neg hy])
      clear hy HR
      generalize validP (addP P ⟨l, f⟩) = x at *
      go_wp2_with (go_at_call 21; (with_reducible refine HV2.out.mono ?_); rintro e w9 ⟨rfl, hb9⟩; have x09 := cell_below x0 hb9; have x19 := cell_below x1 hb9; obtain ⟨y0, y2⟩ := cf_below X0 hb9; obtain ⟨y1, y3⟩ := cf_below X1 hb9)
      obtain ⟨k0, k1⟩ := cells_two y0 y1 (.slice none 0 0) (.slice none 0 0)
      refine bodyPost_ret (v := .tuple #[.agg #[.slice none 0 0, .slice none 0 0], .int .i64 x]) ?_ rfl ⟨_, by rw [HE2.out], (congrArg (MadeP6 w _ _) Hf.out).mpr (MadeP6.zero ?_)⟩
      · simp [results, Try.results63, go_sem, k0, k1]
      · have hf : Below w.heap.size w w9 := HBX.out.trans (hb9.mono HBX.out.size)
        exact (hf.setCell (p := ⟨w.heap.size + 2, 0, none⟩) (by show _ ≤ _ + 2; omega) _).setCell (p := ⟨w.heap.size + 2, 1, none⟩) (by show _ ≤ _ + 2; omega) _
  · have hq : (validP P != 0) = true := by simpa using hv
    have he : errAdd P ⟨l, f⟩ = validP P := by rw [HEr.out, if_neg hv]
    have Hf : Hid (resAdd P ⟨l, f⟩ = ⟨[], []⟩) := hid_ (by rw [HR.out, he, if_neg hv])
    rw [Hf.out, he]
    clear he hv HR HEr
    generalize validP P = x at *
    go_enter Try.func63, Try.ntmps63
    go_wp2_with (go_at_call 21; (with_reducible refine HV.out.mono ?_); rintro e w4 ⟨rfl, hb4⟩; obtain ⟨⟨y0, y2⟩, y1, y3⟩ := CR.out _ hb4)
    obtain ⟨t0, t1⟩ := cells_two y0 y1 (.slice none 0 0) (.slice none 0 0)
    refine bodyPost_ret (v := .tuple #[.agg #[.slice none 0 0, .slice none 0 0], .int .i64 x]) ?_ rfl ⟨_, rfl, MadeP6.zero ?_⟩
    · simp [results, Try.results63, go_sem, t0, t1]
    · have hf : Below w.heap.size w w4 := Hb3.out.trans (hb4.mono Hb3.out.size)
      exact (hf.setCell (p := ⟨w.heap.size + 2, 0, none⟩) (by show _ ≤ _ + 2; omega) _).setCell (p := ⟨w.heap.size + 2, 1, none⟩) (by show _ ≤ _ + 2; omega) _
end Go.Proofs.Ytahknodnjjmagaa
