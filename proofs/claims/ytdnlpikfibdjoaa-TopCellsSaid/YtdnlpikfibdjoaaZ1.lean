import Derived.Test.YtdnlpikfibdjoaaZvb
import Derived.Test.YtdnlpikfibdjoaaZvc
import Derived.Test.YtdnlpikfibdjoaaZ2
namespace Go.Proofs.Ytdnlpikfibdjoaa
open Go.RowKit Go.Proofs.Kv Go
attribute [local go_sem] Oper.semAt_some

/-! ### fill of the program -/
/-- a boxed variable: what it holds, and that it may be written -/
def CF (p : Addr) (v : Value) (W : World) : Prop := W.cell? p = some v ∧ W.frozen? p = false
theorem stays_cf {D : Nat} {p : Addr} {v : Value} (hp : p.block < D) : Stays (D + 2) fun W => CF p v W := fun A A' row h hg hr => by
  have hne : row ≠ some p.block := fun e => by have := (hr _ e).1; omega
  refine ⟨hg.cell h.1 (fun e => hne e.symm), ?_⟩
  have hb := hg.block p.block (World.block_lt_of_cell? A p h.1) (fun e => hne e.symm)
  have := h.2
  unfold World.frozen? at this ⊢
  rw [hb]; exact this
theorem cf_below {p : Addr} {v : Value} {w w' : World} (h : CF p v w) (hb : Below w.heap.size w w') : CF p v w' :=
  ⟨cell_below h.1 hb, (hb.frozen (World.block_lt_of_cell? w p h.1)).trans h.2⟩
theorem keeps_below {w w' : World} (hb : Below w.heap.size w w') : KeepsOthers w w' := ⟨hb.size, fun j o ho _ => by rw [hb.block j (Array.getElem?_eq_some_iff.1 ho).1]; exact ho⟩
theorem keeps_grown {w w' : World} {B E size n : Nat} {v : Value} {xs : List Value} (hown : w.ownsRow B E size v n xs) (hg : w.grownBy w' v.ownBlock) : KeepsOthers w w' :=
  ⟨hg.size, fun j o ho hc => by
    rw [hg.block j (Array.getElem?_eq_some_iff.1 ho).1 (fun e => ?_)]
    · exact ho
    · rcases hown.2 with ⟨rfl, _⟩ | ⟨g, cap, cur, rfl, _, hg', _⟩
      · simp [Value.ownBlock] at e
      · have e2 : g = j := by simpa [Value.ownBlock] using e.symm
        subst e2
        rw [hg'] at ho
        injection ho with ho
        subst ho
        simp [Obj.isCells] at hc⟩
theorem cellsOf_calls (sa : Option Addr) (n cs : Nat) (w : World) :
    Calls Try.prog 75 #[.slice sa n cs] w fun e w' => e = .returned (.func (.func 118) #[] #[.pointer (some ⟨w.heap.size, 0, none⟩)]) ∧ w' = w.alloc (.cells #[.slice sa n cs] 22) := by
  go_enter Try.func75, Try.ntmps75
  go_wp2
  go_ret
  exact ⟨rfl, rfl⟩
set_option maxRecDepth 100000 in
set_option maxHeartbeats 1000000 in
theorem cefill_calls (v : Value) (P : Par) (w : World) (h : ParAt w v P) (hv : validP P = 0) :
    Calls Try.prog 76 #[v] w fun e w' => ∃ v', e = .returned v' ∧ Made 3 w w' v' (fillL P) := by
  obtain ⟨i0, hi0, hz0, hz1, hz2⟩ := info_parts Try.infoInt
  have HP := hid_ h
  obtain ⟨a1, n1, c1, a2, n2, c2, rfl, h1, h2⟩ := h
  obtain ⟨w1, hw1⟩ : ∃ w1, w.alloc (.cells #[.slice a1 n1 c1, .slice a2 n2 c2] 25) = w1 := ⟨_, rfl⟩
  have cb : Below w.heap.size w w1 := by rw [← hw1]; exact below_alloc _ _
  have q0 : w1.cell? ⟨w.heap.size, 0, none⟩ = some (.slice a1 n1 c1) := by rw [← hw1]; exact cells_alloc _ _ _ 0
  have q1 : w1.cell? ⟨w.heap.size, 1, none⟩ = some (.slice a2 n2 c2) := by rw [← hw1]; exact cells_alloc _ _ _ 1
  have HP1 := hid_ (HP.out.below cb (Nat.le_refl _)); have Hc1 := hid_ cb
  have hn : P.sizes.length = n1 := h1.len
  have Hn := hid_ hn
  obtain ⟨w2, hw2⟩ : ∃ w2, w1.alloc (.cells #[.slice none 0 0] 22) = w2 := ⟨_, rfl⟩
  have cb2 : Below w1.heap.size w1 w2 := by rw [← hw2]; exact below_alloc _ _
  have z2 : w2.heap.size = w.heap.size + 2 := by rw [← hw2, ← hw1]; simp
  have z1 : w1.heap.size = w.heap.size + 1 := by rw [← hw1]; simp
  have q02 := cell_below q0 cb2; have q12 := cell_below q1 cb2
  have Hf2 : Hid (CF ⟨w.heap.size + 1, 0, none⟩ (.slice none 0 0) w2) := hid_ (by rw [← z1, ← hw2]; exact ⟨cells_alloc _ _ _ 0, World.frozen?_alloc_at _ _ _ _ (by simp)⟩)
  have Hv := hid_ hv
  have h27 := (cells_chain hv).2.2.1
  refine (callsIn_wide (n := 9)).1 ?_
  refine callsIn_of_wp_marks Try.func76 rfl trivial ?_ rfl
  simp only [Try.ntmps76, List.size_toArray, List.length_cons, List.length_nil, Nat.reduceAdd, Nat.reduceSub, Array.replicate_succ, Array.replicate_zero, List.push_toArray, List.append_toArray, List.nil_append, List.cons_append]
  gi_wp2
  refine ⟨trivial, (callsIn_wide.2 (cellsOf_calls _ _ _ w2)).mono ?_⟩
  rintro e w3 ⟨rfl, hw3⟩
  have z3 : w3.heap.size = w.heap.size + 3 := by rw [hw3]; simp [z2]
  have b23 : Below w2.heap.size w2 w3 := by rw [hw3]; exact below_alloc _ _
  have k3 : w3.cell? ⟨w.heap.size + 2, 0, none⟩ = some (.slice a1 n1 c1) := by rw [hw3, ← z2]; exact cells_alloc _ _ _ 0
  have Hk3 := hid_ k3
  have Hq03 := hid_ (cell_below q02 b23); have Hq13 := hid_ (cell_below q12 b23)
  have Hf3 := hid_ (cf_below Hf2.out b23)
  have Hb3 : Hid (Below w.heap.size w w3) := hid_ (Hc1.out.trans ((cb2.trans (b23.mono (by omega))).mono (by omega)))
  rw [z2]
  have HPw := HP
  have Hit := hid_ (cells_iter P a1 n1 c1 (w.heap.size + 2) hv hn 8)
  clear hw3 k3 b23 cb2 q02 q12 q0 q1 HP1 hw2 Hf2 Hc1 hn hv
  gi_wp2
  refine wpIn_rangeFunc_new (n := 9) rfl (by omega) (gf := 118) (lb := #[.pointer (some ⟨w.heap.size + 2, 0, none⟩)]) rfl trivial (enters_of Try.func118 (by kernel_rfl) rfl) Hit.out rfl
    ?hC
    (fun k W => ((Below w.heap.size w W ∧ W.cell? ⟨w.heap.size, 0, none⟩ = some (.slice a1 n1 c1)) ∧ (W.cell? ⟨w.heap.size, 1, none⟩ = some (.slice a2 n2 c2) ∧ W.cell? ⟨w.heap.size + 2, 0, none⟩ = some (.slice a1 n1 c1))) ∧ ∃ v, CF ⟨w.heap.size + 1, 0, none⟩ v W ∧ W.ownsRow (w3.heap.size + 3) 3 1 v k ((fillK P k).map (Value.int .i64)))
    (fun _ _ _ => False)
    ?hIG ?hI ?hIx ⟨⟨⟨Hb3.out, Hq03.out⟩, Hq13.out, Hk3.out⟩, _, Hf3.out, World.ownsRow_nil _ _ _ _⟩
    (fun v => { tmps := #[.agg #[.slice a1 n1 c1, .slice a2 n2 c2], .pointer (some ⟨w.heap.size, 0, none⟩), .slice none 0 0, .pointer (some ⟨w.heap.size + 1, 0, none⟩), v, .pointer (some ⟨w.heap.size, 0, none⟩), .slice a1 n1 c1, .func (.func 118) #[] #[.pointer (some ⟨w.heap.size + 2, 0, none⟩)], v, undef, undef, undef, undef, undef, undef, undef], defers := [] })
    ?hassign ?hbody (fun k A v h => h.1) ?hdone ?hstop
  case hC => exact fun k A v h l o o' hl ho => ⟨by have := h.1; simpa using this, (StaysN.own (B := 0)).put o' h.2 hl ho (Nat.zero_le _)⟩
  case hIG => exact fun k A hA => ⟨hA.1.2.2, h1.below hA.1.1.1 (Nat.le_refl _)⟩
  case hI => exact fun k => stays_and (stays_and (stays_and (stays_below (by omega) (Nat.le_refl _)) (stays_cell (by show w.heap.size < _; omega))) (stays_and (stays_cell (by show w.heap.size < _; omega)) (stays_cell (by show w.heap.size + 2 < _; omega)))) (stays_ex fun v => stays_and (stays_cf (by show w.heap.size + 1 < _; omega)) stays_own)
  case hIx => exact fun c k A A' row h => h.elim
  case hstop => exact fun D c k W hD hk h => h.elim
  case hassign =>
    intro l v W K hK
    gi_wp2
    exact hK
  case hbody =>
    rintro l k v W ⟨⟨⟨hb, e0⟩, e1, e2⟩, fv, ⟨f0, f1⟩, hown⟩ hkN ⟨hBs, hov⟩ hBW
    rw [Hn.out] at hov
    obtain ⟨av, cv, rfl, hiv⟩ := IntsAt.own hov
    have HF := hid_ (ceformOf_calls _ P av n1 cv _ W.drew ((HP.out.below hb (Nat.le_refl _)).drewN 1) (hiv.drewN 1) Hv.out Hn.out)
    have Hs := hid_ (@fillK_succ P k hkN)
    have HIk := hid_ (And.intro (And.intro hb e0) (And.intro e1 e2))
    have HBW := hid_ hBW
    have hWz : w.heap.size + 5 < W.heap.size := by omega
    have hk6 : k + 1 ≤ 1000000 := by omega
    clear hiv hov
    generalize formR P ((cellsL P.sizes).getD k []) = y at *
    gi_wp2
    refine wpIn_region_last (n := 6) (S := fun W' => (W'.cell? ⟨w.heap.size, 0, none⟩ = some (.slice a1 n1 c1) ∧ W'.cell? ⟨w.heap.size, 1, none⟩ = some (.slice a2 n2 c2)) ∧ W'.cell? ⟨w.heap.size + 1, 0, none⟩ = some fv) (by rintro ⟨_, _, h⟩; exact h) (by kernel_rfl) (by kernel_rfl) (by kernel_rfl) ⟨⟨e0, e1⟩, f0⟩ (fun hHeld => ?_)
    refine wpAnyH_take (i := 0) (oi := ?oi0h1) (v := ?v0h1) ?hi0h1 (by kernel_rfl) ?hf0h1 (by kernel_rfl) ?hQ0h1 ?hy0h1 (by assumption) ?rest0h1
    case hi0h1 => (simp only [List.getElem?_toArray, List.getElem?_cons_zero]; rfl)
    case hf0h1 => kernel_rfl
    case hQ0h1 => exact fun _ _ _ h => h
    case hy0h1 => (refine Or.inl ⟨by rfl, ?_⟩; intro W hSw; (try dsimp only at hSw); obtain ⟨⟨g0, g1⟩, g2⟩ := hSw; go_simp; try with_reducible rfl)
    try simp only [Act.put, List.setIfInBounds_toArray, List.set_cons_zero, List.set_cons_succ]
    refine wpAnyH_take (i := 1) (oi := ?oi1h2) (v := ?v1h2) ?hi1h2 (by kernel_rfl) ?hf1h2 (by kernel_rfl) ?hQ1h2 ?hy1h2 (by assumption) ?rest1h2
    case hi1h2 => (simp only [List.getElem?_toArray, List.getElem?_cons_succ, List.getElem?_cons_zero]; rfl)
    case hf1h2 => kernel_rfl
    case hQ1h2 => exact fun _ _ _ h => h
    case hy1h2 => (refine Or.inl ⟨by rfl, ?_⟩; intro W hSw; (try dsimp only at hSw); obtain ⟨⟨g0, g1⟩, g2⟩ := hSw; go_simp; try with_reducible rfl)
    try simp only [Act.put, List.setIfInBounds_toArray, List.set_cons_zero, List.set_cons_succ]
    refine wpAnyH_take (i := 2) (oi := ?oi2h3) (v := ?v2h3) ?hi2h3 (by kernel_rfl) ?hf2h3 (by kernel_rfl) ?hQ2h3 ?hy2h3 (by assumption) ?rest2h3
    case hi2h3 => (simp only [List.getElem?_toArray, List.getElem?_cons_succ, List.getElem?_cons_zero]; rfl)
    case hf2h3 => kernel_rfl
    case hQ2h3 => exact fun _ _ _ h => h
    case hy2h3 => (refine Or.inl ⟨by rfl, ?_⟩; intro W hSw; (try dsimp only at hSw); go_simp; try with_reducible rfl)
    try simp only [Act.put, List.setIfInBounds_toArray, List.set_cons_zero, List.set_cons_succ]
    refine wpAnyH_ready (rs := [3]) (by kernel_rfl) (by simp) ?_
    refine AllReadyH.cons (o := _) (by (simp only [List.getElem?_toArray, List.getElem?_cons_succ, List.getElem?_cons_zero]; rfl)) (fun K hK => ?_) AllReadyH.nil
    go_simp
    with_reducible refine HF.out.mono ?_; rintro e w5 ⟨rfl, hb5⟩
    refine hK.out _ _ ?_ (fun hHeld => ?_)
    · exact ⟨⟨cell_below (w := W.drew) e0 hb5, cell_below (w := W.drew) e1 hb5⟩, cell_below (w := W.drew) f0 hb5⟩
    clear hK K
    try simp only [Act.put, List.setIfInBounds_toArray, List.set_cons_zero, List.set_cons_succ]
    refine wpAnyH_ready (rs := [4]) (by kernel_rfl) (by simp) ?_
    refine AllReadyH.cons (o := _) (by (simp only [List.getElem?_toArray, List.getElem?_cons_succ, List.getElem?_cons_zero]; rfl)) (fun K hK => ?_) AllReadyH.nil
    go_simp
    refine hK.out _ _ ?_ (fun hHeld => ?_)
    · exact ⟨⟨cell_below (cell_below (w := W.drew) e0 hb5) (below_alloc _ _), cell_below (cell_below (w := W.drew) e1 hb5) (below_alloc _ _)⟩, cell_below (cell_below (w := W.drew) f0 hb5) (below_alloc _ _)⟩
    clear hK K
    try simp only [Act.put, List.setIfInBounds_toArray, List.set_cons_zero, List.set_cons_succ]
    have hs5 : W.heap.size ≤ w5.heap.size := hb5.size
    have hO5 : (w5.alloc (.cells #[.int .i64 y] 3)).ownsRow (w3.heap.size + 3) 3 1 fv k ((fillK P k).map (Value.int .i64)) := (own_below (w := W.drew) (own_drewN hown 1) hb5 (Nat.le_refl _)).alloc _
    have hbs5 : w3.heap.size + 3 ≤ (w5.alloc (.cells #[.int .i64 y] 3)).heap.size := by simp; omega
    have hne : ∀ b, fv.ownBlock = some b → w3.heap.size + 3 ≤ b := fun b e => (hO5.lt b e).1
    have hb5w : Below W.heap.size W w5 := (Below.drew (Below.refl _ _)).trans hb5
    refine wpAnyH_ready (rs := [5]) (by kernel_rfl) (by simp) ?_
    refine AllReadyH.cons (o := _) (by (simp only [List.getElem?_toArray, List.getElem?_cons_succ, List.getElem?_cons_zero]; rfl)) (fun K hK => ?_) AllReadyH.nil
    refine step_append_row rfl (.tmp 9) (.tmp 13) rfl (w3.heap.size + 3) fv k _ (by rfl) hO5 _ 1 1 _ (by rfl) (IntsAt.one w5 y _) hk6 hbs5 ?_; intro v6 w6 hown6 hg6 hat6
    refine hK.out _ _ ?_ (fun hHeld => ?_)
    · exact ⟨⟨hg6.cell (cell_below (cell_below (w := W.drew) e0 hb5) (below_alloc _ _)) (fun e => by have : w3.heap.size + 3 ≤ w.heap.size := hne _ e.symm; omega), hg6.cell (cell_below (cell_below (w := W.drew) e1 hb5) (below_alloc _ _)) (fun e => by have : w3.heap.size + 3 ≤ w.heap.size := hne _ e.symm; omega)⟩, hg6.cell (cell_below (cell_below (w := W.drew) f0 hb5) (below_alloc _ _)) (fun e => by have : w3.heap.size + 3 ≤ w.heap.size + 1 := hne _ e.symm; omega)⟩
    clear hK K
    try simp only [Act.put, List.setIfInBounds_toArray, List.set_cons_zero, List.set_cons_succ]
    obtain ⟨av6, cv6, rfl, -⟩ := IntsAt.own hown6
    have hB6 : Below (w3.heap.size + 3) W w6 := Below.grown ((hb5w.alloc (by omega) _).mono (by omega)) hg6 (by simp; omega) (fun r e => hne r e)
    have c6 : w6.cell? ⟨w.heap.size + 1, 0, none⟩ = some fv := (hB6.cell (p := ⟨w.heap.size + 1, 0, none⟩) (by show w.heap.size + 1 < _; omega)).trans f0
    have c7 : w6.frozen? ⟨w.heap.size + 1, 0, none⟩ = false := (hB6.frozen (p := ⟨w.heap.size + 1, 0, none⟩) (by show w.heap.size + 1 < _; omega)).trans f1
    have c0 : w6.cell? ⟨w.heap.size, 0, none⟩ = some (.slice a1 n1 c1) := (hB6.cell (p := ⟨w.heap.size, 0, none⟩) (by show w.heap.size < _; omega)).trans e0
    have c1' : w6.cell? ⟨w.heap.size, 1, none⟩ = some (.slice a2 n2 c2) := (hB6.cell (p := ⟨w.heap.size, 1, none⟩) (by show w.heap.size < _; omega)).trans e1
    have c2' : w6.cell? ⟨w.heap.size + 2, 0, none⟩ = some (.slice a1 n1 c1) := (hB6.cell (p := ⟨w.heap.size + 2, 0, none⟩) (by show w.heap.size + 2 < _; omega)).trans e2
    have hko : KeepsOthers W w6 := ((keeps_below hb5w).trans (keeps_below (below_alloc _ _))).trans (keeps_grown hO5 hg6)
    refine wpAnyH_done (by kernel_rfl) ?_ _
    clear hHeld
    refine last_of ?_
    refine wpOp_step (o := _) (by (simp only [List.getElem?_toArray, List.getElem?_cons_succ, List.getElem?_cons_zero]; rfl)) (fun K hK => ?_)
    go_simp
    refine hK _ _ ?_
    clear hK K
    try simp only [Act.put, List.setIfInBounds_toArray, List.set_cons_zero, List.set_cons_succ]
    refine ⟨hko.trans (KeepsOthers.setCell _ _ _), (Below.heap_setCell w6 ⟨w.heap.size + 1, 0, none⟩ _ (w3.heap.size + 2) (by show w3.heap.size + 2 ≠ w.heap.size + 1; omega)).trans (hB6.block _ (by omega)), ⟨⟨?_, ?_⟩, ?_, ?_⟩, .slice av6 (k + 1) cv6, ⟨?_, ?_⟩, ?_⟩
    · exact (hb.trans (hB6.mono (by omega))).setCell (p := ⟨w.heap.size + 1, 0, none⟩) (by show _ ≤ _ + 1; omega) _
    · rw [World.cell?_setCell_other _ _ _ _ (by simp)]; exact c0
    · rw [World.cell?_setCell_other _ _ _ _ (by simp)]; exact c1'
    · rw [World.cell?_setCell_other _ _ _ _ (by simp)]; exact c2'
    · rw [World.cell?_setCell_same _ _ _ c6]
    · rw [World.frozen?_setCell]; exact c7
    · rw [Hs.out]; exact ownsRow_setCell_below hown6 (by show w.heap.size + 1 < _; omega) _
  case hdone =>
    rintro D W hD ⟨⟨⟨hb, e0⟩, e1, e2⟩, fv, ⟨f0, f1⟩, hown⟩ hK
    have Hl : Hid ((cellsL P.sizes).length = (fillL P).length) := hid_ (by rw [fillL, List.length_map])
    rw [fillK_all] at hown
    rw [Hl.out] at hown
    obtain ⟨af, cf, rfl, -⟩ := IntsAt.own hown
    have Hown := hid_ hown
    have HK := hid_ hK
    have Hb := hid_ hb
    clear hown hK hb
    gi_wp2
    have hDr : ∀ r, some D = some r → ∃ o : Obj, W.heap[r]? = some o ∧ o.isCells = false := fun r e => by cases e; exact ⟨_, HK.out, rfl⟩
    have hb2 : Below w.heap.size w (W.putObj D (.deferred none)) := Hb.out.grown (grownBy_putObj' W D (.deferred none)) Hb.out.size fun r e => by cases e; omega
    have hp1 := stays_own (D := w3.heap.size) W _ (some D) Hown.out (grownBy_putObj' W D (.deferred none)) fun r e => by cases e; exact ⟨by omega, .inr ⟨_, HK.out, rfl⟩⟩
    refine ⟨by simp, .inl ⟨_, _, rfl, run_takeDeferred HK.out, ?_⟩⟩
    refine ⟨.slice af (fillL P).length cf, by simp [results, Try.results76, go_sem], ?_⟩
    exact ⟨_, rfl, ⟨own_base hp1 (by omega), hb2⟩⟩
end Go.Proofs.Ytdnlpikfibdjoaa
