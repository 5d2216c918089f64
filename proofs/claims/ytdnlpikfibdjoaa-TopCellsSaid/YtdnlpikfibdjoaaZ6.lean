import Derived.Test.YtdnlpikfibdjoaaZ4
namespace Go.Proofs.Ytdnlpikfibdjoaa
open Go.RowKit Go.Proofs.Kv Go
attribute [local go_sem] Oper.semAt_some

/-! ### the cells of which something is true -/
def withK (P : Par) (pr : List Int → Bool) (k : Nat) : List (List Int) := ((cellsL P.sizes).take k).filter pr
def withL (P : Par) (pr : List Int → Bool) : List (List Int) := (cellsL P.sizes).filter pr
theorem withK_hit {P : Par} {pr : List Int → Bool} {k : Nat} (hk : k < (cellsL P.sizes).length) (h : pr ((cellsL P.sizes).getD k []) = true) : withK P pr (k + 1) = withK P pr k ++ [(cellsL P.sizes).getD k []] := by
  rw [withK, take_snoc _ [] k hk, List.filter_append, List.filter_cons_of_pos h]; rfl
theorem withK_miss {P : Par} {pr : List Int → Bool} {k : Nat} (hk : k < (cellsL P.sizes).length) (h : pr ((cellsL P.sizes).getD k []) = false) : withK P pr (k + 1) = withK P pr k := by
  rw [withK, take_snoc _ [] k hk, List.filter_append, List.filter_cons_of_neg (by rw [h]; simp)]; simp [withK]
theorem withK_all (P : Par) (pr : List Int → Bool) : withK P pr (cellsL P.sizes).length = withL P pr := by rw [withK, List.take_length]; rfl
theorem withK_le {P : Par} {pr : List Int → Bool} {k : Nat} : (withK P pr k).length ≤ (cellsL P.sizes).length := by
  refine Nat.le_trans (List.length_filter_le _ _) ?_
  rw [List.length_take]; omega
set_option maxRecDepth 100000 in
set_option maxHeartbeats 1000000 in
theorem cellsWith_calls (f : Nat) (caps : Array Value) (pr : List Int → Bool) (v : Value) (P : Par) (w : World) (h : ParAt w v P) (hv : validP P = 0) (hent : ∀ args W, (callFunc f args).run Try.prog W = .ok (.enter f args) W)
    (hcall : ∀ W a c l, Below w.heap.size w W → IntsAt W a P.sizes.length c l → specB P.sizes l 0 = true → Calls Try.prog f (#[.slice a P.sizes.length c] ++ caps) W fun e w' => e = .returned (.bool (pr l)) ∧ Below W.heap.size W w') :
    Calls Try.prog 77 #[v, .func (.func f) #[] caps] w fun e w' => ∃ v', e = .returned v' ∧ MadeL 22 w w' v' (withL P pr) := by
  obtain ⟨i0, hi0, hz0, hz1, hz2⟩ := info_parts Try.infoInts
  have HP := hid_ h
  obtain ⟨a1, n1, c1, a2, n2, c2, rfl, h1, h2⟩ := h
  obtain ⟨w1, hw1⟩ : ∃ w1, w.alloc (.cells #[.slice a1 n1 c1, .slice a2 n2 c2] 25) = w1 := ⟨_, rfl⟩
  have cb : Below w.heap.size w w1 := by rw [← hw1]; exact below_alloc _ _
  have q0 : w1.cell? ⟨w.heap.size, 0, none⟩ = some (.slice a1 n1 c1) := by rw [← hw1]; exact cells_alloc _ _ _ 0
  have q1 : w1.cell? ⟨w.heap.size, 1, none⟩ = some (.slice a2 n2 c2) := by rw [← hw1]; exact cells_alloc _ _ _ 1
  have HP1 := hid_ (HP.out.below cb (Nat.le_refl _)); have Hc1 := hid_ cb
  have hn : P.sizes.length = n1 := h1.len
  rw [hn] at hcall
  have Hn := hid_ hn
  obtain ⟨w2, hw2⟩ : ∃ w2, w1.alloc (.cells #[.func (.func f) #[] caps] 77) = w2 := ⟨_, rfl⟩
  obtain ⟨w3, hw3⟩ : ∃ w3, w2.alloc (.cells #[.slice none 0 0] 43) = w3 := ⟨_, rfl⟩
  have z1 : w1.heap.size = w.heap.size + 1 := by rw [← hw1]; simp
  have z2 : w2.heap.size = w.heap.size + 2 := by rw [← hw2]; simp [z1]
  have z3 : w3.heap.size = w.heap.size + 3 := by rw [← hw3]; simp [z2]
  have cb2 : Below w1.heap.size w1 w2 := by rw [← hw2]; exact below_alloc _ _
  have cb3 : Below w2.heap.size w2 w3 := by rw [← hw3]; exact below_alloc _ _
  have e22 : w2.cell? ⟨w.heap.size + 1, 0, none⟩ = some (.func (.func f) #[] caps) := by rw [← z1, ← hw2]; exact cells_alloc _ _ _ 0
  have q03 := cell_below (cell_below q0 cb2) cb3; have q13 := cell_below (cell_below q1 cb2) cb3; have e23 := cell_below e22 cb3
  have Hf3 : Hid (CF ⟨w.heap.size + 2, 0, none⟩ (.slice none 0 0) w3) := hid_ (by rw [← z2, ← hw3]; exact ⟨cells_alloc _ _ _ 0, World.frozen?_alloc_at _ _ _ _ (by simp)⟩)
  have Hv := hid_ hv
  have Hc := hid_ hcall
  have h27 := (cells_chain hv).2.2.1
  have Hit := hid_ (cells_iter P a1 n1 c1 (w.heap.size + 3) hv hn 8)
  refine (callsIn_wide (n := 9)).1 ?_
  refine callsIn_of_wp_marks Try.func77 rfl trivial ?_ rfl
  simp only [Try.ntmps77, List.size_toArray, List.length_cons, List.length_nil, Nat.reduceAdd, Nat.reduceSub, Array.replicate_succ, Array.replicate_zero, List.push_toArray, List.append_toArray, List.nil_append, List.cons_append]
  gi_wp2
  refine ⟨trivial, (callsIn_wide.2 (cellsOf_calls _ _ _ w3)).mono ?_⟩
  rintro e w4 ⟨rfl, hw4⟩
  have z4 : w4.heap.size = w.heap.size + 4 := by rw [hw4]; simp [z3]
  have b34 : Below w3.heap.size w3 w4 := by rw [hw4]; exact below_alloc _ _
  have k4 : w4.cell? ⟨w.heap.size + 3, 0, none⟩ = some (.slice a1 n1 c1) := by rw [hw4, ← z3]; exact cells_alloc _ _ _ 0
  have Hk4 := hid_ k4
  have He4 := hid_ (cell_below e23 b34)
  have Hf4 := hid_ (cf_below Hf3.out b34)
  have Hb4 : Hid (Below w.heap.size w w4) := hid_ (Hc1.out.trans ((cb2.trans ((cb3.trans (b34.mono (by omega))).mono (by omega))).mono (by omega)))
  rw [z3]
  have Hh1 := hid_ h1
  clear hw4 k4 b34 cb2 cb3 e22 e23 q03 q13 q0 q1 HP1 hw2 hw3 Hf3 Hc1 hn hv hcall h1 h2 hw1
  gi_wp2
  refine wpIn_rangeFunc_new (n := 9) rfl (by omega) (gf := 118) (lb := #[.pointer (some ⟨w.heap.size + 3, 0, none⟩)]) rfl trivial (enters_of Try.func118 (by kernel_rfl) rfl) Hit.out rfl
    ?hC
    (fun k W => ((Below w.heap.size w W ∧ W.cell? ⟨w.heap.size + 1, 0, none⟩ = some (.func (.func f) #[] caps)) ∧ W.cell? ⟨w.heap.size + 3, 0, none⟩ = some (.slice a1 n1 c1)) ∧ ∃ v, CF ⟨w.heap.size + 2, 0, none⟩ v W ∧ OwnB 22 W (w4.heap.size + 3) v (withK P pr k))
    (fun _ _ _ => False)
    ?hIG ?hI ?hIx ⟨⟨⟨Hb4.out, He4.out⟩, Hk4.out⟩, _, Hf4.out, OwnB.nil _ _ _⟩
    (fun v => { tmps := #[.agg #[.slice a1 n1 c1, .slice a2 n2 c2], .func (.func f) #[] caps, .pointer (some ⟨w.heap.size, 0, none⟩), .pointer (some ⟨w.heap.size + 1, 0, none⟩), .slice none 0 0, .pointer (some ⟨w.heap.size + 2, 0, none⟩), v, .pointer (some ⟨w.heap.size, 0, none⟩), .slice a1 n1 c1, .func (.func 118) #[] #[.pointer (some ⟨w.heap.size + 3, 0, none⟩)], v, undef, undef, undef, undef, undef, undef, undef, undef], defers := [] })
    ?hassign ?hbody (fun k A v h => h.1) ?hdone ?hstop
  case hC => exact fun k A v h l o o' hl ho => ⟨by have := h.1; simpa using this, (StaysN.own (B := 0)).put o' h.2 hl ho (Nat.zero_le _)⟩
  case hIG => exact fun k A hA => ⟨hA.1.2, Hh1.out.below hA.1.1.1 (Nat.le_refl _)⟩
  case hI => exact fun k => stays_and (stays_and (stays_and (stays_below (by omega) (Nat.le_refl _)) (stays_cell (by show w.heap.size + 1 < _; omega))) (stays_cell (by show w.heap.size + 3 < _; omega))) (stays_ex fun v => stays_and (stays_cf (by show w.heap.size + 2 < _; omega)) stays_ownB)
  case hIx => exact fun c k A A' row h => h.elim
  case hstop => exact fun D c k W hD hk h => h.elim
  case hassign =>
    intro l v W K hK
    gi_wp2
    exact hK
  case hbody =>
    rintro l k v W ⟨⟨⟨hb, e1⟩, e3⟩, fv, ⟨f0, f1⟩, hown⟩ hkN ⟨hBs, hov⟩ hBW
    rw [Hn.out] at hov
    have hap : ∀ b, fv.ownBlock = some b → v.ownBlock ≠ some b := by
      obtain ⟨vs, h1, _⟩ := hown.has
      exact own_apart h1 hov (by decide)
    have hlt := hov.lt
    obtain ⟨av, cv, rfl, hiv⟩ := IntsAt.own hov
    have Hhit := hid_ (@withK_hit P pr k hkN); have Hmiss := hid_ (@withK_miss P pr k hkN)
    have HC := Hc.out W av cv _ hb hiv (cells_spec Hv.out hkN)
    have hin : ∀ b off, 0 < n1 → av = some ⟨b, off, none⟩ → fv.ownBlock ≠ some b ∧ w4.heap.size + 3 ≤ b := fun b off h0 ha => by
      subst ha
      have e : off = 0 := by
        rcases hov.2 with ⟨h1, h2⟩ | ⟨g, cap, cur, h1, _⟩
        · injection h1 with h1; cases h1
        · injection h1 with h1 _ _; injection h1 with h1; injection h1 with _ h1
      subst e
      exact ⟨fun e => hap b e rfl, (hlt b rfl).1⟩
    have hle : (withK P pr k).length + 1 ≤ 1000000 := by have := @withK_le P pr k; omega
    have hne : ∀ b, fv.ownBlock = some b → w4.heap.size + 3 ≤ b := fun b e => (hown.lt b e).1
    generalize (cellsL P.sizes).getD k [] = cl at *
    cases hp : pr cl with
    | false =>
      rw [hp] at HC
      have Hf := hid_ (Hmiss.out hp)
      have HC := hid_ HC
      clear hov hiv hp
      gi_wp2
      refine ⟨trivial, (CallsIn.inRound l (callsIn_wide.2 HC.out)).mono ?_⟩
      rintro e W2 ⟨rfl, hb2⟩
      have Hb2 := hid_ hb2
      have Ho2 := hid_ (hown.below hb2 (Nat.le_refl _))
      gi_wp2
      exact ⟨keeps_below Hb2.out, Hb2.out.block _ hBW, ⟨⟨hb.trans (Hb2.out.mono hb.size), cell_below e1 Hb2.out⟩, cell_below e3 Hb2.out⟩, fv, cf_below ⟨f0, f1⟩ Hb2.out, by rw [Hf.out]; exact Ho2.out⟩
    | true =>
      rw [hp] at HC
      have Hf := hid_ (Hhit.out hp)
      have HC := hid_ HC
      obtain ⟨L6, hL6⟩ : ∃ L6, withK P pr k ++ [cl] = L6 := ⟨_, rfl⟩
      have HL6 := hid_ hL6
      have Hiv := hid_ hiv
      clear hov hiv hp hL6
      gi_wp2
      refine ⟨trivial, (CallsIn.inRound l (callsIn_wide.2 HC.out)).mono ?_⟩
      rintro e W2 ⟨rfl, hb2⟩
      have Hb2 := hid_ hb2
      have g0 := cell_below f0 hb2
      have g1 : W2.frozen? ⟨w.heap.size + 2, 0, none⟩ = false := (cf_below ⟨f0, f1⟩ hb2).2
      have hs2 := hb2.size
      have Hiv2 := hid_ ((Hiv.out.below hb2 (Nat.le_refl _)).below (below_alloc W2 (.cells #[.slice av n1 cv] 22)) (Nat.le_refl _))
      have hcw : (W2.alloc (.cells #[.slice av n1 cv] 22)).cell? ⟨W2.heap.size, 0, none⟩ = some (.slice av n1 cv) := cells_alloc _ _ _ 0
      have Hown := hid_ ((hown.below hb2 (Nat.le_refl _)).alloc (.cells #[.slice av n1 cv] 22))
      have hWz : w4.heap.size + 3 ≤ (W2.alloc (.cells #[.slice av n1 cv] 22)).heap.size := by simp; omega
      have Hown0 := hid_ hown
      clear hown hb2
      gi_wp2_with (gi_at_builtin; refine wpListIn_push_B _ rfl (.tmp 14) (.tmp 16) 43 rfl (w4.heap.size + 3) 22 i0 Try.underlying43 hi0 hz0 hz1 hz2 fv _ rfl Hown.out W2.heap.size av n1 cv _ rfl hcw Hiv2.out hin hle hWz ?_; intro v6 w6 hown6 hg6; rw [HL6.out] at hown6; obtain ⟨av6, cv6, rfl, -⟩ := hown6.toL.at_; have hB6 : Below (w4.heap.size + 3) W2 w6 := Below.grown ((below_alloc W2 (.cells #[.slice av n1 cv] 22)).mono (by omega)) hg6 (by simp; omega) (fun r e => hne r e); have c6 : w6.cell? ⟨w.heap.size + 2, 0, none⟩ = some fv := (hB6.cell (p := ⟨w.heap.size + 2, 0, none⟩) (by show w.heap.size + 2 < _; omega)).trans g0; have c7 : w6.frozen? ⟨w.heap.size + 2, 0, none⟩ = false := (hB6.frozen (p := ⟨w.heap.size + 2, 0, none⟩) (by show w.heap.size + 2 < _; omega)).trans g1)
      have hko : KeepsOthers W w6 := (keeps_below Hb2.out).trans ((keeps_below (below_alloc W2 (.cells #[.slice av n1 cv] 22))).trans (keeps_grownB Hown.out hg6))
      have hBW6 : Below (w4.heap.size + 3) W w6 := (Hb2.out.mono (by omega)).trans hB6
      have c1' : w6.cell? ⟨w.heap.size + 1, 0, none⟩ = some (.func (.func f) #[] caps) := (hBW6.cell (p := ⟨w.heap.size + 1, 0, none⟩) (by show w.heap.size + 1 < _; omega)).trans e1
      have c3' : w6.cell? ⟨w.heap.size + 3, 0, none⟩ = some (.slice a1 n1 c1) := (hBW6.cell (p := ⟨w.heap.size + 3, 0, none⟩) (by show w.heap.size + 3 < _; omega)).trans e3
      refine ⟨hko.trans (KeepsOthers.setCell _ _ _), (Below.heap_setCell w6 ⟨w.heap.size + 2, 0, none⟩ _ (w4.heap.size + 2) (by show w4.heap.size + 2 ≠ w.heap.size + 2; omega)).trans (hBW6.block _ (by omega)), ⟨⟨?_, ?_⟩, ?_⟩, _, ⟨World.cell?_setCell_same _ _ _ c6, by rw [World.frozen?_setCell]; exact c7⟩, ?_⟩
      · exact (hb.trans (hBW6.mono (by omega))).setCell (p := ⟨w.heap.size + 2, 0, none⟩) (by show _ ≤ _ + 2; omega) _
      · rw [World.cell?_setCell_other _ _ _ _ (by simp)]; exact c1'
      · rw [World.cell?_setCell_other _ _ _ _ (by simp)]; exact c3'
      · rw [Hf.out, HL6.out]
        exact hown6.kept (grownBy_setCell_ w6 _ _) fun r e => by cases e; exact .inl (by show w.heap.size + 2 < w4.heap.size + 3; omega)
  case hdone =>
    rintro D W hD ⟨⟨⟨hb, -⟩, -⟩, fv, ⟨f0, f1⟩, hown⟩ hK
    rw [withK_all] at hown
    obtain ⟨af, cf, rfl, -⟩ := hown.toL.at_
    have Hown := hid_ hown
    have HK := hid_ hK
    have Hb := hid_ hb
    clear hown hK hb
    gi_wp2
    have hDr : ∀ r, some D = some r → ∃ o : Obj, W.heap[r]? = some o ∧ o.isCells = false := fun r e => by cases e; exact ⟨_, HK.out, rfl⟩
    have hb2 : Below w.heap.size w (W.putObj D (.deferred none)) := Hb.out.grown (grownBy_putObj' W D (.deferred none)) Hb.out.size fun r e => by cases e; omega
    have hp1 := Hown.out.kept (grownBy_putObj' W D (.deferred none)) fun r e => .inr (hDr r e)
    refine ⟨by simp, .inl ⟨_, _, rfl, run_takeDeferred HK.out, ?_⟩⟩
    refine ⟨.slice af (withL P pr).length cf, by simp [results, Try.results77, go_sem], ?_⟩
    exact ⟨_, rfl, ⟨hp1.toL.base (by omega), hb2⟩⟩
end Go.Proofs.Ytdnlpikfibdjoaa
