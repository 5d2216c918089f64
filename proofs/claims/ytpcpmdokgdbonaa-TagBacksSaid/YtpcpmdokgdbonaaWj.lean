import Derived.Test.YtpcpmdokgdbonaaWi
namespace Go.Proofs.Ytpcpmdokgdbonaa
open Go.RowKit Go.Proofs.Kv Go

/-! ### the law TagBacks -/
theorem long_lex {L : Lx} {Ls : List (List Int)} (h : longX L Ls = false) : L.items.length ≤ 1000 ∧ (∀ j, j < L.items.length → (L.items.getD j I0).word.length ≤ 1000) ∧ L.follow.length ≤ 1000 ∧ (∀ k, k < L.follow.length → (L.follow.getD k []).length ≤ 1000) := by
  unfold longX at h
  simp only [Bool.or_eq_false_iff, List.any_eq_false, decide_eq_true_eq, decide_eq_false_iff_not] at h
  obtain ⟨-, h1, h2, h3, h4⟩ := h
  refine ⟨by omega, fun j hj => ?_, by omega, fun k hk => ?_⟩
  · have := h1 (L.items.getD j I0) (by simp [List.getD, List.getElem?_eq_getElem hj]); omega
  · have := h2 (L.follow.getD k []) (by simp [List.getD, List.getElem?_eq_getElem hk]); omega
/-- as many items and lists, as long -/
structure Shp (L M : Lx) : Prop where
  ni : M.items.length = L.items.length
  nw : ∀ j, (M.items.getD j I0).word.length = (L.items.getD j I0).word.length
  nf : M.follow.length = L.follow.length
  nr : ∀ k, (M.follow.getD k []).length = (L.follow.getD k []).length
theorem Shp.refl (L : Lx) : Shp L L := ⟨rfl, fun _ => rfl, rfl, fun _ => rfl⟩
theorem Shp.cost {L M : Lx} (h : Shp L M) (i : Nat) (k : Int) : Shp L (setCost M i k) := ⟨by rw [setCost_len]; exact h.ni, fun j => by rw [(setCost_at M i k j).1]; exact h.nw j, h.nf, h.nr⟩
theorem Shp.word {L M : Lx} (h : Shp L M) {i : Nat} (hi : i < M.items.length) (k : Nat) (x : Int) : Shp L ⟨M.items.set i { M.items.getD i I0 with word := (M.items.getD i I0).word.set k x }, M.follow⟩ := by
  refine ⟨by show (M.items.set i _).length = _; rw [List.length_set]; exact h.ni, fun j => ?_, h.nf, h.nr⟩
  show ((M.items.set i _).getD j I0).word.length = _
  rw [getD_set8 _ _ _ _ _ hi]
  by_cases e : j = i
  · subst e; rw [if_pos rfl]; simp only [List.length_set]; exact h.nw j
  · rw [if_neg e]; exact h.nw j
theorem Shp.row {L M : Lx} (h : Shp L M) {i : Nat} (hi : i < M.follow.length) (k : Nat) (x : Int) : Shp L ⟨M.items, M.follow.set i ((M.follow.getD i []).set k x)⟩ := by
  refine ⟨h.ni, h.nw, by show (M.follow.set i _).length = _; rw [List.length_set]; exact h.nf, fun j => ?_⟩
  show ((M.follow.set i _).getD j []).length = _
  rw [getD_set8 _ _ _ _ _ hi]
  by_cases e : j = i
  · subst e; rw [if_pos rfl, List.length_set]; exact h.nr j
  · rw [if_neg e]; exact h.nr j
set_option maxRecDepth 100000 in
set_option maxHeartbeats 16000000 in
theorem tagBacks_calls (v : Value) (L : Lx) (a : Option Addr) (n c : Nat) (t : List Int) (w : World) (h : LexAt w v L) (ht : IntsAt w a n c t) :
    Calls Try.prog 6 #[v, .slice a n c] w fun e w' => e = .returned (.bool true) ∧ Below w.heap.size w w' := by
  have HP := hid_ h
  obtain ⟨a1, n1, c1, a2, n2, c2, rfl, h1, h2⟩ := h
  obtain ⟨w1, hw1⟩ : ∃ w1, w.alloc (.cells #[.slice a1 n1 c1, .slice a2 n2 c2] 25) = w1 := ⟨_, rfl⟩
  have cb : Below w.heap.size w w1 := by rw [← hw1]; exact below_alloc _ _
  have q0 : w1.cell? ⟨w.heap.size, 0, none⟩ = some (.slice a1 n1 c1) := by rw [← hw1]; exact cells_alloc _ _ _ 0
  have q1 : w1.cell? ⟨w.heap.size, 1, none⟩ = some (.slice a2 n2 c2) := by rw [← hw1]; exact cells_alloc _ _ _ 1
  have HP1 := hid_ (HP.out.below cb (Nat.le_refl _)); have Hc1 := hid_ cb
  have ht1 := ht.below cb (Nat.le_refl _)
  have HG := hid_ (long8_calls _ L _ 1 1 [t] _ (HP1.out.below (below_alloc w1 (.cells #[.slice a n c] 26)) (Nat.le_refl _)) (lists1_8 w1 26 ht1))
  have Ha := hid_ (below_alloc w1 (.cells #[.slice a n c] 26))
  have HQ := hid_ (fun W (hW : Below w1.heap.size w1 W) => (⟨cell_below q0 hW, cell_below q1 hW⟩ : _ ∧ _))
  have HLl := hid_ (fun W (hW : Below w1.heap.size w1 W) => HP1.out.below hW (Nat.le_refl _))
  have HI := hid_ (fun W (hW : Below w1.heap.size w1 W) => ht1.below hW (Nat.le_refl _))
  have HB := hid_ (fun W (hW : Below w1.heap.size w1 W) => r8Back_calls _ L W (HP1.out.below hW (Nat.le_refl _)))
  have HCo := hid_ (fun W (hW : Below w1.heap.size w1 W) => taCount_calls _ L a n c t W (HP1.out.below hW (Nat.le_refl _)) (ht1.below hW (Nat.le_refl _)))
  have HLe := hid_ (fun W (hW : Below w1.heap.size w1 W) => taLeast_calls _ L a n c t W (HP1.out.below hW (Nat.le_refl _)) (ht1.below hW (Nat.le_refl _)))
  have HIs := hid_ (fun W (hW : Below w1.heap.size w1 W) => code_calls _ L W (HP1.out.below hW (Nat.le_refl _)))
  have HK := hid_ sane_calls
  have HF := fun h => @back_facts L h t
  have htl := ht.len
  clear h1 h2 HP HP1 cb ht
  cases hg : longX L [t] with
  | true =>
    rw [hg] at HG
    clear hg HF
    go_enter Try.func6, Try.ntmps6
    go_wp2_with (first
      | (go_at_call 11; (with_reducible refine HG.out.mono ?_); rintro e w3 ⟨rfl, hb3⟩; have Hb3 := hid_ (below_then8 Ha.out hb3); clear hb3)
      | (go_at_call 12; (with_reducible refine (HK.out _).mono ?_); rintro e w4 ⟨rfl, hb4⟩))
    go_ret
    exact ⟨rfl, Hc1.out.trans ((below_then8 Hb3.out hb4).mono Hc1.out.size)⟩
  | false =>
    have hn3 := long_no hg (s := t) (by simp)
    rw [htl] at hn3
    obtain ⟨y1, y2, y3, y4⟩ := long_lex hg
    have HCp := hid_ (fun W (hW : Below w1.heap.size w1 W) => r8Copy_calls _ L W (HLl.out W hW) y1 y2 y3 y4)
    rw [hg] at HG
    clear hg y1 y2 y3 y4
    have hrl : t.reverse.length = n := by rw [List.length_reverse, htl]
    have HCd := hid_ (fun W v' hv' a2 c2 hi => taCount_calls v' (bkL L) a2 n c2 t.reverse W hv' hi)
    have HLd := hid_ (fun W v' hv' a2 c2 hi => taLeast_calls v' (bkL L) a2 n c2 t.reverse W hv' hi)
    have HId := hid_ (fun W v' hv' => code_calls v' (bkL L) W hv')
    have Hrl := hid_ hrl
    have HBk := hid_ (fun W x hx => taBack_calls x L W hx)
    clear hrl htl ht1
    by_cases hE : validL L = 0
    · obtain ⟨e1, e2, e3, e4, e5, e6⟩ := HF hE
      rw [e2, e3] at HCd
      rw [e2, e4, e5] at HLd
      rw [e1, e6] at HId
      rw [hE] at HB HBk HIs
      generalize hD : bkL L = D at *
      have HD := hid_ hD
      have HE := hid_ hE
      generalize countV L t = x at *
      generalize textE L t = g at *
      generalize leastV L t = m at *
      generalize leastB L t = s at *
      generalize codeB L = b at *
      have hxx : (x != x) = false := by simp
      have hgg : (g != g) = false := by simp
      have hmm : (m != m) = false := by simp
      have hss : (s != s) = false := by simp
      have hbb : (b != b) = false := by simp
      clear HF e1 e2 e3 e4 e5 e6 hE hD
      go_enter Try.func6, Try.ntmps6
      go_wp2_with (first
        | (go_at_call 11; (with_reducible refine HG.out.mono ?_); rintro e w3 ⟨rfl, hb3'⟩; have hb3 := below_then8 Ha.out hb3'; obtain ⟨q3, p3⟩ := HQ.out w3 hb3)
        | (go_at_call 25; (with_reducible refine (HCp.out _ hb3).mono ?_); rintro e w4 ⟨iv0, fv0, xs0, fs0, rfl, hN0, hb4'⟩; have hb4 := below_then8 hb3 hb4'; obtain ⟨a4, n4, k4, d4, m4, l4, rfl, rfl, hL4⟩ := hN0.lits; clear hN0; obtain ⟨w5, hw5⟩ : ∃ W, w4.alloc (.cells #[.slice a4 n4 k4, .slice d4 m4 l4] 25) = W := ⟨_, rfl⟩; have bb5 : Below w4.heap.size w4 w5 := (by rw [← hw5]; exact below_alloc _ _); have hb5 := below_then8 hb4 bb5; obtain ⟨q5, p5⟩ := HQ.out w5 hb5; have c50 : w5.cell? ⟨w4.heap.size, 0, none⟩ = some (.slice a4 n4 k4) := (by rw [← hw5]; exact cells_alloc _ _ _ 0); have c51 : w5.cell? ⟨w4.heap.size, 1, none⟩ = some (.slice d4 m4 l4) := (by rw [← hw5]; exact cells_alloc _ _ _ 1); have HL5 := hid_ (hL4.below bb5 (Nat.le_refl _)); have HO5 := hid_ (fun W (hW : Below w5.heap.size w5 W) => (⟨cell_below c50 hW, cell_below c51 hW, HL5.out.below hW (Nat.le_refl _)⟩ : _ ∧ _ ∧ _)); clear hL4 bb5)
        | (go_at_call 26; (with_reducible refine (HBk.out w5 _ HL5.out).mono ?_); rintro e w6 ⟨iv, fv, xs, fs, rfl, hN, hb6'⟩; have hb6 := below_then8 hb5 hb6'; obtain ⟨a6, n6, k6, d6, m6, l6, rfl, rfl, -⟩ := hN.lits; obtain ⟨w7, hw7⟩ : ∃ W, w6.alloc (.cells #[.slice a6 n6 k6, .slice d6 m6 l6] 25) = W := ⟨_, rfl⟩; have bb7 : Below w6.heap.size w6 w7 := (by rw [← hw7]; exact below_alloc _ _); have hb7 := below_then8 hb6 bb7; obtain ⟨q7, p7⟩ := HQ.out w7 hb7; have HN7 := hid_ (hN.below bb7 (Nat.le_refl _)); have HA7 := hid_ (show w7.ownsRow w6.heap.size 25 2 (.slice (some ⟨w6.heap.size, 0, none⟩) 1 1) 1 [.slice a6 n6 k6, .slice d6 m6 l6] by rw [← hw7]; exact World.ownsRow_lit (base := w6.heap.size) (e := 25) (size := 2) w6 #[.slice a6 n6 k6, .slice d6 m6 l6] 1 (Nat.le_refl _) (by unfold maxLen; omega) rfl); have h57 := hid_ (hb6'.trans (bb7.mono hb6'.size)); have HAt := hid_ (fun W (hW : Below w7.heap.size w7 W) => (⟨(own_below HA7.out hW (Nat.le_refl _)).cellAt 0 (by omega), (own_below HA7.out hW (Nat.le_refl _)).cellAt 1 (by omega), (HN7.out.below hW (Nat.le_refl _)).lex⟩ : W.cell? ⟨w6.heap.size, 0, none⟩ = some (.slice a6 n6 k6) ∧ W.cell? ⟨w6.heap.size, 1, none⟩ = some (.slice d6 m6 l6) ∧ LexAt W (.agg #[.slice a6 n6 k6, .slice d6 m6 l6]) D)); clear hN bb7)
        | (go_at_call 27; (with_reducible refine (HB.out _ hb7).mono ?_); rintro e w8 ⟨iv', fv', xs', fs', rfl, hN', hb8'⟩; have hb8 := below_then8 hb7 hb8'; obtain ⟨a8, n8, k8, d8, m8, l8, rfl, rfl, hL8⟩ := hN'.lits; clear hN'; obtain ⟨w9, hw9⟩ : ∃ W, w8.alloc (.cells #[.slice a8 n8 k8, .slice d8 m8 l8] 25) = W := ⟨_, rfl⟩; have bb9 : Below w8.heap.size w8 w9 := (by rw [← hw9]; exact below_alloc _ _); have hb9 := below_then8 hb8 bb9; obtain ⟨q9, p9⟩ := HQ.out w9 hb9; have h79 := hid_ (hb8'.trans (bb9.mono hb8'.size)); obtain ⟨e90, e91, hLa⟩ := HAt.out w9 h79.out; have f90 : w9.cell? ⟨w8.heap.size, 0, none⟩ = some (.slice a8 n8 k8) := (by rw [← hw9]; exact cells_alloc _ _ _ 0); have f91 : w9.cell? ⟨w8.heap.size, 1, none⟩ = some (.slice d8 m8 l8) := (by rw [← hw9]; exact cells_alloc _ _ _ 1); have HSa := hid_ (r8Same_yes _ _ D w9 hLa (hL8.below bb9 (Nat.le_refl _))); clear hL8 hLa bb9)
        | (go_at_call 28; (with_reducible refine HSa.out.mono ?_); rintro e w10 ⟨rfl, hb10'⟩; have hb10 := below_then8 hb9 hb10'; obtain ⟨q10, p10⟩ := HQ.out w10 hb10; have h710 := hid_ (h79.out.trans (hb10'.mono h79.out.size)); obtain ⟨eA0, eA1, hLa10⟩ := HAt.out w10 h710.out; have HLa10 := hid_ hLa10; clear hLa10)
        | (go_at_call 15; (with_reducible refine (HCo.out _ hb10).mono ?_); rintro e w11 ⟨rfl, hb11'⟩; have hb11 := below_then8 hb10 hb11'; have h711 := hid_ (h710.out.trans (hb11'.mono h710.out.size)); obtain ⟨eB0, eB1, hLa11⟩ := HAt.out w11 h711.out; have HLa11 := hid_ hLa11; clear hLa11))
      have bd : Below w11.heap.size w11 w11.drew := Below.drew (Below.refl _ _)
      have HS := hid_ (fun W (hW : Below w11.heap.size w11 W) => (⟨cell_below eB0 hW, cell_below eB1 hW⟩ : W.cell? ⟨w6.heap.size, 0, none⟩ = some (.slice a6 n6 k6) ∧ W.cell? ⟨w6.heap.size, 1, none⟩ = some (.slice d6 m6 l6)))
      have HTu := hid_ (r8Turned_calls a n c t w11.drew ((HI.out _ hb11).drewN 1) (by omega))
      refine wp_region_last2 (n := 8) (S := fun W' => W'.cell? ⟨w6.heap.size, 0, none⟩ = some (.slice a6 n6 k6) ∧ W'.cell? ⟨w6.heap.size, 1, none⟩ = some (.slice d6 m6 l6)) (by kernel_rfl) (by kernel_rfl) (HS.out _ bd) (fun hHeld => ?_)
      refine wpAnyH_take (i := 0) (oi := ?oi0h1) (v := ?v0h1) ?hi0h1 (by kernel_rfl) ?hf0h1 (by kernel_rfl) ?hQ0h1 ?hy0h1 (by assumption) ?rest0h1
      case hi0h1 => (simp only [List.getElem?_toArray, List.getElem?_cons_zero]; rfl)
      case hf0h1 => kernel_rfl
      case hQ0h1 => exact fun _ _ _ h => h
      case hy0h1 => (refine Or.inl ⟨by rfl, ?_⟩; intro W hSw; (try dsimp only at hSw); obtain ⟨g0, g1⟩ := hSw; go_simp; try with_reducible rfl)
      try simp only [Act.put, List.setIfInBounds_toArray, List.set_cons_zero, List.set_cons_succ]
      refine wpAnyH_take (i := 1) (oi := ?oi1h2) (v := ?v1h2) ?hi1h2 (by kernel_rfl) ?hf1h2 (by kernel_rfl) ?hQ1h2 ?hy1h2 (by assumption) ?rest1h2
      case hi1h2 => (simp only [List.getElem?_toArray, List.getElem?_cons_succ, List.getElem?_cons_zero]; rfl)
      case hf1h2 => kernel_rfl
      case hQ1h2 => exact fun _ _ _ h => h
      case hy1h2 => (refine Or.inl ⟨by rfl, ?_⟩; intro W hSw; (try dsimp only at hSw); go_simp; try with_reducible rfl)
      try simp only [Act.put, List.setIfInBounds_toArray, List.set_cons_zero, List.set_cons_succ]
      refine wpAnyH_ready (rs := [2]) (by kernel_rfl) (by simp) ?_
      refine AllReadyH.cons (o := _) (by (simp only [List.getElem?_toArray, List.getElem?_cons_succ, List.getElem?_cons_zero]; rfl)) (fun K hK => ?_) AllReadyH.nil
      go_simp
      (with_reducible refine HTu.out.mono ?_); rintro e w12 ⟨v12, rfl, hm12⟩; obtain ⟨a12, c12, rfl, hi12⟩ := hm12.at_; rw [Hrl.out] at hi12 ⊢; have bw12 : Below w11.heap.size w11 w12 := (Below.drew (Below.refl _ _)).trans hm12.bel; have HC12 := hid_ (HCd.out w12 _ (HLa11.out.below bw12 (Nat.le_refl _)) a12 c12 hi12)
      refine hK.out _ _ ?_ (fun hHeld => ?_)
      · exact HS.out _ bw12
      clear hK K
      try simp only [Act.put, List.setIfInBounds_toArray, List.set_cons_zero, List.set_cons_succ]
      refine wpAnyH_ready (rs := [3]) (by kernel_rfl) (by simp) ?_
      refine AllReadyH.cons (o := _) (by (simp only [List.getElem?_toArray, List.getElem?_cons_succ, List.getElem?_cons_zero]; rfl)) (fun K hK => ?_) AllReadyH.nil
      go_simp
      (with_reducible refine HC12.out.mono ?_); rintro e w13 ⟨rfl, hb13'⟩; have bw13 : Below w11.heap.size w11 w13 := bw12.trans (hb13'.mono bw12.size)
      refine hK.out _ _ ?_ (fun hHeld => ?_)
      · exact HS.out _ bw13
      clear hK K
      try simp only [Act.put, List.setIfInBounds_toArray, List.set_cons_zero, List.set_cons_succ]
      refine wpAnyH_take (i := 4) (oi := ?oi4h3) (v := ?v4h3) ?hi4h3 (by kernel_rfl) ?hf4h3 (by kernel_rfl) ?hQ4h3 ?hy4h3 (by assumption) ?rest4h3
      case hi4h3 => (simp only [List.getElem?_toArray, List.getElem?_cons_succ, List.getElem?_cons_zero]; rfl)
      case hf4h3 => kernel_rfl
      case hQ4h3 => exact fun _ _ _ h => h
      case hy4h3 => (refine Or.inl ⟨by rfl, ?_⟩; intro W hSw; (try dsimp only at hSw); go_simp; try with_reducible rfl)
      try simp only [Act.put, List.setIfInBounds_toArray, List.set_cons_zero, List.set_cons_succ]
      refine wpAnyH_take (i := 5) (oi := ?oi5h4) (v := ?v5h4) ?hi5h4 (by kernel_rfl) ?hf5h4 (by kernel_rfl) ?hQ5h4 ?hy5h4 (by assumption) ?rest5h4
      case hi5h4 => (simp only [List.getElem?_toArray, List.getElem?_cons_succ, List.getElem?_cons_zero]; rfl)
      case hf5h4 => kernel_rfl
      case hQ5h4 => exact fun _ _ _ h => h
      case hy5h4 => (refine Or.inl ⟨by rfl, ?_⟩; intro W hSw; (try dsimp only at hSw); go_simp; try with_reducible rfl)
      try simp only [Act.put, List.setIfInBounds_toArray, List.set_cons_zero, List.set_cons_succ]
      refine wpAnyH_take (i := 6) (oi := ?oi6h5) (v := ?v6h5) ?hi6h5 (by kernel_rfl) ?hf6h5 (by kernel_rfl) ?hQ6h5 ?hy6h5 (by assumption) ?rest6h5
      case hi6h5 => (simp only [List.getElem?_toArray, List.getElem?_cons_succ, List.getElem?_cons_zero]; rfl)
      case hf6h5 => kernel_rfl
      case hQ6h5 => exact fun _ _ _ h => h
      case hy6h5 => (refine Or.inl ⟨by rfl, ?_⟩; intro W hSw; (try dsimp only at hSw); go_simp; try with_reducible rfl)
      try simp only [Act.put, List.setIfInBounds_toArray, List.set_cons_zero, List.set_cons_succ]
      refine wpAnyH_take (i := 7) (oi := ?oi7h6) (v := ?v7h6) ?hi7h6 (by kernel_rfl) ?hf7h6 (by kernel_rfl) ?hQ7h6 ?hy7h6 (by assumption) ?rest7h6
      case hi7h6 => (simp only [List.getElem?_toArray, List.getElem?_cons_succ, List.getElem?_cons_zero]; rfl)
      case hf7h6 => kernel_rfl
      case hQ7h6 => exact fun _ _ _ h => h
      case hy7h6 => (refine Or.inl ⟨by rfl, ?_⟩; intro W hSw; (try dsimp only at hSw); go_simp; try with_reducible rfl)
      try simp only [Act.put, List.setIfInBounds_toArray, List.set_cons_zero, List.set_cons_succ]
      have hb13 := hb11.trans (bw13.mono hb11.size)
      obtain ⟨q13, p13⟩ := HQ.out w13 hb13
      have h713 := hid_ (h711.out.trans (bw13.mono h711.out.size))
      clear hm12 hi12 bw12 bw13 bd
      refine wpAnyH_done (by kernel_rfl) ?_ _
      clear hHeld
      refine last_of ?_
      refine wpOp_step (o := _) (by (simp only [List.getElem?_toArray, List.getElem?_cons_succ, List.getElem?_cons_zero]; rfl)) (fun K hK => ?_)
      go_simp
      refine hK _ _ ?_
      clear hK K
      try simp only [Act.put, List.setIfInBounds_toArray, List.set_cons_zero, List.set_cons_succ]
      go_wp2_with (go_at_call 13; (with_reducible refine (HLe.out _ hb13).mono ?_); rintro e w14 ⟨rfl, hb14'⟩; have hb14 := below_then8 hb13 hb14'; have h714 := hid_ (h713.out.trans (hb14'.mono h713.out.size)); obtain ⟨eC0, eC1, hLa14⟩ := HAt.out w14 h714.out; have HLa14 := hid_ hLa14; clear hLa14)
      have bd : Below w14.heap.size w14 w14.drew := Below.drew (Below.refl _ _)
      have HS' := hid_ (fun W (hW : Below w14.heap.size w14 W) => (⟨cell_below eC0 hW, cell_below eC1 hW⟩ : W.cell? ⟨w6.heap.size, 0, none⟩ = some (.slice a6 n6 k6) ∧ W.cell? ⟨w6.heap.size, 1, none⟩ = some (.slice d6 m6 l6)))
      have HTu' := hid_ (r8Turned_calls a n c t w14.drew ((HI.out _ hb14).drewN 1) (by omega))
      refine wp_region_last2 (n := 10) (S := fun W' => W'.cell? ⟨w6.heap.size, 0, none⟩ = some (.slice a6 n6 k6) ∧ W'.cell? ⟨w6.heap.size, 1, none⟩ = some (.slice d6 m6 l6)) (by kernel_rfl) (by kernel_rfl) (HS'.out _ bd) (fun hHeld => ?_)
      refine wpAnyH_take (i := 0) (oi := ?oi0h7) (v := ?v0h7) ?hi0h7 (by kernel_rfl) ?hf0h7 (by kernel_rfl) ?hQ0h7 ?hy0h7 (by assumption) ?rest0h7
      case hi0h7 => (simp only [List.getElem?_toArray, List.getElem?_cons_zero]; rfl)
      case hf0h7 => kernel_rfl
      case hQ0h7 => exact fun _ _ _ h => h
      case hy0h7 => (refine Or.inl ⟨by rfl, ?_⟩; intro W hSw; (try dsimp only at hSw); obtain ⟨g0, g1⟩ := hSw; go_simp; try with_reducible rfl)
      try simp only [Act.put, List.setIfInBounds_toArray, List.set_cons_zero, List.set_cons_succ]
      refine wpAnyH_take (i := 1) (oi := ?oi1h8) (v := ?v1h8) ?hi1h8 (by kernel_rfl) ?hf1h8 (by kernel_rfl) ?hQ1h8 ?hy1h8 (by assumption) ?rest1h8
      case hi1h8 => (simp only [List.getElem?_toArray, List.getElem?_cons_succ, List.getElem?_cons_zero]; rfl)
      case hf1h8 => kernel_rfl
      case hQ1h8 => exact fun _ _ _ h => h
      case hy1h8 => (refine Or.inl ⟨by rfl, ?_⟩; intro W hSw; (try dsimp only at hSw); go_simp; try with_reducible rfl)
      try simp only [Act.put, List.setIfInBounds_toArray, List.set_cons_zero, List.set_cons_succ]
      refine wpAnyH_ready (rs := [2]) (by kernel_rfl) (by simp) ?_
      refine AllReadyH.cons (o := _) (by (simp only [List.getElem?_toArray, List.getElem?_cons_succ, List.getElem?_cons_zero]; rfl)) (fun K hK => ?_) AllReadyH.nil
      go_simp
      (with_reducible refine HTu'.out.mono ?_); rintro e w15 ⟨v15, rfl, hm15⟩; obtain ⟨a15, c15, rfl, hi15⟩ := hm15.at_; rw [Hrl.out] at hi15 ⊢; have bw15 : Below w14.heap.size w14 w15 := (Below.drew (Below.refl _ _)).trans hm15.bel; have HC15 := hid_ (HLd.out w15 _ (HLa14.out.below bw15 (Nat.le_refl _)) a15 c15 hi15)
      refine hK.out _ _ ?_ (fun hHeld => ?_)
      · exact HS'.out _ bw15
      clear hK K
      try simp only [Act.put, List.setIfInBounds_toArray, List.set_cons_zero, List.set_cons_succ]
      refine wpAnyH_ready (rs := [3]) (by kernel_rfl) (by simp) ?_
      refine AllReadyH.cons (o := _) (by (simp only [List.getElem?_toArray, List.getElem?_cons_succ, List.getElem?_cons_zero]; rfl)) (fun K hK => ?_) AllReadyH.nil
      go_simp
      (with_reducible refine HC15.out.mono ?_); rintro e w16 ⟨rfl, hb16'⟩; have bw16 : Below w14.heap.size w14 w16 := bw15.trans (hb16'.mono bw15.size)
      refine hK.out _ _ ?_ (fun hHeld => ?_)
      · exact HS'.out _ bw16
      clear hK K
      try simp only [Act.put, List.setIfInBounds_toArray, List.set_cons_zero, List.set_cons_succ]
      refine wpAnyH_take (i := 4) (oi := ?oi4h9) (v := ?v4h9) ?hi4h9 (by kernel_rfl) ?hf4h9 (by kernel_rfl) ?hQ4h9 ?hy4h9 (by assumption) ?rest4h9
      case hi4h9 => (simp only [List.getElem?_toArray, List.getElem?_cons_succ, List.getElem?_cons_zero]; rfl)
      case hf4h9 => kernel_rfl
      case hQ4h9 => exact fun _ _ _ h => h
      case hy4h9 => (refine Or.inl ⟨by rfl, ?_⟩; intro W hSw; (try dsimp only at hSw); go_simp; try with_reducible rfl)
      try simp only [Act.put, List.setIfInBounds_toArray, List.set_cons_zero, List.set_cons_succ]
      refine wpAnyH_take (i := 5) (oi := ?oi5h10) (v := ?v5h10) ?hi5h10 (by kernel_rfl) ?hf5h10 (by kernel_rfl) ?hQ5h10 ?hy5h10 (by assumption) ?rest5h10
      case hi5h10 => (simp only [List.getElem?_toArray, List.getElem?_cons_succ, List.getElem?_cons_zero]; rfl)
      case hf5h10 => kernel_rfl
      case hQ5h10 => exact fun _ _ _ h => h
      case hy5h10 => (refine Or.inl ⟨by rfl, ?_⟩; intro W hSw; (try dsimp only at hSw); go_simp; try with_reducible rfl)
      try simp only [Act.put, List.setIfInBounds_toArray, List.set_cons_zero, List.set_cons_succ]
      refine wpAnyH_take (i := 6) (oi := ?oi6h11) (v := ?v6h11) ?hi6h11 (by kernel_rfl) ?hf6h11 (by kernel_rfl) ?hQ6h11 ?hy6h11 (by assumption) ?rest6h11
      case hi6h11 => (simp only [List.getElem?_toArray, List.getElem?_cons_succ, List.getElem?_cons_zero]; rfl)
      case hf6h11 => kernel_rfl
      case hQ6h11 => exact fun _ _ _ h => h
      case hy6h11 => (refine Or.inl ⟨by rfl, ?_⟩; intro W hSw; (try dsimp only at hSw); go_simp; try with_reducible rfl)
      try simp only [Act.put, List.setIfInBounds_toArray, List.set_cons_zero, List.set_cons_succ]
      refine wpAnyH_take (i := 7) (oi := ?oi7h12) (v := ?v7h12) ?hi7h12 (by kernel_rfl) ?hf7h12 (by kernel_rfl) ?hQ7h12 ?hy7h12 (by assumption) ?rest7h12
      case hi7h12 => (simp only [List.getElem?_toArray, List.getElem?_cons_succ, List.getElem?_cons_zero]; rfl)
      case hf7h12 => kernel_rfl
      case hQ7h12 => exact fun _ _ _ h => h
      case hy7h12 => (refine Or.inl ⟨by rfl, ?_⟩; intro W hSw; (try dsimp only at hSw); go_simp; try with_reducible rfl)
      try simp only [Act.put, List.setIfInBounds_toArray, List.set_cons_zero, List.set_cons_succ]
      refine wpAnyH_take (i := 8) (oi := ?oi8h13) (v := ?v8h13) ?hi8h13 (by kernel_rfl) ?hf8h13 (by kernel_rfl) ?hQ8h13 ?hy8h13 (by assumption) ?rest8h13
      case hi8h13 => (simp only [List.getElem?_toArray, List.getElem?_cons_succ, List.getElem?_cons_zero]; rfl)
      case hf8h13 => kernel_rfl
      case hQ8h13 => exact fun _ _ _ h => h
      case hy8h13 => (refine Or.inl ⟨by rfl, ?_⟩; intro W hSw; (try dsimp only at hSw); go_simp; try with_reducible rfl)
      try simp only [Act.put, List.setIfInBounds_toArray, List.set_cons_zero, List.set_cons_succ]
      refine wpAnyH_take (i := 9) (oi := ?oi9h14) (v := ?v9h14) ?hi9h14 (by kernel_rfl) ?hf9h14 (by kernel_rfl) ?hQ9h14 ?hy9h14 (by assumption) ?rest9h14
      case hi9h14 => (simp only [List.getElem?_toArray, List.getElem?_cons_succ, List.getElem?_cons_zero]; rfl)
      case hf9h14 => kernel_rfl
      case hQ9h14 => exact fun _ _ _ h => h
      case hy9h14 => (refine Or.inl ⟨by rfl, ?_⟩; intro W hSw; (try dsimp only at hSw); go_simp; try with_reducible rfl)
      try simp only [Act.put, List.setIfInBounds_toArray, List.set_cons_zero, List.set_cons_succ]
      have hb16 := hb14.trans (bw16.mono hb14.size)
      obtain ⟨q16, p16⟩ := HQ.out w16 hb16
      have h716 := hid_ (h714.out.trans (bw16.mono h714.out.size))
      clear hm15 hi15 bw15 bw16 bd
      refine wpAnyH_done (by kernel_rfl) ?_ _
      clear hHeld
      refine last_of ?_
      refine wpOp_step (o := _) (by (simp only [List.getElem?_toArray, List.getElem?_cons_succ, List.getElem?_cons_zero]; rfl)) (fun K hK => ?_)
      go_simp
      refine hK _ _ ?_
      clear hK K
      try simp only [Act.put, List.setIfInBounds_toArray, List.set_cons_zero, List.set_cons_succ]
      go_wp2_with (first
        | (go_at_call 30; (with_reducible refine (HIs.out _ hb16).mono ?_); rintro e w17 ⟨rfl, hb17'⟩; have hb17 := below_then8 hb16 hb17'; have h717 := hid_ (h716.out.trans (hb17'.mono h716.out.size)); obtain ⟨eD0, eD1, hLa17⟩ := HAt.out w17 h717.out; have HLa17 := hid_ hLa17; clear hLa17)
        | (go_at_call 30; (with_reducible refine (HId.out _ _ HLa17.out).mono ?_); rintro e w18 ⟨rfl, hb18'⟩; have hb18 := below_then8 hb17 hb18'; have h718 := hid_ (h717.out.trans (hb18'.mono h717.out.size))))
      have HZ := h718
      have HB5 := hid_ (h57.out.trans (HZ.out.mono h57.out.size))
      have hz6 : w5.heap.size ≤ w6.heap.size := hb6'.size
      have HNz := hid_ (HN7.out.below HZ.out (Nat.le_refl _))
      have HAz := hid_ (own_below HA7.out HZ.out (Nat.le_refl _))
      obtain ⟨B, hB⟩ : ∃ B, w5.heap.size = B := ⟨_, rfl⟩
      obtain ⟨ab, hab⟩ : ∃ ab, w6.heap.size = ab := ⟨_, rfl⟩
      rw [hB] at HNz HB5 hz6
      rw [hab] at HAz hz6 ⊢
      have hni : D.items.length = n6 := by have h9 := HNz.out.itemsAt; obtain ⟨a9, c9, e9, -⟩ := h9; injection e9 with e1 e2 e3; exact e2.symm
      have hnf : D.follow.length = m6 := by have h9 := HNz.out.listsAt; obtain ⟨a9, c9, e9, -⟩ := h9; injection e9 with e1 e2 e3; exact e2.symm
      have HB := hid_ hB
      have Hni := hid_ hni; have Hnf := hid_ hnf
      have hn6 : n6 ≤ 9223372036854775807 := by obtain ⟨a9, c9, e9, h9⟩ := HNz.out.itemsAt; have := Nat.le_trans h9.le h9.small; omega
      have hm6 : m6 ≤ 9223372036854775807 := by obtain ⟨a9, c9, e9, h9⟩ := HNz.out.listsAt; have := Nat.le_trans h9.le h9.small; omega
      have HOw := hid_ (fun W (hW : Below B w5 W) => HO5.out W (by rw [HB.out]; exact hW))
      clear hB hab hni hnf
      go_loopw [24, 25] (fun iv _ wr => ∃ (j : Nat) (xs : List Ic) (M : Lx), j ≤ n6 ∧ iv = .int .i64 j ∧ Shp D M ∧ Below B w5 wr ∧ wr.ownsRow ab 25 2 (.slice (some ⟨ab, 0, none⟩) 1 1) 1 [.slice a6 n6 k6, .slice d6 m6 l6] ∧ NewL wr B (.slice a6 n6 k6) (.slice d6 m6 l6) xs fs M) (fun iv _ _ => n6 - (intOf iv).toNat)
      case atStart => exact ⟨0, xs, D, Nat.zero_le _, rfl, Shp.refl D, HB5.out, HAz.out, HNz.out⟩
      case round =>
        clear HNz HAz HB5 HZ
        obtain ⟨j, xs, M, hj, rfl, hS, hbr, hoa, hN⟩ := hrel
        have d0 : wr.cell? ⟨ab, 0, none⟩ = some (.slice a6 n6 k6) := hoa.cellAt 0 (by omega)
        have d1 : wr.cell? ⟨ab, 1, none⟩ = some (.slice d6 m6 l6) := hoa.cellAt 1 (by omega)
        have hnM : M.items.length = n6 := by rw [hS.ni, Hni.out]
        by_cases hlt : j < n6
        · obtain ⟨gi, cg, e9, hgB, hgl⟩ := hN.form (by omega)
          injection e9 with e1 e2 e3
          subst e1; subst e3
          obtain ⟨y0, yf, -, -⟩ := hN.costAt hnM.symm hlt
          obtain ⟨xs1, hN1⟩ := hN.cost hnM.symm hlt (-1)
          have hit := hN.items
          rw [hnM] at hit
          have hst := hit.stored (j * 3 + 2) (.int .i64 (-1))
          have HOa1 := hid_ (own_kept_ne hoa hst.2 (fun b' hb' => own_apart hoa hit (by decide) b' hb'))
          have hS1 := hS.cost j (-1)
          have hnM1 : (setCost M j (-1)).items.length = n6 := by rw [hS1.ni, Hni.out]
          obtain ⟨-, -, ⟨aw, mw, dw, k0, hIw⟩, -⟩ := hN1.costAt hnM1.symm hlt
          have hmw : ((setCost M j (-1)).items.getD j I0).word.length = mw := hIw.len
          have HB1 := hid_ (Below.setCell (p := ⟨gi, j * 3 + 2, none⟩) hbr hgB (.int .i64 (-1)))
          have HN1 := hid_ hN1; have HS1 := hid_ hS1
          obtain ⟨wa, hwa⟩ : ∃ wa, wr.setCell ⟨gi, j * 3 + 2, none⟩ (.int .i64 (-1)) = wa := ⟨_, rfl⟩
          rw [hwa] at HN1 HB1 HOa1 k0
          have dA0 : wa.cell? ⟨ab, 0, none⟩ = some (.slice (some ⟨gi, 0, none⟩) n6 k6) := HOa1.out.cellAt 0 (by omega)
          have Hmw := hid_ (hS1.nw j ▸ hmw)
          generalize setCost M j (-1) = M1 at *
          generalize (M.items.getD j I0).cost = oc at *
          clear hN hN1 hoa hst hit hS hS1 hbr hIw hnM hnM1 hmw e2
          go_wp2
          clear y0 yf d0 d1 hwa
          obtain ⟨wo, rfl⟩ : ∃ wo, wo = wr := ⟨_, rfl⟩
          go_loopw [25] (fun iv wr => ∃ (i : Nat) (M : Lx), i ≤ mw ∧ iv = .int .i64 i ∧ Shp D M ∧ Below B w5 wr ∧ wr.ownsRow ab 25 2 (.slice (some ⟨ab, 0, none⟩) 1 1) 1 [.slice (some ⟨gi, 0, none⟩) n6 k6, .slice d6 m6 l6] ∧ NewL wr B (.slice (some ⟨gi, 0, none⟩) n6 k6) (.slice d6 m6 l6) xs1 fs M) (fun iv _ => mw - (intOf iv).toNat)
          case atStart => exact ⟨0, M1, Nat.zero_le _, rfl, HS1.out, HB1.out, HOa1.out, HN1.out⟩
          case round =>
            clear HN1 HOa1 HB1 HS1 k0 dA0
            obtain ⟨i, M, hi, rfl, hS, hbr, hoa, hN⟩ := hrel
            have d0 : wr.cell? ⟨ab, 0, none⟩ = some (.slice (some ⟨gi, 0, none⟩) n6 k6) := hoa.cellAt 0 (by omega)
            have hnM : M.items.length = n6 := by rw [hS.ni, Hni.out]
            have hwM : (M.items.getD j I0).word.length = mw := by rw [hS.nw j]; exact Hmw.out
            by_cases hlti : i < mw
            · obtain ⟨x9, b9, e9, hx9, hx1, k0, -, -, hrow⟩ := hN.wordAt hnM.symm hlt (by rw [hwM]; omega)
              rw [hwM] at hx1 k0 hrow
              have hst := hrow.stored i (.int .i64 (-1))
              rw [← List.map_set] at hst
              obtain ⟨y, hck⟩ : ∃ y, wr.cell? ⟨b9, i, none⟩ = some y := ⟨_, (hrow.cellAt i (by omega)).trans (List.getElem?_eq_getElem (by rw [List.length_map, hwM]; exact hlti))⟩
              have hcf := hrow.frozenAt i
              have hN8 := hN.turnW (I := M.items) (F := M.follow) (r := (M.items.getD j I0).word.set i (-1)) (by rw [hnM]; exact hlt) hx9 (by rw [hx1]; exact hst.2) (by rw [hx1, List.length_set, hwM]; exact hst.1)
              have HN8 := hid_ hN8
              have HOa8 := hid_ (own_kept_ne hoa hst.2 (fun b' hb' => own_apart hoa hrow (by decide) b' hb'))
              have HB8 := hid_ (Below.setCell (p := ⟨b9, i, none⟩) hbr (hrow.lt b9 rfl).1 (.int .i64 (-1)))
              have HS8 := hid_ (hS.word (i := j) (by rw [hnM]; exact hlt) i (-1))
              have hmw9 : mw ≤ 9223372036854775807 := by have h8 := own_cap hrow; have h7 := (IntsAt.own hrow); obtain ⟨a7, c7, e7, h7⟩ := h7; exact Nat.le_trans h7.le h7.small
              clear hN hN8 hoa hrow hst hS hbr hx9 hx1 hnM hwM
              go_wp2
              go_roundw
              case rel => exact ⟨i + 1, _, by omega, by go_num, HS8.out, HB8.out, HOa8.out, HN8.out⟩
              case measure => simp [intOf]; omega
            · obtain rfl : i = mw := by omega
              obtain ⟨-, -, ⟨aw', mw', dw', k0, hIw⟩, -⟩ := hN.costAt hnM.symm hlt
              obtain rfl : mw' = i := by rw [← hIw.len]; exact hwM
              have HN := hid_ hN; have HOa := hid_ hoa; have Hbr := hid_ hbr; have HS := hid_ hS
              clear hN hoa hbr hS hIw hnM hwM
              go_wp2
              go_roundw
              case rel => exact ⟨j + 1, _, _, by omega, by go_num, HS.out, Hbr.out, HOa.out, HN.out⟩
              case measure => simp [intOf]; omega
        · obtain rfl : j = n6 := by omega
          have HN := hid_ hN; have HOa := hid_ hoa; have Hbr := hid_ hbr; have HS := hid_ hS
          obtain ⟨wx, rfl⟩ : ∃ wx, wx = wr := ⟨_, rfl⟩
          clear hN hoa hbr hS hnM
          go_wp2
          clear d0 d1
          go_loopw [26, 27] (fun iv _ wr => ∃ (k : Nat) (M : Lx), k ≤ m6 ∧ iv = .int .i64 k ∧ Shp D M ∧ Below B w5 wr ∧ wr.ownsRow ab 25 2 (.slice (some ⟨ab, 0, none⟩) 1 1) 1 [.slice a6 j k6, .slice d6 m6 l6] ∧ NewL wr B (.slice a6 j k6) (.slice d6 m6 l6) xs fs M) (fun iv _ _ => m6 - (intOf iv).toNat)
          case atStart => exact ⟨0, M, Nat.zero_le _, rfl, HS.out, Hbr.out, HOa.out, HN.out⟩
          case round =>
            clear HN HOa Hbr HS M
            obtain ⟨k, M, hk, rfl, hS, hbr, hoa, hN⟩ := hrel
            have d1 : wr.cell? ⟨ab, 1, none⟩ = some (.slice d6 m6 l6) := hoa.cellAt 1 (by omega)
            have hnM : M.follow.length = m6 := by rw [hS.nf, Hnf.out]
            by_cases hlt : k < m6
            · obtain ⟨gf, cf, e9, hfB, hfl⟩ := hN.formF (by omega)
              injection e9 with e1 e2 e3
              subst e1; subst e3
              obtain ⟨a9, c9, e9, hLs⟩ := hN.listsAt
              injection e9 with e4 e5 e6
              subst e4; subst e6
              obtain ⟨bb, of, ar, mr, cr, e7, -, hcr, hrr⟩ := hLs.cells k (by omega)
              injection e7 with e7; injection e7 with e8 e10
              subst e8; subst e10
              rw [Nat.zero_add] at hcr
              have Hmr := hid_ ((hS.nr k).symm.trans hrr.len)
              have hmr9 : mr ≤ 9223372036854775807 := Nat.le_trans hrr.le hrr.small
              have HN := hid_ hN; have HOa := hid_ hoa; have Hbr := hid_ hbr; have HS := hid_ hS
              have hkI : (k : Int) < (m6 : Int) := by omega
              clear hN hoa hbr hS hLs hrr hnM e2 e5
              go_wp2
              clear d1 hcr
              obtain ⟨wo, rfl⟩ : ∃ wo, wo = wr := ⟨_, rfl⟩
              go_loopw [27] (fun iv wr => ∃ (i : Nat) (M : Lx), i ≤ mr ∧ iv = .int .i64 i ∧ Shp D M ∧ Below B w5 wr ∧ wr.ownsRow ab 25 2 (.slice (some ⟨ab, 0, none⟩) 1 1) 1 [.slice a6 j k6, .slice (some ⟨gf, 0, none⟩) m6 l6] ∧ NewL wr B (.slice a6 j k6) (.slice (some ⟨gf, 0, none⟩) m6 l6) xs fs M) (fun iv _ => mr - (intOf iv).toNat)
              case atStart => exact ⟨0, M, Nat.zero_le _, rfl, HS.out, Hbr.out, HOa.out, HN.out⟩
              case round =>
                clear HN HOa Hbr HS M
                obtain ⟨i, M, hi, rfl, hS, hbr, hoa, hN⟩ := hrel
                have d1 : wr.cell? ⟨ab, 1, none⟩ = some (.slice (some ⟨gf, 0, none⟩) m6 l6) := hoa.cellAt 1 (by omega)
                have hnM : M.follow.length = m6 := by rw [hS.nf, Hnf.out]
                have hrM : (M.follow.getD k []).length = mr := by rw [hS.nr k]; exact Hmr.out
                by_cases hlti : i < mr
                · obtain ⟨b9, c9, hf9, hcr, hrow, hle9⟩ := hN.listAt hnM.symm hlt (by rw [hrM]; omega)
                  rw [hrM] at hf9 hcr hrow hle9
                  have hst := hrow.stored i (.int .i64 (-2))
                  rw [← List.map_set] at hst
                  obtain ⟨y, hck⟩ : ∃ y, wr.cell? ⟨b9, i, none⟩ = some y := ⟨_, (hrow.cellAt i (by omega)).trans (List.getElem?_eq_getElem (by rw [List.length_map, hrM]; exact hlti))⟩
                  have hcf := hrow.frozenAt i
                  have hN8 := NewI.turnF (I := M.items) (F := M.follow) hN (k := k) (r := (M.follow.getD k []).set i (-2)) (by rw [hnM]; exact hlt) hf9 hst.2 (by rw [List.length_set, hrM]; exact hst.1)
                  have HN8 := hid_ hN8
                  have HOa8 := hid_ (own_kept_ne hoa hst.2 (fun b' hb' => own_apart hoa hrow (by decide) b' hb'))
                  have HB8 := hid_ (Below.setCell (p := ⟨b9, i, none⟩) hbr (hrow.lt b9 rfl).1 (.int .i64 (-2)))
                  have HS8 := hid_ (hS.row (i := k) (by rw [hnM]; exact hlt) i (-2))
                  clear hN hN8 hoa hrow hst hS hbr hf9 hnM hrM
                  go_wp2
                  go_roundw
                  case rel => exact ⟨i + 1, _, by omega, by go_num, HS8.out, HB8.out, HOa8.out, HN8.out⟩
                  case measure => simp [intOf]; omega
                · obtain rfl : i = mr := by omega
                  obtain ⟨a9, c9, e9, hLs⟩ := hN.listsAt
                  injection e9 with e4 e5 e6
                  subst e4; subst e6
                  obtain ⟨bb, of, ar', mr', cr', e7, -, hcr, hrr⟩ := hLs.cells k (by omega)
                  injection e7 with e7; injection e7 with e8 e10
                  subst e8; subst e10
                  rw [Nat.zero_add] at hcr
                  obtain rfl : mr' = i := by rw [← hrr.len]; exact hrM
                  have HN := hid_ hN; have HOa := hid_ hoa; have Hbr := hid_ hbr; have HS := hid_ hS
                  clear hN hoa hbr hS hLs hrr hnM hrM e5
                  go_wp2
                  go_roundw
                  case rel => exact ⟨k + 1, _, by omega, by go_num, HS.out, Hbr.out, HOa.out, HN.out⟩
                  case measure => simp [intOf]; omega
            · obtain rfl : k = m6 := by omega
              have hbr5 : Below w5.heap.size w5 wr := by rw [HB.out]; exact hbr
              have hbw := hb5.trans (hbr5.mono hb5.size)
              obtain ⟨qz, pz⟩ := HQ.out wr hbw
              obtain ⟨o0, o1, hLo⟩ := HOw.out wr hbr
              have HSz := hid_ (r8Same_yes _ _ L wr hLo (HLl.out wr hbw))
              clear hN hoa hbr hS hLo hnM
              go_wp2_with (first
                | (go_at_call 28; (with_reducible refine HSz.out.mono ?_); rintro e w20 ⟨rfl, hb20'⟩; have hb20 := below_then8 hbw hb20')
                | (go_at_call 12; (with_reducible refine (HK.out _).mono ?_); rintro e w21 ⟨rfl, hb21⟩))
              go_ret
              exact ⟨rfl, Hc1.out.trans ((below_then8 hb20 hb21).mono Hc1.out.size)⟩
    · have hq : (validL L == 0) = false := by simpa using hE
      have hqq : (validL L != validL L) = false := by simp
      generalize hD : bkL L = D at *
      have HD := hid_ hD
      generalize validL L = y at *
      clear HF hD hE
      go_enter Try.func6, Try.ntmps6
      go_wp2_with (first
        | (go_at_call 11; (with_reducible refine HG.out.mono ?_); rintro e w3 ⟨rfl, hb3'⟩; have hb3 := below_then8 Ha.out hb3'; obtain ⟨q3, p3⟩ := HQ.out w3 hb3)
        | (go_at_call 25; (with_reducible refine (HCp.out _ hb3).mono ?_); rintro e w4 ⟨iv0, fv0, xs0, fs0, rfl, hN0, hb4'⟩; have hb4 := below_then8 hb3 hb4'; obtain ⟨a4, n4, k4, d4, m4, l4, rfl, rfl, hL4⟩ := hN0.lits; clear hN0; obtain ⟨w5, hw5⟩ : ∃ W, w4.alloc (.cells #[.slice a4 n4 k4, .slice d4 m4 l4] 25) = W := ⟨_, rfl⟩; have bb5 : Below w4.heap.size w4 w5 := (by rw [← hw5]; exact below_alloc _ _); have hb5 := below_then8 hb4 bb5; obtain ⟨q5, p5⟩ := HQ.out w5 hb5; have c50 : w5.cell? ⟨w4.heap.size, 0, none⟩ = some (.slice a4 n4 k4) := (by rw [← hw5]; exact cells_alloc _ _ _ 0); have c51 : w5.cell? ⟨w4.heap.size, 1, none⟩ = some (.slice d4 m4 l4) := (by rw [← hw5]; exact cells_alloc _ _ _ 1); have HL5 := hid_ (hL4.below bb5 (Nat.le_refl _)); have HO5 := hid_ (fun W (hW : Below w5.heap.size w5 W) => (⟨cell_below c50 hW, cell_below c51 hW, HL5.out.below hW (Nat.le_refl _)⟩ : _ ∧ _ ∧ _)); clear hL4 bb5)
        | (go_at_call 26; (with_reducible refine (HBk.out w5 _ HL5.out).mono ?_); rintro e w6 ⟨iv, fv, xs, fs, rfl, hN, hb6'⟩; have hb6 := below_then8 hb5 hb6'; obtain ⟨a6, n6, k6, d6, m6, l6, rfl, rfl, -⟩ := hN.lits; obtain ⟨w7, hw7⟩ : ∃ W, w6.alloc (.cells #[.slice a6 n6 k6, .slice d6 m6 l6] 25) = W := ⟨_, rfl⟩; have bb7 : Below w6.heap.size w6 w7 := (by rw [← hw7]; exact below_alloc _ _); have hb7 := below_then8 hb6 bb7; obtain ⟨q7, p7⟩ := HQ.out w7 hb7; have HN7 := hid_ (hN.below bb7 (Nat.le_refl _)); have HA7 := hid_ (show w7.ownsRow w6.heap.size 25 2 (.slice (some ⟨w6.heap.size, 0, none⟩) 1 1) 1 [.slice a6 n6 k6, .slice d6 m6 l6] by rw [← hw7]; exact World.ownsRow_lit (base := w6.heap.size) (e := 25) (size := 2) w6 #[.slice a6 n6 k6, .slice d6 m6 l6] 1 (Nat.le_refl _) (by unfold maxLen; omega) rfl); have h57 := hid_ (hb6'.trans (bb7.mono hb6'.size)); have HAt := hid_ (fun W (hW : Below w7.heap.size w7 W) => (⟨(own_below HA7.out hW (Nat.le_refl _)).cellAt 0 (by omega), (own_below HA7.out hW (Nat.le_refl _)).cellAt 1 (by omega), (HN7.out.below hW (Nat.le_refl _)).lex⟩ : W.cell? ⟨w6.heap.size, 0, none⟩ = some (.slice a6 n6 k6) ∧ W.cell? ⟨w6.heap.size, 1, none⟩ = some (.slice d6 m6 l6) ∧ LexAt W (.agg #[.slice a6 n6 k6, .slice d6 m6 l6]) D)); clear hN bb7)
        | (go_at_call 27; (with_reducible refine (HB.out _ hb7).mono ?_); rintro e w8 ⟨iv', fv', xs', fs', rfl, hN', hb8'⟩; have hb8 := below_then8 hb7 hb8'; obtain ⟨a8, n8, k8, d8, m8, l8, rfl, rfl, hL8⟩ := hN'.lits; clear hN'; obtain ⟨w9, hw9⟩ : ∃ W, w8.alloc (.cells #[.slice a8 n8 k8, .slice d8 m8 l8] 25) = W := ⟨_, rfl⟩; have bb9 : Below w8.heap.size w8 w9 := (by rw [← hw9]; exact below_alloc _ _); have hb9 := below_then8 hb8 bb9; obtain ⟨q9, p9⟩ := HQ.out w9 hb9; have h79 := hid_ (hb8'.trans (bb9.mono hb8'.size)); obtain ⟨e90, e91, hLa⟩ := HAt.out w9 h79.out; have f90 : w9.cell? ⟨w8.heap.size, 0, none⟩ = some (.slice a8 n8 k8) := (by rw [← hw9]; exact cells_alloc _ _ _ 0); have f91 : w9.cell? ⟨w8.heap.size, 1, none⟩ = some (.slice d8 m8 l8) := (by rw [← hw9]; exact cells_alloc _ _ _ 1); have HSa := hid_ (r8Same_yes _ _ D w9 hLa (hL8.below bb9 (Nat.le_refl _))); clear hL8 hLa bb9)
        | (go_at_call 28; (with_reducible refine HSa.out.mono ?_); rintro e w10 ⟨rfl, hb10'⟩; have hb10 := below_then8 hb9 hb10'; obtain ⟨q10, p10⟩ := HQ.out w10 hb10; have h710 := hid_ (h79.out.trans (hb10'.mono h79.out.size)); obtain ⟨eA0, eA1, hLa10⟩ := HAt.out w10 h710.out; have HLa10 := hid_ hLa10; clear hLa10))
      have HZ := h710
      have HB5 := hid_ (h57.out.trans (HZ.out.mono h57.out.size))
      have hz6 : w5.heap.size ≤ w6.heap.size := hb6'.size
      have HNz := hid_ (HN7.out.below HZ.out (Nat.le_refl _))
      have HAz := hid_ (own_below HA7.out HZ.out (Nat.le_refl _))
      obtain ⟨B, hB⟩ : ∃ B, w5.heap.size = B := ⟨_, rfl⟩
      obtain ⟨ab, hab⟩ : ∃ ab, w6.heap.size = ab := ⟨_, rfl⟩
      rw [hB] at HNz HB5 hz6
      rw [hab] at HAz hz6 ⊢
      have hni : D.items.length = n6 := by have h9 := HNz.out.itemsAt; obtain ⟨a9, c9, e9, -⟩ := h9; injection e9 with e1 e2 e3; exact e2.symm
      have hnf : D.follow.length = m6 := by have h9 := HNz.out.listsAt; obtain ⟨a9, c9, e9, -⟩ := h9; injection e9 with e1 e2 e3; exact e2.symm
      have HB := hid_ hB
      have Hni := hid_ hni; have Hnf := hid_ hnf
      have hn6 : n6 ≤ 9223372036854775807 := by obtain ⟨a9, c9, e9, h9⟩ := HNz.out.itemsAt; have := Nat.le_trans h9.le h9.small; omega
      have hm6 : m6 ≤ 9223372036854775807 := by obtain ⟨a9, c9, e9, h9⟩ := HNz.out.listsAt; have := Nat.le_trans h9.le h9.small; omega
      have HOw := hid_ (fun W (hW : Below B w5 W) => HO5.out W (by rw [HB.out]; exact hW))
      clear hB hab hni hnf
      go_loopw [24, 25] (fun iv _ wr => ∃ (j : Nat) (xs : List Ic) (M : Lx), j ≤ n6 ∧ iv = .int .i64 j ∧ Shp D M ∧ Below B w5 wr ∧ wr.ownsRow ab 25 2 (.slice (some ⟨ab, 0, none⟩) 1 1) 1 [.slice a6 n6 k6, .slice d6 m6 l6] ∧ NewL wr B (.slice a6 n6 k6) (.slice d6 m6 l6) xs fs M) (fun iv _ _ => n6 - (intOf iv).toNat)
      case atStart => exact ⟨0, xs, D, Nat.zero_le _, rfl, Shp.refl D, HB5.out, HAz.out, HNz.out⟩
      case round =>
        clear HNz HAz HB5 HZ
        obtain ⟨j, xs, M, hj, rfl, hS, hbr, hoa, hN⟩ := hrel
        have d0 : wr.cell? ⟨ab, 0, none⟩ = some (.slice a6 n6 k6) := hoa.cellAt 0 (by omega)
        have d1 : wr.cell? ⟨ab, 1, none⟩ = some (.slice d6 m6 l6) := hoa.cellAt 1 (by omega)
        have hnM : M.items.length = n6 := by rw [hS.ni, Hni.out]
        by_cases hlt : j < n6
        · obtain ⟨gi, cg, e9, hgB, hgl⟩ := hN.form (by omega)
          injection e9 with e1 e2 e3
          subst e1; subst e3
          obtain ⟨y0, yf, -, -⟩ := hN.costAt hnM.symm hlt
          obtain ⟨xs1, hN1⟩ := hN.cost hnM.symm hlt (-1)
          have hit := hN.items
          rw [hnM] at hit
          have hst := hit.stored (j * 3 + 2) (.int .i64 (-1))
          have HOa1 := hid_ (own_kept_ne hoa hst.2 (fun b' hb' => own_apart hoa hit (by decide) b' hb'))
          have hS1 := hS.cost j (-1)
          have hnM1 : (setCost M j (-1)).items.length = n6 := by rw [hS1.ni, Hni.out]
          obtain ⟨-, -, ⟨aw, mw, dw, k0, hIw⟩, -⟩ := hN1.costAt hnM1.symm hlt
          have hmw : ((setCost M j (-1)).items.getD j I0).word.length = mw := hIw.len
          have HB1 := hid_ (Below.setCell (p := ⟨gi, j * 3 + 2, none⟩) hbr hgB (.int .i64 (-1)))
          have HN1 := hid_ hN1; have HS1 := hid_ hS1
          obtain ⟨wa, hwa⟩ : ∃ wa, wr.setCell ⟨gi, j * 3 + 2, none⟩ (.int .i64 (-1)) = wa := ⟨_, rfl⟩
          rw [hwa] at HN1 HB1 HOa1 k0
          have dA0 : wa.cell? ⟨ab, 0, none⟩ = some (.slice (some ⟨gi, 0, none⟩) n6 k6) := HOa1.out.cellAt 0 (by omega)
          have Hmw := hid_ (hS1.nw j ▸ hmw)
          generalize setCost M j (-1) = M1 at *
          generalize (M.items.getD j I0).cost = oc at *
          clear hN hN1 hoa hst hit hS hS1 hbr hIw hnM hnM1 hmw e2
          go_wp2
          clear y0 yf d0 d1 hwa
          obtain ⟨wo, rfl⟩ : ∃ wo, wo = wr := ⟨_, rfl⟩
          go_loopw [25] (fun iv wr => ∃ (i : Nat) (M : Lx), i ≤ mw ∧ iv = .int .i64 i ∧ Shp D M ∧ Below B w5 wr ∧ wr.ownsRow ab 25 2 (.slice (some ⟨ab, 0, none⟩) 1 1) 1 [.slice (some ⟨gi, 0, none⟩) n6 k6, .slice d6 m6 l6] ∧ NewL wr B (.slice (some ⟨gi, 0, none⟩) n6 k6) (.slice d6 m6 l6) xs1 fs M) (fun iv _ => mw - (intOf iv).toNat)
          case atStart => exact ⟨0, M1, Nat.zero_le _, rfl, HS1.out, HB1.out, HOa1.out, HN1.out⟩
          case round =>
            clear HN1 HOa1 HB1 HS1 k0 dA0
            obtain ⟨i, M, hi, rfl, hS, hbr, hoa, hN⟩ := hrel
            have d0 : wr.cell? ⟨ab, 0, none⟩ = some (.slice (some ⟨gi, 0, none⟩) n6 k6) := hoa.cellAt 0 (by omega)
            have hnM : M.items.length = n6 := by rw [hS.ni, Hni.out]
            have hwM : (M.items.getD j I0).word.length = mw := by rw [hS.nw j]; exact Hmw.out
            by_cases hlti : i < mw
            · obtain ⟨x9, b9, e9, hx9, hx1, k0, -, -, hrow⟩ := hN.wordAt hnM.symm hlt (by rw [hwM]; omega)
              rw [hwM] at hx1 k0 hrow
              have hst := hrow.stored i (.int .i64 (-1))
              rw [← List.map_set] at hst
              obtain ⟨y, hck⟩ : ∃ y, wr.cell? ⟨b9, i, none⟩ = some y := ⟨_, (hrow.cellAt i (by omega)).trans (List.getElem?_eq_getElem (by rw [List.length_map, hwM]; exact hlti))⟩
              have hcf := hrow.frozenAt i
              have hN8 := hN.turnW (I := M.items) (F := M.follow) (r := (M.items.getD j I0).word.set i (-1)) (by rw [hnM]; exact hlt) hx9 (by rw [hx1]; exact hst.2) (by rw [hx1, List.length_set, hwM]; exact hst.1)
              have HN8 := hid_ hN8
              have HOa8 := hid_ (own_kept_ne hoa hst.2 (fun b' hb' => own_apart hoa hrow (by decide) b' hb'))
              have HB8 := hid_ (Below.setCell (p := ⟨b9, i, none⟩) hbr (hrow.lt b9 rfl).1 (.int .i64 (-1)))
              have HS8 := hid_ (hS.word (i := j) (by rw [hnM]; exact hlt) i (-1))
              have hmw9 : mw ≤ 9223372036854775807 := by have h8 := own_cap hrow; have h7 := (IntsAt.own hrow); obtain ⟨a7, c7, e7, h7⟩ := h7; exact Nat.le_trans h7.le h7.small
              clear hN hN8 hoa hrow hst hS hbr hx9 hx1 hnM hwM
              go_wp2
              go_roundw
              case rel => exact ⟨i + 1, _, by omega, by go_num, HS8.out, HB8.out, HOa8.out, HN8.out⟩
              case measure => simp [intOf]; omega
            · obtain rfl : i = mw := by omega
              obtain ⟨-, -, ⟨aw', mw', dw', k0, hIw⟩, -⟩ := hN.costAt hnM.symm hlt
              obtain rfl : mw' = i := by rw [← hIw.len]; exact hwM
              have HN := hid_ hN; have HOa := hid_ hoa; have Hbr := hid_ hbr; have HS := hid_ hS
              clear hN hoa hbr hS hIw hnM hwM
              go_wp2
              go_roundw
              case rel => exact ⟨j + 1, _, _, by omega, by go_num, HS.out, Hbr.out, HOa.out, HN.out⟩
              case measure => simp [intOf]; omega
        · obtain rfl : j = n6 := by omega
          have HN := hid_ hN; have HOa := hid_ hoa; have Hbr := hid_ hbr; have HS := hid_ hS
          obtain ⟨wx, rfl⟩ : ∃ wx, wx = wr := ⟨_, rfl⟩
          clear hN hoa hbr hS hnM
          go_wp2
          clear d0 d1
          go_loopw [26, 27] (fun iv _ wr => ∃ (k : Nat) (M : Lx), k ≤ m6 ∧ iv = .int .i64 k ∧ Shp D M ∧ Below B w5 wr ∧ wr.ownsRow ab 25 2 (.slice (some ⟨ab, 0, none⟩) 1 1) 1 [.slice a6 j k6, .slice d6 m6 l6] ∧ NewL wr B (.slice a6 j k6) (.slice d6 m6 l6) xs fs M) (fun iv _ _ => m6 - (intOf iv).toNat)
          case atStart => exact ⟨0, M, Nat.zero_le _, rfl, HS.out, Hbr.out, HOa.out, HN.out⟩
          case round =>
            clear HN HOa Hbr HS M
            obtain ⟨k, M, hk, rfl, hS, hbr, hoa, hN⟩ := hrel
            have d1 : wr.cell? ⟨ab, 1, none⟩ = some (.slice d6 m6 l6) := hoa.cellAt 1 (by omega)
            have hnM : M.follow.length = m6 := by rw [hS.nf, Hnf.out]
            by_cases hlt : k < m6
            · obtain ⟨gf, cf, e9, hfB, hfl⟩ := hN.formF (by omega)
              injection e9 with e1 e2 e3
              subst e1; subst e3
              obtain ⟨a9, c9, e9, hLs⟩ := hN.listsAt
              injection e9 with e4 e5 e6
              subst e4; subst e6
              obtain ⟨bb, of, ar, mr, cr, e7, -, hcr, hrr⟩ := hLs.cells k (by omega)
              injection e7 with e7; injection e7 with e8 e10
              subst e8; subst e10
              rw [Nat.zero_add] at hcr
              have Hmr := hid_ ((hS.nr k).symm.trans hrr.len)
              have hmr9 : mr ≤ 9223372036854775807 := Nat.le_trans hrr.le hrr.small
              have HN := hid_ hN; have HOa := hid_ hoa; have Hbr := hid_ hbr; have HS := hid_ hS
              have hkI : (k : Int) < (m6 : Int) := by omega
              clear hN hoa hbr hS hLs hrr hnM e2 e5
              go_wp2
              clear d1 hcr
              obtain ⟨wo, rfl⟩ : ∃ wo, wo = wr := ⟨_, rfl⟩
              go_loopw [27] (fun iv wr => ∃ (i : Nat) (M : Lx), i ≤ mr ∧ iv = .int .i64 i ∧ Shp D M ∧ Below B w5 wr ∧ wr.ownsRow ab 25 2 (.slice (some ⟨ab, 0, none⟩) 1 1) 1 [.slice a6 j k6, .slice (some ⟨gf, 0, none⟩) m6 l6] ∧ NewL wr B (.slice a6 j k6) (.slice (some ⟨gf, 0, none⟩) m6 l6) xs fs M) (fun iv _ => mr - (intOf iv).toNat)
              case atStart => exact ⟨0, M, Nat.zero_le _, rfl, HS.out, Hbr.out, HOa.out, HN.out⟩
              case round =>
                clear HN HOa Hbr HS M
                obtain ⟨i, M, hi, rfl, hS, hbr, hoa, hN⟩ := hrel
                have d1 : wr.cell? ⟨ab, 1, none⟩ = some (.slice (some ⟨gf, 0, none⟩) m6 l6) := hoa.cellAt 1 (by omega)
                have hnM : M.follow.length = m6 := by rw [hS.nf, Hnf.out]
                have hrM : (M.follow.getD k []).length = mr := by rw [hS.nr k]; exact Hmr.out
                by_cases hlti : i < mr
                · obtain ⟨b9, c9, hf9, hcr, hrow, hle9⟩ := hN.listAt hnM.symm hlt (by rw [hrM]; omega)
                  rw [hrM] at hf9 hcr hrow hle9
                  have hst := hrow.stored i (.int .i64 (-2))
                  rw [← List.map_set] at hst
                  obtain ⟨y, hck⟩ : ∃ y, wr.cell? ⟨b9, i, none⟩ = some y := ⟨_, (hrow.cellAt i (by omega)).trans (List.getElem?_eq_getElem (by rw [List.length_map, hrM]; exact hlti))⟩
                  have hcf := hrow.frozenAt i
                  have hN8 := NewI.turnF (I := M.items) (F := M.follow) hN (k := k) (r := (M.follow.getD k []).set i (-2)) (by rw [hnM]; exact hlt) hf9 hst.2 (by rw [List.length_set, hrM]; exact hst.1)
                  have HN8 := hid_ hN8
                  have HOa8 := hid_ (own_kept_ne hoa hst.2 (fun b' hb' => own_apart hoa hrow (by decide) b' hb'))
                  have HB8 := hid_ (Below.setCell (p := ⟨b9, i, none⟩) hbr (hrow.lt b9 rfl).1 (.int .i64 (-2)))
                  have HS8 := hid_ (hS.row (i := k) (by rw [hnM]; exact hlt) i (-2))
                  clear hN hN8 hoa hrow hst hS hbr hf9 hnM hrM
                  go_wp2
                  go_roundw
                  case rel => exact ⟨i + 1, _, by omega, by go_num, HS8.out, HB8.out, HOa8.out, HN8.out⟩
                  case measure => simp [intOf]; omega
                · obtain rfl : i = mr := by omega
                  obtain ⟨a9, c9, e9, hLs⟩ := hN.listsAt
                  injection e9 with e4 e5 e6
                  subst e4; subst e6
                  obtain ⟨bb, of, ar', mr', cr', e7, -, hcr, hrr⟩ := hLs.cells k (by omega)
                  injection e7 with e7; injection e7 with e8 e10
                  subst e8; subst e10
                  rw [Nat.zero_add] at hcr
                  obtain rfl : mr' = i := by rw [← hrr.len]; exact hrM
                  have HN := hid_ hN; have HOa := hid_ hoa; have Hbr := hid_ hbr; have HS := hid_ hS
                  clear hN hoa hbr hS hLs hrr hnM hrM e5
                  go_wp2
                  go_roundw
                  case rel => exact ⟨k + 1, _, by omega, by go_num, HS.out, Hbr.out, HOa.out, HN.out⟩
                  case measure => simp [intOf]; omega
            · obtain rfl : k = m6 := by omega
              have hbr5 : Below w5.heap.size w5 wr := by rw [HB.out]; exact hbr
              have hbw := hb5.trans (hbr5.mono hb5.size)
              obtain ⟨qz, pz⟩ := HQ.out wr hbw
              obtain ⟨o0, o1, hLo⟩ := HOw.out wr hbr
              have HSz := hid_ (r8Same_yes _ _ L wr hLo (HLl.out wr hbw))
              clear hN hoa hbr hS hLo hnM
              go_wp2_with (first
                | (go_at_call 28; (with_reducible refine HSz.out.mono ?_); rintro e w20 ⟨rfl, hb20'⟩; have hb20 := below_then8 hbw hb20')
                | (go_at_call 12; (with_reducible refine (HK.out _).mono ?_); rintro e w21 ⟨rfl, hb21⟩))
              go_ret
              exact ⟨rfl, Hc1.out.trans ((below_then8 hb20 hb21).mono Hc1.out.size)⟩
end Go.Proofs.Ytpcpmdokgdbonaa
