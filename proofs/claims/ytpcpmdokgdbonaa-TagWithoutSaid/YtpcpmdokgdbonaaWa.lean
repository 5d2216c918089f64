import Derived.Test.YtpcpmdokgdbonaaVZ
namespace Go.Proofs.Ytpcpmdokgdbonaa
open Go.RowKit Go.Proofs.Kv Go

/-! ### the law TagFree -/
set_option maxRecDepth 100000 in
set_option maxHeartbeats 8000000 in
theorem tagFree_calls (v : Value) (L : Lx) (a : Option Addr) (n c : Nat) (t : List Int) (a' : Option Addr) (n' c' : Nat) (s : List Int) (w : World) (h : LexAt w v L) (ht : IntsAt w a n c t) (hs : IntsAt w a' n' c' s) :
    Calls Try.prog 9 #[v, .slice a n c, .slice a' n' c'] w fun e w' => e = .returned (.bool true) ∧ Below w.heap.size w w' := by
  have HP := hid_ h
  obtain ⟨a1, n1, c1, a2, n2, c2, rfl, h1, h2⟩ := h
  obtain ⟨w1, hw1⟩ : ∃ w1, w.alloc (.cells #[.slice a1 n1 c1, .slice a2 n2 c2] 25) = w1 := ⟨_, rfl⟩
  have cb : Below w.heap.size w w1 := by rw [← hw1]; exact below_alloc _ _
  have q0 : w1.cell? ⟨w.heap.size, 0, none⟩ = some (.slice a1 n1 c1) := by rw [← hw1]; exact cells_alloc _ _ _ 0
  have q1 : w1.cell? ⟨w.heap.size, 1, none⟩ = some (.slice a2 n2 c2) := by rw [← hw1]; exact cells_alloc _ _ _ 1
  have HP1 := hid_ (HP.out.below cb (Nat.le_refl _)); have Hc1 := hid_ cb
  have ht1 := ht.below cb (Nat.le_refl _)
  have hs1 := hs.below cb (Nat.le_refl _)
  have HG := hid_ (long8_calls _ L _ 2 2 [t, s] _ (HP1.out.below (below_alloc w1 (.cells #[.slice a n c, .slice a' n' c'] 26)) (Nat.le_refl _)) (lists2_8 w1 26 ht1 hs1))
  have Ha := hid_ (below_alloc w1 (.cells #[.slice a n c, .slice a' n' c'] 26))
  have HQ := hid_ (fun W (hW : Below w1.heap.size w1 W) => (⟨cell_below q0 hW, cell_below q1 hW⟩ : _ ∧ _))
  have HA := hid_ (fun W (hW : Below w1.heap.size w1 W) => taFree_calls _ L W (HP1.out.below hW (Nat.le_refl _)))
  have HB := hid_ (fun W (hW : Below w1.heap.size w1 W) => r8Free_calls _ L W (HP1.out.below hW (Nat.le_refl _)))
  have HI := hid_ (fun W (hW : Below w1.heap.size w1 W) => ht1.below hW (Nat.le_refl _))
  have HJ := hid_ (fun W (hW : Below w1.heap.size w1 W) => hs1.below hW (Nat.le_refl _))
  have HK := hid_ sane_calls
  have HF := fun h => @free_facts L h t s
  have HD : Hid (frL L = if validL L = 0 then freeL L else ⟨[], []⟩) := hid_ rfl
  have hln := ht.len; have hln' := hs.len
  clear h1 h2 HP HP1 cb ht hs ht1 hs1
  cases hg : longX L [t, s] with
  | true =>
    rw [hg] at HG
    clear hg HF
    go_enter Try.func9, Try.ntmps9
    go_wp2_with (first
      | (go_at_call 11; (with_reducible refine HG.out.mono ?_); rintro e w3 ⟨rfl, hb3⟩; have Hb3 := hid_ (below_then8 Ha.out hb3); clear hb3)
      | (go_at_call 12; (with_reducible refine (HK.out _).mono ?_); rintro e w4 ⟨rfl, hb4⟩))
    go_ret
    exact ⟨rfl, Hc1.out.trans ((below_then8 Hb3.out hb4).mono Hc1.out.size)⟩
  | false =>
    have hn3 := long_no hg (s := t) (by simp)
    have hn3' := long_no hg (s := s) (by simp)
    rw [hln] at hn3; rw [hln'] at hn3'
    rw [hg] at HG
    clear hg
    have hS := hid_ (fun W x y (hx : LexAt W x (frL L)) (hy : LexAt W y (frL L)) => r8Same_yes x y (frL L) W hx hy)
    by_cases hE : validL L = 0
    · have HF' := HF hE
      rw [if_pos hE] at HD
      rw [hE] at HA HB
      rw [HD.out] at HA HB hS
      have hw7 : n + n' ≤ 1000000 := by omega
      have hlen2 : (t ++ s).length = n + n' := by rw [List.length_append, hln, hln']
      generalize freeL L = D at *
      have HU := hid_ (fun W v' (hv' : LexAt W v' D) hi => taCount_calls v' D a n c t W hv' hi)
      have HV := hid_ (fun W v' (hv' : LexAt W v' D) hi => taCount_calls v' D a' n' c' s W hv' hi)
      have HUV := hid_ (fun W v' (hv' : LexAt W v' D) a2 c2 hi => taCount_calls v' D a2 (n + n') c2 (t ++ s) W hv' hi)
      generalize countV D t = x at *
      generalize countV D s = y at *
      generalize countV D (t ++ s) = z at *
      generalize textE D t = g1 at *
      generalize textE D s = g2 at *
      generalize textE D (t ++ s) = g3 at *
      obtain ⟨i1, hi1, hy0, hy1, hy2⟩ := info_parts Try.infoInt
      clear HF hE HD hln hln' hlen2
      by_cases h1 : g1 = 0
      · by_cases h2 : g2 = 0
        · by_cases h3 : g3 = 0
          · obtain ⟨x0, y0, xy, z0⟩ := HF' h3
            subst h1 h2 h3
            have hwm : IntKind.i64.wrap (x * y) = x * y := IntWalk.i64_in _ (by have := Int.mul_nonneg x0 y0; omega)
            have f1 : decide (x ≥ 0) = true := decide_eq_true x0
            have f2 : decide (y ≥ 0) = true := decide_eq_true y0
            have f3 : decide (z ≥ x * y) = true := decide_eq_true xy
            clear HF'
            go_enter Try.func9, Try.ntmps9
            go_wp2_with (first
              | (go_at_call 11; (with_reducible refine HG.out.mono ?_); rintro e w3 ⟨rfl, hb3'⟩; have hb3 := below_then8 Ha.out hb3'; obtain ⟨q3, p3⟩ := HQ.out w3 hb3)
              | (go_at_call 35; (with_reducible refine (HA.out _ hb3).mono ?_); rintro e w4 ⟨iv, fv, xs, fs, rfl, hN, hb4'⟩; have hb4 := below_then8 hb3 hb4'; obtain ⟨a4, n4, k4, d4, m4, l4, rfl, rfl, hL4⟩ := hN.lits; clear hN; obtain ⟨w5, hw5⟩ : ∃ W, w4.alloc (.cells #[.slice a4 n4 k4, .slice d4 m4 l4] 25) = W := ⟨_, rfl⟩; have bb5 : Below w4.heap.size w4 w5 := (by rw [← hw5]; exact below_alloc _ _); have HL5 := hid_ (hL4.below bb5 (Nat.le_refl _)); clear hL4; have hb5 := below_then8 hb4 bb5; obtain ⟨q5, p5⟩ := HQ.out w5 hb5; have c50 : w5.cell? ⟨w4.heap.size, 0, none⟩ = some (.slice a4 n4 k4) := (by rw [← hw5]; exact cells_alloc _ _ _ 0); have c51 : w5.cell? ⟨w4.heap.size, 1, none⟩ = some (.slice d4 m4 l4) := (by rw [← hw5]; exact cells_alloc _ _ _ 1); have z5 : w4.heap.size < w5.heap.size := (by rw [← hw5]; simp); clear bb5)
              | (go_at_call 36; (with_reducible refine (HB.out _ hb5).mono ?_); rintro e w6 ⟨iv, fv, xs, fs, rfl, hN, hb6'⟩; have hb6 := below_then8 hb5 hb6'; obtain ⟨a6, n6, k6, d6, m6, l6, rfl, rfl, hL6⟩ := hN.lits; clear hN; obtain ⟨w7, hw7⟩ : ∃ W, w6.alloc (.cells #[.slice a6 n6 k6, .slice d6 m6 l6] 25) = W := ⟨_, rfl⟩; have bb7 : Below w6.heap.size w6 w7 := (by rw [← hw7]; exact below_alloc _ _); have HL7 := hid_ (hL6.below bb7 (Nat.le_refl _)); clear hL6; have hb7 := below_then8 hb6 bb7; obtain ⟨q7, p7⟩ := HQ.out w7 hb7; have c60 := cell_below c50 hb6'; have c61 := cell_below c51 hb6'; have c70 := cell_below c60 bb7; have c71 := cell_below c61 bb7; have e70 : w7.cell? ⟨w6.heap.size, 0, none⟩ = some (.slice a6 n6 k6) := (by rw [← hw7]; exact cells_alloc _ _ _ 0); have e71 : w7.cell? ⟨w6.heap.size, 1, none⟩ = some (.slice d6 m6 l6) := (by rw [← hw7]; exact cells_alloc _ _ _ 1); have HL75 := hid_ ((HL5.out.below hb6' (Nat.le_refl _)).below bb7 (Nat.le_refl _)); have HSa := hid_ (hS.out _ _ _ HL75.out HL7.out); clear c60 c61 bb7)
              | (go_at_call 28; (with_reducible refine HSa.out.mono ?_); rintro e w8 ⟨rfl, hb8'⟩; have hb8 := below_then8 hb7 hb8'; obtain ⟨q8, p8⟩ := HQ.out w8 hb8; have c80 := cell_below c70 hb8'; have c81 := cell_below c71 hb8'; have HL8 := hid_ (HL75.out.below hb8' (Nat.le_refl _)))
              | (go_at_call 15; (with_reducible refine (HU.out _ _ HL8.out (HI.out _ hb8)).mono ?_); rintro e w9 ⟨rfl, hb9'⟩; have hb9 := below_then8 hb8 hb9'; have c90 := cell_below c80 hb9'; have c91 := cell_below c81 hb9'; have HL9 := hid_ (HL8.out.below hb9' (Nat.le_refl _)))
              | (go_at_call 15; (with_reducible refine (HV.out _ _ HL9.out (HJ.out _ hb9)).mono ?_); rintro e w10 ⟨rfl, hb10'⟩; have hb10 := below_then8 hb9 hb10'; have c100 := cell_below c90 hb10'; have c101 := cell_below c91 hb10'; have HL10 := hid_ (HL9.out.below hb10' (Nat.le_refl _))))
            have bd : Below w10.heap.size w10 w10.drew := Below.drew (Below.refl _ _)
            have b8 : Below w10.heap.size w10 (w10.drew.alloc (.cells #[] 3)) := bd.alloc (Nat.le_refl _) _
            have HS := hid_ (fun W (hW : Below w10.heap.size w10 W) => (⟨cell_below c100 hW, cell_below c101 hW⟩ : W.cell? ⟨w4.heap.size, 0, none⟩ = some (.slice a4 n4 k4) ∧ W.cell? ⟨w4.heap.size, 1, none⟩ = some (.slice d4 m4 l4)))
            have HIu := hid_ ((HI.out _ hb10).below b8 (Nat.le_refl _))
            have HIv := hid_ (HJ.out _ hb10)
            have Hb10 := hid_ hb10
            refine wp_region_last2 (n := 11) (S := fun W' => W'.cell? ⟨w4.heap.size, 0, none⟩ = some (.slice a4 n4 k4) ∧ W'.cell? ⟨w4.heap.size, 1, none⟩ = some (.slice d4 m4 l4)) (by kernel_rfl) (by kernel_rfl) (HS.out _ bd) (fun hHeld => ?_)
            refine wpAnyH_take (i := 0) (oi := ?oi0h1) (v := ?v0h1) ?hi0h1 (by kernel_rfl) ?hf0h1 (by kernel_rfl) ?hQ0h1 ?hy0h1 (by assumption) ?rest0h1
            case hi0h1 => (simp only [List.getElem?_toArray, List.getElem?_cons_zero]; rfl)
            case hf0h1 => kernel_rfl
            case hQ0h1 => exact fun _ _ _ h => h
            case hy0h1 => (refine Or.inl ⟨by rfl, ?_⟩; intro W hSw; (try dsimp only at hSw); obtain ⟨g0, g1⟩ := hSw; go_simp; try with_reducible rfl)
            try simp only [Act.put, List.setIfInBounds_toArray, List.set_cons_zero, List.set_cons_succ]
            refine wpAnyH_take (i := 2) (oi := ?oi2h2) (v := ?v2h2) ?hi2h2 (by kernel_rfl) ?hf2h2 (by kernel_rfl) ?hQ2h2 ?hy2h2 (by assumption) ?rest2h2
            case hi2h2 => (simp only [List.getElem?_toArray, List.getElem?_cons_succ, List.getElem?_cons_zero]; rfl)
            case hf2h2 => kernel_rfl
            case hQ2h2 => exact fun _ _ _ h => h
            case hy2h2 => (refine Or.inl ⟨by rfl, ?_⟩; intro W hSw; (try dsimp only at hSw); go_simp; try with_reducible rfl)
            try simp only [Act.put, List.setIfInBounds_toArray, List.set_cons_zero, List.set_cons_succ]
            refine wpAnyH_take (i := 4) (oi := ?oi4h3) (v := ?v4h3) ?hi4h3 (by kernel_rfl) ?hf4h3 (by kernel_rfl) ?hQ4h3 ?hy4h3 (by assumption) ?rest4h3
            case hi4h3 => (simp only [List.getElem?_toArray, List.getElem?_cons_succ, List.getElem?_cons_zero]; rfl)
            case hf4h3 => kernel_rfl
            case hQ4h3 => exact fun _ _ _ h => h
            case hy4h3 => (refine Or.inl ⟨by rfl, ?_⟩; intro W hSw; (try dsimp only at hSw); go_simp; try with_reducible rfl)
            try simp only [Act.put, List.setIfInBounds_toArray, List.set_cons_zero, List.set_cons_succ]
            refine wpAnyH_ready (rs := [1]) (by kernel_rfl) (by simp) ?_
            refine AllReadyH.cons (o := _) (by (simp only [List.getElem?_toArray, List.getElem?_cons_succ, List.getElem?_cons_zero]; rfl)) (fun K hK => ?_) AllReadyH.nil
            go_simp
            refine hK.out _ _ ?_ (fun hHeld => ?_)
            · exact HS.out _ b8
            clear hK K
            try simp only [Act.put, List.setIfInBounds_toArray, List.set_cons_zero, List.set_cons_succ]
            refine wpAnyH_ready (rs := [3]) (by kernel_rfl) (by simp) ?_
            refine AllReadyH.cons (o := _) (by (simp only [List.getElem?_toArray, List.getElem?_cons_succ, List.getElem?_cons_zero]; rfl)) (fun K hK => ?_) AllReadyH.nil
            refine step_append_row rfl (.tmp 59) (.tmp 60) rfl w10.heap.size _ 0 [] (by rfl) (World.ownsRow_lit (base := w10.heap.size) (e := 3) (size := 1) w10.drew #[] 0 (Nat.le_refl _) (by unfold maxLen; omega) rfl) a n c t (by rfl) HIu.out (by omega) (by simp) ?_; intro v5 w11 ho5 hg5 hat5; simp only [Nat.zero_add, List.nil_append] at ho5; have bw5 : Below w10.heap.size w10 w11 := b8.grown hg5 (by simp) (fun r e => by cases e; exact Nat.le_refl _); obtain ⟨a11, c11, rfl, -⟩ := IntsAt.own ho5
            refine hK.out _ _ ?_ (fun hHeld => ?_)
            · exact HS.out _ bw5
            clear hK K
            try simp only [Act.put, List.setIfInBounds_toArray, List.set_cons_zero, List.set_cons_succ]
            refine wpAnyH_ready (rs := [5]) (by kernel_rfl) (by simp) ?_
            refine AllReadyH.cons (o := _) (by (simp only [List.getElem?_toArray, List.getElem?_cons_succ, List.getElem?_cons_zero]; rfl)) (fun K hK => ?_) AllReadyH.nil
            refine step_append_row rfl (.tmp 61) (.tmp 62) rfl w10.heap.size _ n t (by rfl) ho5 a' n' c' s (by rfl) (HIv.out.below bw5 (Nat.le_refl _)) (by omega) bw5.size ?_; intro v6 w12 ho6 hg6 hat6; have bw6 : Below w10.heap.size w10 w12 := bw5.grown hg6 bw5.size (fun r e => (ho5.lt r e).1); obtain ⟨a12, c12, rfl, hI12⟩ := IntsAt.own ho6; have HI12 := hid_ hI12; have HL12 := hid_ (HL10.out.below bw6 (Nat.le_refl _))
            refine hK.out _ _ ?_ (fun hHeld => ?_)
            · exact HS.out _ bw6
            clear hK K
            try simp only [Act.put, List.setIfInBounds_toArray, List.set_cons_zero, List.set_cons_succ]
            refine wpAnyH_ready (rs := [6]) (by kernel_rfl) (by simp) ?_
            refine AllReadyH.cons (o := _) (by (simp only [List.getElem?_toArray, List.getElem?_cons_succ, List.getElem?_cons_zero]; rfl)) (fun K hK => ?_) AllReadyH.nil
            go_simp
            (with_reducible refine (HUV.out _ _ HL12.out a12 c12 HI12.out).mono ?_); rintro e w13 ⟨rfl, hb13'⟩; have bw7 : Below w10.heap.size w10 w13 := bw6.trans (hb13'.mono bw6.size)
            refine hK.out _ _ ?_ (fun hHeld => ?_)
            · exact HS.out _ bw7
            clear hK K
            try simp only [Act.put, List.setIfInBounds_toArray, List.set_cons_zero, List.set_cons_succ]
            refine wpAnyH_take (i := 7) (oi := ?oi7h4) (v := ?v7h4) ?hi7h4 (by kernel_rfl) ?hf7h4 (by kernel_rfl) ?hQ7h4 ?hy7h4 (by assumption) ?rest7h4
            case hi7h4 => (simp only [List.getElem?_toArray, List.getElem?_cons_succ, List.getElem?_cons_zero]; rfl)
            case hf7h4 => kernel_rfl
            case hQ7h4 => exact fun _ _ _ h => h
            case hy7h4 => (refine Or.inl ⟨by rfl, ?_⟩; intro W hSw; (try dsimp only at hSw); go_simp; try with_reducible rfl)
            try simp only [Act.put, List.setIfInBounds_toArray, List.set_cons_zero, List.set_cons_succ]
            refine wpAnyH_take (i := 8) (oi := ?oi8h5) (v := ?v8h5) ?hi8h5 (by kernel_rfl) ?hf8h5 (by kernel_rfl) ?hQ8h5 ?hy8h5 (by assumption) ?rest8h5
            case hi8h5 => (simp only [List.getElem?_toArray, List.getElem?_cons_succ, List.getElem?_cons_zero]; rfl)
            case hf8h5 => kernel_rfl
            case hQ8h5 => exact fun _ _ _ h => h
            case hy8h5 => (refine Or.inl ⟨by rfl, ?_⟩; intro W hSw; (try dsimp only at hSw); go_simp; try with_reducible rfl)
            try simp only [Act.put, List.setIfInBounds_toArray, List.set_cons_zero, List.set_cons_succ]
            refine wpAnyH_take (i := 9) (oi := ?oi9h6) (v := ?v9h6) ?hi9h6 (by kernel_rfl) ?hf9h6 (by kernel_rfl) ?hQ9h6 ?hy9h6 (by assumption) ?rest9h6
            case hi9h6 => (simp only [List.getElem?_toArray, List.getElem?_cons_succ, List.getElem?_cons_zero]; rfl)
            case hf9h6 => kernel_rfl
            case hQ9h6 => exact fun _ _ _ h => h
            case hy9h6 => (refine Or.inl ⟨by rfl, ?_⟩; intro W hSw; (try dsimp only at hSw); go_simp; try with_reducible rfl)
            try simp only [Act.put, List.setIfInBounds_toArray, List.set_cons_zero, List.set_cons_succ]
            refine wpAnyH_take (i := 10) (oi := ?oi10h7) (v := ?v10h7) ?hi10h7 (by kernel_rfl) ?hf10h7 (by kernel_rfl) ?hQ10h7 ?hy10h7 (by assumption) ?rest10h7
            case hi10h7 => (simp only [List.getElem?_toArray, List.getElem?_cons_succ, List.getElem?_cons_zero]; rfl)
            case hf10h7 => kernel_rfl
            case hQ10h7 => exact fun _ _ _ h => h
            case hy10h7 => (refine Or.inl ⟨by rfl, ?_⟩; intro W hSw; (try dsimp only at hSw); go_simp; try with_reducible rfl)
            try simp only [Act.put, List.setIfInBounds_toArray, List.set_cons_zero, List.set_cons_succ]
            have hb13 := Hb10.out.trans (bw7.mono Hb10.out.size)
            clear ho5 ho6 hg5 hg6 hat5 hat6 hI12 bw5 bw6 b8 bd
            refine wpAnyH_done (by kernel_rfl) ?_ _
            clear hHeld
            refine last_of ?_
            refine wpOp_step (o := _) (by (simp only [List.getElem?_toArray, List.getElem?_cons_succ, List.getElem?_cons_zero]; rfl)) (fun K hK => ?_)
            go_simp
            refine hK _ _ ?_
            clear hK K
            try simp only [Act.put, List.setIfInBounds_toArray, List.set_cons_zero, List.set_cons_succ]
            go_wp2_with (go_at_call 12; (with_reducible refine (HK.out _).mono ?_); rintro e w14 ⟨rfl, hb14⟩)
            go_ret
            exact ⟨rfl, Hc1.out.trans ((below_then8 hb13 hb14).mono Hc1.out.size)⟩
          · have e3 : (g3 != 0) = true := by simpa using h3
            subst h1 h2
            clear HF' h3
            go_enter Try.func9, Try.ntmps9
            go_wp2_with (first
              | (go_at_call 11; (with_reducible refine HG.out.mono ?_); rintro e w3 ⟨rfl, hb3'⟩; have hb3 := below_then8 Ha.out hb3'; obtain ⟨q3, p3⟩ := HQ.out w3 hb3)
              | (go_at_call 35; (with_reducible refine (HA.out _ hb3).mono ?_); rintro e w4 ⟨iv, fv, xs, fs, rfl, hN, hb4'⟩; have hb4 := below_then8 hb3 hb4'; obtain ⟨a4, n4, k4, d4, m4, l4, rfl, rfl, hL4⟩ := hN.lits; clear hN; obtain ⟨w5, hw5⟩ : ∃ W, w4.alloc (.cells #[.slice a4 n4 k4, .slice d4 m4 l4] 25) = W := ⟨_, rfl⟩; have bb5 : Below w4.heap.size w4 w5 := (by rw [← hw5]; exact below_alloc _ _); have HL5 := hid_ (hL4.below bb5 (Nat.le_refl _)); clear hL4; have hb5 := below_then8 hb4 bb5; obtain ⟨q5, p5⟩ := HQ.out w5 hb5; have c50 : w5.cell? ⟨w4.heap.size, 0, none⟩ = some (.slice a4 n4 k4) := (by rw [← hw5]; exact cells_alloc _ _ _ 0); have c51 : w5.cell? ⟨w4.heap.size, 1, none⟩ = some (.slice d4 m4 l4) := (by rw [← hw5]; exact cells_alloc _ _ _ 1); have z5 : w4.heap.size < w5.heap.size := (by rw [← hw5]; simp); clear bb5)
              | (go_at_call 36; (with_reducible refine (HB.out _ hb5).mono ?_); rintro e w6 ⟨iv, fv, xs, fs, rfl, hN, hb6'⟩; have hb6 := below_then8 hb5 hb6'; obtain ⟨a6, n6, k6, d6, m6, l6, rfl, rfl, hL6⟩ := hN.lits; clear hN; obtain ⟨w7, hw7⟩ : ∃ W, w6.alloc (.cells #[.slice a6 n6 k6, .slice d6 m6 l6] 25) = W := ⟨_, rfl⟩; have bb7 : Below w6.heap.size w6 w7 := (by rw [← hw7]; exact below_alloc _ _); have HL7 := hid_ (hL6.below bb7 (Nat.le_refl _)); clear hL6; have hb7 := below_then8 hb6 bb7; obtain ⟨q7, p7⟩ := HQ.out w7 hb7; have c60 := cell_below c50 hb6'; have c61 := cell_below c51 hb6'; have c70 := cell_below c60 bb7; have c71 := cell_below c61 bb7; have e70 : w7.cell? ⟨w6.heap.size, 0, none⟩ = some (.slice a6 n6 k6) := (by rw [← hw7]; exact cells_alloc _ _ _ 0); have e71 : w7.cell? ⟨w6.heap.size, 1, none⟩ = some (.slice d6 m6 l6) := (by rw [← hw7]; exact cells_alloc _ _ _ 1); have HL75 := hid_ ((HL5.out.below hb6' (Nat.le_refl _)).below bb7 (Nat.le_refl _)); have HSa := hid_ (hS.out _ _ _ HL75.out HL7.out); clear c60 c61 bb7)
              | (go_at_call 28; (with_reducible refine HSa.out.mono ?_); rintro e w8 ⟨rfl, hb8'⟩; have hb8 := below_then8 hb7 hb8'; obtain ⟨q8, p8⟩ := HQ.out w8 hb8; have c80 := cell_below c70 hb8'; have c81 := cell_below c71 hb8'; have HL8 := hid_ (HL75.out.below hb8' (Nat.le_refl _)))
              | (go_at_call 15; (with_reducible refine (HU.out _ _ HL8.out (HI.out _ hb8)).mono ?_); rintro e w9 ⟨rfl, hb9'⟩; have hb9 := below_then8 hb8 hb9'; have c90 := cell_below c80 hb9'; have c91 := cell_below c81 hb9'; have HL9 := hid_ (HL8.out.below hb9' (Nat.le_refl _)))
              | (go_at_call 15; (with_reducible refine (HV.out _ _ HL9.out (HJ.out _ hb9)).mono ?_); rintro e w10 ⟨rfl, hb10'⟩; have hb10 := below_then8 hb9 hb10'; have c100 := cell_below c90 hb10'; have c101 := cell_below c91 hb10'; have HL10 := hid_ (HL9.out.below hb10' (Nat.le_refl _))))
            have bd : Below w10.heap.size w10 w10.drew := Below.drew (Below.refl _ _)
            have b8 : Below w10.heap.size w10 (w10.drew.alloc (.cells #[] 3)) := bd.alloc (Nat.le_refl _) _
            have HS := hid_ (fun W (hW : Below w10.heap.size w10 W) => (⟨cell_below c100 hW, cell_below c101 hW⟩ : W.cell? ⟨w4.heap.size, 0, none⟩ = some (.slice a4 n4 k4) ∧ W.cell? ⟨w4.heap.size, 1, none⟩ = some (.slice d4 m4 l4)))
            have HIu := hid_ ((HI.out _ hb10).below b8 (Nat.le_refl _))
            have HIv := hid_ (HJ.out _ hb10)
            have Hb10 := hid_ hb10
            refine wp_region_last2 (n := 11) (S := fun W' => W'.cell? ⟨w4.heap.size, 0, none⟩ = some (.slice a4 n4 k4) ∧ W'.cell? ⟨w4.heap.size, 1, none⟩ = some (.slice d4 m4 l4)) (by kernel_rfl) (by kernel_rfl) (HS.out _ bd) (fun hHeld => ?_)
            refine wpAnyH_take (i := 0) (oi := ?oi0h8) (v := ?v0h8) ?hi0h8 (by kernel_rfl) ?hf0h8 (by kernel_rfl) ?hQ0h8 ?hy0h8 (by assumption) ?rest0h8
            case hi0h8 => (simp only [List.getElem?_toArray, List.getElem?_cons_zero]; rfl)
            case hf0h8 => kernel_rfl
            case hQ0h8 => exact fun _ _ _ h => h
            case hy0h8 => (refine Or.inl ⟨by rfl, ?_⟩; intro W hSw; (try dsimp only at hSw); obtain ⟨g0, g1⟩ := hSw; go_simp; try with_reducible rfl)
            try simp only [Act.put, List.setIfInBounds_toArray, List.set_cons_zero, List.set_cons_succ]
            refine wpAnyH_take (i := 2) (oi := ?oi2h9) (v := ?v2h9) ?hi2h9 (by kernel_rfl) ?hf2h9 (by kernel_rfl) ?hQ2h9 ?hy2h9 (by assumption) ?rest2h9
            case hi2h9 => (simp only [List.getElem?_toArray, List.getElem?_cons_succ, List.getElem?_cons_zero]; rfl)
            case hf2h9 => kernel_rfl
            case hQ2h9 => exact fun _ _ _ h => h
            case hy2h9 => (refine Or.inl ⟨by rfl, ?_⟩; intro W hSw; (try dsimp only at hSw); go_simp; try with_reducible rfl)
            try simp only [Act.put, List.setIfInBounds_toArray, List.set_cons_zero, List.set_cons_succ]
            refine wpAnyH_take (i := 4) (oi := ?oi4h10) (v := ?v4h10) ?hi4h10 (by kernel_rfl) ?hf4h10 (by kernel_rfl) ?hQ4h10 ?hy4h10 (by assumption) ?rest4h10
            case hi4h10 => (simp only [List.getElem?_toArray, List.getElem?_cons_succ, List.getElem?_cons_zero]; rfl)
            case hf4h10 => kernel_rfl
            case hQ4h10 => exact fun _ _ _ h => h
            case hy4h10 => (refine Or.inl ⟨by rfl, ?_⟩; intro W hSw; (try dsimp only at hSw); go_simp; try with_reducible rfl)
            try simp only [Act.put, List.setIfInBounds_toArray, List.set_cons_zero, List.set_cons_succ]
            refine wpAnyH_ready (rs := [1]) (by kernel_rfl) (by simp) ?_
            refine AllReadyH.cons (o := _) (by (simp only [List.getElem?_toArray, List.getElem?_cons_succ, List.getElem?_cons_zero]; rfl)) (fun K hK => ?_) AllReadyH.nil
            go_simp
            refine hK.out _ _ ?_ (fun hHeld => ?_)
            · exact HS.out _ b8
            clear hK K
            try simp only [Act.put, List.setIfInBounds_toArray, List.set_cons_zero, List.set_cons_succ]
            refine wpAnyH_ready (rs := [3]) (by kernel_rfl) (by simp) ?_
            refine AllReadyH.cons (o := _) (by (simp only [List.getElem?_toArray, List.getElem?_cons_succ, List.getElem?_cons_zero]; rfl)) (fun K hK => ?_) AllReadyH.nil
            refine step_append_row rfl (.tmp 59) (.tmp 60) rfl w10.heap.size _ 0 [] (by rfl) (World.ownsRow_lit (base := w10.heap.size) (e := 3) (size := 1) w10.drew #[] 0 (Nat.le_refl _) (by unfold maxLen; omega) rfl) a n c t (by rfl) HIu.out (by omega) (by simp) ?_; intro v5 w11 ho5 hg5 hat5; simp only [Nat.zero_add, List.nil_append] at ho5; have bw5 : Below w10.heap.size w10 w11 := b8.grown hg5 (by simp) (fun r e => by cases e; exact Nat.le_refl _); obtain ⟨a11, c11, rfl, -⟩ := IntsAt.own ho5
            refine hK.out _ _ ?_ (fun hHeld => ?_)
            · exact HS.out _ bw5
            clear hK K
            try simp only [Act.put, List.setIfInBounds_toArray, List.set_cons_zero, List.set_cons_succ]
            refine wpAnyH_ready (rs := [5]) (by kernel_rfl) (by simp) ?_
            refine AllReadyH.cons (o := _) (by (simp only [List.getElem?_toArray, List.getElem?_cons_succ, List.getElem?_cons_zero]; rfl)) (fun K hK => ?_) AllReadyH.nil
            refine step_append_row rfl (.tmp 61) (.tmp 62) rfl w10.heap.size _ n t (by rfl) ho5 a' n' c' s (by rfl) (HIv.out.below bw5 (Nat.le_refl _)) (by omega) bw5.size ?_; intro v6 w12 ho6 hg6 hat6; have bw6 : Below w10.heap.size w10 w12 := bw5.grown hg6 bw5.size (fun r e => (ho5.lt r e).1); obtain ⟨a12, c12, rfl, hI12⟩ := IntsAt.own ho6; have HI12 := hid_ hI12; have HL12 := hid_ (HL10.out.below bw6 (Nat.le_refl _))
            refine hK.out _ _ ?_ (fun hHeld => ?_)
            · exact HS.out _ bw6
            clear hK K
            try simp only [Act.put, List.setIfInBounds_toArray, List.set_cons_zero, List.set_cons_succ]
            refine wpAnyH_ready (rs := [6]) (by kernel_rfl) (by simp) ?_
            refine AllReadyH.cons (o := _) (by (simp only [List.getElem?_toArray, List.getElem?_cons_succ, List.getElem?_cons_zero]; rfl)) (fun K hK => ?_) AllReadyH.nil
            go_simp
            (with_reducible refine (HUV.out _ _ HL12.out a12 c12 HI12.out).mono ?_); rintro e w13 ⟨rfl, hb13'⟩; have bw7 : Below w10.heap.size w10 w13 := bw6.trans (hb13'.mono bw6.size)
            refine hK.out _ _ ?_ (fun hHeld => ?_)
            · exact HS.out _ bw7
            clear hK K
            try simp only [Act.put, List.setIfInBounds_toArray, List.set_cons_zero, List.set_cons_succ]
            refine wpAnyH_take (i := 7) (oi := ?oi7h11) (v := ?v7h11) ?hi7h11 (by kernel_rfl) ?hf7h11 (by kernel_rfl) ?hQ7h11 ?hy7h11 (by assumption) ?rest7h11
            case hi7h11 => (simp only [List.getElem?_toArray, List.getElem?_cons_succ, List.getElem?_cons_zero]; rfl)
            case hf7h11 => kernel_rfl
            case hQ7h11 => exact fun _ _ _ h => h
            case hy7h11 => (refine Or.inl ⟨by rfl, ?_⟩; intro W hSw; (try dsimp only at hSw); go_simp; try with_reducible rfl)
            try simp only [Act.put, List.setIfInBounds_toArray, List.set_cons_zero, List.set_cons_succ]
            refine wpAnyH_take (i := 8) (oi := ?oi8h12) (v := ?v8h12) ?hi8h12 (by kernel_rfl) ?hf8h12 (by kernel_rfl) ?hQ8h12 ?hy8h12 (by assumption) ?rest8h12
            case hi8h12 => (simp only [List.getElem?_toArray, List.getElem?_cons_succ, List.getElem?_cons_zero]; rfl)
            case hf8h12 => kernel_rfl
            case hQ8h12 => exact fun _ _ _ h => h
            case hy8h12 => (refine Or.inl ⟨by rfl, ?_⟩; intro W hSw; (try dsimp only at hSw); go_simp; try with_reducible rfl)
            try simp only [Act.put, List.setIfInBounds_toArray, List.set_cons_zero, List.set_cons_succ]
            refine wpAnyH_take (i := 9) (oi := ?oi9h13) (v := ?v9h13) ?hi9h13 (by kernel_rfl) ?hf9h13 (by kernel_rfl) ?hQ9h13 ?hy9h13 (by assumption) ?rest9h13
            case hi9h13 => (simp only [List.getElem?_toArray, List.getElem?_cons_succ, List.getElem?_cons_zero]; rfl)
            case hf9h13 => kernel_rfl
            case hQ9h13 => exact fun _ _ _ h => h
            case hy9h13 => (refine Or.inl ⟨by rfl, ?_⟩; intro W hSw; (try dsimp only at hSw); go_simp; try with_reducible rfl)
            try simp only [Act.put, List.setIfInBounds_toArray, List.set_cons_zero, List.set_cons_succ]
            refine wpAnyH_take (i := 10) (oi := ?oi10h14) (v := ?v10h14) ?hi10h14 (by kernel_rfl) ?hf10h14 (by kernel_rfl) ?hQ10h14 ?hy10h14 (by assumption) ?rest10h14
            case hi10h14 => (simp only [List.getElem?_toArray, List.getElem?_cons_succ, List.getElem?_cons_zero]; rfl)
            case hf10h14 => kernel_rfl
            case hQ10h14 => exact fun _ _ _ h => h
            case hy10h14 => (refine Or.inl ⟨by rfl, ?_⟩; intro W hSw; (try dsimp only at hSw); go_simp; try with_reducible rfl)
            try simp only [Act.put, List.setIfInBounds_toArray, List.set_cons_zero, List.set_cons_succ]
            have hb13 := Hb10.out.trans (bw7.mono Hb10.out.size)
            clear ho5 ho6 hg5 hg6 hat5 hat6 hI12 bw5 bw6 b8 bd
            refine wpAnyH_done (by kernel_rfl) ?_ _
            clear hHeld
            refine last_of ?_
            refine wpOp_step (o := _) (by (simp only [List.getElem?_toArray, List.getElem?_cons_succ, List.getElem?_cons_zero]; rfl)) (fun K hK => ?_)
            go_simp
            refine hK _ _ ?_
            clear hK K
            try simp only [Act.put, List.setIfInBounds_toArray, List.set_cons_zero, List.set_cons_succ]
            go_wp2_with (go_at_call 12; (with_reducible refine (HK.out _).mono ?_); rintro e w14 ⟨rfl, hb14⟩)
            go_ret
            exact ⟨rfl, Hc1.out.trans ((below_then8 hb13 hb14).mono Hc1.out.size)⟩
        · have e2 : (g2 != 0) = true := by simpa using h2
          subst h1
          clear HF' h2
          go_enter Try.func9, Try.ntmps9
          go_wp2_with (first
            | (go_at_call 11; (with_reducible refine HG.out.mono ?_); rintro e w3 ⟨rfl, hb3'⟩; have hb3 := below_then8 Ha.out hb3'; obtain ⟨q3, p3⟩ := HQ.out w3 hb3)
            | (go_at_call 35; (with_reducible refine (HA.out _ hb3).mono ?_); rintro e w4 ⟨iv, fv, xs, fs, rfl, hN, hb4'⟩; have hb4 := below_then8 hb3 hb4'; obtain ⟨a4, n4, k4, d4, m4, l4, rfl, rfl, hL4⟩ := hN.lits; clear hN; obtain ⟨w5, hw5⟩ : ∃ W, w4.alloc (.cells #[.slice a4 n4 k4, .slice d4 m4 l4] 25) = W := ⟨_, rfl⟩; have bb5 : Below w4.heap.size w4 w5 := (by rw [← hw5]; exact below_alloc _ _); have HL5 := hid_ (hL4.below bb5 (Nat.le_refl _)); clear hL4; have hb5 := below_then8 hb4 bb5; obtain ⟨q5, p5⟩ := HQ.out w5 hb5; have c50 : w5.cell? ⟨w4.heap.size, 0, none⟩ = some (.slice a4 n4 k4) := (by rw [← hw5]; exact cells_alloc _ _ _ 0); have c51 : w5.cell? ⟨w4.heap.size, 1, none⟩ = some (.slice d4 m4 l4) := (by rw [← hw5]; exact cells_alloc _ _ _ 1); have z5 : w4.heap.size < w5.heap.size := (by rw [← hw5]; simp); clear bb5)
            | (go_at_call 36; (with_reducible refine (HB.out _ hb5).mono ?_); rintro e w6 ⟨iv, fv, xs, fs, rfl, hN, hb6'⟩; have hb6 := below_then8 hb5 hb6'; obtain ⟨a6, n6, k6, d6, m6, l6, rfl, rfl, hL6⟩ := hN.lits; clear hN; obtain ⟨w7, hw7⟩ : ∃ W, w6.alloc (.cells #[.slice a6 n6 k6, .slice d6 m6 l6] 25) = W := ⟨_, rfl⟩; have bb7 : Below w6.heap.size w6 w7 := (by rw [← hw7]; exact below_alloc _ _); have HL7 := hid_ (hL6.below bb7 (Nat.le_refl _)); clear hL6; have hb7 := below_then8 hb6 bb7; obtain ⟨q7, p7⟩ := HQ.out w7 hb7; have c60 := cell_below c50 hb6'; have c61 := cell_below c51 hb6'; have c70 := cell_below c60 bb7; have c71 := cell_below c61 bb7; have e70 : w7.cell? ⟨w6.heap.size, 0, none⟩ = some (.slice a6 n6 k6) := (by rw [← hw7]; exact cells_alloc _ _ _ 0); have e71 : w7.cell? ⟨w6.heap.size, 1, none⟩ = some (.slice d6 m6 l6) := (by rw [← hw7]; exact cells_alloc _ _ _ 1); have HL75 := hid_ ((HL5.out.below hb6' (Nat.le_refl _)).below bb7 (Nat.le_refl _)); have HSa := hid_ (hS.out _ _ _ HL75.out HL7.out); clear c60 c61 bb7)
            | (go_at_call 28; (with_reducible refine HSa.out.mono ?_); rintro e w8 ⟨rfl, hb8'⟩; have hb8 := below_then8 hb7 hb8'; obtain ⟨q8, p8⟩ := HQ.out w8 hb8; have c80 := cell_below c70 hb8'; have c81 := cell_below c71 hb8'; have HL8 := hid_ (HL75.out.below hb8' (Nat.le_refl _)))
            | (go_at_call 15; (with_reducible refine (HU.out _ _ HL8.out (HI.out _ hb8)).mono ?_); rintro e w9 ⟨rfl, hb9'⟩; have hb9 := below_then8 hb8 hb9'; have c90 := cell_below c80 hb9'; have c91 := cell_below c81 hb9'; have HL9 := hid_ (HL8.out.below hb9' (Nat.le_refl _)))
            | (go_at_call 15; (with_reducible refine (HV.out _ _ HL9.out (HJ.out _ hb9)).mono ?_); rintro e w10 ⟨rfl, hb10'⟩; have hb10 := below_then8 hb9 hb10'; have c100 := cell_below c90 hb10'; have c101 := cell_below c91 hb10'; have HL10 := hid_ (HL9.out.below hb10' (Nat.le_refl _))))
          have bd : Below w10.heap.size w10 w10.drew := Below.drew (Below.refl _ _)
          have b8 : Below w10.heap.size w10 (w10.drew.alloc (.cells #[] 3)) := bd.alloc (Nat.le_refl _) _
          have HS := hid_ (fun W (hW : Below w10.heap.size w10 W) => (⟨cell_below c100 hW, cell_below c101 hW⟩ : W.cell? ⟨w4.heap.size, 0, none⟩ = some (.slice a4 n4 k4) ∧ W.cell? ⟨w4.heap.size, 1, none⟩ = some (.slice d4 m4 l4)))
          have HIu := hid_ ((HI.out _ hb10).below b8 (Nat.le_refl _))
          have HIv := hid_ (HJ.out _ hb10)
          have Hb10 := hid_ hb10
          refine wp_region_last2 (n := 11) (S := fun W' => W'.cell? ⟨w4.heap.size, 0, none⟩ = some (.slice a4 n4 k4) ∧ W'.cell? ⟨w4.heap.size, 1, none⟩ = some (.slice d4 m4 l4)) (by kernel_rfl) (by kernel_rfl) (HS.out _ bd) (fun hHeld => ?_)
          refine wpAnyH_take (i := 0) (oi := ?oi0h15) (v := ?v0h15) ?hi0h15 (by kernel_rfl) ?hf0h15 (by kernel_rfl) ?hQ0h15 ?hy0h15 (by assumption) ?rest0h15
          case hi0h15 => (simp only [List.getElem?_toArray, List.getElem?_cons_zero]; rfl)
          case hf0h15 => kernel_rfl
          case hQ0h15 => exact fun _ _ _ h => h
          case hy0h15 => (refine Or.inl ⟨by rfl, ?_⟩; intro W hSw; (try dsimp only at hSw); obtain ⟨g0, g1⟩ := hSw; go_simp; try with_reducible rfl)
          try simp only [Act.put, List.setIfInBounds_toArray, List.set_cons_zero, List.set_cons_succ]
          refine wpAnyH_take (i := 2) (oi := ?oi2h16) (v := ?v2h16) ?hi2h16 (by kernel_rfl) ?hf2h16 (by kernel_rfl) ?hQ2h16 ?hy2h16 (by assumption) ?rest2h16
          case hi2h16 => (simp only [List.getElem?_toArray, List.getElem?_cons_succ, List.getElem?_cons_zero]; rfl)
          case hf2h16 => kernel_rfl
          case hQ2h16 => exact fun _ _ _ h => h
          case hy2h16 => (refine Or.inl ⟨by rfl, ?_⟩; intro W hSw; (try dsimp only at hSw); go_simp; try with_reducible rfl)
          try simp only [Act.put, List.setIfInBounds_toArray, List.set_cons_zero, List.set_cons_succ]
          refine wpAnyH_take (i := 4) (oi := ?oi4h17) (v := ?v4h17) ?hi4h17 (by kernel_rfl) ?hf4h17 (by kernel_rfl) ?hQ4h17 ?hy4h17 (by assumption) ?rest4h17
          case hi4h17 => (simp only [List.getElem?_toArray, List.getElem?_cons_succ, List.getElem?_cons_zero]; rfl)
          case hf4h17 => kernel_rfl
          case hQ4h17 => exact fun _ _ _ h => h
          case hy4h17 => (refine Or.inl ⟨by rfl, ?_⟩; intro W hSw; (try dsimp only at hSw); go_simp; try with_reducible rfl)
          try simp only [Act.put, List.setIfInBounds_toArray, List.set_cons_zero, List.set_cons_succ]
          refine wpAnyH_ready (rs := [1]) (by kernel_rfl) (by simp) ?_
          refine AllReadyH.cons (o := _) (by (simp only [List.getElem?_toArray, List.getElem?_cons_succ, List.getElem?_cons_zero]; rfl)) (fun K hK => ?_) AllReadyH.nil
          go_simp
          refine hK.out _ _ ?_ (fun hHeld => ?_)
          · exact HS.out _ b8
          clear hK K
          try simp only [Act.put, List.setIfInBounds_toArray, List.set_cons_zero, List.set_cons_succ]
          refine wpAnyH_ready (rs := [3]) (by kernel_rfl) (by simp) ?_
          refine AllReadyH.cons (o := _) (by (simp only [List.getElem?_toArray, List.getElem?_cons_succ, List.getElem?_cons_zero]; rfl)) (fun K hK => ?_) AllReadyH.nil
          refine step_append_row rfl (.tmp 59) (.tmp 60) rfl w10.heap.size _ 0 [] (by rfl) (World.ownsRow_lit (base := w10.heap.size) (e := 3) (size := 1) w10.drew #[] 0 (Nat.le_refl _) (by unfold maxLen; omega) rfl) a n c t (by rfl) HIu.out (by omega) (by simp) ?_; intro v5 w11 ho5 hg5 hat5; simp only [Nat.zero_add, List.nil_append] at ho5; have bw5 : Below w10.heap.size w10 w11 := b8.grown hg5 (by simp) (fun r e => by cases e; exact Nat.le_refl _); obtain ⟨a11, c11, rfl, -⟩ := IntsAt.own ho5
          refine hK.out _ _ ?_ (fun hHeld => ?_)
          · exact HS.out _ bw5
          clear hK K
          try simp only [Act.put, List.setIfInBounds_toArray, List.set_cons_zero, List.set_cons_succ]
          refine wpAnyH_ready (rs := [5]) (by kernel_rfl) (by simp) ?_
          refine AllReadyH.cons (o := _) (by (simp only [List.getElem?_toArray, List.getElem?_cons_succ, List.getElem?_cons_zero]; rfl)) (fun K hK => ?_) AllReadyH.nil
          refine step_append_row rfl (.tmp 61) (.tmp 62) rfl w10.heap.size _ n t (by rfl) ho5 a' n' c' s (by rfl) (HIv.out.below bw5 (Nat.le_refl _)) (by omega) bw5.size ?_; intro v6 w12 ho6 hg6 hat6; have bw6 : Below w10.heap.size w10 w12 := bw5.grown hg6 bw5.size (fun r e => (ho5.lt r e).1); obtain ⟨a12, c12, rfl, hI12⟩ := IntsAt.own ho6; have HI12 := hid_ hI12; have HL12 := hid_ (HL10.out.below bw6 (Nat.le_refl _))
          refine hK.out _ _ ?_ (fun hHeld => ?_)
          · exact HS.out _ bw6
          clear hK K
          try simp only [Act.put, List.setIfInBounds_toArray, List.set_cons_zero, List.set_cons_succ]
          refine wpAnyH_ready (rs := [6]) (by kernel_rfl) (by simp) ?_
          refine AllReadyH.cons (o := _) (by (simp only [List.getElem?_toArray, List.getElem?_cons_succ, List.getElem?_cons_zero]; rfl)) (fun K hK => ?_) AllReadyH.nil
          go_simp
          (with_reducible refine (HUV.out _ _ HL12.out a12 c12 HI12.out).mono ?_); rintro e w13 ⟨rfl, hb13'⟩; have bw7 : Below w10.heap.size w10 w13 := bw6.trans (hb13'.mono bw6.size)
          refine hK.out _ _ ?_ (fun hHeld => ?_)
          · exact HS.out _ bw7
          clear hK K
          try simp only [Act.put, List.setIfInBounds_toArray, List.set_cons_zero, List.set_cons_succ]
          refine wpAnyH_take (i := 7) (oi := ?oi7h18) (v := ?v7h18) ?hi7h18 (by kernel_rfl) ?hf7h18 (by kernel_rfl) ?hQ7h18 ?hy7h18 (by assumption) ?rest7h18
          case hi7h18 => (simp only [List.getElem?_toArray, List.getElem?_cons_succ, List.getElem?_cons_zero]; rfl)
          case hf7h18 => kernel_rfl
          case hQ7h18 => exact fun _ _ _ h => h
          case hy7h18 => (refine Or.inl ⟨by rfl, ?_⟩; intro W hSw; (try dsimp only at hSw); go_simp; try with_reducible rfl)
          try simp only [Act.put, List.setIfInBounds_toArray, List.set_cons_zero, List.set_cons_succ]
          refine wpAnyH_take (i := 8) (oi := ?oi8h19) (v := ?v8h19) ?hi8h19 (by kernel_rfl) ?hf8h19 (by kernel_rfl) ?hQ8h19 ?hy8h19 (by assumption) ?rest8h19
          case hi8h19 => (simp only [List.getElem?_toArray, List.getElem?_cons_succ, List.getElem?_cons_zero]; rfl)
          case hf8h19 => kernel_rfl
          case hQ8h19 => exact fun _ _ _ h => h
          case hy8h19 => (refine Or.inl ⟨by rfl, ?_⟩; intro W hSw; (try dsimp only at hSw); go_simp; try with_reducible rfl)
          try simp only [Act.put, List.setIfInBounds_toArray, List.set_cons_zero, List.set_cons_succ]
          refine wpAnyH_take (i := 9) (oi := ?oi9h20) (v := ?v9h20) ?hi9h20 (by kernel_rfl) ?hf9h20 (by kernel_rfl) ?hQ9h20 ?hy9h20 (by assumption) ?rest9h20
          case hi9h20 => (simp only [List.getElem?_toArray, List.getElem?_cons_succ, List.getElem?_cons_zero]; rfl)
          case hf9h20 => kernel_rfl
          case hQ9h20 => exact fun _ _ _ h => h
          case hy9h20 => (refine Or.inl ⟨by rfl, ?_⟩; intro W hSw; (try dsimp only at hSw); go_simp; try with_reducible rfl)
          try simp only [Act.put, List.setIfInBounds_toArray, List.set_cons_zero, List.set_cons_succ]
          refine wpAnyH_take (i := 10) (oi := ?oi10h21) (v := ?v10h21) ?hi10h21 (by kernel_rfl) ?hf10h21 (by kernel_rfl) ?hQ10h21 ?hy10h21 (by assumption) ?rest10h21
          case hi10h21 => (simp only [List.getElem?_toArray, List.getElem?_cons_succ, List.getElem?_cons_zero]; rfl)
          case hf10h21 => kernel_rfl
          case hQ10h21 => exact fun _ _ _ h => h
          case hy10h21 => (refine Or.inl ⟨by rfl, ?_⟩; intro W hSw; (try dsimp only at hSw); go_simp; try with_reducible rfl)
          try simp only [Act.put, List.setIfInBounds_toArray, List.set_cons_zero, List.set_cons_succ]
          have hb13 := Hb10.out.trans (bw7.mono Hb10.out.size)
          clear ho5 ho6 hg5 hg6 hat5 hat6 hI12 bw5 bw6 b8 bd
          refine wpAnyH_done (by kernel_rfl) ?_ _
          clear hHeld
          refine last_of ?_
          refine wpOp_step (o := _) (by (simp only [List.getElem?_toArray, List.getElem?_cons_succ, List.getElem?_cons_zero]; rfl)) (fun K hK => ?_)
          go_simp
          refine hK _ _ ?_
          clear hK K
          try simp only [Act.put, List.setIfInBounds_toArray, List.set_cons_zero, List.set_cons_succ]
          go_wp2_with (go_at_call 12; (with_reducible refine (HK.out _).mono ?_); rintro e w14 ⟨rfl, hb14⟩)
          go_ret
          exact ⟨rfl, Hc1.out.trans ((below_then8 hb13 hb14).mono Hc1.out.size)⟩
      · have e1 : (g1 != 0) = true := by simpa using h1
        clear HF' h1
        go_enter Try.func9, Try.ntmps9
        go_wp2_with (first
          | (go_at_call 11; (with_reducible refine HG.out.mono ?_); rintro e w3 ⟨rfl, hb3'⟩; have hb3 := below_then8 Ha.out hb3'; obtain ⟨q3, p3⟩ := HQ.out w3 hb3)
          | (go_at_call 35; (with_reducible refine (HA.out _ hb3).mono ?_); rintro e w4 ⟨iv, fv, xs, fs, rfl, hN, hb4'⟩; have hb4 := below_then8 hb3 hb4'; obtain ⟨a4, n4, k4, d4, m4, l4, rfl, rfl, hL4⟩ := hN.lits; clear hN; obtain ⟨w5, hw5⟩ : ∃ W, w4.alloc (.cells #[.slice a4 n4 k4, .slice d4 m4 l4] 25) = W := ⟨_, rfl⟩; have bb5 : Below w4.heap.size w4 w5 := (by rw [← hw5]; exact below_alloc _ _); have HL5 := hid_ (hL4.below bb5 (Nat.le_refl _)); clear hL4; have hb5 := below_then8 hb4 bb5; obtain ⟨q5, p5⟩ := HQ.out w5 hb5; have c50 : w5.cell? ⟨w4.heap.size, 0, none⟩ = some (.slice a4 n4 k4) := (by rw [← hw5]; exact cells_alloc _ _ _ 0); have c51 : w5.cell? ⟨w4.heap.size, 1, none⟩ = some (.slice d4 m4 l4) := (by rw [← hw5]; exact cells_alloc _ _ _ 1); have z5 : w4.heap.size < w5.heap.size := (by rw [← hw5]; simp); clear bb5)
          | (go_at_call 36; (with_reducible refine (HB.out _ hb5).mono ?_); rintro e w6 ⟨iv, fv, xs, fs, rfl, hN, hb6'⟩; have hb6 := below_then8 hb5 hb6'; obtain ⟨a6, n6, k6, d6, m6, l6, rfl, rfl, hL6⟩ := hN.lits; clear hN; obtain ⟨w7, hw7⟩ : ∃ W, w6.alloc (.cells #[.slice a6 n6 k6, .slice d6 m6 l6] 25) = W := ⟨_, rfl⟩; have bb7 : Below w6.heap.size w6 w7 := (by rw [← hw7]; exact below_alloc _ _); have HL7 := hid_ (hL6.below bb7 (Nat.le_refl _)); clear hL6; have hb7 := below_then8 hb6 bb7; obtain ⟨q7, p7⟩ := HQ.out w7 hb7; have c60 := cell_below c50 hb6'; have c61 := cell_below c51 hb6'; have c70 := cell_below c60 bb7; have c71 := cell_below c61 bb7; have e70 : w7.cell? ⟨w6.heap.size, 0, none⟩ = some (.slice a6 n6 k6) := (by rw [← hw7]; exact cells_alloc _ _ _ 0); have e71 : w7.cell? ⟨w6.heap.size, 1, none⟩ = some (.slice d6 m6 l6) := (by rw [← hw7]; exact cells_alloc _ _ _ 1); have HL75 := hid_ ((HL5.out.below hb6' (Nat.le_refl _)).below bb7 (Nat.le_refl _)); have HSa := hid_ (hS.out _ _ _ HL75.out HL7.out); clear c60 c61 bb7)
          | (go_at_call 28; (with_reducible refine HSa.out.mono ?_); rintro e w8 ⟨rfl, hb8'⟩; have hb8 := below_then8 hb7 hb8'; obtain ⟨q8, p8⟩ := HQ.out w8 hb8; have c80 := cell_below c70 hb8'; have c81 := cell_below c71 hb8'; have HL8 := hid_ (HL75.out.below hb8' (Nat.le_refl _)))
          | (go_at_call 15; (with_reducible refine (HU.out _ _ HL8.out (HI.out _ hb8)).mono ?_); rintro e w9 ⟨rfl, hb9'⟩; have hb9 := below_then8 hb8 hb9'; have c90 := cell_below c80 hb9'; have c91 := cell_below c81 hb9'; have HL9 := hid_ (HL8.out.below hb9' (Nat.le_refl _)))
          | (go_at_call 15; (with_reducible refine (HV.out _ _ HL9.out (HJ.out _ hb9)).mono ?_); rintro e w10 ⟨rfl, hb10'⟩; have hb10 := below_then8 hb9 hb10'; have c100 := cell_below c90 hb10'; have c101 := cell_below c91 hb10'; have HL10 := hid_ (HL9.out.below hb10' (Nat.le_refl _))))
        have bd : Below w10.heap.size w10 w10.drew := Below.drew (Below.refl _ _)
        have b8 : Below w10.heap.size w10 (w10.drew.alloc (.cells #[] 3)) := bd.alloc (Nat.le_refl _) _
        have HS := hid_ (fun W (hW : Below w10.heap.size w10 W) => (⟨cell_below c100 hW, cell_below c101 hW⟩ : W.cell? ⟨w4.heap.size, 0, none⟩ = some (.slice a4 n4 k4) ∧ W.cell? ⟨w4.heap.size, 1, none⟩ = some (.slice d4 m4 l4)))
        have HIu := hid_ ((HI.out _ hb10).below b8 (Nat.le_refl _))
        have HIv := hid_ (HJ.out _ hb10)
        have Hb10 := hid_ hb10
        refine wp_region_last2 (n := 11) (S := fun W' => W'.cell? ⟨w4.heap.size, 0, none⟩ = some (.slice a4 n4 k4) ∧ W'.cell? ⟨w4.heap.size, 1, none⟩ = some (.slice d4 m4 l4)) (by kernel_rfl) (by kernel_rfl) (HS.out _ bd) (fun hHeld => ?_)
        refine wpAnyH_take (i := 0) (oi := ?oi0h22) (v := ?v0h22) ?hi0h22 (by kernel_rfl) ?hf0h22 (by kernel_rfl) ?hQ0h22 ?hy0h22 (by assumption) ?rest0h22
        case hi0h22 => (simp only [List.getElem?_toArray, List.getElem?_cons_zero]; rfl)
        case hf0h22 => kernel_rfl
        case hQ0h22 => exact fun _ _ _ h => h
        case hy0h22 => (refine Or.inl ⟨by rfl, ?_⟩; intro W hSw; (try dsimp only at hSw); obtain ⟨g0, g1⟩ := hSw; go_simp; try with_reducible rfl)
        try simp only [Act.put, List.setIfInBounds_toArray, List.set_cons_zero, List.set_cons_succ]
        refine wpAnyH_take (i := 2) (oi := ?oi2h23) (v := ?v2h23) ?hi2h23 (by kernel_rfl) ?hf2h23 (by kernel_rfl) ?hQ2h23 ?hy2h23 (by assumption) ?rest2h23
        case hi2h23 => (simp only [List.getElem?_toArray, List.getElem?_cons_succ, List.getElem?_cons_zero]; rfl)
        case hf2h23 => kernel_rfl
        case hQ2h23 => exact fun _ _ _ h => h
        case hy2h23 => (refine Or.inl ⟨by rfl, ?_⟩; intro W hSw; (try dsimp only at hSw); go_simp; try with_reducible rfl)
        try simp only [Act.put, List.setIfInBounds_toArray, List.set_cons_zero, List.set_cons_succ]
        refine wpAnyH_take (i := 4) (oi := ?oi4h24) (v := ?v4h24) ?hi4h24 (by kernel_rfl) ?hf4h24 (by kernel_rfl) ?hQ4h24 ?hy4h24 (by assumption) ?rest4h24
        case hi4h24 => (simp only [List.getElem?_toArray, List.getElem?_cons_succ, List.getElem?_cons_zero]; rfl)
        case hf4h24 => kernel_rfl
        case hQ4h24 => exact fun _ _ _ h => h
        case hy4h24 => (refine Or.inl ⟨by rfl, ?_⟩; intro W hSw; (try dsimp only at hSw); go_simp; try with_reducible rfl)
        try simp only [Act.put, List.setIfInBounds_toArray, List.set_cons_zero, List.set_cons_succ]
        refine wpAnyH_ready (rs := [1]) (by kernel_rfl) (by simp) ?_
        refine AllReadyH.cons (o := _) (by (simp only [List.getElem?_toArray, List.getElem?_cons_succ, List.getElem?_cons_zero]; rfl)) (fun K hK => ?_) AllReadyH.nil
        go_simp
        refine hK.out _ _ ?_ (fun hHeld => ?_)
        · exact HS.out _ b8
        clear hK K
        try simp only [Act.put, List.setIfInBounds_toArray, List.set_cons_zero, List.set_cons_succ]
        refine wpAnyH_ready (rs := [3]) (by kernel_rfl) (by simp) ?_
        refine AllReadyH.cons (o := _) (by (simp only [List.getElem?_toArray, List.getElem?_cons_succ, List.getElem?_cons_zero]; rfl)) (fun K hK => ?_) AllReadyH.nil
        refine step_append_row rfl (.tmp 59) (.tmp 60) rfl w10.heap.size _ 0 [] (by rfl) (World.ownsRow_lit (base := w10.heap.size) (e := 3) (size := 1) w10.drew #[] 0 (Nat.le_refl _) (by unfold maxLen; omega) rfl) a n c t (by rfl) HIu.out (by omega) (by simp) ?_; intro v5 w11 ho5 hg5 hat5; simp only [Nat.zero_add, List.nil_append] at ho5; have bw5 : Below w10.heap.size w10 w11 := b8.grown hg5 (by simp) (fun r e => by cases e; exact Nat.le_refl _); obtain ⟨a11, c11, rfl, -⟩ := IntsAt.own ho5
        refine hK.out _ _ ?_ (fun hHeld => ?_)
        · exact HS.out _ bw5
        clear hK K
        try simp only [Act.put, List.setIfInBounds_toArray, List.set_cons_zero, List.set_cons_succ]
        refine wpAnyH_ready (rs := [5]) (by kernel_rfl) (by simp) ?_
        refine AllReadyH.cons (o := _) (by (simp only [List.getElem?_toArray, List.getElem?_cons_succ, List.getElem?_cons_zero]; rfl)) (fun K hK => ?_) AllReadyH.nil
        refine step_append_row rfl (.tmp 61) (.tmp 62) rfl w10.heap.size _ n t (by rfl) ho5 a' n' c' s (by rfl) (HIv.out.below bw5 (Nat.le_refl _)) (by omega) bw5.size ?_; intro v6 w12 ho6 hg6 hat6; have bw6 : Below w10.heap.size w10 w12 := bw5.grown hg6 bw5.size (fun r e => (ho5.lt r e).1); obtain ⟨a12, c12, rfl, hI12⟩ := IntsAt.own ho6; have HI12 := hid_ hI12; have HL12 := hid_ (HL10.out.below bw6 (Nat.le_refl _))
        refine hK.out _ _ ?_ (fun hHeld => ?_)
        · exact HS.out _ bw6
        clear hK K
        try simp only [Act.put, List.setIfInBounds_toArray, List.set_cons_zero, List.set_cons_succ]
        refine wpAnyH_ready (rs := [6]) (by kernel_rfl) (by simp) ?_
        refine AllReadyH.cons (o := _) (by (simp only [List.getElem?_toArray, List.getElem?_cons_succ, List.getElem?_cons_zero]; rfl)) (fun K hK => ?_) AllReadyH.nil
        go_simp
        (with_reducible refine (HUV.out _ _ HL12.out a12 c12 HI12.out).mono ?_); rintro e w13 ⟨rfl, hb13'⟩; have bw7 : Below w10.heap.size w10 w13 := bw6.trans (hb13'.mono bw6.size)
        refine hK.out _ _ ?_ (fun hHeld => ?_)
        · exact HS.out _ bw7
        clear hK K
        try simp only [Act.put, List.setIfInBounds_toArray, List.set_cons_zero, List.set_cons_succ]
        refine wpAnyH_take (i := 7) (oi := ?oi7h25) (v := ?v7h25) ?hi7h25 (by kernel_rfl) ?hf7h25 (by kernel_rfl) ?hQ7h25 ?hy7h25 (by assumption) ?rest7h25
        case hi7h25 => (simp only [List.getElem?_toArray, List.getElem?_cons_succ, List.getElem?_cons_zero]; rfl)
        case hf7h25 => kernel_rfl
        case hQ7h25 => exact fun _ _ _ h => h
        case hy7h25 => (refine Or.inl ⟨by rfl, ?_⟩; intro W hSw; (try dsimp only at hSw); go_simp; try with_reducible rfl)
        try simp only [Act.put, List.setIfInBounds_toArray, List.set_cons_zero, List.set_cons_succ]
        refine wpAnyH_take (i := 8) (oi := ?oi8h26) (v := ?v8h26) ?hi8h26 (by kernel_rfl) ?hf8h26 (by kernel_rfl) ?hQ8h26 ?hy8h26 (by assumption) ?rest8h26
        case hi8h26 => (simp only [List.getElem?_toArray, List.getElem?_cons_succ, List.getElem?_cons_zero]; rfl)
        case hf8h26 => kernel_rfl
        case hQ8h26 => exact fun _ _ _ h => h
        case hy8h26 => (refine Or.inl ⟨by rfl, ?_⟩; intro W hSw; (try dsimp only at hSw); go_simp; try with_reducible rfl)
        try simp only [Act.put, List.setIfInBounds_toArray, List.set_cons_zero, List.set_cons_succ]
        refine wpAnyH_take (i := 9) (oi := ?oi9h27) (v := ?v9h27) ?hi9h27 (by kernel_rfl) ?hf9h27 (by kernel_rfl) ?hQ9h27 ?hy9h27 (by assumption) ?rest9h27
        case hi9h27 => (simp only [List.getElem?_toArray, List.getElem?_cons_succ, List.getElem?_cons_zero]; rfl)
        case hf9h27 => kernel_rfl
        case hQ9h27 => exact fun _ _ _ h => h
        case hy9h27 => (refine Or.inl ⟨by rfl, ?_⟩; intro W hSw; (try dsimp only at hSw); go_simp; try with_reducible rfl)
        try simp only [Act.put, List.setIfInBounds_toArray, List.set_cons_zero, List.set_cons_succ]
        refine wpAnyH_take (i := 10) (oi := ?oi10h28) (v := ?v10h28) ?hi10h28 (by kernel_rfl) ?hf10h28 (by kernel_rfl) ?hQ10h28 ?hy10h28 (by assumption) ?rest10h28
        case hi10h28 => (simp only [List.getElem?_toArray, List.getElem?_cons_succ, List.getElem?_cons_zero]; rfl)
        case hf10h28 => kernel_rfl
        case hQ10h28 => exact fun _ _ _ h => h
        case hy10h28 => (refine Or.inl ⟨by rfl, ?_⟩; intro W hSw; (try dsimp only at hSw); go_simp; try with_reducible rfl)
        try simp only [Act.put, List.setIfInBounds_toArray, List.set_cons_zero, List.set_cons_succ]
        have hb13 := Hb10.out.trans (bw7.mono Hb10.out.size)
        clear ho5 ho6 hg5 hg6 hat5 hat6 hI12 bw5 bw6 b8 bd
        refine wpAnyH_done (by kernel_rfl) ?_ _
        clear hHeld
        refine last_of ?_
        refine wpOp_step (o := _) (by (simp only [List.getElem?_toArray, List.getElem?_cons_succ, List.getElem?_cons_zero]; rfl)) (fun K hK => ?_)
        go_simp
        refine hK _ _ ?_
        clear hK K
        try simp only [Act.put, List.setIfInBounds_toArray, List.set_cons_zero, List.set_cons_succ]
        go_wp2_with (go_at_call 12; (with_reducible refine (HK.out _).mono ?_); rintro e w14 ⟨rfl, hb14⟩)
        go_ret
        exact ⟨rfl, Hc1.out.trans ((below_then8 hb13 hb14).mono Hc1.out.size)⟩
    · have hq : (validL L != 0) = true := by simpa using hE
      generalize validL L = y at *
      have hyy : (y != y) = false := by simp
      generalize frL L = D at *
      clear HF hE HD
      go_enter Try.func9, Try.ntmps9
      go_wp2_with (first
        | (go_at_call 11; (with_reducible refine HG.out.mono ?_); rintro e w3 ⟨rfl, hb3'⟩; have hb3 := below_then8 Ha.out hb3'; obtain ⟨q3, p3⟩ := HQ.out w3 hb3)
        | (go_at_call 35; (with_reducible refine (HA.out _ hb3).mono ?_); rintro e w4 ⟨iv, fv, xs, fs, rfl, hN, hb4'⟩; have hb4 := below_then8 hb3 hb4'; obtain ⟨a4, n4, k4, d4, m4, l4, rfl, rfl, hL4⟩ := hN.lits; clear hN; obtain ⟨w5, hw5⟩ : ∃ W, w4.alloc (.cells #[.slice a4 n4 k4, .slice d4 m4 l4] 25) = W := ⟨_, rfl⟩; have bb5 : Below w4.heap.size w4 w5 := (by rw [← hw5]; exact below_alloc _ _); have HL5 := hid_ (hL4.below bb5 (Nat.le_refl _)); clear hL4; have hb5 := below_then8 hb4 bb5; obtain ⟨q5, p5⟩ := HQ.out w5 hb5; have c50 : w5.cell? ⟨w4.heap.size, 0, none⟩ = some (.slice a4 n4 k4) := (by rw [← hw5]; exact cells_alloc _ _ _ 0); have c51 : w5.cell? ⟨w4.heap.size, 1, none⟩ = some (.slice d4 m4 l4) := (by rw [← hw5]; exact cells_alloc _ _ _ 1); have z5 : w4.heap.size < w5.heap.size := (by rw [← hw5]; simp); clear bb5)
        | (go_at_call 36; (with_reducible refine (HB.out _ hb5).mono ?_); rintro e w6 ⟨iv, fv, xs, fs, rfl, hN, hb6'⟩; have hb6 := below_then8 hb5 hb6'; obtain ⟨a6, n6, k6, d6, m6, l6, rfl, rfl, hL6⟩ := hN.lits; clear hN; obtain ⟨w7, hw7⟩ : ∃ W, w6.alloc (.cells #[.slice a6 n6 k6, .slice d6 m6 l6] 25) = W := ⟨_, rfl⟩; have bb7 : Below w6.heap.size w6 w7 := (by rw [← hw7]; exact below_alloc _ _); have HL7 := hid_ (hL6.below bb7 (Nat.le_refl _)); clear hL6; have hb7 := below_then8 hb6 bb7; obtain ⟨q7, p7⟩ := HQ.out w7 hb7; have c60 := cell_below c50 hb6'; have c61 := cell_below c51 hb6'; have c70 := cell_below c60 bb7; have c71 := cell_below c61 bb7; have e70 : w7.cell? ⟨w6.heap.size, 0, none⟩ = some (.slice a6 n6 k6) := (by rw [← hw7]; exact cells_alloc _ _ _ 0); have e71 : w7.cell? ⟨w6.heap.size, 1, none⟩ = some (.slice d6 m6 l6) := (by rw [← hw7]; exact cells_alloc _ _ _ 1); have HL75 := hid_ ((HL5.out.below hb6' (Nat.le_refl _)).below bb7 (Nat.le_refl _)); have HSa := hid_ (hS.out _ _ _ HL75.out HL7.out); clear c60 c61 bb7)
        | (go_at_call 28; (with_reducible refine HSa.out.mono ?_); rintro e w8 ⟨rfl, hb8'⟩; have hb8 := below_then8 hb7 hb8'; obtain ⟨q8, p8⟩ := HQ.out w8 hb8; have c80 := cell_below c70 hb8'; have c81 := cell_below c71 hb8'; have HL8 := hid_ (HL75.out.below hb8' (Nat.le_refl _)))
        | (go_at_call 12; (with_reducible refine (HK.out _).mono ?_); rintro e w9 ⟨rfl, hb9⟩))
      go_ret
      exact ⟨rfl, Hc1.out.trans ((below_then8 hb8 hb9).mono Hc1.out.size)⟩
end Go.Proofs.Ytpcpmdokgdbonaa
