import Derived.Test.YtgpenbajhndhiaaVg
namespace Go.Proofs.Ytgpenbajhndhiaa
open Go.RowKit Go.Proofs.Kv Go

/-! ### CheckSplit of the document -/
set_option maxRecDepth 100000 in
set_option maxHeartbeats 4000000 in
theorem r8CheckSplit_calls (v : Value) (L : Lx) (a : Option Addr) (n c : Nat) (t : List Int) (a' : Option Addr) (n' c' : Nat) (s : List Int) (w : World) (h : LexAt w v L) (ht : IntsAt w a n c t) (hs : IntsAt w a' n' c' s) :
    Calls Try.prog 13 #[v, .slice a n c, .slice a' n' c'] w fun e w' => e = .returned (.tuple #[.int .i64 (splitC L t s), .int .i64 (splitE L t s)]) ∧ Below w.heap.size w w' := by
  have HP := hid_ h
  obtain ⟨a1, n1, c1, a2, n2, c2, rfl, h1, h2⟩ := h
  obtain ⟨w1, hw1⟩ : ∃ w1, w.alloc (.cells #[.slice a1 n1 c1, .slice a2 n2 c2] 25) = w1 := ⟨_, rfl⟩
  have cb : Below w.heap.size w w1 := by rw [← hw1]; exact below_alloc _ _
  have q0 : w1.cell? ⟨w.heap.size, 0, none⟩ = some (.slice a1 n1 c1) := by rw [← hw1]; exact cells_alloc _ _ _ 0
  have q1 : w1.cell? ⟨w.heap.size, 1, none⟩ = some (.slice a2 n2 c2) := by rw [← hw1]; exact cells_alloc _ _ _ 1
  have HP1 := hid_ (HP.out.below cb (Nat.le_refl _)); have Hc1 := hid_ cb
  have HE : Hid (splitE L t s = if textE L t = 0 then (if 12 < n' then 3 else if itemsB L s = true then (if wordsL L s = t then (if okF L s = true then 0 else 6) else 7) else 4) else textE L t) := hid_ (by rw [splitE, hs.len])
  have HC : Hid (splitC L t s = if splitE L t s = 0 then sumC L s else 0) := hid_ rfl
  have Ht := hid_ (fun W (hW : Below w1.heap.size w1 W) => (ht.below cb (Nat.le_refl _)).below hW (Nat.le_refl _))
  have Hs := hid_ (fun W (hW : Below w1.heap.size w1 W) => (hs.below cb (Nat.le_refl _)).below hW (Nat.le_refl _))
  have HLx := hid_ (fun W (hW : Below w1.heap.size w1 W) => HP1.out.below hW (Nat.le_refl _))
  have HA := hid_ (texted_calls _ L a n c t w1 HP1.out (ht.below cb (Nat.le_refl _)))
  have Hq := hid_ (fun W (hW : Below w1.heap.size w1 W) => (⟨cell_below q0 hW, cell_below q1 hW⟩ : _ ∧ _))
  have hlt := ht.len
  have h1L := fun W (hW : Below w1.heap.size w1 W) => (h1.below cb (Nat.le_refl _)).below hW (Nat.le_refl _)
  have h1len := h1.len
  have hn1 : n1 ≤ 9223372036854775807 := Nat.le_trans h1.le h1.small
  have hls := hs.len
  clear cb h1 h2 HP HP1 ht hs
  generalize splitC L t s = C at *
  generalize splitE L t s = E at *
  by_cases he : textE L t = 0
  · obtain ⟨g, -, -⟩ := textE_ok he
    rw [he, if_pos rfl] at HE
    rw [he] at HA
    clear he
    by_cases h12 : 12 < n'
    · rw [if_pos h12] at HE
      have HE' : Hid (E = 3) := hid_ HE.out
      have HC' : Hid (C = 0) := hid_ (HC.out.trans (if_neg (by rw [HE'.out]; decide)))
      rw [HE'.out, HC'.out]
      clear HE HC g
      go_enter Try.func13, Try.ntmps13
      go_wp2_with (go_at_call 29; (with_reducible refine HA.out.mono ?_); rintro e w2 ⟨rfl, hb2⟩)
      go_ret2
      exact ⟨rfl, Hc1.out.trans (hb2.mono Hc1.out.size)⟩
    · rw [if_neg h12] at HE
      have HB := hid_ (fun W (hW : Below w1.heap.size w1 W) => r8items_calls _ L a' n' c' s W (HLx.out W hW) (Hs.out W hW) (by have := g.le; omega))
      cases hib : itemsB L s with
      | false =>
        rw [hib] at HE HB
        have HE' : Hid (E = 4) := hid_ (HE.out.trans (if_neg (by decide)))
        have HC' : Hid (C = 0) := hid_ (HC.out.trans (if_neg (by rw [HE'.out]; decide)))
        rw [HE'.out, HC'.out]
        clear HE HC g
        go_enter Try.func13, Try.ntmps13
        go_wp2_with (first
          | (go_at_call 29; (with_reducible refine HA.out.mono ?_); rintro e w2 ⟨rfl, hb2⟩; obtain ⟨q2, r2⟩ := Hq.out w2 hb2)
          | (go_at_call 32; (with_reducible refine (HB.out _ hb2).mono ?_); rintro e w3 ⟨rfl, hb3⟩))
        go_ret2
        exact ⟨rfl, Hc1.out.trans ((hb2.trans (hb3.mono hb2.size)).mono Hc1.out.size)⟩
      | true =>
        rw [hib, if_pos rfl] at HE
        rw [hib] at HB
        have HW := hid_ (fun W (hW : Below w1.heap.size w1 W) => r8words_calls _ L a' n' c' s W (HLx.out W hW) (Hs.out W hW) g hib (by omega))
        by_cases hw : wordsL L s = t
        · rw [if_pos hw] at HE
          have HF := hid_ (fun W (hW : Below w1.heap.size w1 W) k j (hk : k < L.items.length) (hj : j < L.items.length) => r8follow_calls _ L k j W (HLx.out W hW) g hk hj)
          have HCo := hid_ (fun j (hj : j < L.items.length) => g.cost j hj)
          have HFi := hid_ (fun k j (hk : k < L.items.length) (hj : j < L.items.length) => @follV_in L g k j hk hj)
          have HAt := hid_ (fun k (hk : k < n') => @itemsB_at L s hib k (by rw [hls]; exact hk))
          have HS := hid_ (fun k (hk : k ≤ n') ha => sumK_in g hib k (by rw [hls]; exact hk) ha)
          have HSs : Hid (∀ k, sumK L s (k + 1) = sumK L s k + stepC L s k) := hid_ (fun _ => rfl)
          have HSt : Hid (∀ k, stepC L s k = costI L (s.getD k 0) + if k = 0 then 0 else fvI L (s.getD (k - 1) 0) (s.getD k 0)) := hid_ (fun _ => rfl)
          have HOk : Hid (∀ k, okC L s k = (decide (k = 0) || decide (0 ≤ fvI L (s.getD (k - 1) 0) (s.getD k 0)))) := hid_ (fun _ => rfl)
          have HNo := hid_ (fun k (hk : k < n') => @okF_no L s k (by rw [hls]; exact hk))
          have HYe := hid_ (@okF_yes L s n' hls)
          have HSum : Hid (sumC L s = sumK L s n') := hid_ (by rw [sumC, hls])
          have H1 := hid_ (fun W (hW : Below w1.heap.size w1 W) => h1L W hW)
          have hl1 := h1len
          rw [hl1] at HAt HF HCo HFi
          have hn' : n' ≤ 9223372036854775807 := by omega
          clear g
          generalize okF L s = R at *
          generalize sumC L s = S0 at *
          go_enter Try.func13, Try.ntmps13
          go_wp2_with (first
            | (go_at_call 29; (with_reducible refine HA.out.mono ?_); rintro e w2 ⟨rfl, hb2⟩; obtain ⟨q2, r2⟩ := Hq.out w2 hb2)
            | (go_at_call 32; (with_reducible refine (HB.out _ hb2).mono ?_); rintro e w3 ⟨rfl, hb3⟩; have hb3' := hb2.trans (hb3.mono hb2.size); obtain ⟨q3, r3⟩ := Hq.out w3 hb3')
            | (go_at_call 33; (with_reducible refine (HW.out _ hb3').mono ?_); rintro e w4 ⟨v4, rfl, hm4⟩; obtain ⟨a4, c4, rfl, hi4⟩ := hm4.at_; have hb4 := hb3'.trans (hm4.bel.mono hb3'.size); obtain ⟨q4, r4⟩ := Hq.out w4 hb4; have HQ := hid_ (sameI8_calls a4 _ c4 _ a n c t w4 hi4 (Ht.out w4 hb4)); have Hb4 := hid_ hb4; clear hi4 hm4; obtain ⟨lw, hlw⟩ : ∃ lw, (wordsL L s).length = lw := ⟨_, rfl⟩; rw [hlw] at HQ ⊢; clear hlw)
            | (go_at_call 21; (with_reducible refine HQ.out.mono ?_); rintro e w5 ⟨rfl, q5, rfl⟩; rw [decide_eq_true hw]; have hb5 := below_drewN Hb4.out q5; obtain ⟨q6, r6⟩ := Hq.out _ hb5))
          go_loopw [9, 10] (fun v i wr => ∃ k : Nat, k ≤ n' ∧ i = .int .i64 k ∧ v = .int .i64 (sumK L s k) ∧ (∀ j, j < k → okC L s j = true) ∧ Below w1.heap.size w1 wr) (fun _ i _ => n' - (intOf i).toNat)
          case atStart => exact ⟨0, Nat.zero_le _, rfl, rfl, fun _ h => absurd h (by omega), hb5⟩
          case round =>
            obtain ⟨k, hk, rfl, rfl, hall, hbr⟩ := hrel
            have hsz := hbr.size
            obtain ⟨q0r, q1r⟩ := Hq.out _ hbr
            have hS := HS.out k hk hall
            have Hall := hid_ hall
            clear hall
            by_cases hlt : k < n'
            · obtain ⟨b, off, rfl, -, hcell⟩ := (Hs.out wr hbr).cells k hlt
              obtain ⟨j, hj, hjn⟩ := HAt.out k hlt
              rw [hj] at hcell
              obtain ⟨b2, off2, a3, n3, c3, rfl, -, k0, k1, k2, -⟩ := (H1.out wr hbr).cells j hjn
              have hcj := HCo.out j hjn
              have hst := HSt.out k
              have hss := HSs.out k
              have hok := HOk.out k
              rw [costI, hj, Int.toNat_natCast] at hst
              generalize (L.items.getD j I0).cost = cj at *
              generalize sumK L s k = S at *
              have hw1 : IntKind.i64.wrap (S + cj) = S + cj := IntWalk.i64_in _ (by omega)
              by_cases h0 : k = 0
              · rw [if_pos h0, Int.add_zero] at hst
                rw [decide_eq_true h0, Bool.true_or] at hok
                have hkg : ¬ (0 : Int) < (k : Int) := by omega
                have Hf := hid_ (lt_snoc (p := fun j => okC L s j = true) Hall.out hok)
                have Hs1 : Hid (sumK L s (k + 1) = S + cj) := hid_ (by rw [hss, hst])
                have Hbr := hid_ hbr
                clear hst hss hok hj h0 hbr
                go_wp2_with fail
                go_quiet (fail)
                go_wp2
                go_roundw
                case rel => exact ⟨k + 1, by omega, by go_num, by rw [Hs1.out], Hf.out, below_drewN Hbr.out _⟩
                case measure => simp [intOf]; omega
              · obtain ⟨y, hy, hyn⟩ := HAt.out (k - 1) (by omega)
                obtain ⟨bb, ooff, e, -, hcellp⟩ := (Hs.out wr hbr).cells (k - 1) (by omega)
                injection e with e; injection e with e1 e2; subst e1; subst e2
                rw [hy] at hcellp
                rw [if_neg h0, fvI, hy, Int.toNat_natCast, Int.toNat_natCast] at hst
                rw [decide_eq_false h0, Bool.false_or, fvI, hj, hy, Int.toNat_natCast, Int.toNat_natCast] at hok
                have hfi := HFi.out y j hyn hjn
                have HFo := hid_ (fun q d os => HF.out (Go.Sort.grow (redrawn (wr.drewN q) d) os) ((below_drewN hbr q).trans ((below_regrown (wr.drewN q) d os).mono hsz)) y j hyn hjn)
                generalize follV L y j = f at *
                have hkg : (0 : Int) < (k : Int) := by omega
                have hk1 : (0 : Int) ≤ (k : Int) - 1 := by omega
                have hk2 : (k : Int) - 1 < (n' : Int) := by omega
                have hk3 : ((k : Int) - 1).toNat = k - 1 := by omega
                have hwk : IntKind.i64.wrap ((k : Int) - 1) = (k : Int) - 1 := IntWalk.i64_in _ (by omega)
                have hw2 : IntKind.i64.wrap (S + cj + f) = S + cj + f := IntWalk.i64_in _ (by omega)
                have Hbr := hid_ hbr
                have Hc := hid_ hcell; have Hcp := hid_ hcellp; have Hq0 := hid_ q0r; have Hq1 := hid_ q1r
                by_cases hf : f < 0
                · have Hno := hid_ (HNo.out k hlt (by rw [hok]; exact decide_eq_false (by omega)))
                  have HE' : Hid (E = 6) := hid_ (HE.out.trans (if_neg (by rw [Hno.out]; decide)))
                  have HC' : Hid (C = 0) := hid_ (HC.out.trans (if_neg (by rw [HE'.out]; decide)))
                  clear hst hss hok hj hbr hy
                  go_wp2_with fail
                  go_quiet (fail)
                  have gA := fun q => cell_regrown (show (wr.drewN q).cell? _ = _ from Hq0.out); have gB := fun q => cell_regrown (show (wr.drewN q).cell? _ = _ from Hq1.out); have gC := fun q => cell_regrown (show (wr.drewN q).cell? _ = _ from Hcp.out); have gD := fun q => cell_regrown (show (wr.drewN q).cell? _ = _ from Hc.out)
                  go_wp2_with fail
                  refine wp_region_quiet_below (by kernel_rfl) (by kernel_rfl) ?_
                  repeat (first | go_big_quiet_skip | (go_big_quiet_want; go_big_quiet_op; first | go_big_quiet_on | go_big_quiet_call ((go_at_call 34; with_reducible exact Calls.regrown_of (HFo.out _ _ _)))))
                  refine wpQuiet_nil ?_
                  rintro wq ⟨pq, hpq⟩
                  have hbq := below_wq hpq
                  clear hpq gA gB gC gD
                  go_wp2
                  go_ret2
                  exact ⟨by rw [HE'.out, HC'.out]; rfl, Hc1.out.trans (((below_drewN Hbr.out _).trans (hbq.mono hsz)).mono Hc1.out.size)⟩
                · have Hf := hid_ (lt_snoc (p := fun j => okC L s j = true) Hall.out (by rw [hok]; exact decide_eq_true (by omega)))
                  have Hs1 : Hid (sumK L s (k + 1) = S + cj + f) := hid_ (by rw [hss, hst]; omega)
                  clear hst hss hok hj hbr hy
                  go_wp2_with fail
                  go_quiet (fail)
                  have gA := fun q => cell_regrown (show (wr.drewN q).cell? _ = _ from Hq0.out); have gB := fun q => cell_regrown (show (wr.drewN q).cell? _ = _ from Hq1.out); have gC := fun q => cell_regrown (show (wr.drewN q).cell? _ = _ from Hcp.out); have gD := fun q => cell_regrown (show (wr.drewN q).cell? _ = _ from Hc.out)
                  go_wp2_with fail
                  refine wp_region_quiet_below (by kernel_rfl) (by kernel_rfl) ?_
                  repeat (first | go_big_quiet_skip | (go_big_quiet_want; go_big_quiet_op; first | go_big_quiet_on | go_big_quiet_call ((go_at_call 34; with_reducible exact Calls.regrown_of (HFo.out _ _ _)))))
                  refine wpQuiet_nil ?_
                  rintro wq ⟨pq, hpq⟩
                  have hbq := below_wq hpq
                  clear hpq gA gB gC gD
                  go_wp2
                  go_roundw
                  case rel => exact ⟨k + 1, by omega, by go_num, by rw [Hs1.out], Hf.out, (below_drewN Hbr.out _).trans (hbq.mono hsz)⟩
                  case measure => simp [intOf]; omega
            · obtain rfl : n' = k := by omega
              have Hye := hid_ (HYe.out Hall.out)
              have HE' : Hid (E = 0) := hid_ (HE.out.trans (if_pos Hye.out))
              have HC' : Hid (C = sumK L s n') := hid_ ((HC.out.trans (if_pos HE'.out)).trans HSum.out)
              have Hbr := hid_ hbr
              clear hbr
              go_wp2
              go_ret2
              exact ⟨by rw [HE'.out, HC'.out]; rfl, Hc1.out.trans (Hbr.out.mono Hc1.out.size)⟩
        · rw [if_neg hw] at HE
          have HE' : Hid (E = 7) := hid_ HE.out
          have HC' : Hid (C = 0) := hid_ (HC.out.trans (if_neg (by rw [HE'.out]; decide)))
          rw [HE'.out, HC'.out]
          clear HE HC g
          go_enter Try.func13, Try.ntmps13
          go_wp2_with (first
            | (go_at_call 29; (with_reducible refine HA.out.mono ?_); rintro e w2 ⟨rfl, hb2⟩; obtain ⟨q2, r2⟩ := Hq.out w2 hb2)
            | (go_at_call 32; (with_reducible refine (HB.out _ hb2).mono ?_); rintro e w3 ⟨rfl, hb3⟩; have hb3' := hb2.trans (hb3.mono hb2.size); obtain ⟨q3, r3⟩ := Hq.out w3 hb3')
            | (go_at_call 33; (with_reducible refine (HW.out _ hb3').mono ?_); rintro e w4 ⟨v4, rfl, hm4⟩; obtain ⟨a4, c4, rfl, hi4⟩ := hm4.at_; have hb4 := hb3'.trans (hm4.bel.mono hb3'.size); obtain ⟨q4, r4⟩ := Hq.out w4 hb4; have HQ := hid_ (sameI8_calls a4 _ c4 _ a n c t w4 hi4 (Ht.out w4 hb4)); have Hb4 := hid_ hb4; clear hi4 hm4; obtain ⟨lw, hlw⟩ : ∃ lw, (wordsL L s).length = lw := ⟨_, rfl⟩; rw [hlw] at HQ ⊢; clear hlw)
            | (go_at_call 21; (with_reducible refine HQ.out.mono ?_); rintro e w5 ⟨rfl, q5, rfl⟩; rw [decide_eq_false hw]; have hb5 := below_drewN Hb4.out q5))
          go_ret2
          exact ⟨rfl, Hc1.out.trans (hb5.mono Hc1.out.size)⟩
  · have hq : (textE L t != 0) = true := by simpa using he
    rw [if_neg he] at HE
    have HC' : Hid (C = 0) := hid_ (HC.out.trans (if_neg (by rw [HE.out]; exact he)))
    rw [HE.out, HC'.out]
    generalize textE L t = x at *
    clear HE HC he
    go_enter Try.func13, Try.ntmps13
    go_wp2_with (go_at_call 29; (with_reducible refine HA.out.mono ?_); rintro e w2 ⟨rfl, hb2⟩)
    go_ret2
    exact ⟨rfl, Hc1.out.trans (hb2.mono Hc1.out.size)⟩
end Go.Proofs.Ytgpenbajhndhiaa
