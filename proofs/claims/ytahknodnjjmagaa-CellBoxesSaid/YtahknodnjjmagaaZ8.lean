import Derived.Test.YtahknodnjjmagaaZ7
namespace Go.Proofs.Ytahknodnjjmagaa
open Go.RowKit Go.Proofs.Kv

theorem r6clash_calls (v : Value) (P : Par) (w : World) (h : ParAt w v P) (hv : validP P = 0) :
    Calls Try.prog 93 #[v, .bool true] w fun e w' => ∃ v', e = .returned v' ∧ MadeL 22 w w' v' (withL P (clashB P)) := by
  have := r6formless_calls v P true w h hv
  rwa [show prF P true = clashB P from funext (prF_clash hv)] at this
theorem r6empty_calls (v : Value) (P : Par) (w : World) (h : ParAt w v P) (hv : validP P = 0) :
    Calls Try.prog 93 #[v, .bool false] w fun e w' => ∃ v', e = .returned v' ∧ MadeL 22 w w' v' (withL P (emptyB P)) := by
  have := r6formless_calls v P false w h hv
  rwa [show prF P false = emptyB P from funext prF_empty] at this
set_option maxRecDepth 100000 in
set_option maxHeartbeats 4000000 in
theorem r6Clashes_calls (v : Value) (P : Par) (w : World) (h : ParAt w v P) :
    Calls Try.prog 42 #[v] w fun e w' => ∃ v', e = .returned (.tuple #[v', .int .i64 (validP P)]) ∧ MadeL 22 w w' v' (resClash P) := by
  have HP := hid_ h
  obtain ⟨a1, n1, c1, a2, n2, c2, rfl, h1, h2⟩ := h
  obtain ⟨w1, hw1⟩ : ∃ w1, w.alloc (.cells #[.slice a1 n1 c1, .slice a2 n2 c2] 25) = w1 := ⟨_, rfl⟩
  have cb : Below w.heap.size w w1 := by rw [← hw1]; exact below_alloc _ _
  have q0 : w1.cell? ⟨w.heap.size, 0, none⟩ = some (.slice a1 n1 c1) := by rw [← hw1]; exact cells_alloc _ _ _ 0
  have q1 : w1.cell? ⟨w.heap.size, 1, none⟩ = some (.slice a2 n2 c2) := by rw [← hw1]; exact cells_alloc _ _ _ 1
  have HP1 := hid_ (HP.out.below cb (Nat.le_refl _)); have Hc1 := hid_ cb
  have HE := hid_ (r6Validate_calls _ P w1 HP1.out)
  clear h1 h2 cb
  have HR : Hid (resClash P = if validP P = 0 then withL P (clashB P) else []) := hid_ rfl
  generalize hR : resClash P = R at *
  by_cases he : validP P = 0
  · have Hf := hid_ (HR.out.trans (if_pos he))
    have HM := hid_ (fun W (hW : Below w1.heap.size w1 W) => r6clash_calls _ P W (HP1.out.below hW (Nat.le_refl _)) he)
    rw [he] at HE ⊢
    clear he hR HR
    go_enter Try.func42, Try.ntmps42
    go_wp2_with (first
      | (go_at_call 22; (with_reducible refine HE.out.mono ?_); rintro e w2 ⟨rfl, hb3⟩; have q0b := cell_below q0 hb3; have q1b := cell_below q1 hb3)
      | (go_at_call 93; (with_reducible refine (HM.out _ hb3).mono ?_); rintro e w4 ⟨v4, rfl, hm⟩))
    go_ret2
    exact ⟨_, rfl, by rw [Hf.out]; exact hm.after (Hc1.out.trans (hb3.mono Hc1.out.size))⟩
  · have Hf := hid_ (HR.out.trans (if_neg he))
    have hq : (validP P != 0) = true := by simpa using he
    generalize validP P = x at *
    clear he hR HR
    go_enter Try.func42, Try.ntmps42
    go_wp2_with (go_at_call 22; (with_reducible refine HE.out.mono ?_); rintro e w2 ⟨rfl, hb3⟩)
    go_ret2
    exact ⟨_, rfl, by rw [Hf.out]; exact MadeL.none_ _ (Hc1.out.trans (hb3.mono Hc1.out.size))⟩
set_option maxRecDepth 100000 in
set_option maxHeartbeats 4000000 in
theorem r6Empty_calls (v : Value) (P : Par) (w : World) (h : ParAt w v P) :
    Calls Try.prog 44 #[v] w fun e w' => ∃ v', e = .returned (.tuple #[v', .int .i64 (validP P)]) ∧ MadeL 22 w w' v' (resEmpty P) := by
  have HP := hid_ h
  obtain ⟨a1, n1, c1, a2, n2, c2, rfl, h1, h2⟩ := h
  obtain ⟨w1, hw1⟩ : ∃ w1, w.alloc (.cells #[.slice a1 n1 c1, .slice a2 n2 c2] 25) = w1 := ⟨_, rfl⟩
  have cb : Below w.heap.size w w1 := by rw [← hw1]; exact below_alloc _ _
  have q0 : w1.cell? ⟨w.heap.size, 0, none⟩ = some (.slice a1 n1 c1) := by rw [← hw1]; exact cells_alloc _ _ _ 0
  have q1 : w1.cell? ⟨w.heap.size, 1, none⟩ = some (.slice a2 n2 c2) := by rw [← hw1]; exact cells_alloc _ _ _ 1
  have HP1 := hid_ (HP.out.below cb (Nat.le_refl _)); have Hc1 := hid_ cb
  have HE := hid_ (r6Validate_calls _ P w1 HP1.out)
  clear h1 h2 cb
  have HR : Hid (resEmpty P = if validP P = 0 then withL P (emptyB P) else []) := hid_ rfl
  generalize hR : resEmpty P = R at *
  by_cases he : validP P = 0
  · have Hf := hid_ (HR.out.trans (if_pos he))
    have HM := hid_ (fun W (hW : Below w1.heap.size w1 W) => r6empty_calls _ P W (HP1.out.below hW (Nat.le_refl _)) he)
    rw [he] at HE ⊢
    clear he hR HR
    go_enter Try.func44, Try.ntmps44
    go_wp2_with (first
      | (go_at_call 22; (with_reducible refine HE.out.mono ?_); rintro e w2 ⟨rfl, hb3⟩; have q0b := cell_below q0 hb3; have q1b := cell_below q1 hb3)
      | (go_at_call 93; (with_reducible refine (HM.out _ hb3).mono ?_); rintro e w4 ⟨v4, rfl, hm⟩))
    go_ret2
    exact ⟨_, rfl, by rw [Hf.out]; exact hm.after (Hc1.out.trans (hb3.mono Hc1.out.size))⟩
  · have Hf := hid_ (HR.out.trans (if_neg he))
    have hq : (validP P != 0) = true := by simpa using he
    generalize validP P = x at *
    clear he hR HR
    go_enter Try.func44, Try.ntmps44
    go_wp2_with (go_at_call 22; (with_reducible refine HE.out.mono ?_); rintro e w2 ⟨rfl, hb3⟩)
    go_ret2
    exact ⟨_, rfl, by rw [Hf.out]; exact MadeL.none_ _ (Hc1.out.trans (hb3.mono Hc1.out.size))⟩
set_option maxRecDepth 100000 in
set_option maxHeartbeats 8000000 in
theorem r6Homes_calls (v : Value) (P : Par) (y : Int) (w : World) (h : ParAt w v P) :
    Calls Try.prog 46 #[v, .int .i64 y] w fun e w' => ∃ v', e = .returned (.tuple #[v', .int .i64 (errH P y)]) ∧ MadeL 22 w w' v' (resHomes P y) := by
  obtain ⟨i0, hi0, hz0, hz1, hz2⟩ := info_parts Try.infoInts
  have HP := hid_ h
  obtain ⟨a1, n1, c1, a2, n2, c2, rfl, h1, h2⟩ := h
  obtain ⟨w1, hw1⟩ : ∃ w1, w.alloc (.cells #[.slice a1 n1 c1, .slice a2 n2 c2] 25) = w1 := ⟨_, rfl⟩
  have cb : Below w.heap.size w w1 := by rw [← hw1]; exact below_alloc _ _
  have q0 : w1.cell? ⟨w.heap.size, 0, none⟩ = some (.slice a1 n1 c1) := by rw [← hw1]; exact cells_alloc _ _ _ 0
  have q1 : w1.cell? ⟨w.heap.size, 1, none⟩ = some (.slice a2 n2 c2) := by rw [← hw1]; exact cells_alloc _ _ _ 1
  have HP1 := hid_ (HP.out.below cb (Nat.le_refl _)); have Hc1 := hid_ cb
  have HE := hid_ (r6Validate_calls _ P w1 HP1.out)
  have HI := hid_ (fun W => within6_calls y 0 9 W)
  have HEr : Hid (errH P y = if validP P = 0 then (if Within y 0 9 then 0 else 1) else validP P) := hid_ rfl
  have HRr : Hid (resHomes P y = if errH P y = 0 then withL P (homeB P y) else []) := hid_ rfl
  clear h1 h2 cb
  by_cases he : validP P = 0
  · cases hw : Within y 0 9 with
    | false =>
      rw [hw] at HI
      have Hf : Hid (errH P y = 1) := hid_ (by rw [HEr.out, if_pos he, hw]; rfl)
      have Hr : Hid (resHomes P y = []) := hid_ (by rw [HRr.out, Hf.out]; rfl)
      rw [he] at HE
      rw [Hf.out, Hr.out]
      clear he hw
      go_enter Try.func46, Try.ntmps46
      go_wp2_with (first
        | (go_at_call 22; (with_reducible refine HE.out.mono ?_); rintro e w2 ⟨rfl, hb3⟩; have q0b := cell_below q0 hb3; have q1b := cell_below q1 hb3)
        | (go_at_call 73; (with_reducible refine (HI.out _).mono ?_); rintro e w5 ⟨rfl, rfl⟩))
      go_ret2
      exact ⟨_, rfl, MadeL.none_ _ (Hc1.out.trans (hb3.mono Hc1.out.size))⟩
    | true =>
      rw [hw] at HI
      have Hf : Hid (errH P y = 0) := hid_ (by rw [HEr.out, if_pos he, hw]; rfl)
      have Hr : Hid (resHomes P y = withL P (homeB P y)) := hid_ (by rw [HRr.out, Hf.out]; rfl)
      have HC := hid_ (fun W (hW : Below w1.heap.size w1 W) => r6cells_calls _ P W (HP1.out.below hW (Nat.le_refl _)) he)
      have HLe : Hid (∀ k, k < (cellsL P.sizes).length → P.sizes.length = ((cellsL P.sizes).getD k []).length) := hid_ (fun k hk => (specB_ok (cells_spec he hk)).1.symm)
      have h27 := (cells_chain he).2.2.1
      have HH := hid_ (fun k (hk : k < (cellsL P.sizes).length) => @withK_hit P (homeB P y) k hk); have HMs := hid_ (fun k (hk : k < (cellsL P.sizes).length) => @withK_miss P (homeB P y) k hk)
      have HKa := hid_ (withK_all P (homeB P y))
      have HKl := hid_ (fun k => @withK_le P (homeB P y) k)
      have Hv := hid_ he
      have HK0 : Hid (withK P (homeB P y) 0 = []) := hid_ rfl
      have Hpr : Hid (∀ l, homeB P y l = decide (formR P l = y)) := hid_ (fun l => rfl)
      rw [he] at HE
      rw [Hf.out, Hr.out]
      clear he hw
      generalize cellsL P.sizes = L at *
      go_enter Try.func46, Try.ntmps46
      go_wp2_with (first
        | (go_at_call 22; (with_reducible refine HE.out.mono ?_); rintro e w2 ⟨rfl, hb3⟩; have q0b := cell_below q0 hb3; have q1b := cell_below q1 hb3)
        | (go_at_call 73; (with_reducible refine (HI.out _).mono ?_); rintro e w5 ⟨rfl, rfl⟩)
        | (go_at_call 70; (with_reducible refine (HC.out _ hb3).mono ?_); rintro e w4 ⟨v4, rfl, hm⟩; obtain ⟨a5, c5, rfl, hL5⟩ := hm.at_; have hb4 := hb3.trans (hm.bel.mono hb3.size); have q04 := cell_below q0 hb4; have q14 := cell_below q1 hb4))
      have HL := hid_ hL5
      have Hb4 := hid_ hb4
      clear hm hL5 q0 q1 q0b q1b
      go_loopw [7, 9] (fun v i wr => ∃ k : Nat, k ≤ L.length ∧ i = .int .i64 k ∧ OwnL 22 wr w4.heap.size v (withK P (homeB P y) k) ∧ Below w4.heap.size w4 wr) (fun _ i _ => L.length - (intOf i).toNat)
      case atStart => exact ⟨0, Nat.zero_le _, rfl, by rw [HK0.out]; exact OwnL.nil _ _ _, Below.refl _ _⟩
      case round =>
        obtain ⟨k, hk, rfl, hown, hb⟩ := hrel
        have Hb := hid_ hb
        have hsz := hb.size
        by_cases hlt : k < L.length
        · obtain ⟨bl, off, a6, n6, c6, rfl, hbs, hcell, hrow⟩ := HL.out.cells k hlt
          have hls : P.sizes.length = n6 := by rw [HLe.out k hlt, hrow.len]
          have q0r := cell_below q04 hb; have q1r := cell_below q14 hb; have qcr := cell_below hcell hb
          have HF := hid_ (fun d os => r6form_calls _ P a6 n6 c6 (L.getD k []) (Go.Sort.grow (redrawn wr d) os) (HP1.out.below (Hb4.out.trans ((hb.trans ((below_regrown wr d os).mono hsz)).mono Hb4.out.size)) (Nat.le_refl _)) (hrow.below (hb.trans ((below_regrown wr d os).mono hsz)) (Nat.le_refl _)) Hv.out hls)
          have HOw := hid_ (fun W (hW : Below wr.heap.size wr W) => hown.below hW (Nat.le_refl _))
          have HRw := hid_ (fun W (hW : Below wr.heap.size wr W) => hrow.below (hb.trans (hW.mono hsz)) (Nat.le_refl _))
          have Hin : Hid (∀ b off, 0 < n6 → a6 = some ⟨b, off, none⟩ → u7.ownBlock ≠ some b) := hid_ (fun b off h0 ha e => by
            obtain ⟨b', off', ha', hb', -⟩ := hrow.cells 0 h0
            rw [ha] at ha'
            injection ha' with ha'; injection ha' with e1 e2
            have := (hown.lt b e).1
            omega)
          have hhit := HH.out k hlt; have hmiss := HMs.out k hlt
          have hpr := Hpr.out (L.getD k [])
          have hkl := HKl.out k
          have g0 := cell_regrown q0r; have g1 := cell_regrown q1r; have g2 := cell_regrown qcr
          have Hqc := hid_ qcr
          clear hls hb hrow hown hcell
          generalize formR P (L.getD k []) = z at *
          generalize L.getD k [] = cl at *
          by_cases hz : z = y
          · have Hf := hid_ (hhit (hpr.trans (decide_eq_true hz)))
            subst hz
            clear hpr hhit hmiss
            go_wp2_with fail
            refine wp_region_quiet_below (by kernel_rfl) (by kernel_rfl) ?_
            repeat (first | go_big_quiet_skip | (go_big_quiet_want; go_big_quiet_op; first | go_big_quiet_on | go_big_quiet_call ((go_at_call 81; with_reducible exact Calls.regrown_of (HF.out _ _)))))
            refine wpQuiet_nil ?_
            rintro wq ⟨pq, hpq⟩
            have hbL := below_wq hpq; clear hpq
            have hsL := hbL.size
            have qcq := cell_below Hqc.out hbL
            go_wp2_with (at_builtin; refine wpList_push_list _ rfl (.tmp 34) (.tmp 39) _ rfl w4.heap.size 22 i0 Try.underlying28 hi0 hz0 hz1 hz2 u7 _ rfl (HOw.out _ hbL) a6 n6 c6 cl 22 rfl (HRw.out _ hbL) Hin.out (by omega) (by omega) ?_; intro v9 w9 hown9 hg9 hat9)
            exact ⟨⟨k + 1, by omega, by go_num, by rw [Hf.out]; exact hown9, belowL_app (Hb.out.trans (hbL.mono hsz)) (Nat.le_trans hsz hsL) (HOw.out _ hbL) hg9⟩, by simp [intOf]; omega⟩
          · have Hf := hid_ (hmiss (hpr.trans (decide_eq_false hz)))
            have hzb : (z == y) = false := by simpa using hz
            clear hpr hhit hmiss hz
            go_wp2_with fail
            refine wp_region_quiet_below (by kernel_rfl) (by kernel_rfl) ?_
            repeat (first | go_big_quiet_skip | (go_big_quiet_want; go_big_quiet_op; first | go_big_quiet_on | go_big_quiet_call ((go_at_call 81; with_reducible exact Calls.regrown_of (HF.out _ _)))))
            refine wpQuiet_nil ?_
            rintro wq ⟨pq, hpq⟩
            have hbL := below_wq hpq; clear hpq
            go_wp2
            exact ⟨⟨k + 1, by omega, by go_num, by rw [Hf.out]; exact HOw.out _ hbL, Hb.out.trans (hbL.mono hsz)⟩, by simp [intOf]; omega⟩
        · obtain rfl : L.length = k := by omega
          go_wp2
          go_ret2
          refine ⟨_, rfl, ⟨?_, Hc1.out.trans ((Hb4.out.trans (hb.mono Hb4.out.size)).mono Hc1.out.size)⟩⟩
          rw [← HKa.out]
          exact hown.base (Nat.le_trans Hc1.out.size Hb4.out.size)
  · have hq : (validP P != 0) = true := by simpa using he
    have Hf : Hid (errH P y = validP P) := hid_ (by rw [HEr.out, if_neg he])
    have Hr : Hid (resHomes P y = []) := hid_ (by rw [HRr.out, Hf.out, if_neg he])
    rw [Hf.out, Hr.out]
    generalize validP P = x at *
    clear he
    go_enter Try.func46, Try.ntmps46
    go_wp2_with (go_at_call 22; (with_reducible refine HE.out.mono ?_); rintro e w2 ⟨rfl, hb3⟩)
    go_ret2
    exact ⟨_, rfl, MadeL.none_ _ (Hc1.out.trans (hb3.mono Hc1.out.size))⟩
end Go.Proofs.Ytahknodnjjmagaa
