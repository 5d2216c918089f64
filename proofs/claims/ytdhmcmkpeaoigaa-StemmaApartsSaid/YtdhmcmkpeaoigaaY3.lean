import Derived.Test.YtdhmcmkpeaoigaaYx
namespace Go.Proofs.Ytdhmcmkpeaoigaa
open Go.RowKit Go.Proofs.Kv

/-! ### trees of the document -/
theorem parB_zero (p : Int) : parB 0 p = decide (p = -1) := rfl
theorem parB_pos {i : Nat} (h : 0 < i) (p : Int) : parB i p = Within p 0 ((i : Int) - 1) := by
  rw [parB, if_neg (by omega), Within, Bool.eq_iff_iff]; simp; omega
theorem isNum_within (m : Nat) (p : Int) : isNum m p = Within p 0 ((m : Int) - 1) := by
  rw [isNum, Within, Bool.eq_iff_iff]; simp; omega
set_option maxRecDepth 100000 in
set_option maxHeartbeats 4000000 in
theorem r7Tree_calls (v : Value) (X : Tr) (w : World) (h : TreeAt w v X) :
    Calls Try.prog 37 #[v] w fun e w' => e = .returned (.int .i64 (validX X)) ∧ Below w.heap.size w w' := by
  have HP := hid_ h
  obtain ⟨a1, n1, c1, a2, n2, c2, rfl, h1, h2⟩ := h
  obtain ⟨w1, hw1⟩ : ∃ w1, w.alloc (.cells #[.slice a1 n1 c1, .slice a2 n2 c2] 45) = w1 := ⟨_, rfl⟩
  have cb : Below w.heap.size w w1 := by rw [← hw1]; exact below_alloc _ _
  have q0 : w1.cell? ⟨w.heap.size, 0, none⟩ = some (.slice a1 n1 c1) := by rw [← hw1]; exact cells_alloc _ _ _ 0
  have q1 : w1.cell? ⟨w.heap.size, 1, none⟩ = some (.slice a2 n2 c2) := by rw [← hw1]; exact cells_alloc _ _ _ 1
  have HP1 := hid_ (HP.out.below cb (Nat.le_refl _)); have Hc1 := hid_ cb
  have hn1 : n1 ≤ 9223372036854775807 := Nat.le_trans h1.le h1.small
  have hn2 : n2 ≤ 9223372036854775807 := Nat.le_trans h2.le h2.small
  have H1 := hid_ (h1.below cb (Nat.le_refl _))
  have H2 := hid_ (h2.below cb (Nat.le_refl _))
  have L1 := hid_ h1.len
  have L2 := hid_ h2.len
  have HL := hid_ (fun hx => @validX_large X hx)
  have HNo1 := hid_ (fun hx => @validX_no1 X hx)
  have HNo2 := hid_ (fun hx => @validX_no2 X hx)
  have HYes := hid_ (fun hx => @validX_yes X hx n1 n2 h1.len h2.len)
  have HW := hid_ (fun W => within7_calls (n1 : Int) 1 16 W)
  clear h1 h2 cb
  generalize hV : validX X = V at *
  clear hV
  by_cases h1 : n1 < 1 ∨ 16 < n1
  · have Hf := hid_ (HL.out (by rw [L1.out]; omega))
    have hw1 : Within (n1 : Int) 1 16 = false := by simp [Within]; omega
    rw [hw1] at HW
    clear h1 hw1
    go_enter Try.func37, Try.ntmps37
    go_wp2_with (go_at_call 66; refine (HW.out _).mono ?_; rintro e w' ⟨rfl, rfl⟩)
    go_ret
    exact ⟨retI Hf.out, Hc1.out⟩
  · have hw1 : Within (n1 : Int) 1 16 = true := by simp [Within]; omega
    rw [hw1] at HW
    clear hw1
    by_cases h6 : 6 < n2
    · have Hf := hid_ (HL.out (.inr (.inr (by rw [L2.out]; exact h6))))
      go_enter Try.func37, Try.ntmps37
      go_wp2_with (go_at_call 66; refine (HW.out _).mono ?_; rintro e w' ⟨rfl, rfl⟩)
      go_ret
      exact ⟨retI Hf.out, Hc1.out⟩
    · have hx : ¬ (X.par.length < 1 ∨ 16 < X.par.length ∨ 6 < X.at_.length) := by rw [L1.out, L2.out]; omega
      have HNoA := hid_ (HNo1.out hx)
      have HNoB := hid_ (HNo2.out hx)
      have HYesH := hid_ (HYes.out hx)
      clear HNo1 HNo2 HYes HL hx
      rw [L1.out] at HNoB HNoA
      rw [L2.out] at HNoB
      obtain ⟨b, off, rfl, hb, hcell⟩ := H1.out.cells 0 (by omega)
      rw [Nat.add_zero] at hcell
      have hz0 := parB_zero (X.par.getD 0 0)
      have hno0 := HNoA.out 0 (by omega)
      have hall0 : parB 0 (X.par.getD 0 0) = true → ∀ j, j < 1 → parB j (X.par.getD j 0) = true := fun hx j hj => by
        obtain rfl : j = 0 := by omega
        exact hx
      generalize hy0 : X.par.getD 0 0 = y at hcell hz0 hno0 hall0
      clear hy0
      by_cases hy : y = -1
      · have Hall0 := hid_ (hall0 (hz0.trans (decide_eq_true hy)))
        have hq : (y != -1) = false := by rw [hy]; rfl
        clear hy hz0 hno0 hall0
        go_enter Try.func37, Try.ntmps37
        go_wp2_with (go_at_call 66; refine (HW.out _).mono ?_; rintro e w' ⟨rfl, rfl⟩)
        clear hcell
        go_loop [3] (fun i => ∃ k : Nat, 1 ≤ k ∧ k ≤ n1 ∧ i = .int .i64 k ∧ ∀ j, j < k → parB j (X.par.getD j 0) = true) (fun i => n1 - (intOf i).toNat)
        case atStart => exact ⟨1, Nat.le_refl _, by omega, rfl, Hall0.out⟩
        case round =>
          obtain ⟨k, hk1, hk, rfl, hall⟩ := hrel
          have Hall := hid_ hall; clear hall
          by_cases hlt : k < n1
          · obtain ⟨b', off', e, hb, hcell⟩ := H1.out.cells k hlt
            injection e with e; injection e with e1 e2; subst e1; subst e2
            have hNo := HNoA.out k hlt
            have hYes := fun hx => lt_snoc (p := fun j => parB j (X.par.getD j 0) = true) Hall.out hx
            have hpw := parB_pos hk1 (X.par.getD k 0)
            generalize X.par.getD k 0 = y at hcell hNo hYes hpw
            have HP := hid_ (within7_calls y 0 ((k : Int) - 1) w1)
            rw [hpw] at hNo hYes
            clear hpw
            generalize Within y 0 ((k : Int) - 1) = z at *
            cases z with
            | false =>
              have Hf := hid_ (hNo rfl)
              clear hNo hYes
              go_wp2_with (go_at_call 66; refine (HP.out).mono ?_; rintro e w' ⟨rfl, rfl⟩)
              go_ret
              exact ⟨retI Hf.out, Hc1.out⟩
            | true =>
              have Hf := hid_ (hYes rfl)
              clear hNo hYes
              go_wp2_with (go_at_call 66; refine (HP.out).mono ?_; rintro e w' ⟨rfl, rfl⟩)
              go_round
              case rel => exact ⟨k + 1, by omega, by omega, by go_num, Hf.out⟩
              case measure => simp [intOf]; omega
          · have hkn : k = n1 := by omega
            rw [hkn] at Hall
            clear hkn
            go_wp2
            go_loopw [4] (fun i wr => ∃ (k q : Nat), k ≤ n2 ∧ i = .int .i64 k ∧ wr = w1.drewN q ∧ ∀ j, j < k → isNum n1 (X.at_.getD j 0) = true) (fun i _ => n2 - (intOf i).toNat)
            case atStart => exact ⟨0, 0, Nat.zero_le _, rfl, rfl, fun _ h => absurd h (by omega)⟩
            case round =>
              obtain ⟨k, q, hk, rfl, hq, hall⟩ := hrel
              have Hall2 := hid_ hall; have Hq := hid_ hq
              have q0r : wr.cell? ⟨w.heap.size, 0, none⟩ = some (.slice (some ⟨b, off, none⟩) n1 c1) := by rw [hq]; exact q0
              have q1r : wr.cell? ⟨w.heap.size, 1, none⟩ = some (.slice a2 n2 c2) := by rw [hq]; exact q1
              have hI : IntsAt wr a2 n2 c2 X.at_ := by rw [hq]; exact H2.out.drewN q
              clear hall hq
              by_cases hlt2 : k < n2
              · obtain ⟨b2, off2, rfl, hb, hcell⟩ := hI.cells k hlt2
                have hNo := HNoB.out k hlt2
                have hYes := fun hx => lt_snoc (p := fun j => isNum n1 (X.at_.getD j 0) = true) Hall2.out hx
                generalize X.at_.getD k 0 = y at hcell hNo hYes
                have hiw := isNum_within n1 y
                rw [hiw] at hNo hYes
                have HP := hid_ (fun W => within7_calls y 0 ((n1 : Int) - 1) W)
                have hw5 : IntKind.i64.wrap ((n1 : Int) - 1) = (n1 : Int) - 1 := IntWalk.i64_in _ (by omega)
                clear hiw
                generalize hzz : Within y 0 ((n1 : Int) - 1) = z at *
                clear hzz
                cases z with
                | false =>
                  have Hf := hid_ (hNo rfl)
                  clear hNo hYes hI
                  go_wp2_with fail
                  go_quiet ((go_at_call 66; exact quiet_left (HP.out _)))
                  clear hw5
                  go_wp2
                  go_ret
                  exact ⟨retI Hf.out, by rw [Hq.out, drewN2]; exact below_drewN Hc1.out _⟩
                | true =>
                  have Hf := hid_ (hYes rfl)
                  clear hNo hYes hI
                  go_wp2_with fail
                  go_quiet ((go_at_call 66; exact quiet_left (HP.out _)))
                  clear hw5
                  go_wp2
                  go_roundw
                  case rel => exact ⟨k + 1, _, by omega, by go_num, by rw [Hq.out, drewN2], Hf.out⟩
                  case measure => simp [intOf]; omega
              · have hkn : k = n2 := by omega
                rw [hkn] at Hall2
                have Hf := hid_ (HYesH.out Hall.out Hall2.out)
                clear hkn hI
                go_wp2
                go_ret
                exact ⟨retI Hf.out, by rw [Hq.out]; exact below_drewN Hc1.out _⟩
      · have Hf := hid_ (hno0 (hz0.trans (decide_eq_false hy)))
        have hq : (y != -1) = true := by simpa using hy
        clear hy hz0 hno0 hall0
        go_enter Try.func37, Try.ntmps37
        go_wp2_with (go_at_call 66; refine (HW.out _).mono ?_; rintro e w' ⟨rfl, rfl⟩)
        go_ret
        exact ⟨retI Hf.out, Hc1.out⟩
set_option maxRecDepth 100000 in
set_option maxHeartbeats 2000000 in
theorem treed_calls (a : Option Addr) (n c : Nat) (T : List (List Int)) (v : Value) (X : Tr) (w : World) (hT : ListsAt w a n c T) (h : TreeAt w v X) :
    Calls Try.prog 77 #[.slice a n c, v] w fun e w' => e = .returned (.int .i64 (errB T X)) ∧ Below w.heap.size w w' := by
  have HP := hid_ h
  obtain ⟨a1, n1, c1, a2, n2, c2, rfl, h1, h2⟩ := h
  obtain ⟨w1, hw1⟩ : ∃ w1, w.alloc (.cells #[.slice a1 n1 c1, .slice a2 n2 c2] 45) = w1 := ⟨_, rfl⟩
  have cb : Below w.heap.size w w1 := by rw [← hw1]; exact below_alloc _ _
  have q0 : w1.cell? ⟨w.heap.size, 0, none⟩ = some (.slice a1 n1 c1) := by rw [← hw1]; exact cells_alloc _ _ _ 0
  have q1 : w1.cell? ⟨w.heap.size, 1, none⟩ = some (.slice a2 n2 c2) := by rw [← hw1]; exact cells_alloc _ _ _ 1
  have HP1 := hid_ (HP.out.below cb (Nat.le_refl _)); have Hc1 := hid_ cb
  have HT1 := hid_ (hT.below cb (Nat.le_refl _))
  have HV := hid_ (r7Validate_calls a n c T w1 HT1.out)
  have HU := hid_ (fun q => r7Tree_calls _ X (w1.drewN q) (HP1.out.drewN q))
  have L2 := hid_ h2.len
  have LT := hid_ hT.len
  have HR : Hid (errB T X = if orE (validT T) (validX X) = 0 then (if X.at_.length = T.length then 0 else 9) else orE (validT T) (validX X)) := hid_ rfl
  rw [L2.out, LT.out] at HR
  have Hor : Hid (∀ x y, orE x y = if x = 0 then y else x) := hid_ (fun x y => rfl)
  clear h1 h2 cb hT
  generalize errB T X = R at *
  generalize validT T = x at *
  generalize validX X = y at *
  by_cases hx : x = 0
  · rw [Hor.out, if_pos hx] at HR
    rw [hx] at HV
    clear hx
    by_cases hy : y = 0
    · rw [if_pos hy] at HR
      rw [hy] at HU
      clear hy
      by_cases hl : n2 = n
      · have Hg := hid_ (HR.out.trans (if_pos hl))
        have hq : ((n2 : Int) != (n : Int)) = false := by subst hl; simp
        clear hl HR
        go_enter Try.func77, Try.ntmps77
        go_wp2_with (first
          | (go_at_call 25; (with_reducible refine HV.out.mono ?_); rintro e w2 ⟨rfl, q, rfl⟩)
          | (go_at_call 37; (with_reducible refine (HU.out _).mono ?_); rintro e w3 ⟨rfl, hb3⟩; have hb3 : Below w1.heap.size w1 w3 := (below_drewN (Below.refl _ _) _).trans hb3; have q03 := cell_below q0 hb3; have q13 := cell_below q1 hb3))
        go_ret
        exact ⟨retI Hg.out, Hc1.out.trans (hb3.mono Hc1.out.size)⟩
      · have Hg := hid_ (HR.out.trans (if_neg hl))
        have hq : ((n2 : Int) != (n : Int)) = true := by simp; omega
        clear hl HR
        go_enter Try.func77, Try.ntmps77
        go_wp2_with (first
          | (go_at_call 25; (with_reducible refine HV.out.mono ?_); rintro e w2 ⟨rfl, q, rfl⟩)
          | (go_at_call 37; (with_reducible refine (HU.out _).mono ?_); rintro e w3 ⟨rfl, hb3⟩; have hb3 : Below w1.heap.size w1 w3 := (below_drewN (Below.refl _ _) _).trans hb3; have q03 := cell_below q0 hb3; have q13 := cell_below q1 hb3))
        go_ret
        exact ⟨retI Hg.out, Hc1.out.trans (hb3.mono Hc1.out.size)⟩
    · have Hg := hid_ (HR.out.trans (if_neg hy))
      have hq : (y != 0) = true := by simpa using hy
      clear hy HR
      go_enter Try.func77, Try.ntmps77
      go_wp2_with (first
        | (go_at_call 25; (with_reducible refine HV.out.mono ?_); rintro e w2 ⟨rfl, q, rfl⟩)
        | (go_at_call 37; (with_reducible refine (HU.out _).mono ?_); rintro e w3 ⟨rfl, hb3⟩; have hb3 : Below w1.heap.size w1 w3 := (below_drewN (Below.refl _ _) _).trans hb3))
      go_ret
      exact ⟨retI Hg.out, Hc1.out.trans (hb3.mono Hc1.out.size)⟩
  · have hxx : orE x y = x := (Hor.out x y).trans (if_neg hx)
    rw [hxx, if_neg hx] at HR
    have hq : (x != 0) = true := by simpa using hx
    clear hx hxx
    go_enter Try.func77, Try.ntmps77
    go_wp2_with (go_at_call 25; (with_reducible refine HV.out.mono ?_); rintro e w2 ⟨rfl, q, rfl⟩)
    go_ret
    exact ⟨retI HR.out, below_drewN Hc1.out _⟩
end Go.Proofs.Ytdhmcmkpeaoigaa
