import Derived.Test.YtoopgmoopmbfnaaFw
namespace Go.Proofs.Ytoopgmoopmbfnaa
open Go.RowKit Go.Proofs.Kv Go.Proofs.Snd

/-! ### the fewest marks, by either way -/
def frStep (F : List (List Int)) (b : Nat) (o : List Int) : Nat := if fitsB F o then (if b = 0 ∨ marksR F o < b then marksR F o else b) else b
def fewR (F : List (List Int)) (O : List (List Int)) : Nat := O.foldl (frStep F) 0
theorem fewR_snoc {F O : List (List Int)} {k : Nat} (hk : k < O.length) : fewR F (O.take (k + 1)) = frStep F (fewR F (O.take k)) (O.getD k []) := by
  unfold fewR; rw [Kv.take_snoc O [] k hk, List.foldl_append]; rfl
def FewRel (F : List (List Int)) (m : Int) (x : Option (List Int)) (b : Nat) : Prop := match x with | none => b = 0 | some y => b = marksR F y ∧ ordErr m F y = 0 ∧ fitsB F y = true
theorem few_fold {F : List (List Int)} {m : Int} : ∀ (O : List (List Int)), (∀ o ∈ O, ordErr m F o = 0) → ∀ (x : Option (List Int)) (b : Nat), FewRel F m x b → FewRel F m (O.foldl (fwStep F) x) (O.foldl (frStep F) b)
  | [], _, _, _, h => h
  | o :: O, hO, x, b, h => by
    rw [List.foldl_cons, List.foldl_cons]
    refine few_fold O (fun y hy => hO y (by simp [hy])) _ _ ?_
    have he := hO o (by simp)
    have hfe : fitsP F o = fitsB F o := fit_eq (ordErr_ok he).1 (ordErr_ok he).2
    cases hf : fitsB F o with
    | false => rw [fw_skip (by rw [hfe, hf])]; unfold frStep; rw [hf]; exact h
    | true =>
      have hfp : fitsP F o = true := by rw [hfe, hf]
      unfold frStep
      rw [hf, if_pos rfl]
      cases x with
      | none =>
        have hb : b = 0 := h
        rw [fw_first hfp, if_pos (.inl hb)]
        exact ⟨rfl, he, hf⟩
      | some y =>
        obtain ⟨h1, h2, h3⟩ := h
        have hp := marks_pos h2
        by_cases hl : (marksV F o).length < (marksV F y).length
        · rw [fw_less hfp hl]
          rw [marksV_len he, marksV_len h2] at hl
          rw [if_pos (.inr (by omega))]
          exact ⟨rfl, he, hf⟩
        · rw [fw_keep hfp hl]
          rw [marksV_len he, marksV_len h2] at hl
          rw [if_neg (by omega)]
          exact ⟨h1, h2, h3⟩
theorem ords_err {m : Int} {F : List (List Int)} (h : famErr m F = 0) : ∀ o ∈ ordersL m.toNat, ordErr m F o = 0 := fun o ho => by
  obtain ⟨⟨h1, h6⟩, _⟩ := famErr_ok h
  have hi := List.all_eq_true.1 (ords_ok (n := m.toNat) (by omega) (by omega)) o ho
  rw [show ((m.toNat : Nat) : Int) = m by omega] at hi
  rw [ordErr, if_pos h, if_pos hi]
theorem few_rel {m : Int} {F : List (List Int)} (h : famErr m F = 0) : FewRel F m (fwTo F (ordersL m.toNat)) (fewR F (ordersL m.toNat)) := few_fold _ (ords_err h) none 0 rfl
theorem few_ends {m : Int} {F : List (List Int)} {x : Option (List Int)} {b : Nat} (h : FewRel F m x b) : (endsV F x).length = b ∧ x.isSome = decide (0 < b) := by
  cases x with
  | none =>
    have hb : b = 0 := h
    subst hb; exact ⟨rfl, rfl⟩
  | some y =>
    obtain ⟨h1, h2, h3⟩ := h
    subst h1
    exact ⟨marksV_len h2, by have := marks_pos h2; simp [this]⟩
def fewV (m : Int) (F : List (List Int)) : Nat := if famErr m F = 0 then fewR F (ordersL m.toNat) else 0

/-! ### Fewest -/
set_option maxRecDepth 100000 in
theorem sndFewest_calls (m : Int) (a : Option Addr) (n c : Nat) (F : List (List Int)) (w : World) (h : ListsAt w a n c F) :
    Calls Try.prog 16 #[.int .i64 m, .slice a n c] w fun e w' => e = .returned (.tuple #[.int .i64 (fewV m F : Nat), .bool (decide (0 < fewV m F)), .int .i64 (famErr m F)]) ∧ Below w.heap.size w w' := by
  have hval := sndFamily_calls m a n c F w h
  by_cases he : famErr m F = 0
  · obtain ⟨⟨hm1, hm6⟩, hF6, _⟩ := famErr_ok he
    obtain ⟨mn, rfl⟩ := Int.eq_ofNat_of_zero_le (show 0 ≤ m by omega)
    have hr := few_ends (few_rel he)
    rw [Int.toNat_natCast] at hr
    have Hr : Hid (fewV (mn : Int) F = fewR F (ordersL mn)) := hid_ (by rw [fewV, if_pos he, Int.toNat_natCast])
    rw [he] at hval ⊢
    have Hv := hid_ hval; clear hval he
    have hn6 : n ≤ 6 := by rw [← h.len]; exact hF6
    have hfw := fun W hW => fewest_calls mn a n c F W hW (by omega) (by omega) hn6
    rw [hr.2] at hfw
    have H1 := hid_ hr.1
    have Hfw := hid_ hfw
    have HL := hid_ (fun W (hW : Below w.heap.size w W) => h.below hW (Nat.le_refl _))
    rw [Hr.out]
    clear hr hfw h
    generalize fewR F (ordersL mn) = R at *
    cases hR : decide (0 < R) with
    | true =>
      rw [hR] at Hfw
      have Hfw' := hid_ Hfw.out
      clear Hfw
      go_enter Try.func16, Try.ntmps16
      go_wp2_with fail
      refine Hv.out.mono ?_
      rintro e w1 ⟨rfl, q, hq⟩
      have hb1 : Below w.heap.size w w1 := by rw [hq]; exact below_drewN (Below.refl _ _) q
      clear hq
      have Hc := hid_ (Hfw'.out w1 (HL.out w1 hb1))
      go_wp2_with fail
      refine Hc.out.mono ?_
      rintro e w2 ⟨vb, ve, rfl, ⟨o1, o2⟩, hb2⟩
      obtain ⟨ab, cb, rfl, -⟩ := IntsAt.own o1
      obtain ⟨ae, ce, rfl, -⟩ := IntsAt.own o2
      rw [H1.out]
      clear o1 o2
      go_wp2
      go_ret3
      exact ⟨rfl, below_then hb1 hb2⟩
    | false =>
      rw [hR] at Hfw
      have Hfw' := hid_ Hfw.out
      clear Hfw
      go_enter Try.func16, Try.ntmps16
      go_wp2_with fail
      refine Hv.out.mono ?_
      rintro e w1 ⟨rfl, q, hq⟩
      have hb1 : Below w.heap.size w w1 := by rw [hq]; exact below_drewN (Below.refl _ _) q
      clear hq
      have Hc := hid_ (Hfw'.out w1 (HL.out w1 hb1))
      go_wp2_with fail
      refine Hc.out.mono ?_
      rintro e w2 ⟨vb, ve, rfl, ⟨o1, o2⟩, hb2⟩
      obtain ⟨ab, cb, rfl, -⟩ := IntsAt.own o1
      obtain ⟨ae, ce, rfl, -⟩ := IntsAt.own o2
      rw [H1.out]
      clear o1 o2
      go_wp2
      go_ret3
      exact ⟨rfl, below_then hb1 hb2⟩
  · have Hr : Hid (fewV m F = 0) := hid_ (if_neg he)
    rw [Hr.out]
    generalize famErr m F = er at hval he ⊢
    have hq : (er != 0) = true := by simpa using he
    have Hv := hid_ hval; clear hval he
    go_enter Try.func16, Try.ntmps16
    go_wp2_with fail
    refine Hv.out.mono ?_
    rintro e w1 ⟨rfl, q, rfl⟩
    go_wp2
    go_ret3
    exact ⟨rfl, below_drewN (Below.refl _ _) q⟩
set_option maxRecDepth 100000 in
theorem refFewest_calls (m : Int) (a : Option Addr) (n c : Nat) (F : List (List Int)) (w : World) (h : ListsAt w a n c F) :
    Calls Try.prog 17 #[.int .i64 m, .slice a n c] w fun e w' => e = .returned (.tuple #[.int .i64 (fewV m F : Nat), .bool (decide (0 < fewV m F)), .int .i64 (famErr m F)]) ∧ Below w.heap.size w w' := by
  have hval := refFamily_calls m a n c F w h
  by_cases he : famErr m F = 0
  · obtain ⟨⟨hm1, hm6⟩, hF6, _⟩ := famErr_ok he
    have Hm : Hid ((m.toNat : Int) = m) := hid_ (by omega)
    have Hr : Hid (fewV m F = fewR F (ordersL m.toNat)) := hid_ (by rw [fewV, if_pos he])
    have hl := (iter_len (n := m.toNat) (k := m.toNat) (by omega) (by omega) (Nat.le_refl _))
    have hO := refOrders_calls m.toNat
    rw [Hm.out] at hO
    have HO := hid_ hO
    have Hrow : Hid (∀ o ∈ ordersL m.toNat, o.length ≤ 6) := hid_ fun o ho => by rw [hl.2 o ho]; omega
    have hl1 : (ordersL m.toNat).length ≤ 720 := hl.1
    rw [he] at hval ⊢
    have HV := hid_ hval; clear hval he hO hl
    have h1 : 1 ≤ m.toNat := by omega
    have h6 : m.toNat ≤ 6 := by omega
    rw [Hr.out]
    generalize hOO : ordersL m.toNat = O at *
    clear hOO
    go_enter Try.func17, Try.ntmps17
    go_wp2_with fail
    refine HV.out.mono ?_
    rintro e w1 ⟨rfl, q, hq⟩
    have hb1 : Below w.heap.size w w1 := by rw [hq]; exact below_drewN (Below.refl _ _) q
    clear hq HV
    go_wp2_with fail
    refine (HO.out w1 h1 h6).mono ?_
    rintro e w2 ⟨v2, rfl, hm2⟩
    obtain ⟨a2, c2, rfl, hL⟩ := hm2.at_
    have Hb : Hid (Below w.heap.size w w2) := hid_ (below_then hb1 hm2.bel)
    have hF := h.below Hb.out (Nat.le_refl _)
    clear hb1 hm2 HO h h1 h6
    generalize hNl : O.length = N at hL hl1
    have HNl := hid_ hNl; clear hNl
    go_wp2
    go_loop [8, 10] (fun b i => ∃ k : Nat, k ≤ N ∧ i = .int .i64 k ∧ b = .int .i64 (fewR F (O.take k) : Nat)) (fun _ i => N - (intOf i).toNat)
    case atStart => exact ⟨0, Nat.zero_le _, rfl, rfl⟩
    case round =>
      obtain ⟨k, hk, rfl, rfl⟩ := hrel
      by_cases hlt : k < N
      · obtain ⟨b, off, a3, n3, c3, rfl, hb, hcell, hrow⟩ := hL.cells k hlt
        have hkO : k < O.length := by rw [HNl.out]; exact hlt
        have hs3 : n3 ≤ 6 := by rw [← hrow.len]; exact Hrow.out _ (by simp [List.getD, List.getElem?_eq_getElem hkO])
        have Hsn := hid_ (fewR_snoc (F := F) hkO)
        generalize fewR F (O.take k) = R at *
        generalize O.getD k [] = o at *
        cases hf : fitsB F o with
        | false =>
          have Hst : Hid (frStep F R o = R) := hid_ (by unfold frStep; rw [hf]; rfl)
          have Hf := hid_ (fits_as hF hrow (by omega) hf)
          clear hf
          go_wp2_with (go_at_call 53; refine (Hf.out).mono ?_; rintro e w' ⟨rfl, rfl⟩)
          go_round
          case rel => exact ⟨k + 1, by omega, by go_num, by rw [Hsn.out, Hst.out]⟩
          case measure => simp [intOf]; omega
        | true =>
          have Hst : Hid (frStep F R o = if R = 0 ∨ marksR F o < R then marksR F o else R) := hid_ (by unfold frStep; rw [hf]; rfl)
          have Hf := hid_ (fits_as hF hrow (by omega) hf)
          have hml : marksR F o ≤ 6 := by
            have := marksTo_le F o o.length
            have e := hrow.len
            unfold marksR; omega
          have Hmk := hid_ (refMarks_calls _ _ _ _ _ _ _ _ w2 hF hrow (by omega))
          clear hf
          generalize marksR F o = M at *
          by_cases hR0 : R = 0
          · have Hs2 : Hid (frStep F R o = M) := hid_ (by rw [Hst.out, if_pos (.inl hR0)])
            have hq : ((R : Int) == 0) = true := by simp; omega
            clear Hst hR0
            go_wp2_with (first
              | (go_at_call 53; refine (Hf.out).mono ?_; rintro e w' ⟨rfl, rfl⟩)
              | (go_at_call 54; refine (Hmk.out).mono ?_; rintro e w' ⟨rfl, rfl⟩))
            go_round
            case rel => exact ⟨k + 1, by omega, by go_num, by rw [Hsn.out, Hs2.out]⟩
            case measure => simp [intOf]; omega
          · have hq : ((R : Int) == 0) = false := by simp; omega
            by_cases hlt2 : M < R
            · have Hs2 : Hid (frStep F R o = M) := hid_ (by rw [Hst.out, if_pos (.inr hlt2)])
              have hd : decide (M < R) = true := by simp [hlt2]
              clear Hst hR0 hlt2
              go_wp2_with (first
                | (go_at_call 53; refine (Hf.out).mono ?_; rintro e w' ⟨rfl, rfl⟩)
                | (go_at_call 54; refine (Hmk.out).mono ?_; rintro e w' ⟨rfl, rfl⟩))
              go_round
              case rel => exact ⟨k + 1, by omega, by go_num, by rw [Hsn.out, Hs2.out]⟩
              case measure => simp [intOf]; omega
            · have Hs2 : Hid (frStep F R o = R) := hid_ (by rw [Hst.out, if_neg (by omega)])
              have hd : decide (M < R) = false := by simp; omega
              clear Hst hR0 hlt2
              go_wp2_with (first
                | (go_at_call 53; refine (Hf.out).mono ?_; rintro e w' ⟨rfl, rfl⟩)
                | (go_at_call 54; refine (Hmk.out).mono ?_; rintro e w' ⟨rfl, rfl⟩))
              go_round
              case rel => exact ⟨k + 1, by omega, by go_num, by rw [Hsn.out, Hs2.out]⟩
              case measure => simp [intOf]; omega
      · obtain rfl : k = N := by omega
        rw [show O.take k = O from List.take_of_length_le (by rw [HNl.out]; exact Nat.le_refl _)]
        obtain ⟨R, hRe⟩ : ∃ R, fewR F O = R := ⟨_, rfl⟩
        rw [hRe]
        have HRe := hid_ hRe
        clear hRe
        cases hR : decide (0 < R) with
        | true =>
          have HR := hid_ hR
          go_wp2
          go_ret3
          exact ⟨by rw [HRe.out, HR.out]; rfl, Hb.out⟩
        | false =>
          have HR := hid_ hR
          go_wp2
          go_ret3
          exact ⟨by rw [HRe.out, HR.out]; rfl, Hb.out⟩
  · have Hr : Hid (fewV m F = 0) := hid_ (if_neg he)
    rw [Hr.out]
    generalize famErr m F = er at hval he ⊢
    have hq : (er != 0) = true := by simpa using he
    have Hv := hid_ hval; clear hval he
    go_enter Try.func17, Try.ntmps17
    go_wp2_with fail
    refine Hv.out.mono ?_
    rintro e w1 ⟨rfl, q, rfl⟩
    go_wp2
    go_ret3
    exact ⟨rfl, below_drewN (Below.refl _ _) q⟩
end Go.Proofs.Ytoopgmoopmbfnaa
