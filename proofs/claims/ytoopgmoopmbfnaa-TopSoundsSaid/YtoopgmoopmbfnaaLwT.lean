import Derived.Test.YtoopgmoopmbfnaaTsf
import Derived.Test.YtoopgmoopmbfnaaLwJ
import Derived.Test.YtoopgmoopmbfnaaLawE
namespace Go.Proofs.Ytoopgmoopmbfnaa
open Go.RowKit Go.Proofs.Kv Go.Proofs.Snd

/-! ### TopSounds -/
theorem fewLit_calls (W : World) : Calls Try.prog 16 #[.int .i64 2, .slice (some ⟨W.heap.size + 1 + 1, 0, none⟩) 2 2] (((W.alloc (.cells #[.int .i64 0] 3)).alloc (.cells #[.int .i64 0, .int .i64 1] 3)).alloc (.cells #[.slice (some ⟨W.heap.size, 0, none⟩) 1 1, .slice (some ⟨W.heap.size + 1, 0, none⟩) 2 2] 23))
    fun e w' => e = .returned (.tuple #[.int .i64 1, .bool true, .int .i64 0]) ∧ Below W.heap.size W w' := by
  have h := sndFewest_calls 2 _ _ _ _ _ (litLists W 3 23 [[0], [0, 1]] (by decide) (by decide))
  rw [few_lit.1, few_lit.2] at h
  refine h.mono ?_
  rintro e w' ⟨rfl, hb⟩
  exact ⟨rfl, (litBelow W _ _ [[0], [0, 1]]).trans (hb.mono (by rw [size_alloc_one, rowsW_size]; omega))⟩
theorem lists2 {w : World} {a1 a2 : Option Addr} {n1 n2 c1 c2 : Nat} {l1 l2 : List Int} (E : TypeId) (h1 : IntsAt w a1 n1 c1 l1) (h2 : IntsAt w a2 n2 c2 l2) :
    ListsAt (w.alloc (.cells #[.slice a1 n1 c1, .slice a2 n2 c2] E)) (some ⟨w.heap.size, 0, none⟩) 2 2 [l1, l2] :=
  ⟨rfl, Nat.le_refl _, by omega, fun i hi => by
    match i, hi with
    | 0, _ => exact ⟨w.heap.size, 0, a1, n1, c1, rfl, by simp, by rw [World.cell?_alloc_at _ _ _ _ (by rfl)]; rfl, h1.below ((Below.refl _ w).alloc (Nat.le_refl _) _) (Nat.le_refl _)⟩
    | 1, _ => exact ⟨w.heap.size, 0, a2, n2, c2, rfl, by simp, by rw [World.cell?_alloc_at _ _ _ _ (by rfl)]; rfl, h2.below ((Below.refl _ w).alloc (Nat.le_refl _) _) (Nat.le_refl _)⟩⟩
set_option maxRecDepth 100000 in
set_option maxHeartbeats 8000000 in
theorem topSounds_calls (m : Int) (a : Option Addr) (n c : Nat) (F : List (List Int)) (a' : Option Addr) (n' c' : Nat) (o : List Int) (w : World) (h : ListsAt w a n c F) (h' : IntsAt w a' n' c' o) :
    Calls Try.prog 10 #[.int .i64 m, .slice a n c, .slice a' n' c'] w fun e w' => e = .returned (.bool true) ∧ Below w.heap.size w w' := by
  have HL := hid_ (fun W (hW : Below w.heap.size w W) => h.below hW (Nat.le_refl _))
  have HO := hid_ (fun W (hW : Below w.heap.size w W) => h'.below hW (Nat.le_refl _))
  have HLong := hid_ (fun W hW => long_calls a n c F W hW)
  have Hlen := hid_ h.len
  cases hbig : bigL F with
  | true =>
    rw [hbig] at HLong
    have HLong' := hid_ HLong.out
    clear hbig HLong h h'
    go_enter Try.func10, Try.ntmps10
    go_wp2_with fail
    refine (fewLit_calls w).mono ?_
    rintro e w1 ⟨rfl, hb1⟩
    go_wp2_with (go_at_call 11; refine (HLong'.out _ (HL.out _ hb1)).mono ?_; rintro e w' ⟨rfl, rfl⟩)
    go_ret
    exact ⟨rfl, hb1⟩
  | false =>
    rw [hbig] at HLong
    have HLong' := hid_ HLong.out
    clear HLong
    by_cases h100 : 100 < n'
    · have hd : decide (100 < n') = true := by simp [h100]
      have hi : (100 : Int) < (n' : Int) := by omega
      clear hbig h h'
      go_enter Try.func10, Try.ntmps10
      go_wp2_with fail
      refine (fewLit_calls w).mono ?_
      rintro e w1 ⟨rfl, hb1⟩
      go_wp2_with (go_at_call 11; refine (HLong'.out _ (HL.out _ hb1)).mono ?_; rintro e w' ⟨rfl, rfl⟩)
      go_ret
      exact ⟨rfl, hb1⟩
    · have hd : ¬ (100 : Int) < (n' : Int) := by omega
      have Hord := hid_ (fun W hW => sndOrder_calls m a n c F W hW)
      by_cases he : famErr m F = 0
      · obtain ⟨⟨hm1, hm6⟩, hF6, hsets⟩ := famErr_ok he
        have hn6 : n ≤ 6 := by rw [← h.len]; exact hF6
        have Htab := hid_ (fun W hW => sndTable_calls m a n c F W hW)
        have Hfew := hid_ (fun W hW => sndFewest_calls m a n c F W hW)
        have hof := ord_few he
        have Hs6 : Hid (∀ s ∈ F, s.length ≤ 6) := hid_ (fun s hs => by
          have h5 := set_asc (fam_set he s hs)
          exact len_six (h5.imp fun h e => by omega) fun x hx => by have := (hsets s hs).2 x hx; omega)
        have Hmf := hid_ (fun o h => @mark_facts m F o h)
        have Hone := hid_ (fun o h s hs hf => @one_name m F o h s hs hf)
        rw [he] at Htab Hfew Hord
        cases hb : ordOk m F with
        | true =>
          rw [hb] at hof Hord
          rw [← hof] at Htab Hfew
          have Hord' := hid_ Hord.out
          have Htab' := hid_ Htab.out
          have Hfew' := hid_ Hfew.out

          have hpos : 0 < fewV m F := of_decide_eq_true hof.symm
          obtain ⟨t1, t2, t3, t4, t5⟩ := table_facts hpos
          have Hck0 := hid_ (fun a2 n2 c2 W hW hW2 => sndCheck_calls m a n c F a2 n2 c2 (tableV m F) W hW hW2)
          rw [t1] at Hck0
          have Hck0' := hid_ Hck0.out
          have HT2 := hid_ t2
          clear t1 t2 t3 t4 t5 hpos Hck0

          have HE := hid_ he
          clear Hord Htab Hfew hof hb he hbig h100 hsets h h'
          generalize fewV m F = R at *
          generalize ordV m F = ov at *
          go_enter Try.func10, Try.ntmps10
          go_wp2_with fail
          refine (fewLit_calls w).mono ?_
          rintro e w1 ⟨rfl, hb1⟩
          go_wp2_with (first
            | (go_at_call 11; refine (HLong'.out _ (HL.out _ hb1)).mono ?_; rintro e w' ⟨rfl, rfl⟩)
            | (go_at_call 43; fail))
          have G2 := hid_ (Hord'.out _ (HL.out _ hb1))
          go_wp2_with fail
          refine G2.out.mono ?_
          rintro e w2 ⟨v2, rfl, hm2⟩
          have hb2 := below_then hb1 hm2.bel
          obtain ⟨a2, c2, rfl, hI2⟩ := hm2.at_
          clear hm2 hb1
          have G3 := hid_ (Htab'.out _ (HL.out _ hb2))
          go_wp2_with fail
          refine G3.out.mono ?_
          rintro e w3 ⟨v3, rfl, hm3⟩
          have hb3 := below_then hb2 hm3.bel
          obtain ⟨a3, c3, rfl, hT3⟩ := hm3.at_
          rw [HT2.out] at hT3 ⊢

          have hI3 := hI2.below hm3.bel (Nat.le_refl _)
          clear hm3 hb2 hI2
          have G4 := hid_ (Hfew'.out _ (HL.out _ hb3))
          go_wp2_with fail
          refine G4.out.mono ?_
          rintro e w4 ⟨rfl, hb4'⟩
          have hb4 := below_then hb3 hb4'
          have hI4 := hI3.below hb4' (Nat.le_refl _)
          have hT4 := hT3.below hb4' (Nat.le_refl _)
          clear hb4' hb3 hI3 hT3

          have G5 := hid_ (Hck0'.out _ _ _ _ (HL.out _ hb4) hT4)
          go_wp2_with fail
          refine G5.out.mono ?_
          rintro e w5 ⟨rfl, hb5'⟩
          have hb5 := below_then hb4 hb5'
          have hI5 := hI4.below hb5' (Nat.le_refl _)
          clear hb5' hb4 hI4 hT4 G5

          have hLi := lists2 23 hI5 (HO.out _ hb5)
          have Hb6 := hid_ (hb5.alloc (o := .cells #[.slice a2 ov.length c2, .slice a' n' c'] 23) hb5.size)
          have HLi := hid_ hLi
          clear hLi hI5 G2 G3 G4 hb5
          go_wp2
          go_loopw [19] (fun i wr => ∃ k : Nat, k ≤ 2 ∧ i = .int .i64 k ∧ ListsAt wr (some ⟨w5.heap.size, 0, none⟩) 2 2 [ov, o] ∧ Below w.heap.size w wr) (fun i _ => 2 - (intOf i).toNat)
          case atStart => exact ⟨0, by omega, rfl, HLi.out, Hb6.out⟩
          case round =>
            obtain ⟨k, hk, rfl, hL, hbel⟩ := hrel
            by_cases hlt : k < 2
            · obtain ⟨b8, off8, a8, n8, c8, e8, hb8, hcell, hrow⟩ := hL.cells k hlt
              injection e8 with e8; injection e8 with e8 e9
              subst e8; subst e9
              rw [Nat.zero_add] at hcell
              generalize [ov, o].getD k [] = u at hrow
              have G6 := hid_ (sndFitsX_calls m a n c F _ _ _ u wr (HL.out _ hbel) hrow)
              have hk2 : (k : Int) < 2 := by omega
              have hk0 : (0 : Int) ≤ (k : Int) := by omega
              have HLr := hid_ hL
              have Hbr := hid_ hbel
              have Hcell := hid_ hcell
              have Hb8 := hid_ hb8
              clear hL hbel hb8
              by_cases hu : ordErr m F u = 0
              · cases hf : fitsRes m F u with
                | false =>
                  rw [hu, hf] at G6
                  have G6' := hid_ G6.out
                  clear G6 hu hf hrow
                  go_wp2_with fail
                  refine G6'.out.mono ?_
                  rintro e w7 ⟨rfl, hb7⟩
                  have HL7 := hid_ (HLr.out.below hb7 (Nat.le_refl _))
                  have Hb7 := hid_ (below_then Hbr.out hb7)
                  clear hb7 hcell
                  go_wp2
                  go_roundw
                  case rel => exact ⟨k + 1, by omega, by go_num, HL7.out, Hb7.out⟩
                  case measure => simp [intOf]; omega
                | true =>
                  obtain ⟨f1, f2⟩ := fits_ok hu hf
                  obtain ⟨-, -, g3, g4⟩ := Hmf.out u f2
                  have hn8 : n8 ≤ 6 := by rw [← hrow.len]; exact ordErr_len hu
                  have G7 := hid_ (fun W hW hW' => sndMarksX_calls m a n c F a8 n8 c8 u W hW hW')
                  rw [f2, g4] at G7
                  have G7' := hid_ G7.out
                  have G8 := hid_ (fun W hW hW' => topCut_calls a8 n8 c8 u a n c F W hW hW' hn6 hn8 Hs6.out)
                  rw [tcut_tab hu] at G8
                  have G8' := hid_ G8.out
                  have G9 := hid_ (fun a9 n9 c9 W hW hW' => sndCheck_calls m a n c F a9 n9 c9 (tabL F u) W hW hW')
                  rw [tab_check hu f1] at G9
                  have G9' := hid_ G9.out
                  have hTl : (tabL F u).length = marksR F u := by rw [tab_len, marksN_len hu]
                  have hTf : (tabL F u).flatten.length ≤ 100000 := by rw [tab_flat hu]; have := ordErr_len hu; omega
                  have Hone' := hid_ (fun s hs => Hone.out u hu s hs (List.all_eq_true.1 f1 s hs))
                  rw [hu, hf] at G6
                  have G6' := hid_ G6.out
                  have HTf := hid_ hTf
                  have HRow := hid_ (fun W hW => hrow.below (w' := W) hW (Nat.le_refl _))
                  generalize tabL F u = T at *
                  generalize marksR F u = M at *
                  have HTl := hid_ hTl
                  have hRM : ¬ (M : Int) < (R : Int) := by omega
                  have hRM2 : decide (M < R) = false := by simp; omega
                  clear G6 G7 G8 G9 hu hf f1 f2 g3 g4 hTl hTf hrow
                  go_wp2_with fail
                  refine G6'.out.mono ?_
                  rintro e w7 ⟨rfl, hb7⟩
                  have HL7 := hid_ (HLr.out.below hb7 (Nat.le_refl _))
                  have Hb7 := hid_ (below_then Hbr.out hb7)
                  have hcell7 := (hb7.cell (p := ⟨w5.heap.size, k, none⟩) Hb8.out).trans hcell
                  have Hr7 := hid_ (HRow.out _ hb7)
                  clear hcell hb7 G6'
                  have K7 := hid_ (G7'.out _ (HL.out _ Hb7.out) Hr7.out)
                  go_wp2_with fail
                  refine K7.out.mono ?_
                  rintro e w8 ⟨rfl, hb8'⟩
                  have HL8 := hid_ (HL7.out.below hb8' (Nat.le_refl _))
                  have Hb8w := hid_ (below_then Hb7.out hb8')
                  have hcell8 := cell_below hcell7 hb8'
                  have Hr8 := hid_ (Hr7.out.below hb8' (Nat.le_refl _))
                  clear hcell7 hb8' K7 HL7 Hb7 Hr7
                  have K8 := hid_ (G8'.out _ Hr8.out (HL.out _ Hb8w.out))
                  go_wp2_with fail
                  refine K8.out.mono ?_
                  rintro e w9 ⟨v9, rfl, hm9⟩
                  obtain ⟨a9, c9, rfl, hT9⟩ := hm9.at_
                  rw [HTl.out] at hT9 ⊢
                  have HL9 := hid_ (HL8.out.below hm9.bel (Nat.le_refl _))
                  have Hb9 := hid_ (below_then Hb8w.out hm9.bel)
                  clear hm9 hcell8 K8 HL8 Hb8w Hr8
                  have K9 := hid_ (G9'.out _ _ _ _ (HL.out _ Hb9.out) hT9)
                  go_wp2_with fail
                  refine K9.out.mono ?_
                  rintro e w10 ⟨rfl, hb10'⟩
                  have HL10 := hid_ (HL9.out.below hb10' (Nat.le_refl _))
                  have Hb10 := hid_ (below_then Hb9.out hb10')
                  have HT10 := hid_ (hT9.below hb10' (Nat.le_refl _))
                  clear hb10' K9 HL9 Hb9 hT9
                  go_wp2
                  go_loopw [24] (fun i wr => ∃ j : Nat, j ≤ n ∧ i = .int .i64 j ∧ ListsAt wr (some ⟨w5.heap.size, 0, none⟩) 2 2 [ov, o] ∧ Below w.heap.size w wr ∧ ListsAt wr a9 M c9 T) (fun i _ => n - (intOf i).toNat)
                  case atStart => exact ⟨0, Nat.zero_le _, rfl, HL10.out, Hb10.out, HT10.out⟩
                  case round =>
                    obtain ⟨j, hj, rfl, hLj, hbj, hTj⟩ := hrel
                    have HLj := hid_ hLj
                    have Hbj := hid_ hbj
                    have HTj := hid_ hTj
                    clear hLj hbj hTj
                    by_cases hltj : j < n
                    · obtain ⟨b11, off11, a11, n11, c11, rfl, hb11, hcell11, hrow11⟩ := (HL.out _ Hbj.out).cells j hltj
                      have hjF : j < F.length := by rw [Hlen.out]; exact hltj
                      have hmem : F.getD j [] ∈ F := by rw [List.getD, List.getElem?_eq_getElem hjF, Option.getD_some]; exact List.getElem_mem _
                      obtain ⟨x, y, y1, y2, y3, y4⟩ := Hone'.out _ hmem
                      have J1 := hid_ (sndNamed_calls a9 M c9 T _ _ _ _ _ HTj.out hrow11)
                      rw [y1, y2] at J1
                      have J1' := hid_ J1.out
                      have J2 := hid_ (fun W hW => sndStandX_calls a9 M c9 T x y W hW HTf.out)
                      rw [y3, y4] at J2
                      have J2' := hid_ J2.out
                      have HR11 := hid_ hrow11
                      have Hc11 := hid_ hcell11
                      have Hb11 := hid_ hb11
                      clear J1 J2 y1 y2 y3 y4 hmem hrow11 hb11
                      generalize F.getD j [] = s at *
                      go_wp2_with fail
                      refine J1'.out.mono ?_
                      rintro e w12 ⟨v12, rfl, hm12⟩
                      obtain ⟨a12, c12, rfl, hP12⟩ := hm12.at_
                      have hb12 := hm12.bel
                      obtain ⟨b13, off13, e13, hb13, hd1, hd2⟩ := hP12.cells 0 (by simp)
                      subst e13
                      simp only [Nat.zero_mul, Nat.add_zero, List.getD_cons_zero] at hd1 hd2
                      have HL12 := hid_ (HLj.out.below hb12 (Nat.le_refl _))
                      have Hb12 := hid_ (below_then Hbj.out hb12)
                      have HT12 := hid_ (HTj.out.below hb12 (Nat.le_refl _))
                      have hc12 := cell_below Hc11.out hb12
                      have HR12 := hid_ (HR11.out.below hb12 (Nat.le_refl _))
                      clear hm12 hP12 hb12 hcell11 hb13
                      have J2w := hid_ (J2'.out _ HT12.out)
                      go_wp2_with fail
                      refine J2w.out.mono ?_
                      rintro e w14 ⟨v14, rfl, hm14⟩
                      obtain ⟨a14, c14, rfl, hI14⟩ := hm14.at_
                      have hb14 := hm14.bel
                      have HL14 := hid_ (HL12.out.below hb14 (Nat.le_refl _))
                      have Hb14 := hid_ (below_then Hb12.out hb14)
                      have HT14 := hid_ (HT12.out.below hb14 (Nat.le_refl _))
                      have hc14 := cell_below hc12 hb14
                      have hR14 := HR12.out.below hb14 (Nat.le_refl _)
                      have J3 := hid_ (same_as hI14 hR14 (show Same s s = true from decide_eq_true rfl))
                      clear hm14 hI14 hR14 hb14 hc12 hd1 hd2 J2w
                      go_wp2_with fail
                      refine J3.out.mono ?_
                      rintro e w15 ⟨rfl, q, hq⟩
                      have hb15 : Below w14.heap.size w14 w15 := by rw [hq]; exact below_drewN (Below.refl _ _) q
                      have HL15 := hid_ (HL14.out.below hb15 (Nat.le_refl _))
                      have Hb15 := hid_ (below_then Hb14.out hb15)
                      have HT15 := hid_ (HT14.out.below hb15 (Nat.le_refl _))
                      clear hq hb15 hc14 J3
                      go_wp2
                      go_roundw
                      case rel => exact ⟨j + 1, by omega, by go_num, HL15.out, Hb15.out, HT15.out⟩
                      case measure => simp [intOf]; omega
                    · go_wp2
                      go_roundw
                      case rel => exact ⟨k + 1, by omega, by go_num, HLj.out, Hbj.out⟩
                      case measure => simp [intOf]; omega
              · generalize ordErr m F u = eu at *
                generalize fitsRes m F u = fu at *
                have hqu : (eu != 0) = true := by simpa using hu
                have G6' := hid_ G6.out
                clear G6 hu hrow
                go_wp2_with fail
                refine G6'.out.mono ?_
                rintro e w7 ⟨rfl, hb7⟩
                have HL7 := hid_ (HLr.out.below hb7 (Nat.le_refl _))
                have Hb7 := hid_ (below_then Hbr.out hb7)
                clear hb7 hcell
                go_wp2
                go_roundw
                case rel => exact ⟨k + 1, by omega, by go_num, HL7.out, Hb7.out⟩
                case measure => simp [intOf]; omega
            · go_wp2
              go_ret
              exact ⟨rfl, hbel⟩
        | false =>
          rw [hb] at hof Hord
          rw [← hof] at Htab Hfew
          have Hord' := hid_ Hord.out
          have Htab' := hid_ Htab.out
          have Hfew' := hid_ Hfew.out

          have Hno : Hid (∀ o, ordErr m F o = 0 → fitsRes m F o = true → False) := hid_ (fun o h1 h2 => by
            have := (mark_facts (fits_ok h1 h2).2).2.1
            have h0 : ¬ 0 < fewV m F := of_decide_eq_false hof.symm
            exact h0 this)

          have HE := hid_ he
          clear Hord Htab Hfew hof hb he hbig h100 hsets h h'
          generalize fewV m F = R at *
          generalize ordV m F = ov at *
          go_enter Try.func10, Try.ntmps10
          go_wp2_with fail
          refine (fewLit_calls w).mono ?_
          rintro e w1 ⟨rfl, hb1⟩
          go_wp2_with (first
            | (go_at_call 11; refine (HLong'.out _ (HL.out _ hb1)).mono ?_; rintro e w' ⟨rfl, rfl⟩)
            | (go_at_call 43; fail))
          have G2 := hid_ (Hord'.out _ (HL.out _ hb1))
          go_wp2_with fail
          refine G2.out.mono ?_
          rintro e w2 ⟨v2, rfl, hm2⟩
          have hb2 := below_then hb1 hm2.bel
          obtain ⟨a2, c2, rfl, hI2⟩ := hm2.at_
          clear hm2 hb1
          have G3 := hid_ (Htab'.out _ (HL.out _ hb2))
          go_wp2_with fail
          refine G3.out.mono ?_
          rintro e w3 ⟨v3, rfl, hm3⟩
          have hb3 := below_then hb2 hm3.bel
          obtain ⟨a3, c3, rfl, hT3⟩ := hm3.at_

          have hI3 := hI2.below hm3.bel (Nat.le_refl _)
          clear hm3 hb2 hI2
          have G4 := hid_ (Hfew'.out _ (HL.out _ hb3))
          go_wp2_with fail
          refine G4.out.mono ?_
          rintro e w4 ⟨rfl, hb4'⟩
          have hb4 := below_then hb3 hb4'
          have hI4 := hI3.below hb4' (Nat.le_refl _)
          have hT4 := hT3.below hb4' (Nat.le_refl _)
          clear hb4' hb3 hI3 hT3

          have hb5 := hb4
          have hI5 := hI4
          clear hT4 hb4 hI4
          obtain ⟨w5, rfl⟩ : ∃ w5 : World, w5 = w4 := ⟨_, rfl⟩

          have hLi := lists2 23 hI5 (HO.out _ hb5)
          have Hb6 := hid_ (hb5.alloc (o := .cells #[.slice a2 ov.length c2, .slice a' n' c'] 23) hb5.size)
          have HLi := hid_ hLi
          clear hLi hI5 G2 G3 G4 hb5
          go_wp2
          go_loopw [19] (fun i wr => ∃ k : Nat, k ≤ 2 ∧ i = .int .i64 k ∧ ListsAt wr (some ⟨w5.heap.size, 0, none⟩) 2 2 [ov, o] ∧ Below w.heap.size w wr) (fun i _ => 2 - (intOf i).toNat)
          case atStart => exact ⟨0, by omega, rfl, HLi.out, Hb6.out⟩
          case round =>
            obtain ⟨k, hk, rfl, hL, hbel⟩ := hrel
            by_cases hlt : k < 2
            · obtain ⟨b8, off8, a8, n8, c8, e8, hb8, hcell, hrow⟩ := hL.cells k hlt
              injection e8 with e8; injection e8 with e8 e9
              subst e8; subst e9
              rw [Nat.zero_add] at hcell
              generalize [ov, o].getD k [] = u at hrow
              have G6 := hid_ (sndFitsX_calls m a n c F _ _ _ u wr (HL.out _ hbel) hrow)
              have hk2 : (k : Int) < 2 := by omega
              have hk0 : (0 : Int) ≤ (k : Int) := by omega
              have HLr := hid_ hL
              have Hbr := hid_ hbel
              have Hcell := hid_ hcell
              have Hb8 := hid_ hb8
              clear hL hbel hb8
              by_cases hu : ordErr m F u = 0
              · cases hf : fitsRes m F u with
                | false =>
                  rw [hu, hf] at G6
                  have G6' := hid_ G6.out
                  clear G6 hu hf hrow
                  go_wp2_with fail
                  refine G6'.out.mono ?_
                  rintro e w7 ⟨rfl, hb7⟩
                  have HL7 := hid_ (HLr.out.below hb7 (Nat.le_refl _))
                  have Hb7 := hid_ (below_then Hbr.out hb7)
                  clear hb7 hcell
                  go_wp2
                  go_roundw
                  case rel => exact ⟨k + 1, by omega, by go_num, HL7.out, Hb7.out⟩
                  case measure => simp [intOf]; omega
                | true =>
                  exact (Hno.out u hu hf).elim
              · generalize ordErr m F u = eu at *
                generalize fitsRes m F u = fu at *
                have hqu : (eu != 0) = true := by simpa using hu
                have G6' := hid_ G6.out
                clear G6 hu hrow
                go_wp2_with fail
                refine G6'.out.mono ?_
                rintro e w7 ⟨rfl, hb7⟩
                have HL7 := hid_ (HLr.out.below hb7 (Nat.le_refl _))
                have Hb7 := hid_ (below_then Hbr.out hb7)
                clear hb7 hcell
                go_wp2
                go_roundw
                case rel => exact ⟨k + 1, by omega, by go_num, HL7.out, Hb7.out⟩
                case measure => simp [intOf]; omega
            · go_wp2
              go_ret
              exact ⟨rfl, hbel⟩
      · have hq : (famErr m F != 0) = true := by simpa using he
        generalize famErr m F = er at *
        have Hord' := hid_ Hord.out
        clear Hord hbig h h' he h100
        go_enter Try.func10, Try.ntmps10
        go_wp2_with fail
        refine (fewLit_calls w).mono ?_
        rintro e w1 ⟨rfl, hb1⟩
        go_wp2_with (first
          | (go_at_call 11; refine (HLong'.out _ (HL.out _ hb1)).mono ?_; rintro e w' ⟨rfl, rfl⟩)
          | (go_at_call 43; refine (Hord'.out _ (HL.out _ hb1)).mono ?_; rintro e w2 ⟨v2, rfl, hm2⟩; have hb2 := below_then hb1 hm2.bel; obtain ⟨a2, c2, rfl, -⟩ := hm2.at_))
        go_ret
        exact ⟨rfl, hb2⟩
end Go.Proofs.Ytoopgmoopmbfnaa
