import Derived.Test.YtoopgmoopmbfnaaSn6
import Derived.Test.YtoopgmoopmbfnaaLwJ
namespace Go.Proofs.Ytoopgmoopmbfnaa
open Go.RowKit Go.Proofs.Kv Go.Proofs.Snd

/-! ### SoundRenames -/
set_option maxRecDepth 100000 in
set_option maxHeartbeats 1000000 in
theorem soundRenames_calls (a : Option Addr) (n c : Nat) (L : List (List Int)) (a' : Option Addr) (n' c' : Nat) (T : List Int) (w : World) (h : ListsAt w a n c L) (h' : IntsAt w a' n' c' T) :
    Calls Try.prog 8 #[.slice a n c, .slice a' n' c'] w fun e w' => e = .returned (.bool true) ∧ Below w.heap.size w w' := by
  have HLong0 := hid_ (long_calls a n c L w h)
  have Hlarge1 := hid_ (large_calls a' n' c' T w h')
  have Hk := hid_ known_calls
  cases hbig0 : bigL L with
  | true =>
    rw [hbig0] at HLong0
    have HLong0' := hid_ HLong0
    clear hbig0 HLong0
    go_enter Try.func8, Try.ntmps8
    go_wp2_with (first
      | (go_at_call 11; refine HLong0'.out.out.mono ?_; rintro e w1 ⟨rfl, rfl⟩)
      | (go_at_call 13; refine (Hk.out _).mono ?_; rintro e w2 ⟨rfl, hb2⟩))
    go_ret
    exact ⟨rfl, hb2⟩
  | false =>
    cases hbig1 : bigOne T with
    | true =>
      rw [hbig0] at HLong0
      have HLong0' := hid_ HLong0
      rw [hbig1] at Hlarge1
      have Hlarge1' := hid_ Hlarge1
      clear hbig0 HLong0 hbig1 Hlarge1
      go_enter Try.func8, Try.ntmps8
      go_wp2_with (first
        | (go_at_call 11; refine HLong0'.out.out.mono ?_; rintro e w1 ⟨rfl, rfl⟩)
        | (go_at_call 12; refine Hlarge1'.out.out.mono ?_; rintro e w1 ⟨rfl, rfl⟩)
        | (go_at_call 13; refine (Hk.out _).mono ?_; rintro e w2 ⟨rfl, hb2⟩))
      go_ret
      exact ⟨rfl, hb2⟩
    | false =>
      rw [hbig0] at HLong0
      have HLong0' := hid_ HLong0
      rw [hbig1] at Hlarge1
      have Hlarge1' := hid_ Hlarge1
      have hs := bigL_flat hbig0
      clear hbig0 HLong0 hbig1 Hlarge1
      have H1 := hid_ (fun W h h' => sndRename_calls a n c L a' n' c' T W h h')
      have H2 := hid_ (fun W h h' => refRename_calls a n c L a' n' c' T W h h' hs)
      have Hf := hid_ (@ren_facts L T)
      by_cases he : renErr L T = 0
      · obtain ⟨f1, f2, f3, f4, f5, f6, f7⟩ := Hf.out he
        rw [he] at H1 H2
        have HT := hid_ f1
        have Hv1 := hid_ f2
        have Hv2 := hid_ f3
        have Hln := hid_ f4
        have Hfold := hid_ f5
        have Hin := hid_ f6
        have HN := hid_ f7
        have hn6 : (n' : Int) = 6 := by rw [← h'.len, ord_len f1]; rfl
        have Hio := hid_ (fun W (hW : IntsAt W a' n' c' T) => refIsOrder_calls a' n' c' T W hW)
        rw [f1] at Hio
        clear f1 f2 f3 f4 f5 f6 f7 he Hf hs
        obtain ⟨i0, hi0, hz0, hz1, hz2⟩ := info_parts Try.infoInt
        have H1' := hid_ H1.out
        have H2' := hid_ H2.out
        have Hio' := hid_ Hio.out
        clear H1 H2 Hio
        go_enter Try.func8, Try.ntmps8
        have G1 := hid_ (H1'.out w h h')
        go_wp2_with (first
            | (go_at_call 11; refine HLong0'.out.out.mono ?_; rintro e w1 ⟨rfl, rfl⟩)
            | (go_at_call 12; refine Hlarge1'.out.out.mono ?_; rintro e w1 ⟨rfl, rfl⟩)
            | fail)
        refine G1.out.mono ?_
        rintro e w1 ⟨v1, rfl, hm1⟩
        have hb1 := hm1.bel
        obtain ⟨a1, c1, rfl, hI1⟩ := hm1.at_
        clear hm1
        have hB1 := hb1
        have h_1 := h.below hb1 (Nat.le_refl _)
        have t_1 := h'.below hb1 (Nat.le_refl _)
        clear h h' G1 hb1
        have G2 := hid_ (H2'.out w1 h_1 t_1)
        go_wp2_with fail
        refine G2.out.mono ?_
        rintro e w2 ⟨v2, rfl, hm2⟩
        have hb2 := hm2.bel
        obtain ⟨a2, c2, rfl, hI2⟩ := hm2.at_
        clear hm2
        have hB2 := below_then hB1 hb2
        have h_2 := h_1.below hb2 (Nat.le_refl _)
        have t_2 := t_1.below hb2 (Nat.le_refl _)
        have o1_2 := hI1.below hb2 (Nat.le_refl _)
        clear hB1 h_1 t_1 hI1 G2 hb2
        have G3 := hid_ (sameL_as o1_2 hI2 (sameL_refl _))
        go_wp2_with fail
        refine G3.out.mono ?_
        rintro e w3 ⟨rfl, q3, hq3⟩
        have hb3 : Below w2.heap.size w2 w3 := by rw [hq3]; exact below_drewN (Below.refl _ _) _
        clear hq3
        have hB3 := below_then hB2 hb3
        have h_3 := h_2.below hb3 (Nat.le_refl _)
        have t_3 := t_2.below hb3 (Nat.le_refl _)
        have o1_3 := o1_2.below hb3 (Nat.le_refl _)
        have o2_3 := hI2.below hb3 (Nat.le_refl _)
        clear hB2 h_2 t_2 o1_2 hI2 G3 hb3
        have G4 := hid_ (Hio'.out w3 t_3)
        go_wp2_with fail
        refine G4.out.mono ?_
        rintro e w4 ⟨rfl, hq4⟩
        have hb4 : Below w3.heap.size w3 w4 := by rw [← hq4]; exact Below.refl _ _
        clear hq4
        have hB4 := below_then hB3 hb4
        have h_4 := h_3.below hb4 (Nat.le_refl _)
        have t_4 := t_3.below hb4 (Nat.le_refl _)
        have o1_4 := o1_3.below hb4 (Nat.le_refl _)
        clear hB3 h_3 t_3 o1_3 G4 hb4
        have G5 := hid_ (show Calls Try.prog 25 _ w4 fun e w' => ∃ v, e = .returned (.tuple #[v, .int .i64 0]) ∧ MadeL 23 w4 w' v (classesRes L) from by rw [← Hv1.out]; exact sndClasses_calls a n c L w4 h_4)
        go_wp2_with fail
        refine G5.out.mono ?_
        rintro e w5 ⟨v5, rfl, hm5⟩
        have hb5 := hm5.bel
        obtain ⟨a5, c5, rfl, hI5⟩ := hm5.at_
        clear hm5
        have hB5 := below_then hB4 hb5
        have h_5 := h_4.below hb5 (Nat.le_refl _)
        have t_5 := t_4.below hb5 (Nat.le_refl _)
        have o1_5 := o1_4.below hb5 (Nat.le_refl _)
        clear hB4 h_4 t_4 o1_4 G5 hb5
        have G6 := hid_ (show Calls Try.prog 25 _ w5 fun e w' => ∃ v, e = .returned (.tuple #[v, .int .i64 0]) ∧ MadeL 23 w5 w' v (classesRes (renRes L T)) from by rw [← Hv2.out]; exact sndClasses_calls _ _ _ _ w5 o1_5)
        go_wp2_with fail
        refine G6.out.mono ?_
        rintro e w6 ⟨v6, rfl, hm6⟩
        have hb6 := hm6.bel
        obtain ⟨a6, c6, rfl, hI6⟩ := hm6.at_
        clear hm6
        have hB6 := below_then hB5 hb6
        have h_6 := h_5.below hb6 (Nat.le_refl _)
        have t_6 := t_5.below hb6 (Nat.le_refl _)
        have o1_6 := o1_5.below hb6 (Nat.le_refl _)
        have x_6 := hI5.below hb6 (Nat.le_refl _)
        clear hB5 h_5 t_5 o1_5 hI5 G6 hb6
        rw [Hln.out] at hI6 ⊢
        have HX := hid_ x_6
        have HY := hid_ hI6
        have HTT := hid_ t_6
        clear x_6 hI6
        generalize hXC : classesRes L = XC at *
        clear hXC
        generalize hN : XC.length = N at *
        have Hn := hid_ hN
        clear hN
        have HB0 := hid_ hB6
        have hN36 := HN.out
        go_wp2
        go_loopw [13, 14] (fun z i wr => ∃ k : Nat, k ≤ N ∧ i = .int .i64 k ∧ OwnL 23 wr 0 z (foldI ((XC.take k).map fun c => sorted (c.map (toF T)))) ∧ Below w6.heap.size w6 wr) (fun _ i _ => N - (intOf i).toNat)
        case atStart => exact ⟨0, by omega, rfl, OwnL.nil _ _ _, Below.refl _ _⟩
        case round =>
          obtain ⟨k, hk, rfl, hown, hbel⟩ := hrel
          by_cases hlt : k < N
          · have hkl : k < XC.length := by rw [Hn.out]; exact hlt
            have hmem : XC.getD k [] ∈ XC := by rw [List.getD, List.getElem?_eq_getElem hkl, Option.getD_some]; exact List.getElem_mem _
            obtain ⟨hl6, hrg⟩ := Hin.out _ hmem
            have Hrg := hid_ hrg
            have Hsn : Hid (foldI ((XC.take (k + 1)).map fun c => sorted (c.map (toF T))) = insertL (foldI ((XC.take k).map fun c => sorted (c.map (toF T)))) (sorted ((XC.getD k []).map (toF T)))) := hid_ (by
              rw [Kv.take_snoc XC [] k hkl, List.map_append, List.map_singleton, foldI_snoc])
            have Hll : Hid ((foldI ((XC.take k).map fun c => sorted (c.map (toF T)))).length ≤ 10000) := hid_ (by
              refine Nat.le_trans (foldI_le _) ?_
              rw [List.length_map, List.length_take]; omega)
            generalize foldI ((XC.take k).map fun c => sorted (c.map (toF T))) = cur at hown Hsn Hll
            have HX2 := hid_ (HX.out.below hbel (Nat.le_refl _))
            obtain ⟨b, off, a1, n1, c1, rfl, hb, hcell, hrow⟩ := HX2.out.cells k hlt
            have hrl := hrow.len
            clear hrg hmem
            generalize XC.getD k [] = r at *
            rw [hrl] at hl6
            have Hrl := hid_ hrl
            clear hrl
            have HO := hid_ hown
            have HB := hid_ hbel
            clear hown hbel
            obtain ⟨wo, rfl⟩ : ∃ wo : World, wo = wr := ⟨_, rfl⟩
            have HR := hid_ hrow
            have Hcell := hid_ hcell
            have Hb := hid_ hb
            have HT2 := hid_ (HTT.out.below HB.out (Nat.le_refl _))
            clear hrow hcell hb
            go_wp2
            go_loopw [15, 16] (fun s i wr => ∃ j : Nat, j ≤ n1 ∧ i = .int .i64 j ∧ wr.ownsRow wo.heap.size 3 1 s j (((r.take j).map (toF T)).map (Value.int .i64)) ∧ Below wo.heap.size wo wr) (fun _ i _ => n1 - (intOf i).toNat)
            case atStart => exact ⟨0, by omega, rfl, World.ownsRow_nil _ _ _ _, Below.refl _ _⟩
            case round =>
              obtain ⟨j, hj, rfl, hown, hbel⟩ := hrel
              have hc1 := (hbel.cell (p := ⟨b, off + k, none⟩) Hb.out).trans Hcell.out
              by_cases hlt2 : j < n1
              · obtain ⟨b1, off1, rfl, hb1, hcx⟩ := (HR.out.below hbel (Nat.le_refl _)).cells j hlt2
                have hjr : j < r.length := by rw [Hrl.out]; exact hlt2
                have hxr := Hrg.out (r.getD j 0) (getD_mem hjr)
                obtain ⟨x, hx⟩ := Int.eq_ofNat_of_zero_le hxr.1
                have Hs : Hid ((r.take (j + 1)).map (toF T) = (r.take j).map (toF T) ++ [T.getD x 0]) := hid_ (by
                  rw [Kv.take_snoc r 0 j hjr, List.map_append, hx]; rfl)
                rw [hx] at hcx
                have hx6 : x < n' := by omega
                obtain ⟨b2, off2, e2, hb2, hct⟩ := (HT2.out.below hbel (Nat.le_refl _)).cells x hx6
                subst e2
                have hxn : ¬ (n' : Int) ≤ (x : Int) := by omega
                have hsz := hbel.size
                have Hj1 : j + 1 ≤ 1000000 := by omega
                generalize T.getD x 0 = u at hct Hs
                clear hx hxr
                go_wp2_with (at_builtin; refine wpList_append_ints _ rfl (.tmp 109) (.tmp 120) _ rfl wo.heap.size 3 i0 Try.underlying23 hi0 hz0 hz1 hz2 _ j _ rfl (hown.alloc _) _ 1 1 [u] rfl (IntsAt.one wr u 3) Hj1 (le_alloc hsz) ?_; intro v' w1 hown1 hg1 hat1)
                go_roundw
                case rel => exact ⟨j + 1, by omega, by go_num, by rw [Hs.out]; exact hown1, (hbel.alloc hsz _).grown hg1 (le_alloc hsz) fun r e => (hown.lt r e).1⟩
                case measure => simp [intOf]; omega
              · obtain rfl : j = n1 := by omega
                rw [show r.take j = r from List.take_of_length_le (by rw [Hrl.out]; exact Nat.le_refl _)] at hown
                obtain ⟨a3, c3, rfl, hI3⟩ := IntsAt.own hown
                have Hst := hid_ (refSorted_calls a3 j c3 _ wr hI3)
                have HO2 := hid_ (HO.out.below hbel (Nat.le_refl _))
                have HB2 := hid_ (HB.out.trans (hbel.mono HB.out.size))
                clear hown hI3 hbel
                go_wp2_with fail
                refine Hst.out.mono ?_
                rintro e w2 ⟨v2, rfl, hm2⟩
                obtain ⟨a2, c2, hv2, hI2⟩ := hm2.at_
                subst hv2
                have hb3 := HB2.out.trans (hm2.bel.mono HB2.out.size)
                have Hin2 := hid_ (insert_calls _ cur a2 _ c2 _ w2 (HO2.out.below hm2.bel (Nat.le_refl _)) hI2 Hll.out)
                clear hm2 hI2
                go_wp2_with fail
                refine Hin2.out.mono ?_
                rintro e w3 ⟨v3, rfl, hown3, hb4⟩
                have hb5 := hb3.trans (hb4.mono hb3.size)
                clear hb4 Hin2
                go_wp2
                go_roundw
                case rel => exact ⟨k + 1, by omega, by go_num, by rw [Hsn.out]; exact hown3, hb5⟩
                case measure => simp [intOf]; omega
          · obtain rfl : k = N := by omega
            rw [show XC.take k = XC from List.take_of_length_le (by rw [Hn.out]; exact Nat.le_refl _), Hfold.out] at hown
            obtain ⟨a3, c3, rfl, hI3⟩ := hown.at_
            have HY2 := HY.out.below hbel (Nat.le_refl _)
            have Hsame := hid_ (sameL_as HY2 hI3 (sameL_refl _))
            have HB2 := hid_ (below_then HB0.out hbel)
            clear hown hI3 HY2 hbel
            go_wp2_with fail
            refine Hsame.out.mono ?_
            rintro e w9 ⟨rfl, q9, hq9⟩
            have hb9 : Below w.heap.size w w9 := by rw [hq9]; exact below_drewN HB2.out _
            clear hq9
            have Hk9 := hid_ (Hk.out w9)
            go_wp2_with fail
            refine Hk9.out.mono ?_
            rintro e w10 ⟨rfl, hb10⟩
            go_wp2
            go_ret
            exact ⟨rfl, below_then hb9 hb10⟩
      · generalize renErr L T = er at he H1 H2
        have hq : (er != 0) = true := by simpa using he
        clear he Hf hs
        have H1' := hid_ H1.out
        have H2' := hid_ H2.out
        clear H1 H2
        go_enter Try.func8, Try.ntmps8
        have G1 := hid_ (H1'.out w h h')
        go_wp2_with (first
            | (go_at_call 11; refine HLong0'.out.out.mono ?_; rintro e w1 ⟨rfl, rfl⟩)
            | (go_at_call 12; refine Hlarge1'.out.out.mono ?_; rintro e w1 ⟨rfl, rfl⟩)
            | fail)
        refine G1.out.mono ?_
        rintro e w1 ⟨v1, rfl, hm1⟩
        have hb1 := hm1.bel
        obtain ⟨a1, c1, rfl, hI1⟩ := hm1.at_
        clear hm1
        have hB1 := hb1
        have h_1 := h.below hb1 (Nat.le_refl _)
        have t_1 := h'.below hb1 (Nat.le_refl _)
        clear h h' G1 hb1
        have G2 := hid_ (H2'.out w1 h_1 t_1)
        go_wp2_with fail
        refine G2.out.mono ?_
        rintro e w2 ⟨v2, rfl, hm2⟩
        have hb2 := hm2.bel
        obtain ⟨a2, c2, rfl, hI2⟩ := hm2.at_
        clear hm2
        have hB2 := below_then hB1 hb2
        have h_2 := h_1.below hb2 (Nat.le_refl _)
        have t_2 := t_1.below hb2 (Nat.le_refl _)
        have o1_2 := hI1.below hb2 (Nat.le_refl _)
        clear hB1 h_1 t_1 hI1 G2 hb2
        have G3 := hid_ (sameL_as o1_2 hI2 (sameL_refl _))
        go_wp2_with fail
        refine G3.out.mono ?_
        rintro e w3 ⟨rfl, q3, hq3⟩
        have hb3 : Below w2.heap.size w2 w3 := by rw [hq3]; exact below_drewN (Below.refl _ _) _
        clear hq3
        have hB3 := below_then hB2 hb3
        have h_3 := h_2.below hb3 (Nat.le_refl _)
        have t_3 := t_2.below hb3 (Nat.le_refl _)
        have o1_3 := o1_2.below hb3 (Nat.le_refl _)
        have o2_3 := hI2.below hb3 (Nat.le_refl _)
        clear hB2 h_2 t_2 o1_2 hI2 G3 hb3
        have G4 := hid_ (Hk.out w3)
        go_wp2_with fail
        refine G4.out.mono ?_
        rintro e w4 ⟨rfl, hb4⟩
        have hB4 := below_then hB3 hb4
        have h_4 := h_3.below hb4 (Nat.le_refl _)
        have t_4 := t_3.below hb4 (Nat.le_refl _)
        have o1_4 := o1_3.below hb4 (Nat.le_refl _)
        have o2_4 := o2_3.below hb4 (Nat.le_refl _)
        clear hB3 h_3 t_3 o1_3 o2_3 G4 hb4
        go_wp2
        go_ret
        exact ⟨rfl, hB4⟩
end Go.Proofs.Ytoopgmoopmbfnaa
