import Derived.Test.YtoopgmoopmbfnaaSn7
import Derived.Test.YtoopgmoopmbfnaaLwJ
namespace Go.Proofs.Ytoopgmoopmbfnaa
open Go.RowKit Go.Proofs.Kv Go.Proofs.Snd

/-! ### SoundSplits -/
/-- the rows of a table that lie in one block -/
def SplitAt (L : List (List Int)) (r p B gv cv g cap : Nat) (X : List Value) (w : World) : Prop :=
  w.ownsRow B 23 1 (.slice (some ⟨gv, 0, none⟩) (L.length + 1) cv) (L.length + 1) (cutV g 0 0 (endsF 0 (splitL L r p))) ∧ w.ownsRow B 3 1 (.slice (some ⟨g, 0, none⟩) L.flatten.length cap) L.flatten.length X ∧ gv ≠ g
theorem SplitAt.below {L : List (List Int)} {r p B gv cv g cap B' : Nat} {X : List Value} {w w' : World} (h : SplitAt L r p B gv cv g cap X w) (hb : Below B' w w') (hB : w.heap.size ≤ B') : SplitAt L r p B gv cv g cap X w' :=
  ⟨own_below h.1 hb hB, own_below h.2.1 hb hB, h.2.2⟩
theorem split_form {L : List (List Int)} {r p B : Nat} {v : Value} {w : World} (h : SplitPost L r p B v w) (hr : r < L.length) (ha : Asc L.flatten.length 0 (endsF 0 (splitL L r p))) :
    ∃ gv cv g cap, v = .slice (some ⟨gv, 0, none⟩) (L.length + 1) cv ∧ SplitAt L r p B gv cv g cap (L.flatten.map (Value.int .i64)) w ∧ ListsAt w (some ⟨gv, 0, none⟩) (L.length + 1) cv (splitL L r p) ∧
      ∀ k, k < L.length + 1 → ∃ o m, (cutV g 0 0 (endsF 0 (splitL L r p)))[k]? = some (.slice (some ⟨g, o, none⟩) m m) ∧ o + m ≤ L.flatten.length := by
  obtain ⟨g, cap, h1, h2, h3⟩ := h
  have hl : (endsF 0 (splitL L r p)).length = L.length + 1 := by rw [endsF_len, splitL_len hr]
  obtain ⟨gv, cv, rfl, -, -, -, -⟩ := own_form h1 (by omega)
  obtain ⟨a, c, e, hI⟩ := IntsAt.own h2
  injection e with e1 e2 e3
  subst e1; subst e3
  have hO := (ownL_cut h1 hI ha h3).at_
  have hc : cutF L.flatten 0 (endsF 0 (splitL L r p)) = splitL L r p := by rw [← splitL_flat (p := p) hr]; exact cut_ends _
  rw [hc, splitL_len hr] at hO
  obtain ⟨a4, c4, e4, hL⟩ := hO
  rw [hl] at h1 e4
  injection e4 with q1 q2 q3
  subst q1; subst q3
  refine ⟨gv, cv, g, cap, by rw [hl], ⟨h1, h2, by simpa [Value.ownBlock] using h3⟩, hL, fun k hk => ?_⟩
  obtain ⟨o, m, k1, _, _, _, k5⟩ := cutV_at hI ha k (by rw [hl]; exact hk)
  exact ⟨o, m, k1, by omega⟩
theorem split_facts {L : List (List Int)} {r p : Int} (h : splitErr L r p = 0) : ∃ r' p' : Nat, r = r' ∧ p = p' ∧ r' < L.length ∧ validT L = 0 ∧ validT (splitL L r' p') = 0 ∧ Asc L.flatten.length 0 (endsF 0 (splitL L r' p')) ∧ splitRes L r p = splitL L r' p' ∧
    joinErr (splitL L r' p') r' = 0 ∧ joinRes (splitL L r' p') r' = L ∧ insideB (classesRes L) (classesRes (splitL L r' p')) = true ∧ L.flatten.length ≤ 6 ∧ L.length < 6 := by
  obtain ⟨hv, r', p', rfl, rfl, hr, hp0, hp, h6⟩ := splitErr_ok h
  have hg := good_of hv
  have hgs := good_split hg hr h6 hp0 hp
  have hv2 := valid_of hgs
  have hj : joinErr (splitL L r' p') r' = 0 := by rw [joinErr, if_pos hv2, if_neg (by rw [splitL_len hr]; omega)]
  refine ⟨r', p', rfl, rfl, hr, hv, hv2, asc_ends _ _ _ hgs.ne (by rw [splitL_flat hr]; omega), by rw [splitRes, if_pos h]; rfl, hj, by rw [joinRes, if_pos hj]; exact join_split hr, inside_yes fun c hc => ?_, hg.flat, h6⟩
  unfold classesRes at hc ⊢
  rw [if_pos hv] at hc
  rw [if_pos hv2]
  exact split_classes hg hr h6 hp0 hp c hc
set_option maxRecDepth 100000 in
set_option maxHeartbeats 1000000 in
theorem soundSplits_calls (a : Option Addr) (n c : Nat) (L : List (List Int)) (r p : Int) (w : World) (h : ListsAt w a n c L) :
    Calls Try.prog 6 #[.slice a n c, .int .i64 r, .int .i64 p] w fun e w' => e = .returned (.bool true) ∧ Below w.heap.size w w' := by
  have HLong0 := hid_ (long_calls a n c L w h)
  have Hk := hid_ known_calls
  cases hbig0 : bigL L with
  | true =>
    rw [hbig0] at HLong0
    have HLong0' := hid_ HLong0
    clear hbig0 HLong0
    go_enter Try.func6, Try.ntmps6
    go_wp2_with (first
      | (go_at_call 11; refine HLong0'.out.out.mono ?_; rintro e w1 ⟨rfl, rfl⟩)
      | (go_at_call 13; refine (Hk.out _).mono ?_; rintro e w2 ⟨rfl, hb2⟩))
    go_ret
    exact ⟨rfl, hb2⟩
  | false =>
    rw [hbig0] at HLong0
    have HLong0' := hid_ HLong0
    have hs := bigL_flat hbig0
    have hno := bigL_no hbig0
    clear hbig0 HLong0
    have H2 := hid_ (fun W h => refSplit_calls a n c L r p W h hs)
    have Hf := hid_ (@split_facts L r p)
    have hn50 : n ≤ 1000 := by have := h.len; omega
    have Hcp := hid_ (fun W h => refCopy_calls a n c L W h hn50 (fun r hr => Nat.le_trans (hno.2 r hr) (by omega)))
    by_cases he : splitErr L r p = 0
    · obtain ⟨r', p', rfl, rfl, f1, f2, f3, f4, f5, f6, f7, f8, f9, f10⟩ := Hf.out he
      have H1 := hid_ (fun a n c W h => sndSplit_ok a n c L r' p' W h he)
      have Hfm := hid_ (fun v W B (h : SplitPost L r' p' B v W) => split_form h f1 f4)
      rw [he, f5] at H2
      have Hv1 := hid_ f2
      have Hv2 := hid_ f3
      have Hj := hid_ (fun a n c W h => sndJoin_calls a n c (splitL L r' p') r' W h)
      rw [f6, f7] at Hj
      have Hin := hid_ f8
      clear f1 f2 f3 f4 f5 f6 f7 f8 he Hf hs hno hn50

      have H1' := hid_ H1.out
      have H2' := hid_ H2.out
      have Hj' := hid_ Hj.out
      have Hcp' := hid_ Hcp.out
      clear H1 H2 Hj Hcp
      go_enter Try.func6, Try.ntmps6
      have G1 := hid_ (Hcp'.out w h)
      go_wp2_with (first
          | (go_at_call 11; refine HLong0'.out.out.mono ?_; rintro e w1 ⟨rfl, rfl⟩)
          | fail)
      refine G1.out.mono ?_
      rintro e w1 ⟨v1, rfl, hm1⟩
      have hb1 := hm1.bel
      obtain ⟨a1, c1, rfl, hI1⟩ := hm1.at_
      clear hm1
      have hB1 := hb1
      have h_1 := h.below hb1 (Nat.le_refl _)
      clear h G1 hb1
      have HB1 := hid_ hB1
      have HOWN := hid_ hI1
      have HT1 := hid_ h_1
      clear hB1
      have G2 := hid_ (H1'.out _ _ _ w1 hI1)
      go_wp2_with fail
      refine G2.out.mono ?_
      rintro e w2 ⟨v2, rfl, hsp2, hb2⟩
      have hB2 := hb2
      have h_2 := h_1.below hb2 (Nat.le_refl _)
      have own_2 := hI1.below hb2 (Nat.le_refl _)
      clear h_1 hI1 G2 hb2
      obtain ⟨gv, cv, g, cap, rfl, hS2, hA2, hcut⟩ := Hfm.out _ _ _ hsp2
      have Hcut := hid_ hcut
      clear hcut Hfm hsp2
      have G3 := hid_ (H2'.out w2 h_2)
      go_wp2_with fail
      refine G3.out.mono ?_
      rintro e w3 ⟨v3, rfl, hm3⟩
      have hb3 := hm3.bel
      obtain ⟨a3, c3, rfl, hI3⟩ := hm3.at_
      clear hm3
      have hB3 := below_then hB2 hb3
      have h_3 := h_2.below hb3 (Nat.le_refl _)
      have s_3 := hS2.below hb3 (Nat.le_refl _)
      have a_3 := hA2.below hb3 (Nat.le_refl _)
      clear hB2 h_2 hS2 hA2 G3 hb3
      have G4 := hid_ (sameL_as a_3 hI3 (sameL_refl _))
      go_wp2_with fail
      refine G4.out.mono ?_
      rintro e w4 ⟨rfl, q4, hq4⟩
      have hb4 : Below w3.heap.size w3 w4 := by rw [hq4]; exact below_drewN (Below.refl _ _) _
      clear hq4
      have hB4 := below_then hB3 hb4
      have h_4 := h_3.below hb4 (Nat.le_refl _)
      have s_4 := s_3.below hb4 (Nat.le_refl _)
      have a_4 := a_3.below hb4 (Nat.le_refl _)
      have b_4 := hI3.below hb4 (Nat.le_refl _)
      clear hB3 h_3 s_3 a_3 hI3 G4 hb4
      have G5 := hid_ (Hj'.out _ _ _ w4 a_4)
      go_wp2_with fail
      refine G5.out.mono ?_
      rintro e w5 ⟨v5, rfl, hm5⟩
      have hb5 := hm5.bel
      obtain ⟨a5, c5, rfl, hI5⟩ := hm5.at_
      clear hm5
      have hB5 := below_then hB4 hb5
      have h_5 := h_4.below hb5 (Nat.le_refl _)
      have s_5 := s_4.below hb5 (Nat.le_refl _)
      have a_5 := a_4.below hb5 (Nat.le_refl _)
      clear hB4 h_4 s_4 a_4 G5 hb5
      have G6 := hid_ (show Calls Try.prog 25 _ w5 fun e w' => ∃ v, e = .returned (.tuple #[v, .int .i64 0]) ∧ MadeL 23 w5 w' v (classesRes L) from by rw [← Hv1.out]; exact sndClasses_calls a n c L w5 h_5)
      go_wp2_with fail
      refine G6.out.mono ?_
      rintro e w6 ⟨v6, rfl, hm6⟩
      have hb6 := hm6.bel
      obtain ⟨a6, c6, rfl, hI6⟩ := hm6.at_
      clear hm6
      have hB6 := below_then hB5 hb6
      have h_6 := h_5.below hb6 (Nat.le_refl _)
      have s_6 := s_5.below hb6 (Nat.le_refl _)
      have a_6 := a_5.below hb6 (Nat.le_refl _)
      have back_6 := hI5.below hb6 (Nat.le_refl _)
      clear hB5 h_5 s_5 a_5 hI5 G6 hb6
      have G7 := hid_ (show Calls Try.prog 25 _ w6 fun e w' => ∃ v, e = .returned (.tuple #[v, .int .i64 0]) ∧ MadeL 23 w6 w' v (classesRes (splitL L r' p')) from by rw [← Hv2.out]; exact sndClasses_calls _ _ _ _ w6 a_6)
      go_wp2_with fail
      refine G7.out.mono ?_
      rintro e w7 ⟨v7, rfl, hm7⟩
      have hb7 := hm7.bel
      obtain ⟨a7, c7, rfl, hI7⟩ := hm7.at_
      clear hm7
      have hB7 := below_then hB6 hb7
      have h_7 := h_6.below hb7 (Nat.le_refl _)
      have s_7 := s_6.below hb7 (Nat.le_refl _)
      have a_7 := a_6.below hb7 (Nat.le_refl _)
      have back_7 := back_6.below hb7 (Nat.le_refl _)
      have x_7 := hI6.below hb7 (Nat.le_refl _)
      clear hB6 h_6 s_6 a_6 back_6 hI6 G7 hb7
      have G8 := hid_ (sameL_as back_7 h_7 (sameL_refl _))
      go_wp2_with fail
      refine G8.out.mono ?_
      rintro e w8 ⟨rfl, q8, hq8⟩
      have hb8 : Below w7.heap.size w7 w8 := by rw [hq8]; exact below_drewN (Below.refl _ _) _
      clear hq8
      have hB8 := below_then hB7 hb8
      have h_8 := h_7.below hb8 (Nat.le_refl _)
      have s_8 := s_7.below hb8 (Nat.le_refl _)
      have a_8 := a_7.below hb8 (Nat.le_refl _)
      have back_8 := back_7.below hb8 (Nat.le_refl _)
      have x_8 := x_7.below hb8 (Nat.le_refl _)
      have y_8 := hI7.below hb8 (Nat.le_refl _)
      clear hB7 h_7 s_7 a_7 back_7 x_7 hI7 G8 hb8
      have G9 := hid_ (inside_calls _ _ _ _ _ _ _ _ w8 x_8 y_8 Hin.out)
      go_wp2_with fail
      refine G9.out.mono ?_
      rintro e w9 ⟨rfl, q9, hq9⟩
      have hb9 : Below w8.heap.size w8 w9 := by rw [hq9]; exact below_drewN (Below.refl _ _) _
      clear hq9
      have hB9 := below_then hB8 hb9
      have h_9 := h_8.below hb9 (Nat.le_refl _)
      have s_9 := s_8.below hb9 (Nat.le_refl _)
      have a_9 := a_8.below hb9 (Nat.le_refl _)
      have x_9 := x_8.below hb9 (Nat.le_refl _)
      have y_9 := y_8.below hb9 (Nat.le_refl _)
      clear hB8 h_8 s_8 a_8 x_8 y_8 G9 hb9
      have HS := hid_ s_9
      have HB := hid_ hB9
      clear s_9 hB9 h_9 a_9
      go_wp2
      go_loopw [19, 20] (fun i _ wr => ∃ (k : Nat) (X : List Value), k ≤ L.length + 1 ∧ i = .int .i64 k ∧ SplitAt L r' p' w1.heap.size gv cv g cap X wr ∧ Below w1.heap.size w1 wr) (fun i _ _ => (L.length + 1) - (intOf i).toNat)
      case atStart => exact ⟨0, _, by omega, rfl, HS.out, HB.out⟩
      case round =>
        obtain ⟨k, X, hk, rfl, hS, hbel⟩ := hrel
        have HS1 := hid_ hS
        have HB3 := hid_ hbel
        clear hS hbel
        by_cases hlt : k < L.length + 1
        · obtain ⟨o, m, hcv, hom⟩ := Hcut.out k hlt
          have hm6 : m ≤ 6 := by omega
          have Hcv := hid_ hcv
          clear hcv
          have hL6 : L.length ≤ 6 := by omega
          obtain ⟨wo, rfl⟩ : ∃ wo : World, wo = wr := ⟨_, rfl⟩
          go_wp2
          go_loopw [20] (fun i wr => ∃ (j : Nat) (X : List Value), j ≤ m ∧ i = .int .i64 j ∧ SplitAt L r' p' w1.heap.size gv cv g cap X wr ∧ Below w1.heap.size w1 wr) (fun i _ => m - (intOf i).toNat)
          case atStart => exact ⟨0, _, by omega, rfl, HS1.out, HB3.out⟩
          case round =>
            obtain ⟨j, X, hj, rfl, hS, hbel⟩ := hrel
            obtain ⟨s1, s2, s3⟩ := hS
            have hc1 : wr.cell? ⟨gv, k, none⟩ = some (.slice (some ⟨g, o, none⟩) m m) := by rw [s1.cellAt k (by omega)]; exact Hcv.out
            by_cases hlt2 : j < m
            · have hXl : X.length = L.flatten.length := by have := s2.1; omega
              have hc2 : wr.cell? ⟨g, o + j, none⟩ = some (X[o + j]'(by omega)) := by rw [s2.cellAt (o + j) (by omega)]; simp
              generalize X[o + j]'(by omega) = u at hc2
              have hf2 := s2.frozenAt (o + j)
              obtain ⟨t1, t2⟩ := s2.stored (o + j) (.int .i64 (-1))
              have HS3 : Hid (SplitAt L r' p' w1.heap.size gv cv g cap (X.set (o + j) (.int .i64 (-1))) (wr.setCell ⟨g, o + j, none⟩ (.int .i64 (-1)))) := hid_ ⟨s1.kept t2 (.inr (by simp [Value.ownBlock]; exact s3)), t1, s3⟩
              have HB4 := hid_ (hbel.setCell (p := ⟨g, o + j, none⟩) (s2.lt g rfl).1 (.int .i64 (-1)))
              clear s1 s2 s3 t1 t2 hXl hbel
              go_wp2
              go_roundw
              case rel => exact ⟨j + 1, _, by omega, by go_num, HS3.out, HB4.out⟩
              case measure => simp [intOf]; omega
            · obtain rfl : j = m := by omega
              have HS3 : Hid (SplitAt L r' p' w1.heap.size gv cv g cap X wr) := hid_ ⟨s1, s2, s3⟩
              have HB4 := hid_ hbel
              clear s1 s2 s3 hbel
              go_wp2
              go_roundw
              case rel => exact ⟨k + 1, _, by omega, by go_num, HS3.out, HB4.out⟩
              case measure => simp [intOf]; omega
        · obtain rfl : k = L.length + 1 := by omega
          have hI1 := HOWN.out.below HB3.out (Nat.le_refl _)
          have hI2 := HT1.out.below HB3.out (Nat.le_refl _)
          have Hsame := hid_ (sameL_as hI1 hI2 (sameL_refl _))
          have HB2 := hid_ (below_then HB1.out HB3.out)
          clear hI1 hI2
          go_wp2_with fail
          refine Hsame.out.mono ?_
          rintro e w19 ⟨rfl, q9, hq9⟩
          have hb9 : Below w.heap.size w w19 := by rw [hq9]; exact below_drewN HB2.out _
          clear hq9
          have Hk9 := hid_ (Hk.out w19)
          go_wp2_with fail
          refine Hk9.out.mono ?_
          rintro e w20 ⟨rfl, hb10⟩
          go_wp2
          go_ret
          exact ⟨rfl, below_then hb9 hb10⟩
    · have H1 := hid_ (fun a n c W h => sndSplit_no a n c L r p W h he)
      have Hres : splitRes L r p = [] := if_neg he
      rw [Hres] at H2
      clear Hres
      generalize splitErr L r p = er at he H1 H2
      have hq : (er != 0) = true := by simpa using he
      clear he Hf hs hno hn50
      have H1' := hid_ H1.out
      have H2' := hid_ H2.out
      have Hcp' := hid_ Hcp.out
      clear H1 H2 Hcp
      go_enter Try.func6, Try.ntmps6
      have G1 := hid_ (Hcp'.out w h)
      go_wp2_with (first
          | (go_at_call 11; refine HLong0'.out.out.mono ?_; rintro e w1 ⟨rfl, rfl⟩)
          | fail)
      refine G1.out.mono ?_
      rintro e w1 ⟨v1, rfl, hm1⟩
      have hb1 := hm1.bel
      obtain ⟨a1, c1, rfl, hI1⟩ := hm1.at_
      clear hm1
      have hB1 := hb1
      have h_1 := h.below hb1 (Nat.le_refl _)
      clear h G1 hb1
      have G2 := hid_ (H1'.out _ _ _ w1 hI1)
      go_wp2_with fail
      refine G2.out.mono ?_
      rintro e w2 ⟨rfl, hb2⟩
      have hB2 := below_then hB1 hb2
      have h_2 := h_1.below hb2 (Nat.le_refl _)
      have own_2 := hI1.below hb2 (Nat.le_refl _)
      clear hB1 h_1 hI1 G2 hb2
      have G3 := hid_ (H2'.out w2 h_2)
      go_wp2_with fail
      refine G3.out.mono ?_
      rintro e w3 ⟨v3, rfl, hm3⟩
      have hb3 := hm3.bel
      obtain ⟨a3, c3, rfl, hI3⟩ := hm3.at_
      clear hm3
      have hB3 := below_then hB2 hb3
      have h_3 := h_2.below hb3 (Nat.le_refl _)
      have own_3 := own_2.below hb3 (Nat.le_refl _)
      clear hB2 h_2 own_2 G3 hb3
      have G4 := hid_ (sameL_as (ListsAt.nil w3 none 0 (by omega)) hI3 (sameL_refl _))
      go_wp2_with fail
      refine G4.out.mono ?_
      rintro e w4 ⟨rfl, q4, hq4⟩
      have hb4 : Below w3.heap.size w3 w4 := by rw [hq4]; exact below_drewN (Below.refl _ _) _
      clear hq4
      have hB4 := below_then hB3 hb4
      have h_4 := h_3.below hb4 (Nat.le_refl _)
      have own_4 := own_3.below hb4 (Nat.le_refl _)
      have b_4 := hI3.below hb4 (Nat.le_refl _)
      clear hB3 h_3 own_3 hI3 G4 hb4
      have G5 := hid_ (Hk.out w4)
      go_wp2_with fail
      refine G5.out.mono ?_
      rintro e w5 ⟨rfl, hb5⟩
      have hB5 := below_then hB4 hb5
      have h_5 := h_4.below hb5 (Nat.le_refl _)
      have own_5 := own_4.below hb5 (Nat.le_refl _)
      have b_5 := b_4.below hb5 (Nat.le_refl _)
      clear hB4 h_4 own_4 b_4 G5 hb5
      go_wp2
      go_ret
      exact ⟨rfl, hB5⟩
end Go.Proofs.Ytoopgmoopmbfnaa
