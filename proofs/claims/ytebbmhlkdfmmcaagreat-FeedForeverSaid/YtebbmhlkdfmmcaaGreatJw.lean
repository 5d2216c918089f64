import Derived.Test.YtebbmhlkdfmmcaaGreatJh
import Derived.RegionTactic
namespace Go.Proofs.YtebbmhlkdfmmcaaGreat
open Go.RowKit Go.Proofs.Kv

/-! ### the smallest weights: the program -/
/-- block B holds the weights ws -/
def Blk (wr : World) (B : Nat) (ws : List Int) : Prop := wr.heap[B]? = some (.cells (ws.map (Value.int .i64)).toArray 3 (0, 0))
theorem Blk.lt {wr : World} {B : Nat} {ws : List Int} (h : Blk wr B ws) : B < wr.heap.size := (Array.getElem?_eq_some_iff.1 h).1
theorem Blk.cell {wr : World} {B : Nat} {ws : List Int} (h : Blk wr B ws) {i : Nat} (hi : i < ws.length) : wr.cell? ⟨B, i, none⟩ = some (.int .i64 (ws.getD i 0)) := by
  rw [Go.Joins.cell_of_block h]; simp [List.getD, List.getElem?_eq_getElem hi]
theorem Blk.ints {wr : World} {B : Nat} {ws : List Int} (h : Blk wr B ws) (hl : ws.length = 6) : IntsAt wr (some ⟨B, 0, none⟩) 6 6 ws :=
  ⟨hl, Nat.le_refl _, by omega, fun i hi => ⟨B, 0, rfl, h.lt, by rw [Nat.zero_add]; exact h.cell (by omega)⟩⟩
theorem Blk.below {wr wr' : World} {B : Nat} {ws : List Int} (h : Blk wr B ws) (hb : Below wr.heap.size wr wr') : Blk wr' B ws := (hb.block B h.lt).trans h
theorem Blk.set {wr : World} {B : Nat} {ws : List Int} (h : Blk wr B ws) (i : Nat) (x : Int) : Blk (wr.setCell ⟨B, i, none⟩ (.int .i64 x)) B (ws.set i x) := by
  have := Go.Joins.block_setCell h (i := i) (.int .i64 x)
  rw [Blk, this]
  simp [List.map_set]
/-- the numbers of block B -/
def wtsAt (wr : World) (B : Nat) : List Int := (List.range 6).map fun i => ((wr.cell? ⟨B, i, none⟩).map intOf).getD 0
theorem Blk.wts {wr : World} {B : Nat} {ws : List Int} (h : Blk wr B ws) (hl : ws.length = 6) : wtsAt wr B = ws := by
  refine List.ext_getElem (by simp [wtsAt, hl]) fun i h1 h2 => ?_
  simp only [wtsAt, List.getElem_map, List.getElem_range, h.cell h2, Option.map_some, Option.getD_some, intOf]
  simp [List.getD, List.getElem?_eq_getElem h2]
theorem Blk.own {wr : World} {B C : Nat} {ws : List Int} (h : Blk wr B ws) (hl : ws.length = 6) (hB : C ≤ B) : wr.ownsRow C 3 1 (.slice (some ⟨B, 0, none⟩) 6 6) ws.length (ws.map (Value.int .i64)) := by
  refine ⟨by simp, .inr ⟨B, 6, _, by rw [hl], hB, h, by omega, by unfold maxLen; omega, by simp [hl], List.take_of_length_le (by simp)⟩⟩
theorem round_drop {L : List Rl} {ws : List Int} {k : Nat} (hk : k < L.length) : roundR (L.drop k) ws = (stepR ws (L.getD k R0)).bind (roundR (L.drop (k + 1))) := by
  have e : L.getD k R0 = L[k] := by simp [List.getD, List.getElem?_eq_getElem hk]
  rw [List.drop_eq_getElem_cons hk, roundR, e]
set_option maxRecDepth 100000 in
set_option maxHeartbeats 4000000 in
theorem feWeights_calls (A : Option Addr) (N C : Nat) (L : List Rl) (w : World) (h : RulesAt w A N C L) (hs : validS L = 0) :
    Calls Tryz.prog 27 #[.slice A N C] w fun e w' => ∃ r v, Runs L (List.replicate 6 0) r ∧ e = .returned (.tuple #[v, .bool r.isSome, .int .i64 0]) ∧ Made 3 w w' v (r.getD []) := by
  have HV := hid_ (feValidate_calls A N C L w h)
  rw [hs] at HV
  obtain ⟨i0, hi0, hz0, hz1, hz2⟩ := info_parts Tryz.infoInt
  have Hz2 : Hid (i0.bytes * 6 ≤ 281474976710656) := hid_ (by rw [hz2]; omega)
  go_enter Tryz.func27, Tryz.ntmps27
  go_wp2_with (first
    | (go_at_call 47; (with_reducible refine HV.out.mono ?_); rintro e w3 ⟨rfl, hb3⟩)
    | (at_make; refine wpList_make_full _ rfl (.const (.int .i64 6)) (.const (.int .i64 6)) _ rfl w3.heap.size 3 i0 (.int .i64 0) 1 Tryz.underlying23 hi0 hz0 hz1 .i64 .i64 _ _ 6 rfl rfl rfl rfl Hz2.out (by unfold maxLen; omega) (Nat.le_refl _) ?_; intro w4 hown4 hg4))
  have hb4 : Below w3.heap.size w3 w4 := (Below.refl _ w3).grown hg4 (Nat.le_refl _) (fun k hk => by cases hk)
  have hB4 : Blk w4 w3.heap.size (List.replicate 6 0) := by
    rcases hown4.2 with ⟨h1, _⟩ | ⟨g, cap, cur, h1, h2, h3, h4, h5, h6, h7⟩
    · injection h1 with h1; cases h1
    · injection h1 with h1 _ h8
      injection h1 with h1
      injection h1 with h1
      subst h1; subst h8
      rw [Blk, h3]
      have e1 : cur.toList = (List.replicate 6 (0 : Int)).map (Value.int .i64) := by
        rw [← List.take_of_length_le (l := cur.toList) (i := 6) (by rw [Array.length_toList]; omega)]
        exact h7.trans (by first | rfl | (simp [madeCells, Value.cells]; done) | (simp [madeCells, Value.cells]; rfl))
      rw [← e1]
  have hBL : w3.heap.size < w4.heap.size := hB4.lt
  have HF := hid_ (fun W (hW : Below w3.heap.size w W) => h)
  have HLn := hid_ h.len
  have HV2 := hid_ (validS_ok hs)
  have HN : N ≤ 6 := by rw [← h.len]; exact (validS_ok hs).1
  have HDr := hid_ (fun k hk ws => @round_drop L ws k hk)
  have HVk : Hid (∀ k, k < N → validR (L.getD k R0) = 0) := hid_ (fun k hk => HV2.out.2 _ (by
    have hk' : k < L.length := by rw [HLn.out]; exact hk
    rw [show L.getD k R0 = L[k] by simp [List.getD, List.getElem?_eq_getElem hk']]; exact List.getElem_mem _))
  have H4 := hid_ hB4
  have HB34 := hid_ hb4
  have HB3 := hid_ hb3
  have Hh := hid_ h
  clear h hB4 hb4 hb3 hown4 hg4
  go_loopw [19] (fun i wr => ∃ ws, WtL ws ∧ Blk wr w3.heap.size ws ∧ (∀ r, Runs L ws r → Runs L (List.replicate 6 0) r) ∧ Below w3.heap.size w3 wr) (fun _ wr => pot (wtsAt wr w3.heap.size))
  case atStart => exact ⟨_, WtL.zero, H4.out, fun r h => h, HB34.out⟩
  case round =>
    obtain ⟨ws, hw, hblk, hrun, hb⟩ := hrel
    have HHo := hid_ (feHold_calls A N C L _ 6 6 ws wr ((Hh.out.below HB3.out (Nat.le_refl _)).below hb (Nat.le_refl _)) (hblk.ints hw.1) hw HV2.out.2 (by omega))
    have Hblk := hid_ hblk
    have Hrun := hid_ hrun
    have Hb := hid_ hb
    clear hblk hrun hb
    cases hq : holdB L ws with
    | true =>
      rw [hq] at HHo
      have Hq := hid_ hq
      clear hq
      go_wp2_with (go_at_call 48; (with_reducible refine HHo.out.mono ?_); rintro e w5 ⟨rfl, hb5⟩)
      have hbl := Hblk.out.below hb5
      refine bodyPost_ret (v := .tuple #[.slice (some ⟨w3.heap.size, 0, none⟩) 6 6, .bool true, .int .i64 0]) (by simp [results, Tryz.results27, go_sem]) rfl ?_
      refine ⟨some ws, _, Hrun.out _ (.stop Hq.out), rfl, ?_, HB3.out.trans ((Hb.out.trans (hb5.mono Hb.out.size)).mono HB3.out.size)⟩
      exact hbl.own hw.1 HB3.out.size
    | false =>
      rw [hq] at HHo
      have Hq := hid_ hq
      clear hq
      go_wp2_with (go_at_call 48; (with_reducible refine HHo.out.mono ?_); rintro e w5 ⟨rfl, hb5⟩)
      have Hblk5 := hid_ (Hblk.out.below hb5)
      have Hb5 := hid_ (Hb.out.trans (hb5.mono Hb.out.size))
      clear hb5
      go_loopw [22] (fun i wr => ∃ (k : Nat) (ws' : List Int), k ≤ N ∧ i = .int .i64 k ∧ WtL ws' ∧ Blk wr w3.heap.size ws' ∧ roundR L ws = roundR (L.drop k) ws' ∧ Below w3.heap.size w3 wr) (fun i _ => N - (intOf i).toNat)
      case atStart => exact ⟨0, ws, Nat.zero_le _, rfl, hw, Hblk5.out, rfl, Hb5.out⟩
      case round =>
        obtain ⟨k, ws', hk, rfl, hw', hbl', hro, hb'⟩ := hrel
        by_cases hlt : k < N
        · obtain ⟨b, off, a1, n1, c1, a2, n2, c2, a3, n3, c3, rfl, hbl, k0, k1, k2, k3, hr⟩ := ((Hh.out.below HB3.out (Nat.le_refl _)).below hb' (Nat.le_refl _)).at_ hlt
          obtain ⟨i1, -, -⟩ := rule_parts hr
          have i1len : (L.getD k R0).o.length = n1 := i1.len
          obtain ⟨g1, g2, g3, g4, -, -⟩ := validR_ok (HVk.out k hlt)
          have hd := HDr.out k (by rw [HLn.out]; exact hlt) ws'
          have HW := hid_ (feWeigh_calls (some ⟨w3.heap.size, 0, none⟩) 6 6 ws' a1 n1 c1 (L.getD k R0).o (wr.alloc (.cells #[.int .i64 (L.getD k R0).f, .slice a1 n1 c1, .slice a2 n2 c2, .slice a3 n3 c3] 44)) ((hbl'.below (below_alloc _ _)).ints hw'.1) (i1.below (below_alloc _ _) (Nat.le_refl _)) hw' (fun x hx => by rw [isWord, List.all_eq_true] at g4; have := g4 x hx; simp [Within] at this; omega) (by omega))
          have hrg := wtOf_range hw' (L.getD k R0).o
          have HSt : Hid (stepR ws' (L.getD k R0) = if (L.getD k R0).f < 0 ∨ 1000 < wtOf ws' (L.getD k R0).o + 1 then none else some (ws'.set (L.getD k R0).f.toNat (max (ws'.getD (L.getD k R0).f.toNat 0) (wtOf ws' (L.getD k R0).o + 1)))) := hid_ rfl
          have HOk : Hid (∀ ws2, stepR ws' (L.getD k R0) = some ws2 → WtL ws2) := hid_ (fun ws2 h2 => (stepR_ok hw' g2 h2).1)
          change wr.cell? _ = some (.int .i64 (L.getD k R0).f) at k0
          generalize wtOf ws' (L.getD k R0).o = S at *
          generalize stepR ws' (L.getD k R0) = st at *
          clear hr i1
          generalize (L.getD k R0).f = f at *
          have hwr : IntKind.i64.wrap (S + 1) = S + 1 := IntWalk.i64_in _ (by omega)
          rw [hd] at hro
          have Hro := hid_ hro
          have Hb' := hid_ hb'
          clear hd hro hb' g3 g4 i1len
          by_cases hf : f < 0
          · have hst : st = none := by rw [HSt.out, if_pos (.inl hf)]
            subst hst
            have hf' : decide (f < 0) = true := decide_eq_true hf
            go_wp2_with (go_at_call 49; (with_reducible refine HW.out.mono ?_); rintro e w6 ⟨rfl, rfl⟩)
            refine bodyPost_ret (v := .tuple #[.slice none 0 0, .bool false, .int .i64 0]) (by simp [results, Tryz.results27, go_sem]) rfl ?_
            exact ⟨none, _, Hrun.out _ (.fail Hq.out Hro.out), rfl, Made.none_ _ (HB3.out.trans ((Hb'.out.trans ((below_alloc wr _).mono Hb'.out.size)).mono HB3.out.size))⟩
          · have hf' : decide (f < 0) = false := decide_eq_false hf
            by_cases hg : 1000 < S + 1
            · have hst : st = none := by rw [HSt.out, if_pos (.inr hg)]
              subst hst
              go_wp2_with (go_at_call 49; (with_reducible refine HW.out.mono ?_); rintro e w6 ⟨rfl, rfl⟩)
              refine bodyPost_ret (v := .tuple #[.slice none 0 0, .bool false, .int .i64 0]) (by simp [results, Tryz.results27, go_sem]) rfl ?_
              exact ⟨none, _, Hrun.out _ (.fail Hq.out Hro.out), rfl, Made.none_ _ (HB3.out.trans ((Hb'.out.trans ((below_alloc wr _).mono Hb'.out.size)).mono HB3.out.size))⟩
            · obtain ⟨j, rfl⟩ : ∃ j : Nat, f = (j : Int) := ⟨f.toNat, by omega⟩
              have hj6 : j < 6 := by omega
              have hji : (j : Int) < 6 := by omega
              have hj0 : (0 : Int) ≤ (j : Int) := by omega
              rw [if_neg (by omega), Int.toNat_natCast] at HSt
              have hblb := hbl'.below (below_alloc wr (.cells #[.int .i64 (j : Int), .slice a1 n1 c1, .slice a2 n2 c2, .slice a3 n3 c3] 44))
              have hcj := hblb.cell (i := j) (by rw [hw'.1]; exact hj6)
              have hfj := Go.Joins.unfrozen_of_block hblb j
              have hgd : decide (1000 < S + 1) = false := decide_eq_false hg
              go_wp2_with (go_at_call 49; (with_reducible refine HW.out.mono ?_); rintro e w6 ⟨rfl, rfl⟩)
              have hmax : (if ws'[j]?.getD 0 < S + 1 then S + 1 else ws'[j]?.getD 0) = max (ws'.getD j 0) (S + 1) := by
                have hg2 : ws'[j]?.getD 0 = ws'.getD j 0 := by simp [List.getD]
                rw [hg2]
                by_cases hx : ws'.getD j 0 < S + 1
                · rw [if_pos hx, Int.max_eq_right (by omega)]
                · rw [if_neg hx, Int.max_eq_left (by omega)]
              go_region
              all_goals go_wp2_with fail
              all_goals go_roundw
              case measure => simp [intOf]; omega
              case rel =>
                refine ⟨k + 1, ws'.set j (max (ws'.getD j 0) (S + 1)), by omega, by go_num, HOk.out _ HSt.out, ?_, (by rw [Hro.out, HSt.out]; rfl), Below.drew (Below.setCell (Hb'.out.trans ((below_alloc wr _).mono Hb'.out.size)) (Nat.le_refl _) _)⟩
                rw [show ws'[j]?.getD 0 = ws'.getD j 0 by simp [List.getD]]
                have hz := hblb.set j (max (ws'.getD j 0) (S + 1))
                exact hz
        · obtain rfl : N = k := by omega
          have hro' : roundR L ws = some ws' := by rw [hro, List.drop_eq_nil_of_le (by rw [HLn.out]; exact Nat.le_refl _)]; rfl
          have hpot := (roundR_ok hw (fun R hR => (validR_ok (HV2.out.2 R hR)).2.1) hro').2.2.1 Hq.out
          have Hro := hid_ hro'
          clear hro hro'
          go_wp2
          go_roundw
          case rel => exact ⟨ws', hw', hbl', fun r hr => Hrun.out r (.more Hq.out Hro.out hr), hb'⟩
          case measure => rw [hbl'.wts hw'.1, Hblk.out.wts hw.1]; exact hpot
end Go.Proofs.YtebbmhlkdfmmcaaGreat
