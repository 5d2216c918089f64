import Derived.Test.YtdabgoiipkmpaaaJw
namespace Go.Proofs.Ytdabgoiipkmpaaa
open Go.RowKit Go.Proofs.Kv

/-! ### the smallest weights: the document -/
set_option maxRecDepth 100000 in
set_option maxHeartbeats 4000000 in
theorem r3WeightsE_calls (A : Option Addr) (N C : Nat) (L : List Rl) (w : World) (h : RulesAt w A N C L) (hs : validS L ≠ 0) :
    Calls Try.prog 35 #[.slice A N C] w fun e w' => e = .returned (.tuple #[.slice none 0 0, .bool false, .int .i64 (validS L)]) ∧ Below w.heap.size w w' := by
  have HV := hid_ (r3Validate_calls A N C L w h)
  have hq : (validS L != 0) = true := by simpa using hs
  generalize validS L = x at *
  clear hs
  go_enter Try.func35, Try.ntmps35
  go_wp2_with (go_at_call 21; (with_reducible refine HV.out.mono ?_); rintro e w3 ⟨rfl, hb3⟩)
  exact bodyPost_ret (v := .tuple #[.slice none 0 0, .bool false, .int .i64 x]) (by simp [results, Try.results35, go_sem]) rfl ⟨rfl, hb3⟩
def flagN : Value → Nat
  | .bool true => 1
  | _ => 0
theorem getD_R0_valid' {L : List Rl} (h : ∀ R ∈ L, validR R = 0) {k : Nat} (hk : k < L.length) : validR (L.getD k R0) = 0 := by
  refine h _ ?_
  rw [show L.getD k R0 = L[k] by simp [List.getD, List.getElem?_eq_getElem hk]]; exact List.getElem_mem _
theorem stepR_ref {ws : List Int} {R : Rl} (h : WtL ws) (h0 : 0 ≤ R.f) : stepR ws R = if ws.getD R.f.toNat 0 < wtOf ws R.o + 1 then (if 1000 < wtOf ws R.o + 1 then none else some (ws.set R.f.toNat (wtOf ws R.o + 1))) else some ws := by
  have ha := h.at_ R.f.toNat
  unfold stepR
  by_cases h1 : ws.getD R.f.toNat 0 < wtOf ws R.o + 1
  · rw [if_pos h1]
    by_cases h2 : 1000 < wtOf ws R.o + 1
    · rw [if_pos (.inr h2), if_pos h2]
    · rw [if_neg (by omega), if_neg h2, Int.max_eq_right (by omega)]
  · rw [if_neg h1, if_neg (by omega), Int.max_eq_left (by omega)]
    by_cases hi : R.f.toNat < ws.length
    · rw [List.getD, List.getElem?_eq_getElem hi]; simp
    · rw [List.set_eq_of_length_le (by omega)]
theorem step_holds {ws : List Int} {R : Rl} (h : WtL ws) (hh : holdR ws R = true) : stepR ws R = some ws := by
  rw [holdR, Bool.and_eq_true, decide_eq_true_eq, decide_eq_true_eq] at hh
  rw [stepR_ref h hh.1, if_neg (by omega)]
theorem round_holds : ∀ {L : List Rl} {ws : List Int}, WtL ws → (∀ R ∈ L, R.f ≤ 5) → holdB L ws = true → roundR L ws = some ws
  | [], ws, _, _, _ => rfl
  | R :: L, ws, h, hf, hh => by
    simp only [holdB, List.all_cons, Bool.and_eq_true] at hh
    rw [roundR, step_holds h hh.1]
    exact round_holds h (fun S hS => hf S (by simp [hS])) hh.2
set_option maxRecDepth 100000 in
set_option maxHeartbeats 8000000 in
theorem r3Weights_calls (A : Option Addr) (N C : Nat) (L : List Rl) (w : World) (h : RulesAt w A N C L) (hs : validS L = 0) :
    Calls Try.prog 35 #[.slice A N C] w fun e w' => ∃ r v, Runs L (List.replicate 6 0) r ∧ e = .returned (.tuple #[v, .bool r.isSome, .int .i64 0]) ∧ Made 3 w w' v (r.getD []) := by
  have HV := hid_ (r3Validate_calls A N C L w h)
  rw [hs] at HV
  obtain ⟨i0, hi0, hz0, hz1, hz2⟩ := info_parts Try.infoInt
  have Hz2 : Hid (i0.bytes * 6 ≤ 281474976710656) := hid_ (by rw [hz2]; omega)
  go_enter Try.func35, Try.ntmps35
  go_wp2_with (first
    | (go_at_call 21; (with_reducible refine HV.out.mono ?_); rintro e w3 ⟨rfl, hb3⟩)
    | (at_make; refine wpList_make_full _ rfl (.const (.int .i64 6)) (.const (.int .i64 6)) _ rfl w3.heap.size 3 i0 (.int .i64 0) 1 Try.underlying23 hi0 hz0 hz1 .i64 .i64 _ _ 6 rfl rfl rfl rfl Hz2.out (by unfold maxLen; omega) (Nat.le_refl _) ?_; intro w4 hown4 hg4))
  have hb4 : Below w3.heap.size w3 w4 := (Below.refl _ w3).grown hg4 (Nat.le_refl _) (fun k hk => by cases hk)
  have hB4 : Blk w4 w3.heap.size (List.replicate 6 0) := by
    rcases hown4.2 with ⟨h1, _⟩ | ⟨g, cap, cur, h1, h2, h3, h4, h5, h6, h7⟩
    · injection h1 with h1; cases h1
    · injection h1 with h1 _ h8
      injection h1 with h1
      injection h1 with h1
      subst h1; subst h8
      rw [Blk, h3]
      have e1 : cur.toList = (List.replicate 6 (0 : Int)).map (Value.int .i64) := by
        rw [← List.take_of_length_le (l := cur.toList) (i := 6) (by rw [Array.length_toList]; omega)]
        exact h7.trans (by first | rfl | (simp [madeCells, Value.cells]; done) | (simp [madeCells, Value.cells]; rfl))
      rw [← e1]
  have hBL : w3.heap.size < w4.heap.size := hB4.lt
  have HLn := hid_ h.len
  have HV2 := hid_ (validS_ok hs)
  have HN : N ≤ 6 := by rw [← h.len]; exact (validS_ok hs).1
  have HDr := hid_ (fun k hk ws => @round_drop L ws k hk)
  have HVk : Hid (∀ k, k < N → validR (L.getD k R0) = 0) := hid_ (fun k hk => getD_R0_valid' HV2.out.2 (by rw [HLn.out]; exact hk))
  have HB34 := hid_ hb4
  have HB3 := hid_ hb3
  have Hh := hid_ h
  have H4 := hid_ hB4
  clear h hB4 hb4 hb3 hown4 hg4
  go_loopw [7] (fun g wr => ∃ (ws : List Int) (b : Bool), g = .bool b ∧ WtL ws ∧ Blk wr w3.heap.size ws ∧ (b = true → ∀ r, Runs L ws r → Runs L (List.replicate 6 0) r) ∧ (b = false → Runs L (List.replicate 6 0) (some ws)) ∧ Below w3.heap.size w3 wr) (fun g wr => pot (wtsAt wr w3.heap.size) + flagN g)
  case atStart => exact ⟨_, true, rfl, WtL.zero, H4.out, fun _ r h => h, fun h => (by cases h), HB34.out⟩
  case round =>
    obtain ⟨ws, b, rfl, hw, hbl, hT, hF, hb⟩ := hrel
    have HT := hid_ hT; have HF := hid_ hF; have Hb := hid_ hb
    clear hT hF hb
    cases b with
    | false =>
      have Hr := hid_ (HF.out rfl)
      go_wp2
      refine bodyPost_ret (v := .tuple #[.slice (some ⟨w3.heap.size, 0, none⟩) 6 6, .bool true, .int .i64 0]) (by simp [results, Try.results35, go_sem]) rfl ?_
      refine ⟨some ws, Hr.out, _, rfl, ?_, HB3.out.trans (Hb.out.mono HB3.out.size)⟩
      exact hbl.own hw.1 HB3.out.size
    | true =>
      have HR := hid_ (HT.out rfl)
      have Hbl := hid_ hbl
      go_wp2
      go_loopw [7, 8] (fun g i wr => ∃ (k : Nat) (ws' : List Int) (b : Bool), k ≤ N ∧ i = .int .i64 k ∧ g = .bool b ∧ WtL ws' ∧ Blk wr w3.heap.size ws' ∧ roundR L ws = roundR (L.drop k) ws' ∧ (b = true → pot ws' < pot ws) ∧ (b = false → ws' = ws) ∧ Below w3.heap.size w3 wr) (fun _ i _ => N - (intOf i).toNat)
      case atStart => exact ⟨0, ws, false, Nat.zero_le _, rfl, rfl, hw, hbl, rfl, fun h => (by cases h), fun _ => rfl, Hb.out⟩
      case round =>
        obtain ⟨k, ws', b, hk, rfl, rfl, hw', hbl', hro, hpt, hpf, hb'⟩ := hrel
        by_cases hlt : k < N
        · obtain ⟨bb, off, a1, n1, c1, a2, n2, c2, a3, n3, c3, rfl, hbl2, k0, k1, k2, k3, hr⟩ := ((Hh.out.below HB3.out (Nat.le_refl _)).below hb' (Nat.le_refl _)).at_ hlt
          obtain ⟨i1, -, -⟩ := rule_parts hr
          have i1len : (L.getD k R0).o.length = n1 := i1.len
          obtain ⟨g1, g2, g3, g4, -, -⟩ := validR_ok (HVk.out k hlt)
          have hd := HDr.out k (by rw [HLn.out]; exact hlt) ws'
          have HW := hid_ (r3weigh_calls (some ⟨w3.heap.size, 0, none⟩) 6 6 ws' a1 n1 c1 (L.getD k R0).o wr (hbl'.ints hw'.1) i1 hw' (fun x hx => by rw [isWord, List.all_eq_true] at g4; have := g4 x hx; simp [Within] at this; omega) (by omega))
          have hrg := wtOf_range hw' (L.getD k R0).o
          have hSt0 : (L.getD k R0).f < 0 → stepR ws' (L.getD k R0) = none := fun h0 => if_pos (.inl h0)
          have hSt := fun h0 => stepR_ref (R := L.getD k R0) hw' h0
          have hOk : ∀ ws2, stepR ws' (L.getD k R0) = some ws2 → WtL ws2 ∧ pot ws2 ≤ pot ws' ∧ (holdR ws' (L.getD k R0) = false → pot ws2 < pot ws') := fun ws2 h2 => let ⟨x1, x2, x3, _⟩ := stepR_ok hw' g2 h2; ⟨x1, x2, x3⟩
          have hHd : holdR ws' (L.getD k R0) = (decide (0 ≤ (L.getD k R0).f) && decide (wtOf ws' (L.getD k R0).o < ws'.getD (L.getD k R0).f.toNat 0)) := rfl
          change wr.cell? _ = some (.int .i64 (L.getD k R0).f) at k0
          generalize wtOf ws' (L.getD k R0).o = S at *
          generalize holdR ws' (L.getD k R0) = hh at *
          generalize stepR ws' (L.getD k R0) = st at *
          clear hr i1
          generalize (L.getD k R0).f = f at *
          have hwr : IntKind.i64.wrap (S + 1) = S + 1 := IntWalk.i64_in _ (by omega)
          rw [hd] at hro
          have Hro := hid_ hro; have Hb' := hid_ hb'; have HSt0 := hid_ hSt0; have HSt := hid_ hSt; have HOk := hid_ hOk; have HHd := hid_ hHd; have Hpt := hid_ hpt; have Hpf := hid_ hpf
          clear hd hro hb' g3 g4 i1len hSt0 hSt hOk hHd hpt hpf
          by_cases hf : f < 0
          · have hst := HSt0.out hf
            subst hst
            have hfail : Hid (roundR L ws = none) := hid_ Hro.out
            have hnh : Hid (holdB L ws = false) := hid_ (by
              cases hq : holdB L ws with
              | false => rfl
              | true => exact absurd (round_holds hw (fun R hR => (validR_ok (HV2.out.2 R hR)).2.1) hq) (by rw [hfail.out]; intro h; cases h))
            go_wp2
            refine bodyPost_ret (v := .tuple #[.slice none 0 0, .bool false, .int .i64 0]) (by simp [results, Try.results35, go_sem]) rfl ?_
            exact ⟨none, HR.out _ (.fail hnh.out hfail.out), _, rfl, Made.none_ _ (HB3.out.trans (Hb'.out.mono HB3.out.size))⟩
          · obtain ⟨j, rfl⟩ : ∃ j : Nat, f = (j : Int) := ⟨f.toNat, by omega⟩
            have hj6 : j < 6 := by omega
            have hji : (j : Int) < 6 := by omega
            have hj0 : (0 : Int) ≤ (j : Int) := by omega
            have hst := HSt.out hj0
            have hhd := HHd.out
            rw [Int.toNat_natCast] at hst hhd
            have hcj := hbl'.cell (i := j) (by rw [hw'.1]; exact hj6)
            have hfj := Go.Joins.unfrozen_of_block hbl' j
            have hblw := hbl'.set j (S + 1)
            generalize ws'.getD j 0 = y at *
            by_cases hy : y < S + 1
            · rw [if_pos hy] at hst
              by_cases hg : 1000 < S + 1
              · rw [if_pos hg] at hst
                subst hst
                have hfail : Hid (roundR L ws = none) := hid_ Hro.out
                have hnh : Hid (holdB L ws = false) := hid_ (by
                  cases hq : holdB L ws with
                  | false => rfl
                  | true => exact absurd (round_holds hw (fun R hR => (validR_ok (HV2.out.2 R hR)).2.1) hq) (by rw [hfail.out]; intro h; cases h))
                clear hhd hblw
                go_wp2_with (go_at_call 79; (with_reducible refine HW.out.mono ?_); rintro e w6 ⟨rfl, rfl⟩)
                refine bodyPost_ret (v := .tuple #[.slice none 0 0, .bool false, .int .i64 0]) (by simp [results, Try.results35, go_sem]) rfl ?_
                exact ⟨none, _, HR.out _ (.fail hnh.out hfail.out), rfl, Made.none_ _ (HB3.out.trans (Hb'.out.mono HB3.out.size))⟩
              · rw [if_neg hg] at hst
                have hh0 : hh = false := by rw [hhd, decide_eq_false (show ¬ S < y by omega)]; simp
                have Hok := hid_ (HOk.out _ hst)
                have Hst := hid_ hst
                have Hblw := hid_ hblw
                have hy' := hy
                clear hst hhd hblw
                go_wp2_with (go_at_call 79; (with_reducible refine HW.out.mono ?_); rintro e w6 ⟨rfl, rfl⟩)
                go_roundw
                case rel =>
                  refine ⟨k + 1, ws'.set j (S + 1), true, by omega, by go_num, rfl, Hok.out.1, Hblw.out, by rw [Hro.out, Hst.out]; rfl, fun _ => ?_, fun h => (by cases h), Below.setCell Hb'.out (Nat.le_refl _) _⟩
                  have h3 := Hok.out.2.2 hh0
                  cases b with
                  | true => have := Hpt.out rfl; omega
                  | false => have := Hpf.out rfl; subst this; exact h3
                case measure => simp [intOf]; omega
            · rw [if_neg hy] at hst
              have Hst := hid_ hst
              clear hst hhd hblw
              go_wp2_with (go_at_call 79; (with_reducible refine HW.out.mono ?_); rintro e w6 ⟨rfl, rfl⟩)
              go_roundw
              case rel => exact ⟨k + 1, ws', b, by omega, by go_num, rfl, hw', hbl', by rw [Hro.out, Hst.out]; rfl, Hpt.out, Hpf.out, Hb'.out⟩
              case measure => simp [intOf]; omega
        · obtain rfl : N = k := by omega
          have hro' : roundR L ws = some ws' := by rw [hro, List.drop_eq_nil_of_le (by rw [HLn.out]; exact Nat.le_refl _)]; rfl
          obtain ⟨q1, q2, q3, q4⟩ := roundR_ok hw (fun R hR => (validR_ok (HV2.out.2 R hR)).2.1) hro'
          have Hro := hid_ hro'
          have Hpt := hid_ hpt; have Hpf := hid_ hpf
          clear hro hro' hpt hpf
          go_wp2
          go_roundw
          case rel =>
            refine ⟨ws', b, rfl, hw', hbl', fun hb1 r hr => ?_, fun hb1 => ?_, hb'⟩
            · refine HR.out r (.more ?_ Hro.out hr)
              cases hq : holdB L ws with
              | false => rfl
              | true => have := q4 hq; have := Hpt.out hb1; subst ws'; omega
            · have e := Hpf.out hb1
              subst e
              refine HR.out _ (.stop ?_)
              cases hq : holdB L ws' with
              | true => rfl
              | false => have := q3 hq; omega
          case measure =>
            rw [hbl'.wts hw'.1, Hbl.out.wts hw.1]
            cases b with
            | true => have := Hpt.out rfl; simp [flagN]; omega
            | false => have := Hpf.out rfl; subst this; simp [flagN]
end Go.Proofs.Ytdabgoiipkmpaaa
