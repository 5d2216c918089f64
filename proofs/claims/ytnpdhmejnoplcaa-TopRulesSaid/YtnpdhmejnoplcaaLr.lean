import Derived.Test.YtnpdhmejnoplcaaLk
import Derived.Test.YtnpdhmejnoplcaaMe
import Derived.Test.YtnpdhmejnoplcaaLj
namespace Go.Proofs.Ytnpdhmejnoplcaa
open Go.RowKit Go.Proofs.Kv

theorem top_lit : err2 ⟨-1, [2], [0], [0]⟩ [0, 0, 0] = 0 ∧ resPlaces ⟨-1, [2], [0], [0]⟩ [0, 0, 0] = [1, 2] := by decide +kernel
theorem top_places (w : World) :
    Calls Try.prog 31 #[.agg #[.int .i64 (-1), .slice (some ⟨w.heap.size, 0, none⟩) 1 1, .slice (some ⟨w.heap.size + 1, 0, none⟩) 1 1, .slice (some ⟨w.heap.size + 1 + 1, 0, none⟩) 1 1], .slice (some ⟨w.heap.size + 1 + 1 + 1, 0, none⟩) 3 3]
      ((((w.alloc (.cells #[.int .i64 2] 3)).alloc (.cells #[.int .i64 0] 3)).alloc (.cells #[.int .i64 0] 3)).alloc (.cells #[.int .i64 0, .int .i64 0, .int .i64 0] 3)) fun e w' => ∃ v', e = .returned (.tuple #[v', .int .i64 0]) ∧ w'.ownsRow w.heap.size 3 1 v' 2 ([1, 2].map (Value.int .i64)) ∧ Below w.heap.size w w' := by
  obtain ⟨wa, ha⟩ : ∃ wa, w.alloc (.cells #[.int .i64 2] 3) = wa := ⟨_, rfl⟩
  obtain ⟨wb, hb⟩ : ∃ wb, wa.alloc (.cells #[.int .i64 0] 3) = wb := ⟨_, rfl⟩
  obtain ⟨wc, hc⟩ : ∃ wc, wb.alloc (.cells #[.int .i64 0] 3) = wc := ⟨_, rfl⟩
  have sa : wa.heap.size = w.heap.size + 1 := by rw [← ha]; simp
  have sb : wb.heap.size = w.heap.size + 1 + 1 := by rw [← hb]; simp [sa]
  have sc : wc.heap.size = w.heap.size + 1 + 1 + 1 := by rw [← hc]; simp [sb]
  have ia : IntsAt wa (some ⟨w.heap.size, 0, none⟩) 1 1 [2] := by rw [← ha]; exact IntsAt.lit w [2] _ 1 3 rfl rfl (by omega)
  have ib : IntsAt wb (some ⟨w.heap.size + 1, 0, none⟩) 1 1 [0] := by rw [← hb, ← sa]; exact IntsAt.lit wa [0] _ 1 3 rfl rfl (by omega)
  have ic : IntsAt wc (some ⟨w.heap.size + 1 + 1, 0, none⟩) 1 1 [0] := by rw [← hc, ← sb]; exact IntsAt.lit wb [0] _ 1 3 rfl rfl (by omega)
  have id : IntsAt (wc.alloc (.cells #[.int .i64 0, .int .i64 0, .int .i64 0] 3)) (some ⟨w.heap.size + 1 + 1 + 1, 0, none⟩) 3 3 [0, 0, 0] := by rw [← sc]; exact IntsAt.lit wc [0, 0, 0] _ 3 3 rfl rfl (by omega)
  have bab : Below wa.heap.size wa wb := by rw [← hb]; exact below_alloc _ _
  have bbc : Below wb.heap.size wb wc := by rw [← hc]; exact below_alloc _ _
  have bwa : Below w.heap.size w wa := by rw [← ha]; exact below_alloc _ _
  have bcd := below_alloc wc (.cells #[.int .i64 0, .int .i64 0, .int .i64 0] 3)
  have bad := below_then bab (below_then bbc bcd)
  have hr : RuleAt (wc.alloc (.cells #[.int .i64 0, .int .i64 0, .int .i64 0] 3)) (.agg #[.int .i64 (-1), .slice (some ⟨w.heap.size, 0, none⟩) 1 1, .slice (some ⟨w.heap.size + 1, 0, none⟩) 1 1, .slice (some ⟨w.heap.size + 1 + 1, 0, none⟩) 1 1]) ⟨-1, [2], [0], [0]⟩ :=
    ⟨_, _, _, _, _, _, _, _, _, rfl, ia.below bad (Nat.le_refl _), ib.below (below_then bbc bcd) (Nat.le_refl _), ic.below bcd (Nat.le_refl _)⟩
  have := ruPlaces_calls _ ⟨-1, [2], [0], [0]⟩ _ 3 3 [0, 0, 0] _ hr id
  rw [top_lit.1, top_lit.2] at this
  have hbw := below_then bwa bad
  rw [ha, hb, hc]
  exact this.mono fun e w' ⟨v', he, hm⟩ => ⟨v', he, own_base hm.own hbw.size, below_then hbw hm.bel⟩
theorem same_lit2 (x y : Int) (w : World) (a : Option Addr) (c : Nat) (h : IntsAt w a 2 c [x, y]) :
    Calls Try.prog 37 #[.slice a 2 c, .slice (some ⟨w.heap.size, 0, none⟩) 2 2] (w.alloc (.cells #[.int .i64 x, .int .i64 y] 3)) fun e w' => e = .returned (.bool true) ∧ Below w.heap.size w w' := by
  refine (same_calls a 2 c [x, y] _ 2 2 [x, y] _ (h.below (below_alloc w _) (Nat.le_refl _)) (IntsAt.lit w [x, y] _ 2 3 rfl rfl (by omega))).mono ?_
  rintro e w' ⟨rfl, hq⟩
  exact ⟨by simp [Same], (below_alloc _ _).trans ((below_drew hq).mono (by simp))⟩
theorem mir_f {R : Rl} (h : validR R = 0) : (mirR R).f = R.f := by rw [mir_eq h]
theorem mir_valid {R : Rl} (h : validR R = 0) : validR (mirR R) = 0 := (mir_ok h).1
theorem mir_two {R S : Rl} (h : errTwo R S = 0) : errTwo (mirR R) (mirR S) = 0 ∧ isSpc (mirR R) (mirR S) = isSpc R S := by
  obtain ⟨h1, h2⟩ := errTwo_ok h
  have h3 : errTwo (mirR R) (mirR S) = 0 := by rw [errTwo, if_pos (mir_valid h1)]; exact mir_valid h2
  refine ⟨h3, ?_⟩
  rw [isSpc, if_pos h3, isSpc, if_pos h, mir_eq h1, mir_eq h2]
  unfold spcB
  rw [Bool.and_comm (insideB R.ri S.ri)]
theorem back_word {l : List Int} (h : validW l = 0) : validW l.reverse = 0 := by
  obtain ⟨h1, h2⟩ := validW_ok h
  have : isWord l.reverse = true := by rw [isWord, List.all_reverse]; exact h2
  rw [validW, if_neg (by rw [List.length_reverse]; omega), this]; rfl
theorem mir_all {R : Rl} {l : List Int} (h : validR R = 0) (hw : validW l = 0) : errAll (mirR R) l.reverse = errAll R l ∧ resAll (mirR R) l.reverse = (resAll R l).reverse ∧ errAll R l = (if 8 < (stp R l).length then 3 else 0) ∧ resAll R l = (if 8 < (stp R l).length then [] else stp R l) := by
  have e1 : err2 R l = 0 := by rw [err2, if_pos h]; exact hw
  have e2 : err2 (mirR R) l.reverse = 0 := by rw [err2, if_pos (mir_valid h)]; exact back_word hw
  rw [errAll, if_pos e2, errAll, if_pos e1, resAll, if_pos e2, resAll, if_pos e1, stp_err, stp_err, stp_res, stp_res, stp_mir h, List.length_reverse]
  refine ⟨rfl, ?_, rfl, rfl⟩
  split <;> simp
/-- the first place, where all places together are few enough -/
theorem top_first {R : Rl} {l : List Int} (h : validR R = 0) (hw : validW l = 0) (h8 : (stp R l).length ≤ 8) : errFirst R l = 0 ∧ isFirst R l = decide (0 < (plP R l).length) ∧ ((plP R l).length = 0 → resFirst R l = []) ∧ (0 < (plP R l).length → (resFirst R l).length + tkN R = l.length + R.o.length) := by
  have e1 : err2 R l = 0 := by rw [err2, if_pos h]; exact hw
  have hc := stp_count (R := R) (l := l)
  rw [errFirst, if_pos e1, resFirst, if_pos e1, isFirst, e1]
  cases hP : plP R l with
  | nil => exact ⟨rfl, rfl, fun _ => rfl, fun h => by simp at h⟩
  | cons p P =>
    have hp : PutOk R [p] l := one_ok (mem_pl.1 (show p ∈ plP R l by rw [hP]; simp)).2.2
    have hcp := putAll_count [p] hp
    rw [hP] at hc
    simp only [List.length_cons, Nat.succ_mul] at hc
    simp only [List.length_cons, List.length_nil, Nat.zero_add, Nat.one_mul] at hcp
    have hl8 := (validW_ok hw).1
    have hle : (putAll R [p] l).length ≤ 8 := by
      rcases Nat.lt_or_ge R.o.length (tkN R) with h1 | h1
      · omega
      · have := Nat.mul_le_mul_left P.length h1
        omega
    have hpe : putErr R [(p :: P).headD 0] l = 0 := if_neg (by show ¬ 8 < (putAll R [p] l).length; omega)
    have hpr : putRes R [(p :: P).headD 0] l = putAll R [p] l := if_neg (by show ¬ 8 < (putAll R [p] l).length; omega)
    rw [hpe, hpr]
    refine ⟨by simp, by simp, fun h => by simp at h, fun _ => ?_⟩
    rw [if_neg (by simp)]
    exact hcp

theorem eqb_true {a b : Int} (h : a = b) : Ending.returned (.bool (a == b)) = .returned (.bool true) := by simp [h]
theorem ruleAt_len {w : World} {x y z : Value} {a : Option Addr} {n c : Nat} {R : Rl} (h : RuleAt w (.agg #[x, .slice a n c, y, z]) R) : R.o.length = n := by
  obtain ⟨a1, n1, c1, a2, n2, c2, a3, n3, c3, e, h1, -, -⟩ := h
  injection e with e; injection e with e; injection e with e0 e; injection e with e1 e
  injection e1 with q1 q2 q3
  subst q2
  exact h1.len
set_option maxRecDepth 100000 in
set_option maxHeartbeats 40000000 in
theorem topRules_calls (v : Value) (R S : Rl) (a : Option Addr) (n c : Nat) (l : List Int) (w : World) (hx : TwoAt w v R S) (h : IntsAt w a n c l) :
    Calls Try.prog 26 #[v, .slice a n c] w fun e w' => e = .returned (.bool true) ∧ Below w.heap.size w w' := by
  obtain ⟨x0, x1, x2, x3, x4, x5, x6, x7, rfl, hr, hs⟩ := hx
  have Hr := hid_ hr
  have Hs := hid_ hs
  obtain ⟨a1, n1, c1, a2, n2, c2, a3, n3, c3, e1, h1, h2, h3⟩ := hr
  obtain ⟨b1, m1, d1, b2, m2, d2, b3, m3, d3, e2, h4, h5, h6⟩ := hs
  clear h1 h2 h3 h4 h5 h6
  injection e1 with e1; injection e1 with e1; injection e1 with y0 e1; injection e1 with y1 e1; injection e1 with y2 e1; injection e1 with y3 e1
  injection e2 with e2; injection e2 with e2; injection e2 with y4 e2; injection e2 with y5 e2; injection e2 with y6 e2; injection e2 with y7 e2
  subst y0 y1 y2 y3 y4 y5 y6 y7
  clear e1 e2
  obtain ⟨w1, hw1⟩ : ∃ w1, w.alloc (.cells #[.int .i64 R.f, .slice a1 n1 c1, .slice a2 n2 c2, .slice a3 n3 c3, .int .i64 S.f, .slice b1 m1 d1, .slice b2 m2 d2, .slice b3 m3 d3] 43) = w1 := ⟨_, rfl⟩
  have Hb1 : Hid (Below w.heap.size w w1) := hid_ (by rw [← hw1]; exact below_alloc _ _)
  have HW1 := hid_ hw1
  have HQ := hid_ (fun W (hW : Below w1.heap.size w1 W) => box8 HW1.out hW)
  have HR := hid_ (fun W (hW : Below w1.heap.size w1 W) => (Hr.out.below Hb1.out (Nat.le_refl _)).below hW (Nat.le_refl _))
  have HS := hid_ (fun W (hW : Below w1.heap.size w1 W) => (Hs.out.below Hb1.out (Nat.le_refl _)).below hW (Nat.le_refl _))
  have hb1 : Below w1.heap.size w1 w1 := Below.refl _ _
  obtain ⟨q0, q1, q2, q3, q4, q5, q6, q7⟩ := HQ.out w1 hb1
  have HLn := hid_ h.len
  have HI := hid_ (fun W (hW : Below w1.heap.size w1 W) => (h.below Hb1.out (Nat.le_refl _)).below hW (Nat.le_refl _))
  clear h
  have HP0 := hid_ (top_places w1)
  have HS0 := hid_ same_lit2
  have HG0 := hid_ (fun W hW => long_calls _ R W (HR.out W hW))
  have HG1 := hid_ (fun W hW => long_calls _ S W (HS.out W hW))
  cases hg0 : bigR R with
  | true =>
    rw [hg0] at HG0
    go_enter Try.func26, Try.ntmps26
    go_wp2_with (first
      | (go_at_call 31; (with_reducible refine (HP0.out).mono ?_); rintro e w2 ⟨v2, rfl, ho2, hb2⟩; clear q0 q1 q2 q3 q4 q5 q6 q7; obtain ⟨q0, q1, q2, q3, q4, q5, q6, q7⟩ := HQ.out w2 hb2; obtain ⟨ap, cp, rfl, hip⟩ := IntsAt.own ho2; have Hp := hid_ hip; clear hip ho2)
      | (go_at_call 37; (with_reducible refine (HS0.out _ _ _ _ _ Hp.out).mono ?_); rintro e w3 ⟨rfl, hc3⟩; have hb3 : Below w1.heap.size w1 w3 := hb2.trans (hc3.mono hb2.size); clear q0 q1 q2 q3 q4 q5 q6 q7; obtain ⟨q0, q1, q2, q3, q4, q5, q6, q7⟩ := HQ.out w3 hb3)
      | (go_at_call 28; (with_reducible refine (HG0.out _ hb3).mono ?_); rintro e w4 ⟨rfl, hc4⟩; have hb4 : Below w1.heap.size w1 w4 := hb3.trans (hc4.mono hb3.size); clear q0 q1 q2 q3 q4 q5 q6 q7; obtain ⟨q0, q1, q2, q3, q4, q5, q6, q7⟩ := HQ.out w4 hb4))
    go_ret
    exact ⟨rfl, Hb1.out.trans (hb4.mono Hb1.out.size)⟩
  | false =>
    rw [hg0] at HG0
    cases hg1 : bigR S with
    | true =>
      rw [hg1] at HG1
      go_enter Try.func26, Try.ntmps26
      go_wp2_with (first
        | (go_at_call 31; (with_reducible refine (HP0.out).mono ?_); rintro e w2 ⟨v2, rfl, ho2, hb2⟩; clear q0 q1 q2 q3 q4 q5 q6 q7; obtain ⟨q0, q1, q2, q3, q4, q5, q6, q7⟩ := HQ.out w2 hb2; obtain ⟨ap, cp, rfl, hip⟩ := IntsAt.own ho2; have Hp := hid_ hip; clear hip ho2)
        | (go_at_call 37; (with_reducible refine (HS0.out _ _ _ _ _ Hp.out).mono ?_); rintro e w3 ⟨rfl, hc3⟩; have hb3 : Below w1.heap.size w1 w3 := hb2.trans (hc3.mono hb2.size); clear q0 q1 q2 q3 q4 q5 q6 q7; obtain ⟨q0, q1, q2, q3, q4, q5, q6, q7⟩ := HQ.out w3 hb3)
        | (go_at_call 28; (with_reducible refine (HG0.out _ hb3).mono ?_); rintro e w4 ⟨rfl, hc4⟩; have hb4 : Below w1.heap.size w1 w4 := hb3.trans (hc4.mono hb3.size); clear q0 q1 q2 q3 q4 q5 q6 q7; obtain ⟨q0, q1, q2, q3, q4, q5, q6, q7⟩ := HQ.out w4 hb4)
        | (go_at_call 28; (with_reducible refine (HG1.out _ hb4).mono ?_); rintro e w5 ⟨rfl, hc5⟩; have hb5 : Below w1.heap.size w1 w5 := hb4.trans (hc5.mono hb4.size); clear q0 q1 q2 q3 q4 q5 q6 q7; obtain ⟨q0, q1, q2, q3, q4, q5, q6, q7⟩ := HQ.out w5 hb5))
      go_ret
      exact ⟨rfl, Hb1.out.trans (hb5.mono Hb1.out.size)⟩
    | false =>
      rw [hg1] at HG1
      have big_len2 : R.le.length ≤ 100 ∧ R.ri.length ≤ 100 ∧ S.le.length ≤ 100 ∧ S.ri.length ≤ 100 := by
        simp only [bigR, Bool.or_eq_false_iff] at hg0 hg1
        exact ⟨bigOne_no hg0.1.2, bigOne_no hg0.2, bigOne_no hg1.1.2, bigOne_no hg1.2⟩
      obtain ⟨z1, z2, z3, z4⟩ := big_len2
      clear hg0 hg1
      by_cases hn : 100 < n
      · go_enter Try.func26, Try.ntmps26
        go_wp2_with (first
          | (go_at_call 31; (with_reducible refine (HP0.out).mono ?_); rintro e w2 ⟨v2, rfl, ho2, hb2⟩; clear q0 q1 q2 q3 q4 q5 q6 q7; obtain ⟨q0, q1, q2, q3, q4, q5, q6, q7⟩ := HQ.out w2 hb2; obtain ⟨ap, cp, rfl, hip⟩ := IntsAt.own ho2; have Hp := hid_ hip; clear hip ho2)
          | (go_at_call 37; (with_reducible refine (HS0.out _ _ _ _ _ Hp.out).mono ?_); rintro e w3 ⟨rfl, hc3⟩; have hb3 : Below w1.heap.size w1 w3 := hb2.trans (hc3.mono hb2.size); clear q0 q1 q2 q3 q4 q5 q6 q7; obtain ⟨q0, q1, q2, q3, q4, q5, q6, q7⟩ := HQ.out w3 hb3)
          | (go_at_call 28; (with_reducible refine (HG0.out _ hb3).mono ?_); rintro e w4 ⟨rfl, hc4⟩; have hb4 : Below w1.heap.size w1 w4 := hb3.trans (hc4.mono hb3.size); clear q0 q1 q2 q3 q4 q5 q6 q7; obtain ⟨q0, q1, q2, q3, q4, q5, q6, q7⟩ := HQ.out w4 hb4)
          | (go_at_call 28; (with_reducible refine (HG1.out _ hb4).mono ?_); rintro e w5 ⟨rfl, hc5⟩; have hb5 : Below w1.heap.size w1 w5 := hb4.trans (hc5.mono hb4.size); clear q0 q1 q2 q3 q4 q5 q6 q7; obtain ⟨q0, q1, q2, q3, q4, q5, q6, q7⟩ := HQ.out w5 hb5))
        go_ret
        exact ⟨rfl, Hb1.out.trans (hb5.mono Hb1.out.size)⟩
      have hn : n ≤ 100 := by omega
      have HP1 := hid_ (fun W hW => ruIsSpecial_calls _ _ R S W (HR.out W hW) (HS.out W hW))
      by_cases he : errTwo R S = 0
      · skip
        obtain ⟨vR, vS⟩ := errTwo_ok he
        obtain ⟨y1, y2⟩ := mir_two he
        have HM1 := hid_ (fun W hW => ruMirror_calls _ R W (HR.out W hW) z1 z2)
        have HM2 := hid_ (fun W hW => ruMirror_calls _ S W (HS.out W hW) z3 z4)
        have HP2 := hid_ (fun v u W h1 h2 => ruIsSpecial_calls v u (mirR R) (mirR S) W h1 h2)
        have HC := hid_ (fun W hW => ruCanMeet_calls _ _ R S W (HR.out W hW) (HS.out W hW))
        have HA := hid_ (fun W hW => ruPlaces_calls _ R a n c l W (HR.out W hW) (HI.out W hW))
        have HB := hid_ (fun W hW => ruPlaces_calls _ S a n c l W (HS.out W hW) (HI.out W hW))
        have HK := hid_ (fun W hW => ruBack_calls a n c l W (HI.out W hW))
        have hcan := hid_ (@spc_can R S)
        have hpart := hid_ (@spc_part R S l)
        have hmeet := hid_ (fun x hf h1 h2 hx hy => @meet_in R S l x hf h1 h2 hx hy)
        have eR : err2 R l = validW l := if_pos vR
        have eS : err2 S l = validW l := if_pos vS
        have rR : validW l = 0 → resPlaces R l = plP R l := fun h => if_pos (by rw [eR]; exact h)
        have rS : validW l = 0 → resPlaces S l = plP S l := fun h => if_pos (by rw [eS]; exact h)
        have RR := hid_ rR; have RS := hid_ rS; have ER := hid_ eR; have ES := hid_ eS
        rw [he] at HP1; rw [y1, y2] at HP2; rw [he] at HC; rw [vR] at HM1; rw [vS] at HM2; rw [eR] at HA; rw [eS] at HB
        have VR := hid_ vR
        clear rR rS eR eS y1 y2 he vR vS z1 z2 z3 z4
        generalize isSpc R S = sp at *
        generalize isBoth R S = mt at *
        have hcombo : sp = false ∧ mt = false ∨ sp = false ∧ mt = true ∨ sp = true ∧ mt = true := by
          have := hcan.out
          cases sp <;> cases mt <;> simp at this ⊢
        have Hcombo := hid_ hcombo; clear hcombo hcan
        go_enter Try.func26, Try.ntmps26
        go_upto_region 13 with (first
          | (go_at_call 31; (with_reducible refine (HP0.out).mono ?_); rintro e w2 ⟨v2, rfl, ho2, hb2⟩; clear q0 q1 q2 q3 q4 q5 q6 q7; obtain ⟨q0, q1, q2, q3, q4, q5, q6, q7⟩ := HQ.out w2 hb2; obtain ⟨ap, cp, rfl, hip⟩ := IntsAt.own ho2; have Hp := hid_ hip; clear hip ho2)
          | (go_at_call 37; (with_reducible refine (HS0.out _ _ _ _ _ Hp.out).mono ?_); rintro e w3 ⟨rfl, hc3⟩; have hb3 : Below w1.heap.size w1 w3 := hb2.trans (hc3.mono hb2.size); clear q0 q1 q2 q3 q4 q5 q6 q7; obtain ⟨q0, q1, q2, q3, q4, q5, q6, q7⟩ := HQ.out w3 hb3)
          | (go_at_call 28; (with_reducible refine (HG0.out _ hb3).mono ?_); rintro e w4 ⟨rfl, hc4⟩; have hb4 : Below w1.heap.size w1 w4 := hb3.trans (hc4.mono hb3.size); clear q0 q1 q2 q3 q4 q5 q6 q7; obtain ⟨q0, q1, q2, q3, q4, q5, q6, q7⟩ := HQ.out w4 hb4)
          | (go_at_call 28; (with_reducible refine (HG1.out _ hb4).mono ?_); rintro e w5 ⟨rfl, hc5⟩; have hb5 : Below w1.heap.size w1 w5 := hb4.trans (hc5.mono hb4.size); clear q0 q1 q2 q3 q4 q5 q6 q7; obtain ⟨q0, q1, q2, q3, q4, q5, q6, q7⟩ := HQ.out w5 hb5)
          | (go_at_call 48; (with_reducible refine (HP1.out _ hb5).mono ?_); rintro e w6 ⟨rfl, hc6⟩; have hb6 : Below w1.heap.size w1 w6 := hb5.trans (hc6.mono hb5.size); clear q0 q1 q2 q3 q4 q5 q6 q7; obtain ⟨q0, q1, q2, q3, q4, q5, q6, q7⟩ := HQ.out w6 hb6)
          | (go_at_call 59; (with_reducible refine (HM1.out _ hb6).mono ?_); rintro e w7 ⟨v7, rfl, hr7, hc7⟩; have hb7 : Below w1.heap.size w1 w7 := hb6.trans (hc7.mono hb6.size); clear q0 q1 q2 q3 q4 q5 q6 q7; obtain ⟨q0, q1, q2, q3, q4, q5, q6, q7⟩ := HQ.out w7 hb7; have HR7 := hid_ hr7; obtain ⟨a4, n4, c4, a5, n5, c5, a6, n6, c6, rfl, -, -, -⟩ := hr7; have nx7 : w.heap.size < w7.heap.size := World.block_lt_of_cell? w7 ⟨w.heap.size, 0, none⟩ q0)
          | (go_at_call 59; (with_reducible refine (HM2.out _ (hb7.trans ((below_alloc w7 _).mono hb7.size))).mono ?_); rintro e w8 ⟨v8, rfl, hr8, hc8⟩; have hb8 : Below w1.heap.size w1 w8 := hb7.trans (((below_alloc w7 _).trans (hc8.mono (by simp))).mono hb7.size); clear q0 q1 q2 q3 q4 q5 q6 q7 nx7; obtain ⟨q0, q1, q2, q3, q4, q5, q6, q7⟩ := HQ.out w8 hb8; obtain ⟨t0, t1, t2, t3⟩ := box4 rfl hc8; have HR8 := hid_ hr8; have HR78 := hid_ (HR7.out.below ((below_alloc w7 _).trans (hc8.mono (by simp))) (Nat.le_refl _)); obtain ⟨b4, m4, d4, b5, m5, d5, b6, m6, d6, rfl, -, -, -⟩ := hr8; have nx8 : w.heap.size < w8.heap.size := World.block_lt_of_cell? w8 ⟨w.heap.size, 0, none⟩ q0; have ny8 : w7.heap.size < w8.heap.size := World.block_lt_of_cell? w8 ⟨w7.heap.size, 0, none⟩ t0; have HT := hid_ (fun W (hW : Below w8.heap.size w8 W) => (⟨(hW.cell (World.block_lt_of_cell? _ _ t0)).trans t0, (hW.cell (World.block_lt_of_cell? _ _ t1)).trans t1, (hW.cell (World.block_lt_of_cell? _ _ t2)).trans t2, (hW.cell (World.block_lt_of_cell? _ _ t3)).trans t3⟩ : W.cell? ⟨w7.heap.size, 0, none⟩ = _ ∧ W.cell? ⟨w7.heap.size, 1, none⟩ = _ ∧ W.cell? ⟨w7.heap.size, 2, none⟩ = _ ∧ W.cell? ⟨w7.heap.size, 3, none⟩ = _)))
          | (go_at_call 48; (with_reducible refine (HP2.out _ _ _ (HR78.out.below (below_alloc w8 _) (Nat.le_refl _)) (HR8.out.below (below_alloc w8 _) (Nat.le_refl _))).mono ?_); rintro e w9 ⟨rfl, hc9⟩; have he9 : Below w8.heap.size w8 w9 := below_then (below_alloc w8 _) hc9; have hb9 := below_then hb8 he9; clear q0 q1 q2 q3 q4 q5 q6 q7 nx8 ny8 t0 t1 t2 t3; obtain ⟨q0, q1, q2, q3, q4, q5, q6, q7⟩ := HQ.out w9 hb9; obtain ⟨t0, t1, t2, t3⟩ := HT.out w9 he9)
          | (go_at_call 53; (with_reducible refine (HC.out _ hb9).mono ?_); rintro e w10 ⟨rfl, hc10⟩; have hcc10 := hc10; have he10 := below_then he9 hcc10; have hb10 := below_then hb8 he10; clear q0 q1 q2 q3 q4 q5 q6 q7 t0 t1 t2 t3; obtain ⟨q0, q1, q2, q3, q4, q5, q6, q7⟩ := HQ.out w10 hb10; obtain ⟨t0, t1, t2, t3⟩ := HT.out w10 he10))
        go_cut [118] (fun s118 wx => s118 = .bool false ∧ wx = w10)
        case first =>
          rcases Hcombo.out with ⟨rfl, rfl⟩ | ⟨rfl, rfl⟩ | ⟨rfl, rfl⟩
          all_goals
            go_wp2
            go_meet
            exact ⟨rfl, rfl⟩
        case rest =>
          obtain ⟨rfl, rfl⟩ := hcut
          by_cases hv : validW l = 0
          · skip
            have p1 := RR.out hv; have p2 := RS.out hv
            obtain ⟨g1, g2⟩ := validW_ok hv
            obtain ⟨y1, y2, y3, y4⟩ := mir_all VR.out hv
            have HAL := hid_ (fun W hW => ruAtAll_calls _ R a n c l W (HR.out W hW) (HI.out W hW))
            have HAM := hid_ (fun v W a c hr (hi : IntsAt W a l.length c l.reverse) => ruAtAll_calls v (mirR R) a _ c l.reverse W hr hi)
            have HFI := hid_ (fun W hW => ruFirst_calls _ R a n c l W (HR.out W hW) (HI.out W hW))
            have HCNT := hid_ (@stp_count R l)
            have HTF := hid_ (fun h8 => @top_first R l VR.out hv h8)
            have HW8 := hid_ (fun h8 => (show validW (stp R l) = 0 from by rw [validW, if_neg h8, stp_word (validR_ok VR.out).2.2.2.1 g2]; rfl))
            have hcombo2 : ∀ x ∈ plP R l, sp = true → Has (plP S l) x = true := fun x hx hs => by
              have := (hpart.out hs (by rw [ER.out]; exact hv)).2
              rw [partB, List.all_eq_true] at this
              exact this x hx
            have hcombo3 : ∀ x ∈ plP R l, Has (plP S l) x = true → R.f = S.f → mt = true := fun x hx hy hf => hmeet.out x hf (by rw [ER.out]; exact hv) (by rw [ES.out]; exact hv) hx hy
            have HC2 := hid_ hcombo2; have HC3 := hid_ hcombo3; clear hcombo2 hcombo3
            have HPL := hid_ (@plP_len R l)
            have hn8 : n ≤ 8 := by rw [← HLn.out]; exact g1
            rw [hv, p1] at HA; rw [hv, p2] at HB; rw [hv, if_pos rfl] at HK; rw [y1, y2] at HAM; rw [y3, y4] at HAL HAM
            clear y1 y2 y3 y4 p1 p2 g1 g2 hv RR RS hpart hmeet
            have hrl : l.reverse.length = n := by rw [List.length_reverse]; exact HLn.out
            have HRL := hid_ hrl; clear hrl
            go_wp2_with (first
              | (go_at_call 31; (with_reducible refine (HA.out _ hb10).mono ?_); rintro e w11 ⟨v11, rfl, hm11⟩; have hcc11 := hm11.bel; have he11 := below_then he10 hcc11; have hb11 := below_then hb8 he11; clear q0 q1 q2 q3 q4 q5 q6 q7 t0 t1 t2 t3; obtain ⟨q0, q1, q2, q3, q4, q5, q6, q7⟩ := HQ.out w11 hb11; obtain ⟨t0, t1, t2, t3⟩ := HT.out w11 he11; obtain ⟨ax, cx, rfl, hix⟩ := hm11.at_; have Hx := hid_ hix; clear hix hm11)
              | (go_at_call 31; (with_reducible refine (HB.out _ hb11).mono ?_); rintro e w12 ⟨v12, rfl, hm12⟩; have hcc12 := hm12.bel; have he12 := below_then he11 hcc12; have hb12 := below_then hb8 he12; clear q0 q1 q2 q3 q4 q5 q6 q7 t0 t1 t2 t3; obtain ⟨q0, q1, q2, q3, q4, q5, q6, q7⟩ := HQ.out w12 hb12; obtain ⟨t0, t1, t2, t3⟩ := HT.out w12 he12; obtain ⟨ay, cy, rfl, hiy⟩ := hm12.at_; have Hy := hid_ hiy; clear hiy hm12)
              | (go_at_call 61; (with_reducible refine (HK.out _ hb12).mono ?_); rintro e w13 ⟨v13, rfl, hm13⟩; have hcc13 := hm13.bel; have he13 := below_then he12 hcc13; have hb13 := below_then hb8 he13; clear q0 q1 q2 q3 q4 q5 q6 q7 t0 t1 t2 t3; obtain ⟨q0, q1, q2, q3, q4, q5, q6, q7⟩ := HQ.out w13 hb13; obtain ⟨t0, t1, t2, t3⟩ := HT.out w13 he13; obtain ⟨ak, ck, rfl, hik⟩ := hm13.at_; have Hk := hid_ hik; clear hik hm13))
            have hP1 : (plP R l).length ≤ 9 := by have := HPL.out; have := HLn.out; omega
            have HXw := hid_ (Hx.out.below (below_then hcc12 hcc13) (Nat.le_refl _))
            have HYw := hid_ (Hy.out.below hcc13 (Nat.le_refl _))
            generalize hN : (plP R l).length = N at *
            have HN := hid_ hN; clear hN
            generalize (plP S l).length = N2 at *
            go_loop [19] (fun i => ∃ k : Nat, k ≤ N ∧ i = .int .i64 k) (fun i => N - (intOf i).toNat)
            case atStart => exact ⟨0, Nat.zero_le _, rfl⟩
            case round =>
              obtain ⟨k, hk, rfl⟩ := hrel
              by_cases hlt : k < N
              · skip
                obtain ⟨b, off, rfl, hbl, hcell⟩ := HXw.out.cells k hlt
                have hmem : (plP R l).getD k 0 ∈ plP R l := getD_mem (by rw [HN.out]; exact hlt)
                have k2 := HC2.out _ hmem; have k3 := HC3.out _ hmem
                have HH := hid_ (fun W (hW : w13 = W) => has_calls ay N2 cy (plP S l) ((plP R l).getD k 0) w13 HYw.out)
                have HH := hid_ (has_calls ay N2 cy (plP S l) ((plP R l).getD k 0) w13 HYw.out)
                clear hmem
                generalize (plP R l).getD k 0 = x at *
                generalize hh : Has (plP S l) x = hx at *
                clear hh
                have K2 := hid_ k2; have K3 := hid_ k3; clear k2 k3
                rcases Hcombo.out with ⟨rfl, rfl⟩ | ⟨rfl, rfl⟩ | ⟨rfl, rfl⟩
                · as_aux_lemma =>
                    cases hx
                    · skip
                      go_wp2_with (go_at_call 103; (with_reducible refine HH.out.mono ?_); rintro e w14 ⟨rfl, rfl⟩)
                      go_round
                      case rel => exact ⟨k + 1, by omega, by go_num⟩
                      case measure => simp [intOf]; omega
                    · skip
                      have hq : (R.f == S.f) = false := by have := K3.out rfl; simpa using this
                      go_wp2_with (go_at_call 103; (with_reducible refine HH.out.mono ?_); rintro e w14 ⟨rfl, rfl⟩)
                      go_round
                      case rel => exact ⟨k + 1, by omega, by go_num⟩
                      case measure => simp [intOf]; omega
                · as_aux_lemma =>
                    cases hx
                    all_goals
                      go_wp2_with (go_at_call 103; (with_reducible refine HH.out.mono ?_); rintro e w14 ⟨rfl, rfl⟩)
                      go_round
                      case rel => exact ⟨k + 1, by omega, by go_num⟩
                      case measure => simp [intOf]; omega
                · as_aux_lemma =>
                    have hz : hx = true := K2.out rfl
                    subst hz
                    go_wp2_with (go_at_call 103; (with_reducible refine HH.out.mono ?_); rintro e w14 ⟨rfl, rfl⟩)
                    go_round
                    case rel => exact ⟨k + 1, by omega, by go_num⟩
                    case measure => simp [intOf]; omega
              · skip
                obtain rfl : N = k := by omega
                clear Hcombo HC2 HC3
                have Hk2 : Hid (IntsAt w13 ak l.length ck l.reverse) := hid_ (by have := Hk.out; rwa [List.length_reverse] at this)
                have vR := VR.out
                have o2 := (validR_ok vR).2.2.1
                have f1 := (validR_ok vR).1
                have hn1 := ruleAt_len Hr.out
                have hm3 : n1 = 0 ∨ n1 = 1 ∨ n1 = 2 := by omega
                have hcnt := HCNT.out
                rw [HLn.out, hn1] at hcnt
                have HTF2 := HTF.out
                rw [HLn.out, hn1] at HTF2
                have HTF3 := hid_ HTF2; clear HTF2 HTF HCNT
                have Hcnt := hid_ hcnt; clear hcnt
                clear HN HPL hlt hk
                by_cases hf : R.f = -1
                · as_aux_lemma =>
                    have htk : tkN R = 0 := if_pos hf
                    have hfn : ¬ (0 : Int) ≤ R.f := by omega
                    rw [htk] at Hcnt HTF3
                    clear htk hf f1 vR o2 hn1
                    rcases hm3 with h | h | h
                    · as_aux_lemma =>
                        subst h
                        by_cases h8 : 8 < (stp R l).length
                        · as_aux_lemma =>
                            exfalso
                            have := Hcnt.out
                            omega
                        · as_aux_lemma =>
                            have hle : (((stp R l).length : Nat) : Int) ≤ (n : Int) := by have := Hcnt.out; omega
                            have hge : (n : Int) ≤ (((stp R l).length : Nat) : Int) := by have := Hcnt.out; omega
                            rw [if_neg h8, if_neg h8] at HAL HAM
                            have HBK := hid_ (fun W a c (hi : IntsAt W a (stp R l).length c (stp R l)) => ruBack_calls a _ c (stp R l) W hi)
                            rw [HW8.out h8, if_pos rfl] at HBK
                            have h88 : (stp R l).length ≤ 8 := by omega
                            obtain ⟨t8, t9, t10, t11⟩ := HTF3.out h88
                            have HSm := hid_ (fun W a n c a' n' c' (h : IntsAt W a n c (stp R l).reverse) (h' : IntsAt W a' n' c' (stp R l).reverse) => sameT_calls a n c _ a' n' c' W h h')
                            rw [t8, t9] at HFI
                            have T10 := hid_ t10; have T11 := hid_ t11; clear t8 t9 t10 t11 h8 Hcnt HTF3 HW8
                            generalize stp R l = V at *
                            by_cases hN0 : 0 < N
                            · as_aux_lemma =>
                                have t11 := T11.out hN0
                                rw [decide_eq_true hN0] at HFI
                                have hfl : (((resFirst R l).length : Nat) : Int) ≤ (n : Int) := by omega
                                have hfg : (n : Int) ≤ (((resFirst R l).length : Nat) : Int) := by omega
                                clear t11
                                clear T10 T11
                                generalize resFirst R l = F at *
                                go_wp2_with (first
                                  | (go_at_call 42; (with_reducible refine (HAL.out _ hb13).mono ?_); rintro e w14 ⟨v14, rfl, hm14⟩; have hcc14 := hm14.bel; have he14 := below_then he13 hcc14; have hb14 := below_then hb8 he14; clear q0 q1 q2 q3 q4 q5 q6 q7 t0 t1 t2 t3; obtain ⟨q0, q1, q2, q3, q4, q5, q6, q7⟩ := HQ.out w14 hb14; obtain ⟨t0, t1, t2, t3⟩ := HT.out w14 he14; obtain ⟨av, cv, rfl, hiv⟩ := hm14.at_; have Hv := hid_ hiv; clear hiv hm14)
                                  | (go_at_call 42; (with_reducible refine (HAM.out _ _ _ _ (HR78.out.below he14 (Nat.le_refl _)) (Hk2.out.below hcc14 (Nat.le_refl _))).mono ?_); rintro e w15 ⟨v15, rfl, hm15⟩; have hcc15 := hm15.bel; have he15 := below_then he14 hcc15; have hb15 := below_then hb8 he15; clear q0 q1 q2 q3 q4 q5 q6 q7 t0 t1 t2 t3; obtain ⟨q0, q1, q2, q3, q4, q5, q6, q7⟩ := HQ.out w15 hb15; obtain ⟨t0, t1, t2, t3⟩ := HT.out w15 he15; obtain ⟨au, cu, evu, hiu⟩ := hm15.at_; rw [List.length_reverse] at evu hiu; subst evu; have Hu := hid_ hiu; clear hiu hm15)
                                  | (go_at_call 61; (with_reducible refine (HBK.out _ _ _ (Hv.out.below hcc15 (Nat.le_refl _))).mono ?_); rintro e w16 ⟨v16, rfl, hm16⟩; have hcc16 := hm16.bel; have he16 := below_then he15 hcc16; have hb16 := below_then hb8 he16; clear q0 q1 q2 q3 q4 q5 q6 q7 t0 t1 t2 t3; obtain ⟨q0, q1, q2, q3, q4, q5, q6, q7⟩ := HQ.out w16 hb16; obtain ⟨t0, t1, t2, t3⟩ := HT.out w16 he16; obtain ⟨ar3, cr3, evr3, hir3⟩ := hm16.at_; rw [List.length_reverse] at evr3 hir3; subst evr3; have Hr3 := hid_ hir3; clear hir3 hm16)
                                  | (go_at_call 40; (with_reducible refine (HFI.out _ hb16).mono ?_); rintro e w17 ⟨v17, rfl, hm17⟩; have hcc17 := hm17.bel; have he17 := below_then he16 hcc17; have hb17 := below_then hb8 he17; clear q0 q1 q2 q3 q4 q5 q6 q7 t0 t1 t2 t3; obtain ⟨q0, q1, q2, q3, q4, q5, q6, q7⟩ := HQ.out w17 hb17; obtain ⟨t0, t1, t2, t3⟩ := HT.out w17 he17; obtain ⟨af3, cf3, rfl, hif3⟩ := hm17.at_; have Hf3 := hid_ hif3; clear hif3 hm17)
                                  | (go_at_call 37; (with_reducible refine (HSm.out _ _ _ _ _ _ _ (Hu.out.below (below_then hcc16 hcc17) (Nat.le_refl _)) (Hr3.out.below hcc17 (Nat.le_refl _))).mono ?_); rintro e w18 ⟨rfl, hc18⟩; have hcc18 := hc18; have he18 := below_then he17 hcc18; have hb18 := below_then hb8 he18; clear q0 q1 q2 q3 q4 q5 q6 q7 t0 t1 t2 t3; obtain ⟨q0, q1, q2, q3, q4, q5, q6, q7⟩ := HQ.out w18 hb18; obtain ⟨t0, t1, t2, t3⟩ := HT.out w18 he18))
                                go_ret
                                exact ⟨eqb_true (by omega), Hb1.out.trans (hb18.mono Hb1.out.size)⟩
                            · as_aux_lemma =>
                                rw [decide_eq_false hN0] at HFI
                                clear T10 T11
                                generalize resFirst R l = F at *
                                go_wp2_with (first
                                  | (go_at_call 42; (with_reducible refine (HAL.out _ hb13).mono ?_); rintro e w14 ⟨v14, rfl, hm14⟩; have hcc14 := hm14.bel; have he14 := below_then he13 hcc14; have hb14 := below_then hb8 he14; clear q0 q1 q2 q3 q4 q5 q6 q7 t0 t1 t2 t3; obtain ⟨q0, q1, q2, q3, q4, q5, q6, q7⟩ := HQ.out w14 hb14; obtain ⟨t0, t1, t2, t3⟩ := HT.out w14 he14; obtain ⟨av, cv, rfl, hiv⟩ := hm14.at_; have Hv := hid_ hiv; clear hiv hm14)
                                  | (go_at_call 42; (with_reducible refine (HAM.out _ _ _ _ (HR78.out.below he14 (Nat.le_refl _)) (Hk2.out.below hcc14 (Nat.le_refl _))).mono ?_); rintro e w15 ⟨v15, rfl, hm15⟩; have hcc15 := hm15.bel; have he15 := below_then he14 hcc15; have hb15 := below_then hb8 he15; clear q0 q1 q2 q3 q4 q5 q6 q7 t0 t1 t2 t3; obtain ⟨q0, q1, q2, q3, q4, q5, q6, q7⟩ := HQ.out w15 hb15; obtain ⟨t0, t1, t2, t3⟩ := HT.out w15 he15; obtain ⟨au, cu, evu, hiu⟩ := hm15.at_; rw [List.length_reverse] at evu hiu; subst evu; have Hu := hid_ hiu; clear hiu hm15)
                                  | (go_at_call 61; (with_reducible refine (HBK.out _ _ _ (Hv.out.below hcc15 (Nat.le_refl _))).mono ?_); rintro e w16 ⟨v16, rfl, hm16⟩; have hcc16 := hm16.bel; have he16 := below_then he15 hcc16; have hb16 := below_then hb8 he16; clear q0 q1 q2 q3 q4 q5 q6 q7 t0 t1 t2 t3; obtain ⟨q0, q1, q2, q3, q4, q5, q6, q7⟩ := HQ.out w16 hb16; obtain ⟨t0, t1, t2, t3⟩ := HT.out w16 he16; obtain ⟨ar3, cr3, evr3, hir3⟩ := hm16.at_; rw [List.length_reverse] at evr3 hir3; subst evr3; have Hr3 := hid_ hir3; clear hir3 hm16)
                                  | (go_at_call 40; (with_reducible refine (HFI.out _ hb16).mono ?_); rintro e w17 ⟨v17, rfl, hm17⟩; have hcc17 := hm17.bel; have he17 := below_then he16 hcc17; have hb17 := below_then hb8 he17; clear q0 q1 q2 q3 q4 q5 q6 q7 t0 t1 t2 t3; obtain ⟨q0, q1, q2, q3, q4, q5, q6, q7⟩ := HQ.out w17 hb17; obtain ⟨t0, t1, t2, t3⟩ := HT.out w17 he17; obtain ⟨af3, cf3, rfl, hif3⟩ := hm17.at_; have Hf3 := hid_ hif3; clear hif3 hm17)
                                  | (go_at_call 37; (with_reducible refine (HSm.out _ _ _ _ _ _ _ (Hu.out.below (below_then hcc16 hcc17) (Nat.le_refl _)) (Hr3.out.below hcc17 (Nat.le_refl _))).mono ?_); rintro e w18 ⟨rfl, hc18⟩; have hcc18 := hc18; have he18 := below_then he17 hcc18; have hb18 := below_then hb8 he18; clear q0 q1 q2 q3 q4 q5 q6 q7 t0 t1 t2 t3; obtain ⟨q0, q1, q2, q3, q4, q5, q6, q7⟩ := HQ.out w18 hb18; obtain ⟨t0, t1, t2, t3⟩ := HT.out w18 he18))
                                go_ret
                                exact ⟨rfl, Hb1.out.trans (hb18.mono Hb1.out.size)⟩
                    · as_aux_lemma =>
                        subst h
                        by_cases h8 : 8 < (stp R l).length
                        · as_aux_lemma =>
                            have hgt : (8 : Int) < (n : Int) + (N : Int) := by have := Hcnt.out; omega
                            rw [if_pos h8, if_pos h8] at HAL HAM
                            clear Hcnt HTF3 HW8 h8
                            go_wp2_with (first
                              | (go_at_call 42; (with_reducible refine (HAL.out _ hb13).mono ?_); rintro e w14 ⟨v14, rfl, hm14⟩; have hcc14 := hm14.bel; have he14 := below_then he13 hcc14; have hb14 := below_then hb8 he14; clear q0 q1 q2 q3 q4 q5 q6 q7 t0 t1 t2 t3; obtain ⟨q0, q1, q2, q3, q4, q5, q6, q7⟩ := HQ.out w14 hb14; obtain ⟨t0, t1, t2, t3⟩ := HT.out w14 he14; obtain ⟨av, cv, rfl, hiv⟩ := hm14.at_; have Hv := hid_ hiv; clear hiv hm14)
                              | (go_at_call 42; (with_reducible refine (HAM.out _ _ _ _ (HR78.out.below he14 (Nat.le_refl _)) (Hk2.out.below hcc14 (Nat.le_refl _))).mono ?_); rintro e w15 ⟨v15, rfl, hm15⟩; have hcc15 := hm15.bel; have he15 := below_then he14 hcc15; have hb15 := below_then hb8 he15; clear q0 q1 q2 q3 q4 q5 q6 q7 t0 t1 t2 t3; obtain ⟨q0, q1, q2, q3, q4, q5, q6, q7⟩ := HQ.out w15 hb15; obtain ⟨t0, t1, t2, t3⟩ := HT.out w15 he15; obtain ⟨au, cu, evu, hiu⟩ := hm15.at_; rw [List.length_reverse] at evu hiu; subst evu; have Hu := hid_ hiu; clear hiu hm15))
                            go_ret
                            exact ⟨rfl, Hb1.out.trans (hb15.mono Hb1.out.size)⟩
                        · as_aux_lemma =>
                            have hle : (((stp R l).length : Nat) : Int) ≤ (n : Int) + (N : Int) := by have := Hcnt.out; omega
                            have hge : (n : Int) + (N : Int) ≤ (((stp R l).length : Nat) : Int) := by have := Hcnt.out; omega
                            rw [if_neg h8, if_neg h8] at HAL HAM
                            have HBK := hid_ (fun W a c (hi : IntsAt W a (stp R l).length c (stp R l)) => ruBack_calls a _ c (stp R l) W hi)
                            rw [HW8.out h8, if_pos rfl] at HBK
                            have h88 : (stp R l).length ≤ 8 := by omega
                            obtain ⟨t8, t9, t10, t11⟩ := HTF3.out h88
                            have HSm := hid_ (fun W a n c a' n' c' (h : IntsAt W a n c (stp R l).reverse) (h' : IntsAt W a' n' c' (stp R l).reverse) => sameT_calls a n c _ a' n' c' W h h')
                            rw [t8, t9] at HFI
                            have T10 := hid_ t10; have T11 := hid_ t11; clear t8 t9 t10 t11 h8 Hcnt HTF3 HW8
                            generalize stp R l = V at *
                            by_cases hN0 : 0 < N
                            · as_aux_lemma =>
                                have t11 := T11.out hN0
                                rw [decide_eq_true hN0] at HFI
                                have hfl : (((resFirst R l).length : Nat) : Int) ≤ (n : Int) + 1 := by omega
                                have hfg : (n : Int) + 1 ≤ (((resFirst R l).length : Nat) : Int) := by omega
                                clear t11
                                clear T10 T11
                                generalize resFirst R l = F at *
                                go_wp2_with (first
                                  | (go_at_call 42; (with_reducible refine (HAL.out _ hb13).mono ?_); rintro e w14 ⟨v14, rfl, hm14⟩; have hcc14 := hm14.bel; have he14 := below_then he13 hcc14; have hb14 := below_then hb8 he14; clear q0 q1 q2 q3 q4 q5 q6 q7 t0 t1 t2 t3; obtain ⟨q0, q1, q2, q3, q4, q5, q6, q7⟩ := HQ.out w14 hb14; obtain ⟨t0, t1, t2, t3⟩ := HT.out w14 he14; obtain ⟨av, cv, rfl, hiv⟩ := hm14.at_; have Hv := hid_ hiv; clear hiv hm14)
                                  | (go_at_call 42; (with_reducible refine (HAM.out _ _ _ _ (HR78.out.below he14 (Nat.le_refl _)) (Hk2.out.below hcc14 (Nat.le_refl _))).mono ?_); rintro e w15 ⟨v15, rfl, hm15⟩; have hcc15 := hm15.bel; have he15 := below_then he14 hcc15; have hb15 := below_then hb8 he15; clear q0 q1 q2 q3 q4 q5 q6 q7 t0 t1 t2 t3; obtain ⟨q0, q1, q2, q3, q4, q5, q6, q7⟩ := HQ.out w15 hb15; obtain ⟨t0, t1, t2, t3⟩ := HT.out w15 he15; obtain ⟨au, cu, evu, hiu⟩ := hm15.at_; rw [List.length_reverse] at evu hiu; subst evu; have Hu := hid_ hiu; clear hiu hm15)
                                  | (go_at_call 61; (with_reducible refine (HBK.out _ _ _ (Hv.out.below hcc15 (Nat.le_refl _))).mono ?_); rintro e w16 ⟨v16, rfl, hm16⟩; have hcc16 := hm16.bel; have he16 := below_then he15 hcc16; have hb16 := below_then hb8 he16; clear q0 q1 q2 q3 q4 q5 q6 q7 t0 t1 t2 t3; obtain ⟨q0, q1, q2, q3, q4, q5, q6, q7⟩ := HQ.out w16 hb16; obtain ⟨t0, t1, t2, t3⟩ := HT.out w16 he16; obtain ⟨ar3, cr3, evr3, hir3⟩ := hm16.at_; rw [List.length_reverse] at evr3 hir3; subst evr3; have Hr3 := hid_ hir3; clear hir3 hm16)
                                  | (go_at_call 40; (with_reducible refine (HFI.out _ hb16).mono ?_); rintro e w17 ⟨v17, rfl, hm17⟩; have hcc17 := hm17.bel; have he17 := below_then he16 hcc17; have hb17 := below_then hb8 he17; clear q0 q1 q2 q3 q4 q5 q6 q7 t0 t1 t2 t3; obtain ⟨q0, q1, q2, q3, q4, q5, q6, q7⟩ := HQ.out w17 hb17; obtain ⟨t0, t1, t2, t3⟩ := HT.out w17 he17; obtain ⟨af3, cf3, rfl, hif3⟩ := hm17.at_; have Hf3 := hid_ hif3; clear hif3 hm17)
                                  | (go_at_call 37; (with_reducible refine (HSm.out _ _ _ _ _ _ _ (Hu.out.below (below_then hcc16 hcc17) (Nat.le_refl _)) (Hr3.out.below hcc17 (Nat.le_refl _))).mono ?_); rintro e w18 ⟨rfl, hc18⟩; have hcc18 := hc18; have he18 := below_then he17 hcc18; have hb18 := below_then hb8 he18; clear q0 q1 q2 q3 q4 q5 q6 q7 t0 t1 t2 t3; obtain ⟨q0, q1, q2, q3, q4, q5, q6, q7⟩ := HQ.out w18 hb18; obtain ⟨t0, t1, t2, t3⟩ := HT.out w18 he18))
                                go_ret
                                exact ⟨eqb_true (by omega), Hb1.out.trans (hb18.mono Hb1.out.size)⟩
                            · as_aux_lemma =>
                                rw [decide_eq_false hN0] at HFI
                                clear T10 T11
                                generalize resFirst R l = F at *
                                go_wp2_with (first
                                  | (go_at_call 42; (with_reducible refine (HAL.out _ hb13).mono ?_); rintro e w14 ⟨v14, rfl, hm14⟩; have hcc14 := hm14.bel; have he14 := below_then he13 hcc14; have hb14 := below_then hb8 he14; clear q0 q1 q2 q3 q4 q5 q6 q7 t0 t1 t2 t3; obtain ⟨q0, q1, q2, q3, q4, q5, q6, q7⟩ := HQ.out w14 hb14; obtain ⟨t0, t1, t2, t3⟩ := HT.out w14 he14; obtain ⟨av, cv, rfl, hiv⟩ := hm14.at_; have Hv := hid_ hiv; clear hiv hm14)
                                  | (go_at_call 42; (with_reducible refine (HAM.out _ _ _ _ (HR78.out.below he14 (Nat.le_refl _)) (Hk2.out.below hcc14 (Nat.le_refl _))).mono ?_); rintro e w15 ⟨v15, rfl, hm15⟩; have hcc15 := hm15.bel; have he15 := below_then he14 hcc15; have hb15 := below_then hb8 he15; clear q0 q1 q2 q3 q4 q5 q6 q7 t0 t1 t2 t3; obtain ⟨q0, q1, q2, q3, q4, q5, q6, q7⟩ := HQ.out w15 hb15; obtain ⟨t0, t1, t2, t3⟩ := HT.out w15 he15; obtain ⟨au, cu, evu, hiu⟩ := hm15.at_; rw [List.length_reverse] at evu hiu; subst evu; have Hu := hid_ hiu; clear hiu hm15)
                                  | (go_at_call 61; (with_reducible refine (HBK.out _ _ _ (Hv.out.below hcc15 (Nat.le_refl _))).mono ?_); rintro e w16 ⟨v16, rfl, hm16⟩; have hcc16 := hm16.bel; have he16 := below_then he15 hcc16; have hb16 := below_then hb8 he16; clear q0 q1 q2 q3 q4 q5 q6 q7 t0 t1 t2 t3; obtain ⟨q0, q1, q2, q3, q4, q5, q6, q7⟩ := HQ.out w16 hb16; obtain ⟨t0, t1, t2, t3⟩ := HT.out w16 he16; obtain ⟨ar3, cr3, evr3, hir3⟩ := hm16.at_; rw [List.length_reverse] at evr3 hir3; subst evr3; have Hr3 := hid_ hir3; clear hir3 hm16)
                                  | (go_at_call 40; (with_reducible refine (HFI.out _ hb16).mono ?_); rintro e w17 ⟨v17, rfl, hm17⟩; have hcc17 := hm17.bel; have he17 := below_then he16 hcc17; have hb17 := below_then hb8 he17; clear q0 q1 q2 q3 q4 q5 q6 q7 t0 t1 t2 t3; obtain ⟨q0, q1, q2, q3, q4, q5, q6, q7⟩ := HQ.out w17 hb17; obtain ⟨t0, t1, t2, t3⟩ := HT.out w17 he17; obtain ⟨af3, cf3, rfl, hif3⟩ := hm17.at_; have Hf3 := hid_ hif3; clear hif3 hm17)
                                  | (go_at_call 37; (with_reducible refine (HSm.out _ _ _ _ _ _ _ (Hu.out.below (below_then hcc16 hcc17) (Nat.le_refl _)) (Hr3.out.below hcc17 (Nat.le_refl _))).mono ?_); rintro e w18 ⟨rfl, hc18⟩; have hcc18 := hc18; have he18 := below_then he17 hcc18; have hb18 := below_then hb8 he18; clear q0 q1 q2 q3 q4 q5 q6 q7 t0 t1 t2 t3; obtain ⟨q0, q1, q2, q3, q4, q5, q6, q7⟩ := HQ.out w18 hb18; obtain ⟨t0, t1, t2, t3⟩ := HT.out w18 he18))
                                go_ret
                                exact ⟨rfl, Hb1.out.trans (hb18.mono Hb1.out.size)⟩
                    · as_aux_lemma =>
                        subst h
                        by_cases h8 : 8 < (stp R l).length
                        · as_aux_lemma =>
                            have hgt : (8 : Int) < (n : Int) + 2 * (N : Int) := by have := Hcnt.out; omega
                            rw [if_pos h8, if_pos h8] at HAL HAM
                            clear Hcnt HTF3 HW8 h8
                            go_wp2_with (first
                              | (go_at_call 42; (with_reducible refine (HAL.out _ hb13).mono ?_); rintro e w14 ⟨v14, rfl, hm14⟩; have hcc14 := hm14.bel; have he14 := below_then he13 hcc14; have hb14 := below_then hb8 he14; clear q0 q1 q2 q3 q4 q5 q6 q7 t0 t1 t2 t3; obtain ⟨q0, q1, q2, q3, q4, q5, q6, q7⟩ := HQ.out w14 hb14; obtain ⟨t0, t1, t2, t3⟩ := HT.out w14 he14; obtain ⟨av, cv, rfl, hiv⟩ := hm14.at_; have Hv := hid_ hiv; clear hiv hm14)
                              | (go_at_call 42; (with_reducible refine (HAM.out _ _ _ _ (HR78.out.below he14 (Nat.le_refl _)) (Hk2.out.below hcc14 (Nat.le_refl _))).mono ?_); rintro e w15 ⟨v15, rfl, hm15⟩; have hcc15 := hm15.bel; have he15 := below_then he14 hcc15; have hb15 := below_then hb8 he15; clear q0 q1 q2 q3 q4 q5 q6 q7 t0 t1 t2 t3; obtain ⟨q0, q1, q2, q3, q4, q5, q6, q7⟩ := HQ.out w15 hb15; obtain ⟨t0, t1, t2, t3⟩ := HT.out w15 he15; obtain ⟨au, cu, evu, hiu⟩ := hm15.at_; rw [List.length_reverse] at evu hiu; subst evu; have Hu := hid_ hiu; clear hiu hm15))
                            go_ret
                            exact ⟨rfl, Hb1.out.trans (hb15.mono Hb1.out.size)⟩
                        · as_aux_lemma =>
                            have hle : (((stp R l).length : Nat) : Int) ≤ (n : Int) + 2 * (N : Int) := by have := Hcnt.out; omega
                            have hge : (n : Int) + 2 * (N : Int) ≤ (((stp R l).length : Nat) : Int) := by have := Hcnt.out; omega
                            rw [if_neg h8, if_neg h8] at HAL HAM
                            have HBK := hid_ (fun W a c (hi : IntsAt W a (stp R l).length c (stp R l)) => ruBack_calls a _ c (stp R l) W hi)
                            rw [HW8.out h8, if_pos rfl] at HBK
                            have h88 : (stp R l).length ≤ 8 := by omega
                            obtain ⟨t8, t9, t10, t11⟩ := HTF3.out h88
                            have HSm := hid_ (fun W a n c a' n' c' (h : IntsAt W a n c (stp R l).reverse) (h' : IntsAt W a' n' c' (stp R l).reverse) => sameT_calls a n c _ a' n' c' W h h')
                            rw [t8, t9] at HFI
                            have T10 := hid_ t10; have T11 := hid_ t11; clear t8 t9 t10 t11 h8 Hcnt HTF3 HW8
                            generalize stp R l = V at *
                            by_cases hN0 : 0 < N
                            · as_aux_lemma =>
                                have t11 := T11.out hN0
                                rw [decide_eq_true hN0] at HFI
                                have hfl : (((resFirst R l).length : Nat) : Int) ≤ (n : Int) + 2 := by omega
                                have hfg : (n : Int) + 2 ≤ (((resFirst R l).length : Nat) : Int) := by omega
                                clear t11
                                clear T10 T11
                                generalize resFirst R l = F at *
                                go_wp2_with (first
                                  | (go_at_call 42; (with_reducible refine (HAL.out _ hb13).mono ?_); rintro e w14 ⟨v14, rfl, hm14⟩; have hcc14 := hm14.bel; have he14 := below_then he13 hcc14; have hb14 := below_then hb8 he14; clear q0 q1 q2 q3 q4 q5 q6 q7 t0 t1 t2 t3; obtain ⟨q0, q1, q2, q3, q4, q5, q6, q7⟩ := HQ.out w14 hb14; obtain ⟨t0, t1, t2, t3⟩ := HT.out w14 he14; obtain ⟨av, cv, rfl, hiv⟩ := hm14.at_; have Hv := hid_ hiv; clear hiv hm14)
                                  | (go_at_call 42; (with_reducible refine (HAM.out _ _ _ _ (HR78.out.below he14 (Nat.le_refl _)) (Hk2.out.below hcc14 (Nat.le_refl _))).mono ?_); rintro e w15 ⟨v15, rfl, hm15⟩; have hcc15 := hm15.bel; have he15 := below_then he14 hcc15; have hb15 := below_then hb8 he15; clear q0 q1 q2 q3 q4 q5 q6 q7 t0 t1 t2 t3; obtain ⟨q0, q1, q2, q3, q4, q5, q6, q7⟩ := HQ.out w15 hb15; obtain ⟨t0, t1, t2, t3⟩ := HT.out w15 he15; obtain ⟨au, cu, evu, hiu⟩ := hm15.at_; rw [List.length_reverse] at evu hiu; subst evu; have Hu := hid_ hiu; clear hiu hm15)
                                  | (go_at_call 61; (with_reducible refine (HBK.out _ _ _ (Hv.out.below hcc15 (Nat.le_refl _))).mono ?_); rintro e w16 ⟨v16, rfl, hm16⟩; have hcc16 := hm16.bel; have he16 := below_then he15 hcc16; have hb16 := below_then hb8 he16; clear q0 q1 q2 q3 q4 q5 q6 q7 t0 t1 t2 t3; obtain ⟨q0, q1, q2, q3, q4, q5, q6, q7⟩ := HQ.out w16 hb16; obtain ⟨t0, t1, t2, t3⟩ := HT.out w16 he16; obtain ⟨ar3, cr3, evr3, hir3⟩ := hm16.at_; rw [List.length_reverse] at evr3 hir3; subst evr3; have Hr3 := hid_ hir3; clear hir3 hm16)
                                  | (go_at_call 40; (with_reducible refine (HFI.out _ hb16).mono ?_); rintro e w17 ⟨v17, rfl, hm17⟩; have hcc17 := hm17.bel; have he17 := below_then he16 hcc17; have hb17 := below_then hb8 he17; clear q0 q1 q2 q3 q4 q5 q6 q7 t0 t1 t2 t3; obtain ⟨q0, q1, q2, q3, q4, q5, q6, q7⟩ := HQ.out w17 hb17; obtain ⟨t0, t1, t2, t3⟩ := HT.out w17 he17; obtain ⟨af3, cf3, rfl, hif3⟩ := hm17.at_; have Hf3 := hid_ hif3; clear hif3 hm17)
                                  | (go_at_call 37; (with_reducible refine (HSm.out _ _ _ _ _ _ _ (Hu.out.below (below_then hcc16 hcc17) (Nat.le_refl _)) (Hr3.out.below hcc17 (Nat.le_refl _))).mono ?_); rintro e w18 ⟨rfl, hc18⟩; have hcc18 := hc18; have he18 := below_then he17 hcc18; have hb18 := below_then hb8 he18; clear q0 q1 q2 q3 q4 q5 q6 q7 t0 t1 t2 t3; obtain ⟨q0, q1, q2, q3, q4, q5, q6, q7⟩ := HQ.out w18 hb18; obtain ⟨t0, t1, t2, t3⟩ := HT.out w18 he18))
                                go_ret
                                exact ⟨eqb_true (by omega), Hb1.out.trans (hb18.mono Hb1.out.size)⟩
                            · as_aux_lemma =>
                                rw [decide_eq_false hN0] at HFI
                                clear T10 T11
                                generalize resFirst R l = F at *
                                go_wp2_with (first
                                  | (go_at_call 42; (with_reducible refine (HAL.out _ hb13).mono ?_); rintro e w14 ⟨v14, rfl, hm14⟩; have hcc14 := hm14.bel; have he14 := below_then he13 hcc14; have hb14 := below_then hb8 he14; clear q0 q1 q2 q3 q4 q5 q6 q7 t0 t1 t2 t3; obtain ⟨q0, q1, q2, q3, q4, q5, q6, q7⟩ := HQ.out w14 hb14; obtain ⟨t0, t1, t2, t3⟩ := HT.out w14 he14; obtain ⟨av, cv, rfl, hiv⟩ := hm14.at_; have Hv := hid_ hiv; clear hiv hm14)
                                  | (go_at_call 42; (with_reducible refine (HAM.out _ _ _ _ (HR78.out.below he14 (Nat.le_refl _)) (Hk2.out.below hcc14 (Nat.le_refl _))).mono ?_); rintro e w15 ⟨v15, rfl, hm15⟩; have hcc15 := hm15.bel; have he15 := below_then he14 hcc15; have hb15 := below_then hb8 he15; clear q0 q1 q2 q3 q4 q5 q6 q7 t0 t1 t2 t3; obtain ⟨q0, q1, q2, q3, q4, q5, q6, q7⟩ := HQ.out w15 hb15; obtain ⟨t0, t1, t2, t3⟩ := HT.out w15 he15; obtain ⟨au, cu, evu, hiu⟩ := hm15.at_; rw [List.length_reverse] at evu hiu; subst evu; have Hu := hid_ hiu; clear hiu hm15)
                                  | (go_at_call 61; (with_reducible refine (HBK.out _ _ _ (Hv.out.below hcc15 (Nat.le_refl _))).mono ?_); rintro e w16 ⟨v16, rfl, hm16⟩; have hcc16 := hm16.bel; have he16 := below_then he15 hcc16; have hb16 := below_then hb8 he16; clear q0 q1 q2 q3 q4 q5 q6 q7 t0 t1 t2 t3; obtain ⟨q0, q1, q2, q3, q4, q5, q6, q7⟩ := HQ.out w16 hb16; obtain ⟨t0, t1, t2, t3⟩ := HT.out w16 he16; obtain ⟨ar3, cr3, evr3, hir3⟩ := hm16.at_; rw [List.length_reverse] at evr3 hir3; subst evr3; have Hr3 := hid_ hir3; clear hir3 hm16)
                                  | (go_at_call 40; (with_reducible refine (HFI.out _ hb16).mono ?_); rintro e w17 ⟨v17, rfl, hm17⟩; have hcc17 := hm17.bel; have he17 := below_then he16 hcc17; have hb17 := below_then hb8 he17; clear q0 q1 q2 q3 q4 q5 q6 q7 t0 t1 t2 t3; obtain ⟨q0, q1, q2, q3, q4, q5, q6, q7⟩ := HQ.out w17 hb17; obtain ⟨t0, t1, t2, t3⟩ := HT.out w17 he17; obtain ⟨af3, cf3, rfl, hif3⟩ := hm17.at_; have Hf3 := hid_ hif3; clear hif3 hm17)
                                  | (go_at_call 37; (with_reducible refine (HSm.out _ _ _ _ _ _ _ (Hu.out.below (below_then hcc16 hcc17) (Nat.le_refl _)) (Hr3.out.below hcc17 (Nat.le_refl _))).mono ?_); rintro e w18 ⟨rfl, hc18⟩; have hcc18 := hc18; have he18 := below_then he17 hcc18; have hb18 := below_then hb8 he18; clear q0 q1 q2 q3 q4 q5 q6 q7 t0 t1 t2 t3; obtain ⟨q0, q1, q2, q3, q4, q5, q6, q7⟩ := HQ.out w18 hb18; obtain ⟨t0, t1, t2, t3⟩ := HT.out w18 he18))
                                go_ret
                                exact ⟨rfl, Hb1.out.trans (hb18.mono Hb1.out.size)⟩
                · as_aux_lemma =>
                    have htk : tkN R = 1 := if_neg hf
                    have hfn : (0 : Int) ≤ R.f := by omega
                    rw [htk] at Hcnt HTF3
                    clear htk hf f1 vR o2 hn1
                    rcases hm3 with h | h | h
                    · as_aux_lemma =>
                        subst h
                        by_cases h8 : 8 < (stp R l).length
                        · as_aux_lemma =>
                            exfalso
                            have := Hcnt.out
                            omega
                        · as_aux_lemma =>
                            have hle : (((stp R l).length : Nat) : Int) ≤ (n : Int) - (N : Int) := by have := Hcnt.out; omega
                            have hge : (n : Int) - (N : Int) ≤ (((stp R l).length : Nat) : Int) := by have := Hcnt.out; omega
                            rw [if_neg h8, if_neg h8] at HAL HAM
                            have HBK := hid_ (fun W a c (hi : IntsAt W a (stp R l).length c (stp R l)) => ruBack_calls a _ c (stp R l) W hi)
                            rw [HW8.out h8, if_pos rfl] at HBK
                            have h88 : (stp R l).length ≤ 8 := by omega
                            obtain ⟨t8, t9, t10, t11⟩ := HTF3.out h88
                            have HSm := hid_ (fun W a n c a' n' c' (h : IntsAt W a n c (stp R l).reverse) (h' : IntsAt W a' n' c' (stp R l).reverse) => sameT_calls a n c _ a' n' c' W h h')
                            rw [t8, t9] at HFI
                            have T10 := hid_ t10; have T11 := hid_ t11; clear t8 t9 t10 t11 h8 Hcnt HTF3 HW8
                            generalize stp R l = V at *
                            by_cases hN0 : 0 < N
                            · as_aux_lemma =>
                                have t11 := T11.out hN0
                                rw [decide_eq_true hN0] at HFI
                                have hfl : (((resFirst R l).length : Nat) : Int) ≤ (n : Int) - 1 := by omega
                                have hfg : (n : Int) - 1 ≤ (((resFirst R l).length : Nat) : Int) := by omega
                                clear t11
                                clear T10 T11
                                generalize resFirst R l = F at *
                                go_wp2_with (first
                                  | (go_at_call 42; (with_reducible refine (HAL.out _ hb13).mono ?_); rintro e w14 ⟨v14, rfl, hm14⟩; have hcc14 := hm14.bel; have he14 := below_then he13 hcc14; have hb14 := below_then hb8 he14; clear q0 q1 q2 q3 q4 q5 q6 q7 t0 t1 t2 t3; obtain ⟨q0, q1, q2, q3, q4, q5, q6, q7⟩ := HQ.out w14 hb14; obtain ⟨t0, t1, t2, t3⟩ := HT.out w14 he14; obtain ⟨av, cv, rfl, hiv⟩ := hm14.at_; have Hv := hid_ hiv; clear hiv hm14)
                                  | (go_at_call 42; (with_reducible refine (HAM.out _ _ _ _ (HR78.out.below he14 (Nat.le_refl _)) (Hk2.out.below hcc14 (Nat.le_refl _))).mono ?_); rintro e w15 ⟨v15, rfl, hm15⟩; have hcc15 := hm15.bel; have he15 := below_then he14 hcc15; have hb15 := below_then hb8 he15; clear q0 q1 q2 q3 q4 q5 q6 q7 t0 t1 t2 t3; obtain ⟨q0, q1, q2, q3, q4, q5, q6, q7⟩ := HQ.out w15 hb15; obtain ⟨t0, t1, t2, t3⟩ := HT.out w15 he15; obtain ⟨au, cu, evu, hiu⟩ := hm15.at_; rw [List.length_reverse] at evu hiu; subst evu; have Hu := hid_ hiu; clear hiu hm15)
                                  | (go_at_call 61; (with_reducible refine (HBK.out _ _ _ (Hv.out.below hcc15 (Nat.le_refl _))).mono ?_); rintro e w16 ⟨v16, rfl, hm16⟩; have hcc16 := hm16.bel; have he16 := below_then he15 hcc16; have hb16 := below_then hb8 he16; clear q0 q1 q2 q3 q4 q5 q6 q7 t0 t1 t2 t3; obtain ⟨q0, q1, q2, q3, q4, q5, q6, q7⟩ := HQ.out w16 hb16; obtain ⟨t0, t1, t2, t3⟩ := HT.out w16 he16; obtain ⟨ar3, cr3, evr3, hir3⟩ := hm16.at_; rw [List.length_reverse] at evr3 hir3; subst evr3; have Hr3 := hid_ hir3; clear hir3 hm16)
                                  | (go_at_call 40; (with_reducible refine (HFI.out _ hb16).mono ?_); rintro e w17 ⟨v17, rfl, hm17⟩; have hcc17 := hm17.bel; have he17 := below_then he16 hcc17; have hb17 := below_then hb8 he17; clear q0 q1 q2 q3 q4 q5 q6 q7 t0 t1 t2 t3; obtain ⟨q0, q1, q2, q3, q4, q5, q6, q7⟩ := HQ.out w17 hb17; obtain ⟨t0, t1, t2, t3⟩ := HT.out w17 he17; obtain ⟨af3, cf3, rfl, hif3⟩ := hm17.at_; have Hf3 := hid_ hif3; clear hif3 hm17)
                                  | (go_at_call 37; (with_reducible refine (HSm.out _ _ _ _ _ _ _ (Hu.out.below (below_then hcc16 hcc17) (Nat.le_refl _)) (Hr3.out.below hcc17 (Nat.le_refl _))).mono ?_); rintro e w18 ⟨rfl, hc18⟩; have hcc18 := hc18; have he18 := below_then he17 hcc18; have hb18 := below_then hb8 he18; clear q0 q1 q2 q3 q4 q5 q6 q7 t0 t1 t2 t3; obtain ⟨q0, q1, q2, q3, q4, q5, q6, q7⟩ := HQ.out w18 hb18; obtain ⟨t0, t1, t2, t3⟩ := HT.out w18 he18))
                                go_ret
                                exact ⟨eqb_true (by omega), Hb1.out.trans (hb18.mono Hb1.out.size)⟩
                            · as_aux_lemma =>
                                rw [decide_eq_false hN0] at HFI
                                clear T10 T11
                                generalize resFirst R l = F at *
                                go_wp2_with (first
                                  | (go_at_call 42; (with_reducible refine (HAL.out _ hb13).mono ?_); rintro e w14 ⟨v14, rfl, hm14⟩; have hcc14 := hm14.bel; have he14 := below_then he13 hcc14; have hb14 := below_then hb8 he14; clear q0 q1 q2 q3 q4 q5 q6 q7 t0 t1 t2 t3; obtain ⟨q0, q1, q2, q3, q4, q5, q6, q7⟩ := HQ.out w14 hb14; obtain ⟨t0, t1, t2, t3⟩ := HT.out w14 he14; obtain ⟨av, cv, rfl, hiv⟩ := hm14.at_; have Hv := hid_ hiv; clear hiv hm14)
                                  | (go_at_call 42; (with_reducible refine (HAM.out _ _ _ _ (HR78.out.below he14 (Nat.le_refl _)) (Hk2.out.below hcc14 (Nat.le_refl _))).mono ?_); rintro e w15 ⟨v15, rfl, hm15⟩; have hcc15 := hm15.bel; have he15 := below_then he14 hcc15; have hb15 := below_then hb8 he15; clear q0 q1 q2 q3 q4 q5 q6 q7 t0 t1 t2 t3; obtain ⟨q0, q1, q2, q3, q4, q5, q6, q7⟩ := HQ.out w15 hb15; obtain ⟨t0, t1, t2, t3⟩ := HT.out w15 he15; obtain ⟨au, cu, evu, hiu⟩ := hm15.at_; rw [List.length_reverse] at evu hiu; subst evu; have Hu := hid_ hiu; clear hiu hm15)
                                  | (go_at_call 61; (with_reducible refine (HBK.out _ _ _ (Hv.out.below hcc15 (Nat.le_refl _))).mono ?_); rintro e w16 ⟨v16, rfl, hm16⟩; have hcc16 := hm16.bel; have he16 := below_then he15 hcc16; have hb16 := below_then hb8 he16; clear q0 q1 q2 q3 q4 q5 q6 q7 t0 t1 t2 t3; obtain ⟨q0, q1, q2, q3, q4, q5, q6, q7⟩ := HQ.out w16 hb16; obtain ⟨t0, t1, t2, t3⟩ := HT.out w16 he16; obtain ⟨ar3, cr3, evr3, hir3⟩ := hm16.at_; rw [List.length_reverse] at evr3 hir3; subst evr3; have Hr3 := hid_ hir3; clear hir3 hm16)
                                  | (go_at_call 40; (with_reducible refine (HFI.out _ hb16).mono ?_); rintro e w17 ⟨v17, rfl, hm17⟩; have hcc17 := hm17.bel; have he17 := below_then he16 hcc17; have hb17 := below_then hb8 he17; clear q0 q1 q2 q3 q4 q5 q6 q7 t0 t1 t2 t3; obtain ⟨q0, q1, q2, q3, q4, q5, q6, q7⟩ := HQ.out w17 hb17; obtain ⟨t0, t1, t2, t3⟩ := HT.out w17 he17; obtain ⟨af3, cf3, rfl, hif3⟩ := hm17.at_; have Hf3 := hid_ hif3; clear hif3 hm17)
                                  | (go_at_call 37; (with_reducible refine (HSm.out _ _ _ _ _ _ _ (Hu.out.below (below_then hcc16 hcc17) (Nat.le_refl _)) (Hr3.out.below hcc17 (Nat.le_refl _))).mono ?_); rintro e w18 ⟨rfl, hc18⟩; have hcc18 := hc18; have he18 := below_then he17 hcc18; have hb18 := below_then hb8 he18; clear q0 q1 q2 q3 q4 q5 q6 q7 t0 t1 t2 t3; obtain ⟨q0, q1, q2, q3, q4, q5, q6, q7⟩ := HQ.out w18 hb18; obtain ⟨t0, t1, t2, t3⟩ := HT.out w18 he18))
                                go_ret
                                exact ⟨rfl, Hb1.out.trans (hb18.mono Hb1.out.size)⟩
                    · as_aux_lemma =>
                        subst h
                        by_cases h8 : 8 < (stp R l).length
                        · as_aux_lemma =>
                            exfalso
                            have := Hcnt.out
                            omega
                        · as_aux_lemma =>
                            have hle : (((stp R l).length : Nat) : Int) ≤ (n : Int) := by have := Hcnt.out; omega
                            have hge : (n : Int) ≤ (((stp R l).length : Nat) : Int) := by have := Hcnt.out; omega
                            rw [if_neg h8, if_neg h8] at HAL HAM
                            have HBK := hid_ (fun W a c (hi : IntsAt W a (stp R l).length c (stp R l)) => ruBack_calls a _ c (stp R l) W hi)
                            rw [HW8.out h8, if_pos rfl] at HBK
                            have h88 : (stp R l).length ≤ 8 := by omega
                            obtain ⟨t8, t9, t10, t11⟩ := HTF3.out h88
                            have HSm := hid_ (fun W a n c a' n' c' (h : IntsAt W a n c (stp R l).reverse) (h' : IntsAt W a' n' c' (stp R l).reverse) => sameT_calls a n c _ a' n' c' W h h')
                            rw [t8, t9] at HFI
                            have T10 := hid_ t10; have T11 := hid_ t11; clear t8 t9 t10 t11 h8 Hcnt HTF3 HW8
                            generalize stp R l = V at *
                            by_cases hN0 : 0 < N
                            · as_aux_lemma =>
                                have t11 := T11.out hN0
                                rw [decide_eq_true hN0] at HFI
                                have hfl : (((resFirst R l).length : Nat) : Int) ≤ (n : Int) := by omega
                                have hfg : (n : Int) ≤ (((resFirst R l).length : Nat) : Int) := by omega
                                clear t11
                                clear T10 T11
                                generalize resFirst R l = F at *
                                go_wp2_with (first
                                  | (go_at_call 42; (with_reducible refine (HAL.out _ hb13).mono ?_); rintro e w14 ⟨v14, rfl, hm14⟩; have hcc14 := hm14.bel; have he14 := below_then he13 hcc14; have hb14 := below_then hb8 he14; clear q0 q1 q2 q3 q4 q5 q6 q7 t0 t1 t2 t3; obtain ⟨q0, q1, q2, q3, q4, q5, q6, q7⟩ := HQ.out w14 hb14; obtain ⟨t0, t1, t2, t3⟩ := HT.out w14 he14; obtain ⟨av, cv, rfl, hiv⟩ := hm14.at_; have Hv := hid_ hiv; clear hiv hm14)
                                  | (go_at_call 42; (with_reducible refine (HAM.out _ _ _ _ (HR78.out.below he14 (Nat.le_refl _)) (Hk2.out.below hcc14 (Nat.le_refl _))).mono ?_); rintro e w15 ⟨v15, rfl, hm15⟩; have hcc15 := hm15.bel; have he15 := below_then he14 hcc15; have hb15 := below_then hb8 he15; clear q0 q1 q2 q3 q4 q5 q6 q7 t0 t1 t2 t3; obtain ⟨q0, q1, q2, q3, q4, q5, q6, q7⟩ := HQ.out w15 hb15; obtain ⟨t0, t1, t2, t3⟩ := HT.out w15 he15; obtain ⟨au, cu, evu, hiu⟩ := hm15.at_; rw [List.length_reverse] at evu hiu; subst evu; have Hu := hid_ hiu; clear hiu hm15)
                                  | (go_at_call 61; (with_reducible refine (HBK.out _ _ _ (Hv.out.below hcc15 (Nat.le_refl _))).mono ?_); rintro e w16 ⟨v16, rfl, hm16⟩; have hcc16 := hm16.bel; have he16 := below_then he15 hcc16; have hb16 := below_then hb8 he16; clear q0 q1 q2 q3 q4 q5 q6 q7 t0 t1 t2 t3; obtain ⟨q0, q1, q2, q3, q4, q5, q6, q7⟩ := HQ.out w16 hb16; obtain ⟨t0, t1, t2, t3⟩ := HT.out w16 he16; obtain ⟨ar3, cr3, evr3, hir3⟩ := hm16.at_; rw [List.length_reverse] at evr3 hir3; subst evr3; have Hr3 := hid_ hir3; clear hir3 hm16)
                                  | (go_at_call 40; (with_reducible refine (HFI.out _ hb16).mono ?_); rintro e w17 ⟨v17, rfl, hm17⟩; have hcc17 := hm17.bel; have he17 := below_then he16 hcc17; have hb17 := below_then hb8 he17; clear q0 q1 q2 q3 q4 q5 q6 q7 t0 t1 t2 t3; obtain ⟨q0, q1, q2, q3, q4, q5, q6, q7⟩ := HQ.out w17 hb17; obtain ⟨t0, t1, t2, t3⟩ := HT.out w17 he17; obtain ⟨af3, cf3, rfl, hif3⟩ := hm17.at_; have Hf3 := hid_ hif3; clear hif3 hm17)
                                  | (go_at_call 37; (with_reducible refine (HSm.out _ _ _ _ _ _ _ (Hu.out.below (below_then hcc16 hcc17) (Nat.le_refl _)) (Hr3.out.below hcc17 (Nat.le_refl _))).mono ?_); rintro e w18 ⟨rfl, hc18⟩; have hcc18 := hc18; have he18 := below_then he17 hcc18; have hb18 := below_then hb8 he18; clear q0 q1 q2 q3 q4 q5 q6 q7 t0 t1 t2 t3; obtain ⟨q0, q1, q2, q3, q4, q5, q6, q7⟩ := HQ.out w18 hb18; obtain ⟨t0, t1, t2, t3⟩ := HT.out w18 he18))
                                go_ret
                                exact ⟨eqb_true (by omega), Hb1.out.trans (hb18.mono Hb1.out.size)⟩
                            · as_aux_lemma =>
                                rw [decide_eq_false hN0] at HFI
                                clear T10 T11
                                generalize resFirst R l = F at *
                                go_wp2_with (first
                                  | (go_at_call 42; (with_reducible refine (HAL.out _ hb13).mono ?_); rintro e w14 ⟨v14, rfl, hm14⟩; have hcc14 := hm14.bel; have he14 := below_then he13 hcc14; have hb14 := below_then hb8 he14; clear q0 q1 q2 q3 q4 q5 q6 q7 t0 t1 t2 t3; obtain ⟨q0, q1, q2, q3, q4, q5, q6, q7⟩ := HQ.out w14 hb14; obtain ⟨t0, t1, t2, t3⟩ := HT.out w14 he14; obtain ⟨av, cv, rfl, hiv⟩ := hm14.at_; have Hv := hid_ hiv; clear hiv hm14)
                                  | (go_at_call 42; (with_reducible refine (HAM.out _ _ _ _ (HR78.out.below he14 (Nat.le_refl _)) (Hk2.out.below hcc14 (Nat.le_refl _))).mono ?_); rintro e w15 ⟨v15, rfl, hm15⟩; have hcc15 := hm15.bel; have he15 := below_then he14 hcc15; have hb15 := below_then hb8 he15; clear q0 q1 q2 q3 q4 q5 q6 q7 t0 t1 t2 t3; obtain ⟨q0, q1, q2, q3, q4, q5, q6, q7⟩ := HQ.out w15 hb15; obtain ⟨t0, t1, t2, t3⟩ := HT.out w15 he15; obtain ⟨au, cu, evu, hiu⟩ := hm15.at_; rw [List.length_reverse] at evu hiu; subst evu; have Hu := hid_ hiu; clear hiu hm15)
                                  | (go_at_call 61; (with_reducible refine (HBK.out _ _ _ (Hv.out.below hcc15 (Nat.le_refl _))).mono ?_); rintro e w16 ⟨v16, rfl, hm16⟩; have hcc16 := hm16.bel; have he16 := below_then he15 hcc16; have hb16 := below_then hb8 he16; clear q0 q1 q2 q3 q4 q5 q6 q7 t0 t1 t2 t3; obtain ⟨q0, q1, q2, q3, q4, q5, q6, q7⟩ := HQ.out w16 hb16; obtain ⟨t0, t1, t2, t3⟩ := HT.out w16 he16; obtain ⟨ar3, cr3, evr3, hir3⟩ := hm16.at_; rw [List.length_reverse] at evr3 hir3; subst evr3; have Hr3 := hid_ hir3; clear hir3 hm16)
                                  | (go_at_call 40; (with_reducible refine (HFI.out _ hb16).mono ?_); rintro e w17 ⟨v17, rfl, hm17⟩; have hcc17 := hm17.bel; have he17 := below_then he16 hcc17; have hb17 := below_then hb8 he17; clear q0 q1 q2 q3 q4 q5 q6 q7 t0 t1 t2 t3; obtain ⟨q0, q1, q2, q3, q4, q5, q6, q7⟩ := HQ.out w17 hb17; obtain ⟨t0, t1, t2, t3⟩ := HT.out w17 he17; obtain ⟨af3, cf3, rfl, hif3⟩ := hm17.at_; have Hf3 := hid_ hif3; clear hif3 hm17)
                                  | (go_at_call 37; (with_reducible refine (HSm.out _ _ _ _ _ _ _ (Hu.out.below (below_then hcc16 hcc17) (Nat.le_refl _)) (Hr3.out.below hcc17 (Nat.le_refl _))).mono ?_); rintro e w18 ⟨rfl, hc18⟩; have hcc18 := hc18; have he18 := below_then he17 hcc18; have hb18 := below_then hb8 he18; clear q0 q1 q2 q3 q4 q5 q6 q7 t0 t1 t2 t3; obtain ⟨q0, q1, q2, q3, q4, q5, q6, q7⟩ := HQ.out w18 hb18; obtain ⟨t0, t1, t2, t3⟩ := HT.out w18 he18))
                                go_ret
                                exact ⟨rfl, Hb1.out.trans (hb18.mono Hb1.out.size)⟩
                    · as_aux_lemma =>
                        subst h
                        by_cases h8 : 8 < (stp R l).length
                        · as_aux_lemma =>
                            have hgt : (8 : Int) < (n : Int) + (N : Int) := by have := Hcnt.out; omega
                            rw [if_pos h8, if_pos h8] at HAL HAM
                            clear Hcnt HTF3 HW8 h8
                            go_wp2_with (first
                              | (go_at_call 42; (with_reducible refine (HAL.out _ hb13).mono ?_); rintro e w14 ⟨v14, rfl, hm14⟩; have hcc14 := hm14.bel; have he14 := below_then he13 hcc14; have hb14 := below_then hb8 he14; clear q0 q1 q2 q3 q4 q5 q6 q7 t0 t1 t2 t3; obtain ⟨q0, q1, q2, q3, q4, q5, q6, q7⟩ := HQ.out w14 hb14; obtain ⟨t0, t1, t2, t3⟩ := HT.out w14 he14; obtain ⟨av, cv, rfl, hiv⟩ := hm14.at_; have Hv := hid_ hiv; clear hiv hm14)
                              | (go_at_call 42; (with_reducible refine (HAM.out _ _ _ _ (HR78.out.below he14 (Nat.le_refl _)) (Hk2.out.below hcc14 (Nat.le_refl _))).mono ?_); rintro e w15 ⟨v15, rfl, hm15⟩; have hcc15 := hm15.bel; have he15 := below_then he14 hcc15; have hb15 := below_then hb8 he15; clear q0 q1 q2 q3 q4 q5 q6 q7 t0 t1 t2 t3; obtain ⟨q0, q1, q2, q3, q4, q5, q6, q7⟩ := HQ.out w15 hb15; obtain ⟨t0, t1, t2, t3⟩ := HT.out w15 he15; obtain ⟨au, cu, evu, hiu⟩ := hm15.at_; rw [List.length_reverse] at evu hiu; subst evu; have Hu := hid_ hiu; clear hiu hm15))
                            go_ret
                            exact ⟨rfl, Hb1.out.trans (hb15.mono Hb1.out.size)⟩
                        · as_aux_lemma =>
                            have hle : (((stp R l).length : Nat) : Int) ≤ (n : Int) + (N : Int) := by have := Hcnt.out; omega
                            have hge : (n : Int) + (N : Int) ≤ (((stp R l).length : Nat) : Int) := by have := Hcnt.out; omega
                            rw [if_neg h8, if_neg h8] at HAL HAM
                            have HBK := hid_ (fun W a c (hi : IntsAt W a (stp R l).length c (stp R l)) => ruBack_calls a _ c (stp R l) W hi)
                            rw [HW8.out h8, if_pos rfl] at HBK
                            have h88 : (stp R l).length ≤ 8 := by omega
                            obtain ⟨t8, t9, t10, t11⟩ := HTF3.out h88
                            have HSm := hid_ (fun W a n c a' n' c' (h : IntsAt W a n c (stp R l).reverse) (h' : IntsAt W a' n' c' (stp R l).reverse) => sameT_calls a n c _ a' n' c' W h h')
                            rw [t8, t9] at HFI
                            have T10 := hid_ t10; have T11 := hid_ t11; clear t8 t9 t10 t11 h8 Hcnt HTF3 HW8
                            generalize stp R l = V at *
                            by_cases hN0 : 0 < N
                            · as_aux_lemma =>
                                have t11 := T11.out hN0
                                rw [decide_eq_true hN0] at HFI
                                have hfl : (((resFirst R l).length : Nat) : Int) ≤ (n : Int) + 1 := by omega
                                have hfg : (n : Int) + 1 ≤ (((resFirst R l).length : Nat) : Int) := by omega
                                clear t11
                                clear T10 T11
                                generalize resFirst R l = F at *
                                go_wp2_with (first
                                  | (go_at_call 42; (with_reducible refine (HAL.out _ hb13).mono ?_); rintro e w14 ⟨v14, rfl, hm14⟩; have hcc14 := hm14.bel; have he14 := below_then he13 hcc14; have hb14 := below_then hb8 he14; clear q0 q1 q2 q3 q4 q5 q6 q7 t0 t1 t2 t3; obtain ⟨q0, q1, q2, q3, q4, q5, q6, q7⟩ := HQ.out w14 hb14; obtain ⟨t0, t1, t2, t3⟩ := HT.out w14 he14; obtain ⟨av, cv, rfl, hiv⟩ := hm14.at_; have Hv := hid_ hiv; clear hiv hm14)
                                  | (go_at_call 42; (with_reducible refine (HAM.out _ _ _ _ (HR78.out.below he14 (Nat.le_refl _)) (Hk2.out.below hcc14 (Nat.le_refl _))).mono ?_); rintro e w15 ⟨v15, rfl, hm15⟩; have hcc15 := hm15.bel; have he15 := below_then he14 hcc15; have hb15 := below_then hb8 he15; clear q0 q1 q2 q3 q4 q5 q6 q7 t0 t1 t2 t3; obtain ⟨q0, q1, q2, q3, q4, q5, q6, q7⟩ := HQ.out w15 hb15; obtain ⟨t0, t1, t2, t3⟩ := HT.out w15 he15; obtain ⟨au, cu, evu, hiu⟩ := hm15.at_; rw [List.length_reverse] at evu hiu; subst evu; have Hu := hid_ hiu; clear hiu hm15)
                                  | (go_at_call 61; (with_reducible refine (HBK.out _ _ _ (Hv.out.below hcc15 (Nat.le_refl _))).mono ?_); rintro e w16 ⟨v16, rfl, hm16⟩; have hcc16 := hm16.bel; have he16 := below_then he15 hcc16; have hb16 := below_then hb8 he16; clear q0 q1 q2 q3 q4 q5 q6 q7 t0 t1 t2 t3; obtain ⟨q0, q1, q2, q3, q4, q5, q6, q7⟩ := HQ.out w16 hb16; obtain ⟨t0, t1, t2, t3⟩ := HT.out w16 he16; obtain ⟨ar3, cr3, evr3, hir3⟩ := hm16.at_; rw [List.length_reverse] at evr3 hir3; subst evr3; have Hr3 := hid_ hir3; clear hir3 hm16)
                                  | (go_at_call 40; (with_reducible refine (HFI.out _ hb16).mono ?_); rintro e w17 ⟨v17, rfl, hm17⟩; have hcc17 := hm17.bel; have he17 := below_then he16 hcc17; have hb17 := below_then hb8 he17; clear q0 q1 q2 q3 q4 q5 q6 q7 t0 t1 t2 t3; obtain ⟨q0, q1, q2, q3, q4, q5, q6, q7⟩ := HQ.out w17 hb17; obtain ⟨t0, t1, t2, t3⟩ := HT.out w17 he17; obtain ⟨af3, cf3, rfl, hif3⟩ := hm17.at_; have Hf3 := hid_ hif3; clear hif3 hm17)
                                  | (go_at_call 37; (with_reducible refine (HSm.out _ _ _ _ _ _ _ (Hu.out.below (below_then hcc16 hcc17) (Nat.le_refl _)) (Hr3.out.below hcc17 (Nat.le_refl _))).mono ?_); rintro e w18 ⟨rfl, hc18⟩; have hcc18 := hc18; have he18 := below_then he17 hcc18; have hb18 := below_then hb8 he18; clear q0 q1 q2 q3 q4 q5 q6 q7 t0 t1 t2 t3; obtain ⟨q0, q1, q2, q3, q4, q5, q6, q7⟩ := HQ.out w18 hb18; obtain ⟨t0, t1, t2, t3⟩ := HT.out w18 he18))
                                go_ret
                                exact ⟨eqb_true (by omega), Hb1.out.trans (hb18.mono Hb1.out.size)⟩
                            · as_aux_lemma =>
                                rw [decide_eq_false hN0] at HFI
                                clear T10 T11
                                generalize resFirst R l = F at *
                                go_wp2_with (first
                                  | (go_at_call 42; (with_reducible refine (HAL.out _ hb13).mono ?_); rintro e w14 ⟨v14, rfl, hm14⟩; have hcc14 := hm14.bel; have he14 := below_then he13 hcc14; have hb14 := below_then hb8 he14; clear q0 q1 q2 q3 q4 q5 q6 q7 t0 t1 t2 t3; obtain ⟨q0, q1, q2, q3, q4, q5, q6, q7⟩ := HQ.out w14 hb14; obtain ⟨t0, t1, t2, t3⟩ := HT.out w14 he14; obtain ⟨av, cv, rfl, hiv⟩ := hm14.at_; have Hv := hid_ hiv; clear hiv hm14)
                                  | (go_at_call 42; (with_reducible refine (HAM.out _ _ _ _ (HR78.out.below he14 (Nat.le_refl _)) (Hk2.out.below hcc14 (Nat.le_refl _))).mono ?_); rintro e w15 ⟨v15, rfl, hm15⟩; have hcc15 := hm15.bel; have he15 := below_then he14 hcc15; have hb15 := below_then hb8 he15; clear q0 q1 q2 q3 q4 q5 q6 q7 t0 t1 t2 t3; obtain ⟨q0, q1, q2, q3, q4, q5, q6, q7⟩ := HQ.out w15 hb15; obtain ⟨t0, t1, t2, t3⟩ := HT.out w15 he15; obtain ⟨au, cu, evu, hiu⟩ := hm15.at_; rw [List.length_reverse] at evu hiu; subst evu; have Hu := hid_ hiu; clear hiu hm15)
                                  | (go_at_call 61; (with_reducible refine (HBK.out _ _ _ (Hv.out.below hcc15 (Nat.le_refl _))).mono ?_); rintro e w16 ⟨v16, rfl, hm16⟩; have hcc16 := hm16.bel; have he16 := below_then he15 hcc16; have hb16 := below_then hb8 he16; clear q0 q1 q2 q3 q4 q5 q6 q7 t0 t1 t2 t3; obtain ⟨q0, q1, q2, q3, q4, q5, q6, q7⟩ := HQ.out w16 hb16; obtain ⟨t0, t1, t2, t3⟩ := HT.out w16 he16; obtain ⟨ar3, cr3, evr3, hir3⟩ := hm16.at_; rw [List.length_reverse] at evr3 hir3; subst evr3; have Hr3 := hid_ hir3; clear hir3 hm16)
                                  | (go_at_call 40; (with_reducible refine (HFI.out _ hb16).mono ?_); rintro e w17 ⟨v17, rfl, hm17⟩; have hcc17 := hm17.bel; have he17 := below_then he16 hcc17; have hb17 := below_then hb8 he17; clear q0 q1 q2 q3 q4 q5 q6 q7 t0 t1 t2 t3; obtain ⟨q0, q1, q2, q3, q4, q5, q6, q7⟩ := HQ.out w17 hb17; obtain ⟨t0, t1, t2, t3⟩ := HT.out w17 he17; obtain ⟨af3, cf3, rfl, hif3⟩ := hm17.at_; have Hf3 := hid_ hif3; clear hif3 hm17)
                                  | (go_at_call 37; (with_reducible refine (HSm.out _ _ _ _ _ _ _ (Hu.out.below (below_then hcc16 hcc17) (Nat.le_refl _)) (Hr3.out.below hcc17 (Nat.le_refl _))).mono ?_); rintro e w18 ⟨rfl, hc18⟩; have hcc18 := hc18; have he18 := below_then he17 hcc18; have hb18 := below_then hb8 he18; clear q0 q1 q2 q3 q4 q5 q6 q7 t0 t1 t2 t3; obtain ⟨q0, q1, q2, q3, q4, q5, q6, q7⟩ := HQ.out w18 hb18; obtain ⟨t0, t1, t2, t3⟩ := HT.out w18 he18))
                                go_ret
                                exact ⟨rfl, Hb1.out.trans (hb18.mono Hb1.out.size)⟩
          · as_aux_lemma =>
              have hq : (validW l != 0) = true := by simpa using hv
              clear RR RS hpart hmeet
              generalize resPlaces R l = P1 at *
              generalize resPlaces S l = P2 at *
              generalize validW l = z at *
              clear hv
              go_wp2_with (go_at_call 31; (with_reducible refine (HA.out _ hb10).mono ?_); rintro e w11 ⟨v11, rfl, hm11⟩; have hcc11 := hm11.bel; have he11 := below_then he10 hcc11; have hb11 := below_then hb8 he11; clear q0 q1 q2 q3 q4 q5 q6 q7 t0 t1 t2 t3; obtain ⟨q0, q1, q2, q3, q4, q5, q6, q7⟩ := HQ.out w11 hb11; obtain ⟨t0, t1, t2, t3⟩ := HT.out w11 he11; obtain ⟨ax, cx, rfl, hix⟩ := hm11.at_; have Hx := hid_ hix; clear hix hm11)
              go_ret
              exact ⟨rfl, Hb1.out.trans (hb11.mono Hb1.out.size)⟩
      · as_aux_lemma =>
          have hq : (errTwo R S != 0) = true := by simpa using he
          generalize errTwo R S = er at *
          generalize isSpc R S = sp at *
          clear he
          go_enter Try.func26, Try.ntmps26
          go_wp2_with (first
            | (go_at_call 31; (with_reducible refine (HP0.out).mono ?_); rintro e w2 ⟨v2, rfl, ho2, hb2⟩; clear q0 q1 q2 q3 q4 q5 q6 q7; obtain ⟨q0, q1, q2, q3, q4, q5, q6, q7⟩ := HQ.out w2 hb2; obtain ⟨ap, cp, rfl, hip⟩ := IntsAt.own ho2; have Hp := hid_ hip; clear hip ho2)
            | (go_at_call 37; (with_reducible refine (HS0.out _ _ _ _ _ Hp.out).mono ?_); rintro e w3 ⟨rfl, hc3⟩; have hb3 : Below w1.heap.size w1 w3 := hb2.trans (hc3.mono hb2.size); clear q0 q1 q2 q3 q4 q5 q6 q7; obtain ⟨q0, q1, q2, q3, q4, q5, q6, q7⟩ := HQ.out w3 hb3)
            | (go_at_call 28; (with_reducible refine (HG0.out _ hb3).mono ?_); rintro e w4 ⟨rfl, hc4⟩; have hb4 : Below w1.heap.size w1 w4 := hb3.trans (hc4.mono hb3.size); clear q0 q1 q2 q3 q4 q5 q6 q7; obtain ⟨q0, q1, q2, q3, q4, q5, q6, q7⟩ := HQ.out w4 hb4)
            | (go_at_call 28; (with_reducible refine (HG1.out _ hb4).mono ?_); rintro e w5 ⟨rfl, hc5⟩; have hb5 : Below w1.heap.size w1 w5 := hb4.trans (hc5.mono hb4.size); clear q0 q1 q2 q3 q4 q5 q6 q7; obtain ⟨q0, q1, q2, q3, q4, q5, q6, q7⟩ := HQ.out w5 hb5)
            | (go_at_call 48; (with_reducible refine (HP1.out _ hb5).mono ?_); rintro e w6 ⟨rfl, hc6⟩; have hb6 : Below w1.heap.size w1 w6 := hb5.trans (hc6.mono hb5.size); clear q0 q1 q2 q3 q4 q5 q6 q7; obtain ⟨q0, q1, q2, q3, q4, q5, q6, q7⟩ := HQ.out w6 hb6))
          go_ret
          exact ⟨rfl, Hb1.out.trans (hb6.mono Hb1.out.size)⟩
end Go.Proofs.Ytnpdhmejnoplcaa
