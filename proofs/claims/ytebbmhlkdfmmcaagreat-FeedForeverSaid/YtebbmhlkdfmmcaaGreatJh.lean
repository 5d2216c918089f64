import Derived.Test.YtebbmhlkdfmmcaaGreatJv
namespace Go.Proofs.YtebbmhlkdfmmcaaGreat
open Go.RowKit Go.Proofs.Kv

/-! ### do weights hold -/
theorem rule_parts {w : World} {y : Value} {a1 a2 a3 : Option Addr} {n1 c1 n2 c2 n3 c3 : Nat} {R : Rl} (h : RuleAt w (.agg #[y, .slice a1 n1 c1, .slice a2 n2 c2, .slice a3 n3 c3]) R) : IntsAt w a1 n1 c1 R.o ∧ IntsAt w a2 n2 c2 R.le ∧ IntsAt w a3 n3 c3 R.ri := by
  obtain ⟨b1, m1, d1, b2, m2, d2, b3, m3, d3, e, i1, i2, i3⟩ := h
  injection e with e; injection e with e; injection e with y0 e; injection e with y1 e; injection e with y2 e; injection e with y3 e
  injection y1 with p1 p2 p3; injection y2 with p4 p5 p6; injection y3 with p7 p8 p9
  subst p1 p2 p3 p4 p5 p6 p7 p8 p9
  exact ⟨i1, i2, i3⟩
theorem hold_take {L : List Rl} {ws : List Int} {k : Nat} (hk : k < L.length) (h : (L.take k).all (holdR ws) = true) :
    (holdR ws (L.getD k R0) = true → (L.take (k + 1)).all (holdR ws) = true) ∧ (holdR ws (L.getD k R0) = false → holdB L ws = false) := by
  have e : L.getD k R0 = L[k] := by simp [List.getD, List.getElem?_eq_getElem hk]
  rw [e]
  refine ⟨fun h1 => ?_, fun h1 => ?_⟩
  · rw [List.take_succ_eq_append_getElem hk, List.all_append, h]; simp [h1]
  · rw [holdB, List.all_eq_false]
    exact ⟨L[k], List.getElem_mem hk, by rw [h1]; simp⟩
set_option maxRecDepth 100000 in
set_option maxHeartbeats 4000000 in
theorem feHold_calls (A : Option Addr) (N C : Nat) (L : List Rl) (a : Option Addr) (n c : Nat) (ws : List Int) (w : World) (h : RulesAt w A N C L) (hi : IntsAt w a n c ws) (hw : WtL ws) (hv : ∀ R ∈ L, validR R = 0) (hN : N ≤ 100) :
    Calls Tryz.prog 48 #[.slice A N C, .slice a n c] w fun e w' => e = .returned (.bool (holdB L ws)) ∧ Below w.heap.size w w' := by
  have HLn := hid_ h.len
  have HT := hid_ (fun k hk hh => @hold_take L ws k hk hh)
  have HE : Hid ((L.take N).all (holdR ws) = true → holdB L ws = true) := hid_ (by rw [← h.len, List.take_length]; exact id)
  have HV : Hid (∀ k, k < N → validR (L.getD k R0) = 0) := hid_ (fun k hk => hv _ (by
    have hk' : k < L.length := by rw [h.len]; exact hk
    rw [show L.getD k R0 = L[k] by simp [List.getD, List.getElem?_eq_getElem hk']]; exact List.getElem_mem _))
  have h6 : n = 6 := by rw [← hi.len]; exact hw.1
  subst h6
  clear hv
  go_enter Tryz.func48, Tryz.ntmps48
  go_wp2
  go_loopw [9] (fun i wr => ∃ k : Nat, k ≤ N ∧ i = .int .i64 k ∧ (L.take k).all (holdR ws) = true ∧ Below w.heap.size w wr) (fun i _ => N - (intOf i).toNat)
  case atStart => exact ⟨0, Nat.zero_le _, rfl, rfl, Below.refl _ _⟩
  case round =>
    obtain ⟨k, hk, rfl, hall, hb⟩ := hrel
    by_cases hlt : k < N
    · obtain ⟨b, off, a1, n1, c1, a2, n2, c2, a3, n3, c3, rfl, hbl, k0, k1, k2, k3, hr⟩ := (h.below hb (Nat.le_refl _)).at_ hlt
      obtain ⟨i1, -, -⟩ := rule_parts hr
      have i1len : (L.getD k R0).o.length = n1 := i1.len
      obtain ⟨g1, g2, g3, g4, -, -⟩ := validR_ok (HV.out k hlt)
      obtain ⟨t1, t2⟩ := HT.out k (by rw [HLn.out]; exact hlt) hall
      have hiw := hi.below hb (Nat.le_refl _)
      have HW := hid_ (fun q => feWeigh_calls a 6 c ws a1 n1 c1 (L.getD k R0).o ((wr.alloc (.cells #[.int .i64 (L.getD k R0).f, .slice a1 n1 c1, .slice a2 n2 c2, .slice a3 n3 c3] 44)).drewN q) ((hiw.below (below_alloc _ _) (Nat.le_refl _)).drewN q) ((i1.below (below_alloc _ _) (Nat.le_refl _)).drewN q) hw (fun x hx => by rw [isWord, List.all_eq_true] at g4; have := g4 x hx; simp [Within] at this; omega) (by omega))
      have HH : Hid (holdR ws (L.getD k R0) = (decide (0 ≤ (L.getD k R0).f) && decide (wtOf ws (L.getD k R0).o < ws.getD (L.getD k R0).f.toNat 0))) := hid_ rfl
      have Hb := hid_ hb
      generalize wtOf ws (L.getD k R0).o = S at *
      have hfe : (L.getD k R0).f = (L.getD k ⟨0, [], [], []⟩).f := rfl
      generalize holdR ws (L.getD k R0) = hr0 at *
      change wr.cell? _ = some (.int .i64 (L.getD k R0).f) at k0
      clear hr i1 i1len hb hall hfe
      generalize (L.getD k R0).f = f at *
      have T1 := hid_ t1; have T2 := hid_ t2
      clear t1 t2 g3 g4
      by_cases hf : f < 0
      · have hq : hr0 = false := by rw [HH.out, decide_eq_false (by omega)]; rfl
        have Hf := hid_ (T2.out hq)
        have hf' : (f < 0) = True := eq_true hf
        go_wp2_with fail
        go_quiet ((go_at_call 49; exact quiet_left (HW.out _)))
        go_wp2
        go_ret
        exact ⟨retB Hf.out, Hb.out.trans (below_drewN ((below_alloc wr _).mono Hb.out.size) _)⟩
      · obtain ⟨j, rfl⟩ : ∃ j : Nat, f = (j : Int) := ⟨f.toNat, by omega⟩
        have hj6 : j < 6 := by omega
        have hji : (j : Int) < 6 := by omega
        have hj0 : (0 : Int) ≤ (j : Int) := by omega
        have hjn : ¬ ((j : Int) < 0) := by omega
        have hjd : decide ((j : Int) < 0) = false := decide_eq_false hjn
        obtain ⟨b2, off2, rfl, hb2, hcell2⟩ := hiw.cells j hj6
        rw [decide_eq_true hj0, Int.toNat_natCast, Bool.true_and] at HH
        generalize ws.getD j 0 = y at *
        clear hf
        by_cases hc : S < y
        · have hq : hr0 = true := by rw [HH.out, decide_eq_true hc]
          have Hn := hid_ (T1.out hq)
          have hc' : ¬ y ≤ S := by omega
          go_wp2_with fail
          go_quiet ((go_at_call 49; exact quiet_left (HW.out _)))
          go_wp2
          go_roundw
          case rel => exact ⟨k + 1, by omega, by go_num, Hn.out, Hb.out.trans (below_drewN ((below_alloc wr _).mono Hb.out.size) _)⟩
          case measure => simp [intOf]; omega
        · have hq : hr0 = false := by rw [HH.out, decide_eq_false hc]
          have Hf := hid_ (T2.out hq)
          have hc' : y ≤ S := by omega
          go_wp2_with fail
          go_quiet ((go_at_call 49; exact quiet_left (HW.out _)))
          go_wp2
          go_ret
          exact ⟨retB Hf.out, Hb.out.trans (below_drewN ((below_alloc wr _).mono Hb.out.size) _)⟩
    · obtain rfl : N = k := by omega
      have Hf := hid_ (HE.out hall)
      go_wp2
      go_ret
      exact ⟨retB Hf.out, hb⟩
end Go.Proofs.YtebbmhlkdfmmcaaGreat
