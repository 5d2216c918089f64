import Derived.Test.YtgipkbiogldjpaaJyb
import Derived.Test.YtgipkbiogldjpaaJs
import Derived.Deep.RegionLawGrows
namespace Go.Proofs.Ytgipkbiogldjpaa
open Go.RowKit Go.Proofs.Kv

/-! ### Without and Same of the document -/
set_option maxRecDepth 100000 in
set_option maxHeartbeats 4000000 in
theorem sameS_calls (A : Option Addr) (N C : Nat) (A' : Option Addr) (C' : Nat) (L : List Rl) (w : World) (h : RulesAt w A N C L) (h' : RulesAt w A' N C' L) :
    Calls Try.prog 28 #[.slice A N C, .slice A' N C'] w fun e w' => e = .returned (.bool true) ∧ Below w.heap.size w w' := by
  have hN : N ≤ 9223372036854775807 := Nat.le_trans h.le h.small
  have HH := hid_ h
  have HH' := hid_ h'
  clear h h'
  go_enter Try.func28, Try.ntmps28
  go_wp2
  go_loopw [5] (fun i wr => ∃ k : Nat, k ≤ N ∧ i = .int .i64 k ∧ Below w.heap.size w wr) (fun i _ => N - (intOf i).toNat)
  case atStart => exact ⟨0, Nat.zero_le _, rfl, Below.refl _ _⟩
  case round =>
    obtain ⟨k, hk, rfl, hb⟩ := hrel
    by_cases hlt : k < N
    · obtain ⟨b, off, a1, n1, c1, a2, n2, c2, a3, n3, c3, rfl, hbl, j0, j1, j2, j3, hr⟩ := (HH.out.below hb (Nat.le_refl _)).at_ hlt
      obtain ⟨b', off', a4, n4, c4, a5, n5, c5, a6, n6, c6, rfl, hbl', i0, i1, i2, i3, hr'⟩ := (HH'.out.below hb (Nat.le_refl _)).at_ hlt
      have HS := hid_ (fun W (hW : Below wr.heap.size wr W) => sameR_calls _ _ (L.getD k R0) (L.getD k R0) W (hr.below hW (Nat.le_refl _)) (hr'.below hW (Nat.le_refl _)) rfl)
      generalize L.getD k R0 = R at *
      have Hb := hid_ hb
      have e0 := cell_regrown j0; have e1 := cell_regrown j1; have e2 := cell_regrown j2; have e3 := cell_regrown j3
      have d0 := cell_regrown i0; have d1 := cell_regrown i1; have d2 := cell_regrown i2; have d3 := cell_regrown i3
      clear hr hr' hb
      go_wp2_with fail
      refine wp_region_quiet_below (by kernel_rfl) (by kernel_rfl) ?_
      repeat (first | go_big_quiet_skip | (go_big_quiet_want; go_big_quiet_op; first | go_big_quiet_on | go_big_quiet_call ((go_at_call 60; exact Calls.regrown_of (HS.out _ (below_regrown _ _ _))))))
      refine wpQuiet_nil ?_
      rintro wq ⟨pq, hpq⟩
      have hbq := below_wq hpq; clear hpq
      go_wp2
      go_roundw
      case rel => exact ⟨k + 1, by omega, by go_num, Hb.out.trans (hbq.mono Hb.out.size)⟩
      case measure => simp [intOf]; omega
    · obtain rfl : N = k := by omega
      go_wp2
      go_ret
      exact ⟨rfl, hb⟩
theorem isRl_within (N : Nat) (x : Int) : isRl N x = Within x 0 ((N : Int) - 1) := by
  simp only [isRl, Within]
  congr 1
  exact decide_eq_decide.2 (by omega)
theorem RuleX.row {t : Bool} {w : World} {B : Nat} {row row' : Option Nat} {x : Rc} {R : Rl} (h : RuleX t w B row x R) (hr : row' = row ∨ ∃ k, row' = some k ∧ w.heap.size ≤ k) : RuleX t w B row' x R := ⟨h.f, h.o.row hr, h.le.row hr, h.ri.row hr⟩
theorem RuleX.noRow {t : Bool} {w : World} {B : Nat} {row : Option Nat} {x : Rc} {R : Rl} (h : RuleX t w B row x R) : RuleX t w B none x R := by
  have key : ∀ u l, WordX t w B row u l → WordX t w B none u l := by
    rintro u l ⟨⟨a, n, c, rfl, hi, hd⟩, ht⟩
    exact ⟨⟨a, n, c, rfl, hi, fun b off hn ha => ⟨(hd b off hn ha).1, by simp⟩⟩, ht⟩
  exact ⟨h.f, key _ _ h.o, key _ _ h.le, key _ _ h.ri⟩
theorem OwnRs.erased {t : Bool} {w w7 : World} {B g k : Nat} {L : List Rl} {vs : List Rc} (hk : k < L.length) (h0 : vs.length = L.length) (h2 : ∀ i x, vs[i]? = some x → RuleX t w B (some g) x (L.getD i R0)) (hB : B ≤ w.heap.size) {v7 : Value}
    (k7 : w7.ownsRow w.heap.size 53 4 v7 (k + (L.length - (k + 1))) ((vs.take k).flatMap encRc ++ (vs.drop (k + 1)).flatMap encRc)) (g7 : w.grownBy w7 none) : OwnRs t w7 B v7 (L.eraseIdx k) := by
  have hb : Below w.heap.size w w7 := (Below.refl _ w).grown g7 (Nat.le_refl _) (fun k hk => by cases hk)
  have hl : (L.eraseIdx k).length = k + (L.length - (k + 1)) := by rw [List.length_eraseIdx_of_lt hk]; omega
  refine ⟨vs.eraseIdx k, by rw [List.length_eraseIdx_of_lt (by omega), List.length_eraseIdx_of_lt hk, h0], ?_, fun i x hx => ?_⟩
  · rw [hl, List.eraseIdx_eq_take_drop_succ, List.flatMap_append]
    exact own_base k7 hB
  · rw [List.getElem?_eraseIdx] at hx
    have hrow : ∀ {x R}, RuleX t w B (some g) x R → RuleX t w7 B v7.ownBlock x R := fun {x R} h => by
      have h' := h.next hb
      cases e : v7.ownBlock with
      | none => exact h'.noRow
      | some b => exact (h.row (.inr ⟨b, rfl, (k7.lt b e).1⟩)).next hb
    by_cases hi : i < k
    · rw [if_pos hi] at hx
      rw [show (L.eraseIdx k).getD i R0 = L.getD i R0 by simp only [List.getD]; rw [List.getElem?_eraseIdx, if_pos hi]]
      exact hrow (h2 i x hx)
    · rw [if_neg hi] at hx
      rw [show (L.eraseIdx k).getD i R0 = L.getD (i + 1) R0 by simp only [List.getD]; rw [List.getElem?_eraseIdx, if_neg hi]]
      exact hrow (h2 (i + 1) x hx)
theorem RulesAt.take {w : World} {a : Option Addr} {n c : Nat} {L : List Rl} (h : RulesAt w a n c L) {k : Nat} (hk : k ≤ n) : RulesAt w a k k (L.take k) :=
  ⟨by rw [List.length_take, h.len]; omega, Nat.le_refl _, by have := h.le; have := h.small; omega, fun i hi => by
    obtain ⟨b, off, x0, x1, x2, x3, e, hb, q0, q1, q2, q3, hr⟩ := h.cells i (by omega)
    refine ⟨b, off, x0, x1, x2, x3, e, hb, q0, q1, q2, q3, ?_⟩
    rw [show (L.take k).getD i ⟨0, [], [], []⟩ = L.getD i ⟨0, [], [], []⟩ by simp only [List.getD]; rw [List.getElem?_take, if_pos hi]]
    exact hr⟩
/-- append of nothing -/
theorem step_append_none {ops : Array Oper} {o : Oper} {a : Act} {w : World} {K : Act → World → Prop} {Q : Exit → Act → World → Prop} {E : Prop} (hg : o.guard = none) (s x : Operand)
    (ho : o.op = .call { callee := .builtin .append, args := #[s, x], argTypes := #[22, 22] }) (gb n c : Nat) (hs : a.eval s = .slice (some ⟨gb, 0, none⟩) n c) (hn : n ≤ c) (ad : Addr) (c' : Nat) (hx : a.eval x = .slice (some ad) 0 c')
    (hK : K (a.put o.dst (.slice (some ⟨gb, 0, none⟩) n c)) w) :
    if Region.wanted o (yielded ops a.tmps) = true then Oper.wp Try.prog o a w K Q else E := by
  obtain ⟨i0, hi0, hz0, hz1, hz2⟩ := info_parts Try.infoRuleC
  have hw : Region.wanted o (yielded ops a.tmps) = true := by simp [Region.wanted, hg]
  rw [if_pos hw]
  have hrun : (Builtin.append_ #[22, 22] o.type #[.slice (some ⟨gb, 0, none⟩) n c, .slice (some ad) 0 c']).run Try.prog w = .ok (.slice (some ⟨gb, 0, none⟩) n c) w := by
    simp [Builtin.append_, run_underlying Try.underlying22, sizeOf, typeInfo, hi0, Builtin.lenOf, Builtin.firstCells, storeCells, loadCells, loadCellsFrom, hn]
  unfold Oper.wp
  simp [execOp, ho, resolve, invoke, builtin, hs, hx, hrun, Result.andThen]
  exact hK
set_option maxRecDepth 100000 in
set_option maxHeartbeats 1000000 in
theorem r3Without_calls (A : Option Addr) (N C : Nat) (L : List Rl) (x : Int) (w : World) (h : RulesAt w A N C L) :
    Calls Try.prog 27 #[.slice A N C, .int .i64 x] w fun e w' => ∃ a c, e = .returned (.tuple #[.slice a (resWithout L x).length c, .int .i64 (errWithout L x)]) ∧ RulesAt w' a (resWithout L x).length c (resWithout L x) ∧ Below w.heap.size w w' := by
  obtain rfl := h.len
  have HV := hid_ (r3Validate_calls A _ C L w h)
  have HI := hid_ (fun W => within3_calls x 0 ((L.length : Int) - 1) W)
  rw [← isRl_within] at HI
  by_cases hv : validS L = 0
  · have hN6 : L.length ≤ 6 := (validS_ok hv).1
    rw [hv] at HV
    cases hq : isRl L.length x with
    | false =>
      have He : Hid (errWithout L x = 4) := hid_ (by rw [errWithout, if_pos hv, hq]; rfl)
      have Hr : Hid (resWithout L x = []) := hid_ (by rw [resWithout, if_pos hv, hq]; rfl)
      rw [hq] at HI
      rw [He.out, Hr.out]
      clear h hv hq He Hr
      go_enter Try.func27, Try.ntmps27
      go_wp2_with (first
        | (go_at_call 55; (with_reducible refine HV.out.mono ?_); rintro e w3 ⟨rfl, hb3⟩)
        | (go_at_call 45; (with_reducible refine (HI.out w3).mono ?_); rintro e w4 ⟨rfl, rfl⟩))
      go_ret2
      exact ⟨none, 0, rfl, RulesAt.nil _ _ _ (by omega), hb3⟩
    | true =>
      obtain ⟨k, rfl, hk⟩ : ∃ k : Nat, x = k ∧ k < L.length := by
        simp only [isRl, Bool.and_eq_true, decide_eq_true_eq] at hq
        exact ⟨x.toNat, by omega, by omega⟩
      have He : Hid (errWithout L (k : Int) = 0) := hid_ (by rw [errWithout, if_pos hv, hq]; rfl)
      have Hr : Hid (resWithout L (k : Int) = L.eraseIdx k) := hid_ (by rw [resWithout, if_pos hv, hq]; rfl)
      rw [hq] at HI
      have HCo : Hid (∀ W, Below w.heap.size w W → Calls Try.prog 25 #[.slice A L.length C] W fun e w' => ∃ (g cp : Nat) (vs : List Rc), e = .returned (.slice (some ⟨g, 0, none⟩) L.length cp) ∧ L.length ≤ cp ∧ vs.length = L.length ∧ w'.ownsRow W.heap.size 53 4 (.slice (some ⟨g, 0, none⟩) L.length cp) L.length (vs.flatMap encRc) ∧ (∀ i x, vs[i]? = some x → RuleX false w' W.heap.size (some g) x (L.getD i R0)) ∧ Below W.heap.size W w') :=
        hid_ (fun W hW => (r3Copy_calls A _ C L W (h.below hW (Nat.le_refl _)) (by omega) (fun R hR => valid_lens ((validS_ok hv).2 R hR))).mono fun e w' hp => by
          obtain ⟨v5, he, ⟨vs, h0, h1, h2⟩, hb5⟩ := hp
          obtain ⟨g, cp, rfl⟩ := own_slice h1 (by omega)
          refine ⟨g, cp, vs, he, ?_, h0, h1, h2, hb5⟩
          rcases h1.2 with ⟨e, _⟩ | ⟨g', cap, cur, e, _, _, hnc, _⟩
          · cases e
          · injection e with _ _ e; omega)
      rw [He.out, Hr.out]
      clear h hv hq He Hr
      go_enter Try.func27, Try.ntmps27
      go_wp2_with (first
        | (go_at_call 55; (with_reducible refine HV.out.mono ?_); rintro e w3 ⟨rfl, hb3⟩)
        | (go_at_call 45; (with_reducible refine (HI.out w3).mono ?_); rintro e w4 ⟨rfl, rfl⟩)
        | (go_at_call 25; (with_reducible refine (HCo.out w3 hb3).mono ?_); rintro e w5 ⟨g, cp, vs, rfl, hcp, h0, h1, h2, hb5⟩))
      obtain ⟨i0, hi0, hz0, hz1, hz2⟩ := info_parts Try.infoRuleC
      have HO := hid_ h1; have H2 := hid_ h2; have H0 := hid_ h0
      have hfin := hb3.trans (hb5.mono hb3.size)
      clear h1 h2 h0
      have hkc : k ≤ cp := by omega
      have hkl : k + 1 ≤ L.length := by omega
      have hk0 : 0 ≤ (k : Int) + 1 := by omega
      have hk1 : (k : Int) + 1 ≤ (L.length : Int) := by omega
      by_cases hm : L.length = k + 1
      · have hR : RulesAt w5.drew (some ⟨g, 0, none⟩) (L.eraseIdx k).length k (L.eraseIdx k) := by
          have hO : OwnRs false w5 w3.heap.size (.slice (some ⟨g, 0, none⟩) L.length cp) L := ⟨vs, H0.out, HO.out, H2.out⟩
          obtain ⟨a', c', e, hA⟩ := hO.at_
          injection e with e1 _ e3
          subst e1; subst e3
          have ht := RulesAt.take hA (k := k) (by omega)
          have he : L.eraseIdx k = L.take k := by rw [List.eraseIdx_eq_take_drop_succ, List.drop_eq_nil_of_le (by omega), List.append_nil]
          rw [he, show (L.take k).length = k by rw [List.length_take]; omega]
          exact ht.below (below_drew1 (Below.refl _ _)) (Nat.le_refl _)
        have HR := hid_ hR
        have hlk : (L.eraseIdx k).length = k := by rw [List.length_eraseIdx_of_lt hk]; omega
        have Hlk := hid_ hlk
        have Hcp := hid_ (show k ≤ k from Nat.le_refl _)
        clear hR hlk
        by_cases hcc : cp = k + 1
        · have hkk : (k : Int) ≤ (k : Int) + 1 := by omega
          have hw1 : IntKind.i64.wrap ((k : Int) + 1) = (k : Int) + 1 := IntWalk.i64_in _ (by omega)
          go_region_law (refine step_append_none rfl (.tmp 24) (.tmp 28) rfl g k k (by simp [Act.eval, Act.put]) Hcp.out ⟨g, 0, none⟩ 0 (by simp [Act.eval, Act.put]) ?_)
          all_goals
            clear hw1
            go_wp2_with fail
            go_ret2
            exact ⟨some ⟨g, 0, none⟩, k, by rw [Hlk.out]; rfl, HR.out, hfin.trans ((below_drew1 (Below.refl _ _)).mono hfin.size)⟩
        · have hw1 : IntKind.i64.wrap ((k : Int) + 1) = (k : Int) + 1 := IntWalk.i64_in _ (by omega)
          go_region_law (refine step_append_none rfl (.tmp 24) (.tmp 28) rfl g k k (by simp [Act.eval, Act.put]) Hcp.out ⟨g, (k + 1) * 4, none⟩ (cp - (k + 1)) (by simp [Act.eval, Act.put]) ?_)
          all_goals
            clear hw1
            go_wp2_with fail
            go_ret2
            exact ⟨some ⟨g, 0, none⟩, k, by rw [Hlk.out]; rfl, HR.out, hfin.trans ((below_drew1 (Below.refl _ _)).mono hfin.size)⟩
      · have hcc : ¬ cp = k + 1 := by omega
        have E1 : Hid (((vs.take k).flatMap encRc).length = k * 4) := hid_ (by rw [encRc_len, List.length_take, Nat.min_eq_left (by rw [H0.out]; omega)])
        have E2 : Hid (((vs.drop (k + 1)).flatMap encRc).length = (L.length - (k + 1)) * 4) := hid_ (by rw [encRc_len, List.length_drop, H0.out])
        have hsplit : vs.flatMap encRc = (vs.take k).flatMap encRc ++ ((vs.drop k).flatMap encRc) := by rw [← List.flatMap_append, List.take_append_drop]
        have hsplit2 : vs.flatMap encRc = (vs.take (k + 1)).flatMap encRc ++ ((vs.drop (k + 1)).flatMap encRc) := by rw [← List.flatMap_append, List.take_append_drop]
        have E3 : Hid (∀ b, some (⟨g, 0, none⟩ : Addr) = some b → ∀ j u, ((vs.take k).flatMap encRc)[j]? = some u → w5.drew.cell? (b.add j) = some u) := hid_ (fun b e j u hu => by
          injection e with e; subst e
          refine HO.out.cells (g := g) rfl j u ?_
          rw [hsplit, List.getElem?_append_left]
          · exact hu
          · rcases Nat.lt_or_ge j ((vs.take k).flatMap encRc).length with q | q
            · exact q
            · rw [List.getElem?_eq_none q] at hu; cases hu)
        have E4 : Hid (∀ j u, ((vs.drop (k + 1)).flatMap encRc)[j]? = some u → w5.drew.cell? ((⟨g, (k + 1) * 4, none⟩ : Addr).add j) = some u) := hid_ (fun j u hu => by
          have hl : ((vs.take (k + 1)).flatMap encRc).length = (k + 1) * 4 := by rw [encRc_len, List.length_take, Nat.min_eq_left (by rw [H0.out]; omega)]
          have := HO.out.cells (g := g) rfl ((k + 1) * 4 + j) u (by
            rw [hsplit2, List.getElem?_append_right (by rw [hl]; omega), hl, Nat.add_sub_cancel_left]; exact hu)
          rwa [show (⟨g, 0, none⟩ : Addr).add ((k + 1) * 4 + j) = (⟨g, (k + 1) * 4, none⟩ : Addr).add j by unfold Addr.add; split <;> simp_all] at this)
        have E5 : Hid (∀ u ∈ (vs.drop (k + 1)).flatMap encRc, u.oneCell' = true) := hid_ (fun u hu => by
          obtain ⟨y, hy, hu⟩ := List.mem_flatMap.1 hu
          obtain ⟨i, hi, rfl⟩ := List.mem_iff_getElem.1 (List.mem_of_mem_drop hy)
          exact (H2.out i _ (List.getElem?_eq_getElem hi)).one u hu)
        have E6 : Hid (k < k + (L.length - (k + 1))) := hid_ (by omega)
        have E7 : Hid (k + (L.length - (k + 1)) ≤ maxLen) := hid_ (by unfold maxLen; omega)
        have E8 : Hid ((k + (L.length - (k + 1))) * 80 ≤ 140737488355328) := hid_ (by omega)
        clear hsplit hsplit2
        have hw1 : IntKind.i64.wrap ((k : Int) + 1) = (k : Int) + 1 := IntWalk.i64_in _ (by omega)
        go_region_law (refine step_append_grows rfl (.tmp 24) (.tmp 28) 22 rfl 53 i0 _ 4 80 Try.underlying22 hi0 hz0 hz1 hz2 rfl (Nat.succ_pos 3) (some ⟨g, 0, none⟩) k k ((vs.take k).flatMap encRc) (by simp [Act.eval, Act.put]) (fun h => nomatch h) E1.out E3.out ⟨g, (k + 1) * 4, none⟩ (L.length - (k + 1)) (cp - (k + 1)) ((vs.drop (k + 1)).flatMap encRc) (by simp [Act.eval, Act.put]) E2.out E4.out E5.out E6.out E7.out E8.out ?_; intro v7 w7 k7 g7)
        all_goals
          clear hw1
          have hO7 := OwnRs.erased hk H0.out (fun i x hx => (H2.out i x hx).next (below_drew1 (Below.refl _ _))) (show w3.heap.size ≤ w5.drew.heap.size from hb5.size) k7 g7
          obtain ⟨a7, c7, rfl, hR7⟩ := hO7.at_
          have hb7 : Below w5.heap.size w5 w7 := (below_drew1 (Below.refl _ _)).grown g7 (Nat.le_refl _) (fun k hk => by cases hk)
          clear k7 g7
          go_wp2_with fail
          go_ret2
          exact ⟨_, _, rfl, hR7, hfin.trans (hb7.mono hfin.size)⟩
  · have He : Hid (errWithout L x = validS L) := hid_ (by rw [errWithout, if_neg hv])
    have Hr : Hid (resWithout L x = []) := hid_ (by rw [resWithout, if_neg hv])
    have hq : (validS L != 0) = true := by simpa using hv
    rw [He.out, Hr.out]
    generalize validS L = z at *
    clear h hv He Hr
    go_enter Try.func27, Try.ntmps27
    go_wp2_with (go_at_call 55; (with_reducible refine HV.out.mono ?_); rintro e w3 ⟨rfl, hb3⟩)
    go_ret2
    exact ⟨none, 0, rfl, RulesAt.nil _ _ _ (by omega), hb3⟩
end Go.Proofs.Ytgipkbiogldjpaa
