import Derived.Test.YtliheejcfkhghaaV8
namespace Go.Proofs.Ytliheejcfkhghaa
open Go.RowKit Go.Proofs.Kv Go

/-! ### IsCode of the document -/
set_option maxRecDepth 100000 in
set_option maxHeartbeats 8000000 in
theorem r8IsCode_calls (v : Value) (L : Lx) (w : World) (h : LexAt w v L) :
    Calls Try.prog 41 #[v] w fun e w' => e = .returned (.tuple #[.bool (codeB L), .int .i64 (validL L)]) ∧ Below w.heap.size w w' := by
  have HP := hid_ h
  obtain ⟨a1, n1, c1, a2, n2, c2, rfl, h1, h2⟩ := h
  obtain ⟨w1, hw1⟩ : ∃ w1, w.alloc (.cells #[.slice a1 n1 c1, .slice a2 n2 c2] 25) = w1 := ⟨_, rfl⟩
  have cb : Below w.heap.size w w1 := by rw [← hw1]; exact below_alloc _ _
  have q0 : w1.cell? ⟨w.heap.size, 0, none⟩ = some (.slice a1 n1 c1) := by rw [← hw1]; exact cells_alloc _ _ _ 0
  have q1 : w1.cell? ⟨w.heap.size, 1, none⟩ = some (.slice a2 n2 c2) := by rw [← hw1]; exact cells_alloc _ _ _ 1
  have HP1 := hid_ (HP.out.below cb (Nat.le_refl _)); have Hc1 := hid_ cb
  obtain ⟨i1, hi1, hz0', hz1', hz2'⟩ := info_parts Try.infoInts
  have HV := hid_ (r8Validate_calls _ L w1 HP1.out)
  have HQ := hid_ (fun W (hW : Below w1.heap.size w1 W) => (⟨cell_below q0 hW, cell_below q1 hW⟩ : _ ∧ _))
  have HY : Hid (validL L = 0 → ¬ RR L [] → codeB L = true) := hid_ (fun h0 hr => by unfold codeB; rw [if_pos h0]; simpa using hr)
  have HNo : Hid (RR L [] → codeB L = false) := hid_ no_code
  have H1 := hid_ (h1.below cb (Nat.le_refl _))
  have hl1 := h1.len
  clear h1 h2 HP HP1 cb
  by_cases he : validL L = 0
  · have g := validL_ok he
    have HY' := hid_ (HY.out he)
    rw [he] at HV ⊢
    generalize codeB L = R at *
    have Hpush := hid_ (fun ls i j (h : InvA L ls fun a b => a < i ∨ (a = i ∧ b < j)) => InvA.push g h)
    have HleB := hid_ (fun ls n (h : InvB L ls n) => InvB.le g h)
    have Hsucc := hid_ (fun ls n i l r (h : InvB L ls n) => @InvB.succ L g ls n i l r h)
    have hn1 : n1 ≤ 8 := by have := g.le; omega
    have Hge := hid_ (fun j (hj : j < n1) => (g.word j (by omega)))
    have Hl1 := hid_ hl1
    clear he g HY hl1
    go_enter Try.func41, Try.ntmps41
    go_wp2_with (go_at_call 23; (with_reducible refine HV.out.mono ?_); rintro e w2 ⟨rfl, hb2⟩)
    go_loopw [5, 6] (fun lv iv wr => ∃ (k : Nat) (ls : List (List Int)) (us : List Value), k ≤ n1 ∧ iv = .int .i64 k ∧ OldS 26 w1 wr lv us ls ∧ InvA L ls (fun a _ => a < k) ∧ ls.length ≤ k * 8 ∧ Below w1.heap.size w1 wr) (fun _ iv _ => n1 - (intOf iv).toNat)
    case atStart => exact ⟨0, [], [], Nat.zero_le _, rfl, OldS.nil _ _ _, InvA.nil L, Nat.le_refl _, hb2⟩
    case round =>
      obtain ⟨k, ls, us, hk, rfl, hO, hA, hll, hb⟩ := hrel
      obtain ⟨q0r, q1r⟩ := HQ.out wr hb
      by_cases hlt : k < n1
      · obtain ⟨b, off, ak, nk, ck, eb, -, k0, -, -, hwk⟩ := H1.out.cells k hlt
        have Hwk := hid_ (show IntsAt w1 ak nk ck (wd L k) from hwk)
        have hA' := hA.same (D' := fun a b => a < k ∨ (a = k ∧ b < 0)) (fun i j d => by omega)
        clear hA
        go_wp2
        go_loopw [5, 7] (fun lv jv wr' => ∃ (j : Nat) (ls : List (List Int)) (us : List Value), j ≤ n1 ∧ jv = .int .i64 j ∧ OldS 26 w1 wr' lv us ls ∧ InvA L ls (fun a b => a < k ∨ (a = k ∧ b < j)) ∧ ls.length ≤ k * 8 + j ∧ Below w1.heap.size w1 wr') (fun _ jv _ => n1 - (intOf jv).toNat)
        case atStart => exact ⟨0, ls, us, Nat.zero_le _, rfl, hO, hA', hll, hb⟩
        case round =>
          obtain ⟨j, ls, us, hj, rfl, hO, hA, hll, hb⟩ := hrel
          obtain ⟨q0i, q1i⟩ := HQ.out wr hb
          by_cases hltj : j < n1
          · by_cases hkj : k = j
            · subst hkj
              have hA2 := hA.skip (j := k) (.inl rfl)
              go_wp2
              go_roundw
              case rel => exact ⟨k + 1, ls, us, by omega, by go_num, hO, hA2, by omega, hb⟩
              case measure => simp [intOf]; omega
            · obtain ⟨b', off', aj, nj, cj, eb', -, j0, -, -, hwj⟩ := H1.out.cells j hltj
              have Hwj := hid_ (show IntsAt w1 aj nj cj (wd L j) from hwj)
              subst eb
              injection eb' with e2; injection e2 with e2 e3; subst e2; subst e3
              have kr := cell_below k0 hb
              have jr := cell_below j0 hb
              have hne : ((k : Int) == (j : Int)) = false := by simpa using (fun e => hkj (by omega))
              cases hbg : begT (wd L k) (wd L j) with
              | true =>
                have HC := hid_ (fun q => begins_yes ak nk ck (wd L k) aj nj cj (wd L j) (wr.drewN q) ((Hwk.out.below hb (Nat.le_refl _)).drewN q) ((Hwj.out.below hb (Nat.le_refl _)).drewN q) hbg)
                have HI := hid_ (Hpush.out ls k j hA (by have := Hl1.out; omega) (by have := Hl1.out; omega) hkj hbg)
                have hbl : nk ≤ nj := by
                  have h9 := hbg
                  unfold begT at h9
                  rw [Bool.and_eq_true, decide_eq_true_eq, Hwk.out.len, Hwj.out.len] at h9
                  exact h9.1
                have hIx := Hwj.out.dropAny hbl
                rw [Hwk.out.len] at HI
                generalize (if cj = nk then aj else aj.map (·.add nk)) = ax at *
                generalize nj - nk = nx at *
                generalize cj - nk = cx at *
                have Hx := hid_ hIx
                clear hIx hbl
                obtain ⟨nl, hnl⟩ : ∃ nl, ls.length = nl := ⟨_, rfl⟩
                have Hnl := hid_ hnl
                go_wp2_with fail
                go_quiet ((go_at_call 80; exact quiet_more (HC.out _)))
                obtain ⟨wx, hwx⟩ : ∃ wx, wr.drewN nq = wx := ⟨_, rfl⟩
                have hbx : Below w1.heap.size w1 wx := by rw [← hwx]; exact below_drewN hb _
                have hOx := hO.below (w' := wx) (show Below wr.heap.size wr wx by rw [← hwx]; exact below_drewN (Below.refl _ _) _) (Nat.le_refl _)
                have htx := hOx.top
                rw [hnl] at htx
                have hzx := hbx.size
                rw [hwx]
                go_wp2_with (at_builtin; refine wpList_push_val2 _ rfl (.tmp 54) (.tmp 56) _ rfl w1.heap.size 26 i1 Try.underlying23 hi1 hz0' rfl hz1' hz2' (by omega) _ _ _ rfl htx (.slice ax nx cx) rfl 26 rfl (by omega) hzx ?_; intro v6 w6 hown6 hg6 hat6)
                have hb6 : Below w1.heap.size w1 w6 := below_app hbx hzx htx hg6
                go_roundw
                case rel => exact ⟨j + 1, _, _, by omega, by go_num, OldS.push hOx.at_ hOx.ulen (by rw [Hnl.out]; exact hown6) Hx.out, HI.out, by rw [List.length_append, List.length_singleton, Hnl.out]; omega, hb6⟩
                case measure => simp [intOf]; omega
              | false =>
                have HC := hid_ (fun q => begins_no ak nk ck (wd L k) aj nj cj (wd L j) (wr.drewN q) ((Hwk.out.below hb (Nat.le_refl _)).drewN q) ((Hwj.out.below hb (Nat.le_refl _)).drewN q) hbg)
                have hA2 := hA.skip (.inr hbg)
                go_wp2_with fail
                go_quiet ((go_at_call 80; exact quiet_more (HC.out _)))
                go_wp2
                go_roundw
                case rel => exact ⟨j + 1, ls, us, by omega, by go_num, hO.below (below_drewN (Below.refl _ _) _) (Nat.le_refl _), hA2, by omega, below_drewN hb _⟩
                case measure => simp [intOf]; omega
          · obtain rfl : n1 = j := by omega
            go_wp2
            go_roundw
            case rel => exact ⟨k + 1, ls, us, by omega, by go_num, hO, hA.done (by have := Hl1.out; omega), by omega, hb⟩
            case measure => simp [intOf]; omega
      · obtain rfl : n1 = k := by omega
        have hBB := hA.toB (by have := Hl1.out; omega) (by omega)
        clear hA
        go_wp2
        go_loopw [5, 10] (fun lv mv wr' => ∃ (m : Nat) (ls : List (List Int)) (us : List Value), m ≤ ls.length ∧ mv = .int .i64 m ∧ OldS 26 w1 wr' lv us ls ∧ InvB L ls m ∧ Below w1.heap.size w1 wr') (fun _ mv _ => 120 - (intOf mv).toNat)
        case atStart => exact ⟨0, ls, us, Nat.zero_le _, rfl, hO, hBB, hb⟩
        case round =>
          obtain ⟨m, ls, us, hm, rfl, hO, hB, hb⟩ := hrel
          have h120 := HleB.out ls m hB
          by_cases hlt : m < ls.length
          · obtain ⟨g3, cap3, a3, n3, c3, ev, hg1, hg2, hc3, hi3⟩ := hO.cell hlt
            obtain ⟨l, hgl⟩ : ∃ l, ls.getD m [] = l := ⟨_, rfl⟩
            have hno := hB.no hlt
            rw [hgl] at hi3 hno
            obtain ⟨nl, hnl⟩ : ∃ nl, ls.length = nl := ⟨_, rfl⟩
            have hlt0 := hlt
            have hm0 := hm
            rw [hnl] at ev hlt hm h120
            subst ev
            have Hnl := hid_ hnl
            by_cases h0 : n3 = 0
            · subst h0
              have HR := hid_ (HNo.out (hno (List.length_eq_zero_iff.1 hi3.len)))
              clear hB hO hno hi3 hnl hlt0 hm0
              go_wp2
              go_ret2
              exact ⟨by rw [HR.out]; rfl, Hc1.out.trans (hb.mono Hc1.out.size)⟩
            · have hq : ((n3 : Int) == 0) = false := by simpa using (fun e : (n3 : Int) = 0 => h0 (by omega))
              have hl0 : Hid (l ≠ []) := hid_ (fun e => h0 (by rw [← hi3.len, e]; rfl))
              clear hno hi3 h0 hnl
              go_wp2
              go_loopw [5, 11] (fun lv iv wr' => ∃ (i : Nat) (ls : List (List Int)) (us : List Value), i ≤ n1 ∧ iv = .int .i64 i ∧ OldS 26 w1 wr' lv us ls ∧ InvB L ls m ∧ m < ls.length ∧ ls.getD m [] = l ∧ (∀ i', i' < i → doneS L ls l i') ∧ Below w1.heap.size w1 wr') (fun _ iv _ => n1 - (intOf iv).toNat)
              case atStart => exact ⟨0, ls, us, Nat.zero_le _, rfl, hO, hB, hlt0, hgl, fun _ h => absurd h (by omega), hb⟩
              case round =>
                clear hlt hm hlt0 hm0 h120 hc3 hg1 hg2 hgl Hnl hO hB hb
                obtain ⟨i, ls, us, hi, rfl, hO, hB, hml', hgl, hd, hb⟩ := hrel
                have h120 := HleB.out ls m hB
                obtain ⟨q0i, q1i⟩ := HQ.out wr hb
                by_cases hlti : i < n1
                · obtain ⟨b, off, ai, ni, ci, rfl, -, i0, -, -, hwi⟩ := H1.out.cells i hlti
                  have Hwi := hid_ (show IntsAt w1 ai ni ci (wd L i) from hwi)
                  have ir := cell_below i0 hb
                  obtain ⟨g4, cap4, a4, n4, c4, ev, hg1, hg2, hc4, hI4⟩ := hO.cell hml'
                  have hml : l ∈ ls := by rw [← hgl]; exact getD_memS hml'
                  rw [hgl] at hI4
                  obtain ⟨nl, hnl⟩ : ∃ nl, ls.length = nl := ⟨_, rfl⟩
                  rw [hnl] at ev hml' h120
                  subst ev
                  have Hnl := hid_ hnl
                  clear hwi i0 hnl
                  cases hx1 : begT l (wd L i) with
                  | true =>
                    have hr : wd L i = l ++ (wd L i).drop l.length := by obtain ⟨r, e⟩ := begT_iff.1 hx1; rw [e, List.drop_left]
                    have Hr : Hid (l = wd L i ++ (wd L i).drop l.length ∨ wd L i = l ++ (wd L i).drop l.length) := hid_ (.inr hr)
                    have hbl : n4 ≤ ni := by have h9 := hx1; unfold begT at h9; rw [Bool.and_eq_true, decide_eq_true_eq, hI4.len, Hwi.out.len] at h9; exact h9.1
                    have hIx := Hwi.out.dropAny hbl
                    have HC1 := hid_ (begins_yes a4 n4 c4 l ai ni ci (wd L i) wr (hI4.below hb (Nat.le_refl _)) (Hwi.out.below hb (Nat.le_refl _)) hx1)
                    rw [hI4.len] at Hr
                    generalize (if ci = n4 then ai else ai.map (·.add n4)) = ax at *
                    generalize ni - n4 = nx at *
                    generalize ci - n4 = cx at *
                    generalize (wd L i).drop n4 = r at *
                    have Hx := hid_ hIx
                    have HS := hid_ (Hsucc.out ls m i l r hB hml (by have := Hl1.out; omega) Hr.out)
                    have HHas := hid_ (fun W (hW : Below w1.heap.size w1 W) (hOW : OldS 26 w1 W (.slice (some ⟨g4, 0, none⟩) nl cap4) us ls) => (by obtain ⟨a', c', e', hLs⟩ := hOW.lists hW; rw [Hnl.out] at e' hLs; injection e' with e1 _ e3; subst e1; subst e3; exact has_calls _ _ _ ls ax nx cx r W hLs (Hx.out.below hW (Nat.le_refl _)) : Calls Try.prog 81 #[.slice (some ⟨g4, 0, none⟩) nl cap4, .slice ax nx cx] W fun e w' => e = .returned (.bool (hasB ls r)) ∧ ∃ q, w' = W.drewN q))
                    have HDone := hid_ (fun (ls' : List (List Int)) (hm : r ∈ ls') (hd : ∀ i', i' < i → doneS L ls' l i') => lt_snoc (p := fun i' => doneS L ls' l i') hd (fun r' hr' => by rw [left_one hr' Hr.out]; exact hm))
                    have HB := hid_ hB; have HO := hid_ hO; have Hd := hid_ hd; have Hb := hid_ hb; have HgL := hid_ hgl
                    clear hB hO hd hIx hbl hr hml hgl Hr Hsucc hx1 hI4
                    cases hh : hasB ls r with
                    | true =>
                      rw [hh] at HHas
                      have hmem := hid_ (hasB_iff.1 hh)
                      go_wp2_with (first
                        | (go_at_call 80; (with_reducible refine HC1.out.mono ?_); rintro e w4 ⟨rfl, q4, hw4⟩; have hb4 : Below w1.heap.size w1 w4 := (by rw [hw4]; exact below_drewN Hb.out _); have ho4 : OldS 26 w1 w4 (.slice (some ⟨g4, 0, none⟩) nl cap4) us ls := (by rw [hw4]; exact HO.out.below (below_drewN (Below.refl _ _) _) (Nat.le_refl _)); have c4' : w4.cell? ⟨g4, m, none⟩ = some (.slice a4 n4 c4) := (by rw [hw4]; exact hc4); clear hw4)
                        | (go_at_call 81; (with_reducible refine (HHas.out _ hb4 ho4).mono ?_); rintro e w5 ⟨rfl, q5, hw5⟩; have hb5 : Below w1.heap.size w1 w5 := (by rw [hw5]; exact below_drewN hb4 _); have ho5 : OldS 26 w1 w5 (.slice (some ⟨g4, 0, none⟩) nl cap4) us ls := (by rw [hw5]; exact ho4.below (below_drewN (Below.refl _ _) _) (Nat.le_refl _)); have ht5 := ho5.top; rw [Hnl.out] at ht5; have hz5 := hb5.size; clear hw5))
                      go_roundw
                      case rel => exact ⟨i + 1, ls, us, by omega, by go_num, ho5, HB.out, by rw [Hnl.out]; exact hml', HgL.out, HDone.out ls hmem.out Hd.out, hb5⟩
                      case measure => simp [intOf]; omega
                    | false =>
                      rw [hh] at HHas
                      have HB' := hid_ (HB.out.push (Nat.le_of_lt (by rw [Hnl.out]; exact hml')) HS.out hh)
                      go_wp2_with (first
                        | (go_at_call 80; (with_reducible refine HC1.out.mono ?_); rintro e w4 ⟨rfl, q4, hw4⟩; have hb4 : Below w1.heap.size w1 w4 := (by rw [hw4]; exact below_drewN Hb.out _); have ho4 : OldS 26 w1 w4 (.slice (some ⟨g4, 0, none⟩) nl cap4) us ls := (by rw [hw4]; exact HO.out.below (below_drewN (Below.refl _ _) _) (Nat.le_refl _)); have c4' : w4.cell? ⟨g4, m, none⟩ = some (.slice a4 n4 c4) := (by rw [hw4]; exact hc4); clear hw4)
                        | (go_at_call 81; (with_reducible refine (HHas.out _ hb4 ho4).mono ?_); rintro e w5 ⟨rfl, q5, hw5⟩; have hb5 : Below w1.heap.size w1 w5 := (by rw [hw5]; exact below_drewN hb4 _); have ho5 : OldS 26 w1 w5 (.slice (some ⟨g4, 0, none⟩) nl cap4) us ls := (by rw [hw5]; exact ho4.below (below_drewN (Below.refl _ _) _) (Nat.le_refl _)); have ht5 := ho5.top; rw [Hnl.out] at ht5; have hz5 := hb5.size; clear hw5)
                        | (at_builtin; refine wpList_push_val2 _ rfl (.tmp 110) (.tmp 112) _ rfl w1.heap.size 26 i1 Try.underlying23 hi1 hz0' rfl hz1' hz2' (by omega) _ _ _ rfl ht5 (.slice ax nx cx) rfl 26 rfl (by omega) hz5 ?_; intro v6 w6 hown6 hg6 hat6; have hb6 : Below w1.heap.size w1 w6 := below_app hb5 hz5 ht5 hg6))
                      go_roundw
                      case rel => exact ⟨i + 1, _, _, by omega, by go_num, OldS.push ho5.at_ ho5.ulen (by rw [Hnl.out]; exact hown6) Hx.out, HB'.out, by rw [List.length_append, Hnl.out]; omega, by rw [getD_snocS (by rw [Hnl.out]; exact hml')]; exact HgL.out, HDone.out _ (by simp) (fun i' hi' r' hr' => List.mem_append_left _ (Hd.out i' hi' r' hr')), hb6⟩
                      case measure => simp [intOf]; omega
                  | false =>
                    cases hx2 : begT (wd L i) l with
                    | true =>
                      have hr : l = wd L i ++ l.drop (wd L i).length := by obtain ⟨r, e⟩ := begT_iff.1 hx2; rw [e, List.drop_left]
                      have Hr : Hid (l = wd L i ++ l.drop (wd L i).length ∨ wd L i = l ++ l.drop (wd L i).length) := hid_ (.inl hr)
                      have hbl : ni ≤ n4 := by have h9 := hx2; unfold begT at h9; rw [Bool.and_eq_true, decide_eq_true_eq, hI4.len, Hwi.out.len] at h9; exact h9.1
                      have hIx := hI4.dropAny hbl
                      have HC1 := hid_ (begins_no a4 n4 c4 l ai ni ci (wd L i) wr (hI4.below hb (Nat.le_refl _)) (Hwi.out.below hb (Nat.le_refl _)) hx1)
                      have HC2 := hid_ (fun W (hW : Below w1.heap.size w1 W) => begins_yes ai ni ci (wd L i) a4 n4 c4 l W (Hwi.out.below hW (Nat.le_refl _)) (hI4.below hW (Nat.le_refl _)) hx2)
                      rw [Hwi.out.len] at Hr
                      generalize (if c4 = ni then a4 else a4.map (·.add ni)) = ax at *
                      generalize n4 - ni = nx at *
                      generalize c4 - ni = cx at *
                      generalize l.drop ni = r at *
                      have Hx := hid_ hIx
                      have HS := hid_ (Hsucc.out ls m i l r hB hml (by have := Hl1.out; omega) Hr.out)
                      have HHas := hid_ (fun W (hW : Below w1.heap.size w1 W) (hOW : OldS 26 w1 W (.slice (some ⟨g4, 0, none⟩) nl cap4) us ls) => (by obtain ⟨a', c', e', hLs⟩ := hOW.lists hW; rw [Hnl.out] at e' hLs; injection e' with e1 _ e3; subst e1; subst e3; exact has_calls _ _ _ ls ax nx cx r W hLs (Hx.out.below hW (Nat.le_refl _)) : Calls Try.prog 81 #[.slice (some ⟨g4, 0, none⟩) nl cap4, .slice ax nx cx] W fun e w' => e = .returned (.bool (hasB ls r)) ∧ ∃ q, w' = W.drewN q))
                      have HDone := hid_ (fun (ls' : List (List Int)) (hm : r ∈ ls') (hd : ∀ i', i' < i → doneS L ls' l i') => lt_snoc (p := fun i' => doneS L ls' l i') hd (fun r' hr' => by rw [left_one hr' Hr.out]; exact hm))
                      have HB := hid_ hB; have HO := hid_ hO; have Hd := hid_ hd; have Hb := hid_ hb; have HgL := hid_ hgl
                      clear hB hO hd hIx hbl hr hml hgl Hr Hsucc hx1 hI4 hx2
                      cases hh : hasB ls r with
                      | true =>
                        rw [hh] at HHas
                        have hmem := hid_ (hasB_iff.1 hh)
                        go_wp2_with (first
                          | (go_at_call 80; (with_reducible refine HC1.out.mono ?_); rintro e w4 ⟨rfl, q4, hw4⟩; have hb4 : Below w1.heap.size w1 w4 := (by rw [hw4]; exact below_drewN Hb.out _); have ho4 : OldS 26 w1 w4 (.slice (some ⟨g4, 0, none⟩) nl cap4) us ls := (by rw [hw4]; exact HO.out.below (below_drewN (Below.refl _ _) _) (Nat.le_refl _)); have c4' : w4.cell? ⟨g4, m, none⟩ = some (.slice a4 n4 c4) := (by rw [hw4]; exact hc4); clear hw4)
                          | (go_at_call 80; (with_reducible refine (HC2.out _ hb4).mono ?_); rintro e w7 ⟨rfl, q7, hw7⟩; have hb7 : Below w1.heap.size w1 w7 := (by rw [hw7]; exact below_drewN hb4 _); have ho7 : OldS 26 w1 w7 (.slice (some ⟨g4, 0, none⟩) nl cap4) us ls := (by rw [hw7]; exact ho4.below (below_drewN (Below.refl _ _) _) (Nat.le_refl _)); clear hw7)
                          | (go_at_call 81; (with_reducible refine (HHas.out _ hb7 ho7).mono ?_); rintro e w5 ⟨rfl, q5, hw5⟩; have hb5 : Below w1.heap.size w1 w5 := (by rw [hw5]; exact below_drewN hb7 _); have ho5 : OldS 26 w1 w5 (.slice (some ⟨g4, 0, none⟩) nl cap4) us ls := (by rw [hw5]; exact ho7.below (below_drewN (Below.refl _ _) _) (Nat.le_refl _)); have ht5 := ho5.top; rw [Hnl.out] at ht5; have hz5 := hb5.size; clear hw5))
                        go_roundw
                        case rel => exact ⟨i + 1, ls, us, by omega, by go_num, ho5, HB.out, by rw [Hnl.out]; exact hml', HgL.out, HDone.out ls hmem.out Hd.out, hb5⟩
                        case measure => simp [intOf]; omega
                      | false =>
                        rw [hh] at HHas
                        have HB' := hid_ (HB.out.push (Nat.le_of_lt (by rw [Hnl.out]; exact hml')) HS.out hh)
                        go_wp2_with (first
                          | (go_at_call 80; (with_reducible refine HC1.out.mono ?_); rintro e w4 ⟨rfl, q4, hw4⟩; have hb4 : Below w1.heap.size w1 w4 := (by rw [hw4]; exact below_drewN Hb.out _); have ho4 : OldS 26 w1 w4 (.slice (some ⟨g4, 0, none⟩) nl cap4) us ls := (by rw [hw4]; exact HO.out.below (below_drewN (Below.refl _ _) _) (Nat.le_refl _)); have c4' : w4.cell? ⟨g4, m, none⟩ = some (.slice a4 n4 c4) := (by rw [hw4]; exact hc4); clear hw4)
                          | (go_at_call 80; (with_reducible refine (HC2.out _ hb4).mono ?_); rintro e w7 ⟨rfl, q7, hw7⟩; have hb7 : Below w1.heap.size w1 w7 := (by rw [hw7]; exact below_drewN hb4 _); have ho7 : OldS 26 w1 w7 (.slice (some ⟨g4, 0, none⟩) nl cap4) us ls := (by rw [hw7]; exact ho4.below (below_drewN (Below.refl _ _) _) (Nat.le_refl _)); clear hw7)
                          | (go_at_call 81; (with_reducible refine (HHas.out _ hb7 ho7).mono ?_); rintro e w5 ⟨rfl, q5, hw5⟩; have hb5 : Below w1.heap.size w1 w5 := (by rw [hw5]; exact below_drewN hb7 _); have ho5 : OldS 26 w1 w5 (.slice (some ⟨g4, 0, none⟩) nl cap4) us ls := (by rw [hw5]; exact ho7.below (below_drewN (Below.refl _ _) _) (Nat.le_refl _)); have ht5 := ho5.top; rw [Hnl.out] at ht5; have hz5 := hb5.size; clear hw5)
                          | (at_builtin; refine wpList_push_val2 _ rfl (.tmp 110) (.tmp 112) _ rfl w1.heap.size 26 i1 Try.underlying23 hi1 hz0' rfl hz1' hz2' (by omega) _ _ _ rfl ht5 (.slice ax nx cx) rfl 26 rfl (by omega) hz5 ?_; intro v6 w6 hown6 hg6 hat6; have hb6 : Below w1.heap.size w1 w6 := below_app hb5 hz5 ht5 hg6))
                        go_roundw
                        case rel => exact ⟨i + 1, _, _, by omega, by go_num, OldS.push ho5.at_ ho5.ulen (by rw [Hnl.out]; exact hown6) Hx.out, HB'.out, by rw [List.length_append, Hnl.out]; omega, by rw [getD_snocS (by rw [Hnl.out]; exact hml')]; exact HgL.out, HDone.out _ (by simp) (fun i' hi' r' hr' => List.mem_append_left _ (Hd.out i' hi' r' hr')), hb6⟩
                        case measure => simp [intOf]; omega
                    | false =>
                      have HC1 := hid_ (begins_no a4 n4 c4 l ai ni ci (wd L i) wr (hI4.below hb (Nat.le_refl _)) (Hwi.out.below hb (Nat.le_refl _)) hx1)
                      have HC2 := hid_ (fun W (hW : Below w1.heap.size w1 W) => begins_no ai ni ci (wd L i) a4 n4 c4 l W (Hwi.out.below hW (Nat.le_refl _)) (hI4.below hW (Nat.le_refl _)) hx2)
                      have Hd := hid_ (lt_snoc (p := fun i' => doneS L ls l i') hd (fun r hr => by
                        rcases hr with hr | hr
                        · rw [begT_iff.2 ⟨r, hr⟩] at hx2; cases hx2
                        · rw [begT_iff.2 ⟨r, hr⟩] at hx1; cases hx1))
                      have HB := hid_ hB; have HO := hid_ hO; have Hb := hid_ hb; have HgL := hid_ hgl
                      clear hB hO hd hml hgl hx1 hx2 hI4
                      go_wp2_with (first
                        | (go_at_call 80; (with_reducible refine HC1.out.mono ?_); rintro e w4 ⟨rfl, q4, hw4⟩; have hb4 : Below w1.heap.size w1 w4 := (by rw [hw4]; exact below_drewN Hb.out _); have ho4 : OldS 26 w1 w4 (.slice (some ⟨g4, 0, none⟩) nl cap4) us ls := (by rw [hw4]; exact HO.out.below (below_drewN (Below.refl _ _) _) (Nat.le_refl _)); have c4' : w4.cell? ⟨g4, m, none⟩ = some (.slice a4 n4 c4) := (by rw [hw4]; exact hc4); clear hw4)
                        | (go_at_call 80; (with_reducible refine (HC2.out _ hb4).mono ?_); rintro e w7 ⟨rfl, q7, hw7⟩; have hb7 : Below w1.heap.size w1 w7 := (by rw [hw7]; exact below_drewN hb4 _); have ho7 : OldS 26 w1 w7 (.slice (some ⟨g4, 0, none⟩) nl cap4) us ls := (by rw [hw7]; exact ho4.below (below_drewN (Below.refl _ _) _) (Nat.le_refl _)); clear hw7))
                      go_roundw
                      case rel => exact ⟨i + 1, ls, us, by omega, by go_num, ho7, HB.out, by rw [Hnl.out]; exact hml', HgL.out, Hd.out, hb7⟩
                      case measure => simp [intOf]; omega
                · obtain rfl : n1 = i := by omega
                  have hB2 := hB.next (by rw [hgl]; exact hl0.out) (fun i' hi' => by rw [hgl]; exact hd i' (by have := Hl1.out; omega))
                  go_wp2
                  go_roundw
                  case rel => exact ⟨m + 1, ls, us, hml', by go_num, hO, hB2, hb⟩
                  case measure => simp [intOf]; omega
          · obtain rfl : ls.length = m := by omega
            have HR := hid_ (HY'.out hB.yes)
            obtain ⟨al, cl, el, -⟩ := hO.lists hb
            obtain ⟨nl, hnl⟩ : ∃ nl, ls.length = nl := ⟨_, rfl⟩
            rw [hnl] at el h120 ⊢
            subst el
            clear hB hO hnl hlt
            go_wp2
            go_ret2
            exact ⟨by rw [HR.out]; rfl, Hc1.out.trans (hb.mono Hc1.out.size)⟩
  · have hq : (validL L != 0) = true := by simpa using he
    have HR : Hid (codeB L = false) := hid_ ((codeB_is L).1 he)
    generalize codeB L = R at *
    generalize validL L = x at *
    clear he HY
    go_enter Try.func41, Try.ntmps41
    go_wp2_with (go_at_call 23; (with_reducible refine HV.out.mono ?_); rintro e w2 ⟨rfl, hb2⟩)
    go_ret2
    exact ⟨by rw [HR.out]; rfl, Hc1.out.trans (hb2.mono Hc1.out.size)⟩
end Go.Proofs.Ytliheejcfkhghaa
