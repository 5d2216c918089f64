import Derived.Test.YtdhmcmkpeaoigaaYU
namespace Go.Proofs.Ytdhmcmkpeaoigaa
open Go.RowKit Go.Proofs.Kv Go

/-! ### the law StemmaSpells -/
theorem longT_no {T : List (List Int)} (h : longT T = false) : T.length ≤ 50 ∧ ∀ i, i < T.length → (T.getD i []).length ≤ 50 := by
  rw [longT, Bool.or_eq_false_iff, List.any_eq_false] at h
  refine ⟨by have := of_decide_eq_false h.2; omega, fun i hi => ?_⟩
  have := h.1 (T.getD i []) (by simp [List.getD, List.getElem?_eq_getElem hi])
  simp only [decide_eq_true_eq] at this
  omega
/-- the same lengths -/
def LenL (L0 L : List (List Int)) : Prop := L.length = L0.length ∧ ∀ j : Nat, (L.getD j []).length = (L0.getD j []).length
theorem LenL.set {L0 L : List (List Int)} (h : LenL L0 L) (i k : Nat) (x : Int) : LenL L0 (L.set i ((L.getD i []).set k x)) := by
  refine ⟨by rw [List.length_set]; exact h.1, fun j => ?_⟩
  rw [← h.2 j]
  by_cases e : i = j
  · subst e
    by_cases hi : i < L.length
    · simp [List.getD, hi]
    · rw [List.set_eq_of_length_le (by omega)]
  · simp only [List.getD]
    rw [List.getElem?_set_ne e]
set_option maxRecDepth 100000 in
set_option maxHeartbeats 8000000 in
theorem stemmaSpells_calls (a : Option Addr) (n c : Nat) (T : List (List Int)) (p : Int) (al : Option Addr) (nl cl : Nat) (l : List Int) (w : World) (h : ListsAt w a n c T) (h' : IntsAt w al nl cl l) :
    Calls Try.prog 14 #[.slice a n c, .int .i64 p, .slice al nl cl] w fun e w' => e = .returned (.bool true) ∧ Below w.heap.size w w' := by
  have HG := hid_ (long_calls a n c T w h)
  have HK := hid_ sane_calls
  have hnl : nl ≤ 9223372036854775807 := Nat.le_trans h'.le h'.small
  have hb : Below w.heap.size w w := Below.refl _ _
  cases hg : longT T with
  | true =>
    rw [hg] at HG
    go_enter Try.func14, Try.ntmps14
    go_wp2_with (first
      | (go_at_call 18; refine (HG.out).mono ?_; rintro e w' ⟨rfl, rfl⟩)
      | (go_at_call 19; (with_reducible refine (HK.out _).mono ?_); rintro e w3 ⟨rfl, hb3⟩))
    go_ret
    exact ⟨rfl, hb3⟩
  | false =>
    rw [hg] at HG
    obtain ⟨hT1, hT2⟩ := longT_no hg
    clear hg
    by_cases h50 : 50 < nl
    · have hq : (50 : Int) < (nl : Int) := by omega
      clear h50
      go_enter Try.func14, Try.ntmps14
      go_wp2_with (first
        | (go_at_call 18; refine (HG.out).mono ?_; rintro e w' ⟨rfl, rfl⟩)
        | (go_at_call 19; (with_reducible refine (HK.out _).mono ?_); rintro e w3 ⟨rfl, hb3⟩))
      go_ret
      exact ⟨rfl, hb3⟩
    · have hq : ¬ (50 : Int) < (nl : Int) := by omega
      have hn := h.len
      have HC := hid_ (r7Copy_calls a n c T w h (by omega) (fun i hi => by have := hT2 i (by omega); omega))
      have HT := hid_ (fun W (hW : Below w.heap.size w W) => h.below hW (Nat.le_refl _))
      have HLl := hid_ (fun W (hW : Below w.heap.size w W) => h'.below hW (Nat.le_refl _))
      have HA := hid_ (fun W a' c' (hL : ListsAt W a' n c' T) (hl : IntsAt W al nl cl l) => stSpell_calls a' n c' T p al nl cl l W hL hl)
      have HB := hid_ (fun W (hW : Below w.heap.size w W) => r7Spell_calls a n c T p al nl cl l W (HT.out W hW) (HLl.out W hW))
      have HS := hid_ (fun W a1 n1 c1 a2 n2 c2 (h1 : ListsAt W a1 n1 c1 (resSpell T p l)) (h2 : ListsAt W a2 n2 c2 (resSpell T p l)) => sameL7_calls a1 n1 c1 _ a2 n2 c2 W h1 h2)
      have HST := hid_ (fun W a1 n1 c1 a2 n2 c2 (h1 : ListsAt W a1 n1 c1 T) (h2 : ListsAt W a2 n2 c2 T) => sameL7_calls a1 n1 c1 _ a2 n2 c2 W h1 h2)
      have Hn := hid_ hn
      have hn50 : n ≤ 50 := by omega
      by_cases he : spellE T p l = 0
      · obtain ⟨gT, hp0, hp1, hal⟩ := spellE_ok he
        have hRe : resSpell T p l = T.map (spF l p.toNat) := by rw [resSpell, if_pos he]
        have hpn : p.toNat < n0 T := by omega
        have gL := sp_good gT hal hpn
        have hcf := sp_conf gT hal hpn
        have hap := fun (i : Nat) (hi : i < T.length) => sp_apart gT hal hpn (i := 0) (j := i) (by omega) hi
        have hLl : (resSpell T p l).length = n := by rw [hRe, sp_len]; exact hn
        rw [← hRe] at gL hcf hap
        have hLr : ∀ j : Nat, ((resSpell T p l).getD j []).length ≤ 6 := fun j => by
          by_cases hj : j < (resSpell T p l).length
          · rw [gL.len j hj]; exact gL.w6
          · have : (resSpell T p l).getD j [] = [] := by simp [List.getD, List.getElem?_eq_none (show (resSpell T p l).length ≤ j by omega)]
            rw [this]; exact Nat.zero_le _
        have hn1 : 1 ≤ n := by have := gT.ge; omega
        have HC1 := hid_ (fun W (hW : ListsAt W a n c T) => by
          have := stConflicts_calls a n c T W hW
          rwa [good_valid gT, show resConfs T = confR T from if_pos (good_valid gT)] at this)
        have HD1 := hid_ (fun W a' c' (hW : ListsAt W a' n c' (resSpell T p l)) => by
          have := stConflicts_calls a' n c' (resSpell T p l) W hW
          rwa [good_valid gL, show resConfs (resSpell T p l) = confR (resSpell T p l) from if_pos (good_valid gL), hcf] at this)
        have HX : Hid (∀ (i : Nat), i < n → ∀ W, ListsAt W a n c T → Calls Try.prog 47 #[.slice a n c, .int .i64 0, .int .i64 (i : Int)] W fun e w' => e = .returned (.tuple #[.int .i64 (resApart T ((0 : Nat) : Int) i), .int .i64 0]) ∧ Below W.heap.size W w') := hid_ (fun i hi W hW => by
          have := stApart_calls a n c T ((0 : Nat) : Int) (i : Nat) W hW
          rwa [copies_ok gT (i := 0) (j := i) (by omega) (by omega)] at this)
        have HY : Hid (∀ (i : Nat), i < n → ∀ W a' c', ListsAt W a' n c' (resSpell T p l) → Calls Try.prog 47 #[.slice a' n c', .int .i64 0, .int .i64 (i : Int)] W fun e w' => e = .returned (.tuple #[.int .i64 (resApart T ((0 : Nat) : Int) i), .int .i64 0]) ∧ Below W.heap.size W w') := hid_ (fun i hi W a' c' hW => by
          have := stApart_calls a' n c' (resSpell T p l) ((0 : Nat) : Int) (i : Nat) W hW
          rwa [copies_ok gL (i := 0) (j := i) (by omega) (by omega), hap i (by omega)] at this)
        have HSp := hid_ (fun W a1 c1 a2 c2 (h1 : PairsAt W a1 (confR T).length c1 (confR T)) (h2 : PairsAt W a2 (confR T).length c2 (confR T)) => sameP7_calls a1 _ c1 (confR T) a2 _ c2 W h1 h2)
        have HLl' := hid_ hLl
        have HLr := hid_ hLr
        rw [he] at HA HB
        clear gT hp0 hp1 hal hRe hpn gL hcf hap hLl hLr he h h' hn hT1 hT2
        generalize resSpell T p l = L at *
        generalize confR T = C at *
        generalize hfr : (fun i : Nat => resApart T ((0 : Nat) : Int) i) = F at *
        have Hf : Hid (∀ i : Nat, resApart T ((0 : Nat) : Int) i = F i) := hid_ (fun k => by rw [← hfr])
        clear hfr
        simp only [Hf.out] at HX HY
        clear Hf
        go_enter Try.func14, Try.ntmps14
        go_wp2_with (first
          | (go_at_call 18; refine (HG.out).mono ?_; rintro e w' ⟨rfl, rfl⟩)
          | (go_at_call 52; (with_reducible refine HC.out.mono ?_); rintro e w2 ⟨v2, us2, rfl, ho2, hb2⟩; obtain ⟨a2, c2, rfl, hl2⟩ := ho2.lists; rw [Hn.out] at hl2 ⊢; have Hl2 := hid_ hl2; have Hb2 := hid_ hb2; clear ho2 hl2)
          | (go_at_call 53; (with_reducible refine (HA.out _ _ _ Hl2.out (HLl.out _ hb2)).mono ?_); rintro e w3 ⟨v3, us3, rfl, ho3, hc3⟩; obtain ⟨g3, cap3, rfl, hd1, hd2, hd3, hd4⟩ := own_form7 ho3.top (by rw [HLl'.out]; omega); rw [HLl'.out] at ho3 ⊢; have HO3 := hid_ ho3; have HB3 := hid_ hc3; clear ho3 hd3 hd4 hc3 hb2)
          | (go_at_call 54; (with_reducible refine (HB.out _ (Hb2.out.trans (HB3.out.mono Hb2.out.size))).mono ?_); rintro e w4 ⟨v4, us4, rfl, ho4, hc4⟩; obtain ⟨a4, c4, rfl, hl4⟩ := ho4.lists; rw [HLl'.out] at hl4 ⊢; have Hl4 := hid_ hl4; have HO4 := hid_ (HO3.out.below hc4 (Nat.le_refl _)); have HB4 := hid_ (HB3.out.trans (hc4.mono HB3.out.size)); clear ho4 hl4 hc4)
          | (go_at_call 51; obtain ⟨a9, c9, e9, hl9⟩ := HO4.out.lists; injection e9 with e91 e92 e93; subst e91; subst e93; rw [HLl'.out] at hl9; (with_reducible refine (HS.out _ _ _ _ _ _ _ hl9 Hl4.out).mono ?_); rintro e w5 ⟨rfl, q5, rfl⟩; have HO5 := hid_ (HO4.out.drewN q5); have HB5 := hid_ (below_drewN HB4.out q5); clear hl9 e92)
          | (go_at_call 29; first | ((with_reducible refine (HC1.out _ (HT.out _ (Hb2.out.trans (HB5.out.mono Hb2.out.size)))).mono ?_); rintro e w6 ⟨v6, rfl, hm6⟩; obtain ⟨a6, c6, rfl, hi6⟩ := hm6.at_; have HO6 := hid_ (HO5.out.below hm6.bel (Nat.le_refl _)); have HB6 := hid_ (HB5.out.trans (hm6.bel.mono HB5.out.size)); have Hi6 := hid_ hi6; clear hm6 hi6) | (obtain ⟨a9, c9, e9, hl9⟩ := HO6.out.lists; injection e9 with e91 e92 e93; subst e91; subst e93; rw [HLl'.out] at hl9; (with_reducible refine (HD1.out _ _ _ hl9).mono ?_); rintro e w7 ⟨v7, rfl, hm7⟩; obtain ⟨a7, c7, rfl, hi7⟩ := hm7.at_; have HO7 := hid_ (HO6.out.below hm7.bel (Nat.le_refl _)); have HB7 := hid_ (HB6.out.trans (hm7.bel.mono HB6.out.size)); have Hj6 := hid_ (Hi6.out.below hm7.bel (Nat.le_refl _)); have Hi7 := hid_ hi7; clear hm7 hi7 hl9 e92))
          | (go_at_call 33; (with_reducible refine (HSp.out _ _ _ _ _ Hj6.out Hi7.out).mono ?_); rintro e w8 ⟨rfl, q8, rfl⟩; have HO8 := hid_ (HO7.out.drewN q8); have HB8 := hid_ (below_drewN HB7.out q8)))
        go_loopw [16] (fun v wr => ∃ k : Nat, k ≤ n ∧ v = .int .i64 k ∧ OwnRw 28 3 wr w2.heap.size (.slice (some ⟨g3, 0, none⟩) n cap3) us3 L ∧ Below w2.heap.size w2 wr) (fun v _ => n - (intOf v).toNat)
        case atStart => exact ⟨0, Nat.zero_le _, rfl, HO8.out, HB8.out⟩
        case round =>
          obtain ⟨k, hk, rfl, hO, hB⟩ := hrel
          have HO := hid_ hO
          have HBr := hid_ hB
          clear hO hB
          by_cases hlt : k < n
          · have HXk := hid_ (HX.out k hlt)
            have HYk := hid_ (HY.out k hlt)
            have hne : (F k != F k) = false := by simp
            go_wp2_with (go_at_call 47; first | ((with_reducible refine (HXk.out _ (HT.out _ (Hb2.out.trans (HBr.out.mono Hb2.out.size)))).mono ?_); rintro e w9 ⟨rfl, hc9⟩; have HO9 := hid_ (HO.out.below hc9 (Nat.le_refl _)); have HB9 := hid_ (HBr.out.trans (hc9.mono HBr.out.size)); clear hc9) | (obtain ⟨a9, c9, e9, hl9⟩ := HO9.out.lists; injection e9 with e91 e92 e93; subst e91; subst e93; rw [HLl'.out] at hl9; (with_reducible refine (HYk.out _ _ _ hl9).mono ?_); rintro e w10 ⟨rfl, hc10⟩; have HO10 := hid_ (HO9.out.below hc10 (Nat.le_refl _)); have HB10 := hid_ (HB9.out.trans (hc10.mono HB9.out.size)); clear hc10 hl9 e92))
            go_roundw
            case rel => exact ⟨k + 1, by omega, by go_num, HO10.out, HB10.out⟩
            case measure => simp [intOf]; omega
          · obtain rfl : k = n := by omega
            go_wp2
            go_loopw [21] (fun v wr => ∃ (i : Nat) (L' : List (List Int)), i ≤ k ∧ v = .int .i64 i ∧ OwnRw 28 3 wr w2.heap.size (.slice (some ⟨g3, 0, none⟩) k cap3) us3 L' ∧ LenL L L' ∧ Below w2.heap.size w2 wr) (fun v _ => k - (intOf v).toNat)
            case atStart => exact ⟨0, L, Nat.zero_le _, rfl, HO.out, ⟨rfl, fun _ => rfl⟩, HBr.out⟩
            case round =>
              obtain ⟨i, L', hi, rfl, hO, hLL, hB⟩ := hrel
              by_cases hlt : i < k
              · obtain ⟨m, hm⟩ : ∃ m, (L'.getD i []).length = m := ⟨_, rfl⟩
                have hm6 : m ≤ 6 := by rw [← hm, hLL.2 i]; exact HLr.out i
                have HO1 := hid_ hO
                have HB1 := hid_ hB
                have HLL := hid_ hLL
                have hmL : (L.getD i []).length = m := by rw [← hLL.2 i]; exact hm
                have HmL := hid_ hmL
                clear hO hB hLL hm hmL
                go_wp2
                go_loopw [22] (fun v wr => ∃ (p : Nat) (L' : List (List Int)), p ≤ m ∧ v = .int .i64 p ∧ OwnRw 28 3 wr w2.heap.size (.slice (some ⟨g3, 0, none⟩) k cap3) us3 L' ∧ LenL L L' ∧ Below w2.heap.size w2 wr) (fun v _ => m - (intOf v).toNat)
                case atStart => exact ⟨0, L', Nat.zero_le _, rfl, HO1.out, HLL.out, HB1.out⟩
                case round =>
                  obtain ⟨p, M, hp, rfl, hO, hLL, hB⟩ := hrel
                  have hMk : M.length = k := hLL.1.trans HLl'.out
                  obtain ⟨u, hu, hro⟩ := hO.row i (by rw [hMk]; exact hlt)
                  rw [(hLL.2 i).trans HmL.out] at hro
                  obtain ⟨au, cu, rfl, -⟩ := IntsAt.own hro
                  have htop := hO.top
                  rw [hMk] at htop
                  have qi : wr.cell? ⟨g3, i, none⟩ = some (.slice au m cu) := by rw [htop.cellAt i (by omega)]; exact hu
                  by_cases hlt2 : p < m
                  · obtain ⟨g4, cap4, e4, hd1, hd2, hd3, hd4⟩ := own_form7 hro (by omega)
                    injection e4 with e41 e42 e43
                    subst e41; subst e43
                    obtain ⟨qp, fp⟩ := own_cell7 hro hlt2
                    obtain ⟨s1, s2⟩ := hro.stored p (.int .i64 (-1))
                    rw [← List.map_set] at s1
                    have hrl : ((M.getD i []).set p (-1)).length = m := by rw [List.length_set]; exact (hLL.2 i).trans HmL.out
                    have HT2 := hid_ (hO.turn (i := i) (r := (M.getD i []).set p (-1)) hu s2 (by rw [hrl]; exact s1))
                    have HLL2 := hid_ (hLL.set i p (-1))
                    have HB2 := hid_ (Below.setCell (p := ⟨g4, p, none⟩) hB hd3 (.int .i64 (-1)))
                    generalize (M.getD i []).getD p 0 = z at *
                    clear hO htop hro s1 s2 hrl hd3 hd4 hu hLL hB e42
                    go_wp2
                    go_roundw
                    case rel => exact ⟨p + 1, _, by omega, by go_num, HT2.out, HLL2.out, HB2.out⟩
                    case measure => simp [intOf]; omega
                  · obtain rfl : p = m := by omega
                    have HO2 := hid_ hO
                    have HB2 := hid_ hB
                    have HLL2 := hid_ hLL
                    clear hO hB hLL hro htop hu
                    go_wp2
                    go_roundw
                    case rel => exact ⟨i + 1, M, by omega, by go_num, HO2.out, HLL2.out, HB2.out⟩
                    case measure => simp [intOf]; omega
              · obtain rfl : i = k := by omega
                have HB1 := hid_ hB
                have HLr2 := hid_ (Hl2.out.below hB (Nat.le_refl _))
                have HTr := hid_ (HT.out wr (Hb2.out.trans (hB.mono Hb2.out.size)))
                clear hO hB hLL
                go_wp2_with (first
                  | (go_at_call 51; (with_reducible refine (HST.out _ _ _ _ _ _ _ HLr2.out HTr.out).mono ?_); rintro e w6 ⟨rfl, q6, rfl⟩)
                  | (go_at_call 19; (with_reducible refine (HK.out _).mono ?_); rintro e w9 ⟨rfl, hb9⟩))
                go_ret
                have hbr := Hb2.out.trans (HB1.out.mono Hb2.out.size)
                exact ⟨rfl, (below_drewN hbr q6).trans (hb9.mono (below_drewN hbr q6).size)⟩
      · have hqe : (spellE T p l == 0) = false := by simpa using he
        have hRe : resSpell T p l = [] := by rw [resSpell, if_neg he]
        have HLn : Hid ((resSpell T p l).length = 0) := hid_ (by rw [hRe]; rfl)
        clear he hRe h h' hn hT1 hT2
        generalize resSpell T p l = L at *
        generalize spellE T p l = x at *
        go_enter Try.func14, Try.ntmps14
        go_wp2_with (first
          | (go_at_call 18; refine (HG.out).mono ?_; rintro e w' ⟨rfl, rfl⟩)
          | (go_at_call 52; (with_reducible refine HC.out.mono ?_); rintro e w2 ⟨v2, us2, rfl, ho2, hb2⟩; obtain ⟨a2, c2, rfl, hl2⟩ := ho2.lists; rw [Hn.out] at hl2 ⊢; have Hl2 := hid_ hl2; clear ho2 hl2)
          | (go_at_call 53; (with_reducible refine (HA.out _ _ _ Hl2.out (HLl.out _ hb2)).mono ?_); rintro e w3 ⟨v3, us3, rfl, ho3, hc3⟩; obtain ⟨a3, c3, rfl, hl3⟩ := ho3.lists; rw [HLn.out] at hl3 ⊢; have hb3 := hb2.trans (hc3.mono hb2.size); have Hl3 := hid_ hl3; have Hm2 := hid_ (Hl2.out.below hc3 (Nat.le_refl _)); clear ho3 hl3 hc3)
          | (go_at_call 54; (with_reducible refine (HB.out _ hb3).mono ?_); rintro e w4 ⟨v4, us4, rfl, ho4, hc4⟩; obtain ⟨a4, c4, rfl, hl4⟩ := ho4.lists; rw [HLn.out] at hl4 ⊢; have hb4 := hb3.trans (hc4.mono hb3.size); have Hl4 := hid_ hl4; have Hm3 := hid_ (Hm2.out.below hc4 (Nat.le_refl _)); have Hn3 := hid_ (Hl3.out.below hc4 (Nat.le_refl _)); clear ho4 hl4 hc4)
          | (go_at_call 51; (with_reducible refine (HS.out _ _ _ _ _ _ _ Hn3.out Hl4.out).mono ?_); rintro e w5 ⟨rfl, q5, rfl⟩; have hb5 := below_drewN hb4 q5; have Hm5 := hid_ (Hm3.out.drewN q5)))
        go_loopw [21] (fun v wr => v = .int .i64 (0 : Nat) ∧ ListsAt wr a2 n c2 T ∧ Below w.heap.size w wr) (fun v _ => 0)
        case atStart => exact ⟨rfl, Hm5.out, hb5⟩
        case round =>
          obtain ⟨rfl, hLr, hbr⟩ := hrel
          have HTr := hid_ (HT.out wr hbr)
          have HLr := hid_ hLr
          clear hLr
          go_wp2_with (first
            | (go_at_call 51; (with_reducible refine (HST.out _ _ _ _ _ _ _ HLr.out HTr.out).mono ?_); rintro e w6 ⟨rfl, q6, rfl⟩)
            | (go_at_call 19; (with_reducible refine (HK.out _).mono ?_); rintro e w9 ⟨rfl, hb9⟩))
          go_ret
          exact ⟨rfl, (below_drewN hbr q6).trans (hb9.mono (below_drewN hbr q6).size)⟩
end Go.Proofs.Ytdhmcmkpeaoigaa
