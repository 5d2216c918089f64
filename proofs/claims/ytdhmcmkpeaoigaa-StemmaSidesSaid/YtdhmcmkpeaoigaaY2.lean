import Derived.Test.YtdhmcmkpeaoigaaY1
namespace Go.Proofs.Ytdhmcmkpeaoigaa
open Go.RowKit Go.Proofs.Kv

/-! ### the law StemmaSides -/
theorem bothL_le (A B : List Int) (i : Nat) : bothL A B i ≤ i * B.length := by
  rw [bothL]
  have : ∀ l : List Int, (l.map fun x => B.count x).sum ≤ l.length * B.length := fun l => by
    induction l with
    | nil => simp
    | cons x l ih =>
      rw [List.map_cons, List.sum_cons, List.length_cons, Nat.succ_mul]
      have := List.count_le_length (a := x) (l := B)
      omega
  refine Nat.le_trans (this _) (Nat.mul_le_mul_right _ ?_)
  rw [List.length_take]; omega
set_option maxRecDepth 100000 in
set_option maxHeartbeats 8000000 in
theorem stemmaSides_calls (a : Option Addr) (n c : Nat) (T : List (List Int)) (p q : Int) (w : World) (h : ListsAt w a n c T) :
    Calls Try.prog 5 #[.slice a n c, .int .i64 p, .int .i64 q] w fun e w' => e = .returned (.bool true) ∧ Below w.heap.size w w' := by
  have HG := hid_ (long_calls a n c T w h)
  have HK := hid_ sane_calls
  have HA := hid_ (fun W (hW : Below w.heap.size w W) => stSide_calls a n c T p W (h.below hW (Nat.le_refl _)))
  have HB := hid_ (fun W (hW : Below w.heap.size w W) => stSide_calls a n c T q W (h.below hW (Nat.le_refl _)))
  have HC := hid_ (fun W (hW : Below w.heap.size w W) => stConflict_calls a n c T p q W (h.below hW (Nat.le_refl _)))
  have hP2 := placesE_pair T p q
  cases hg : longT T with
  | true =>
    rw [hg] at HG
    go_enter Try.func5, Try.ntmps5
    go_wp2_with (first
      | (go_at_call 18; refine (HG.out).mono ?_; rintro e w' ⟨rfl, rfl⟩)
      | (go_at_call 19; (with_reducible refine (HK.out _).mono ?_); rintro e w3 ⟨rfl, hb3⟩))
    go_ret
    exact ⟨rfl, hb3⟩
  | false =>
    rw [hg] at HG
    have hb : Below w.heap.size w w := Below.refl _ _
    have hC0 : resConf T p q = (decide (placesE T [p, q] = 0) && cfR T p.toNat q.toNat) := rfl
    have hA0 : okSide T p = (decide (placesE T [p] = 0) && splR T p.toNat) := rfl
    have hB0 : okSide T q = (decide (placesE T [q] = 0) && splR T q.toNat) := rfl
    have hA1 : resSide T p = if okSide T p = true then sideR T p.toNat else [] := rfl
    have hB1 : resSide T q = if okSide T q = true then sideR T q.toNat else [] := rfl
    have hgood : placesE T [p] = 0 → GoodT T := fun he => (placesE_one he).1
    have hsc := fun g => @sides_conflict T g p.toNat q.toNat
    have hcf : cfR T p.toNat q.toNat = (splR T p.toNat && (splR T q.toNat && decide ((uq (colP T p.toNat q.toNat)).length = 4))) := rfl
    have hl1 := pl_le (sidB T p.toNat) T.length
    have hl2 := pl_le (sidB T q.toNat) T.length
    have hl1 : (sideR T p.toNat).length ≤ T.length := hl1
    have hl2 : (sideR T q.toNat).length ≤ T.length := hl2
    clear hg h
    by_cases he : placesE T [p] = 0
    · by_cases hf : placesE T [q] = 0
      · have g := hgood he
        have hT6 := g.le
        rw [if_pos he, hf] at hP2
        rw [hP2] at HC hC0
        rw [he] at HA hA0
        rw [hf] at HB hB0
        rw [decide_eq_true rfl, Bool.true_and] at hC0 hA0 hB0
        rw [hC0] at HC
        rw [hA0] at HA hA1
        rw [hB0] at HB hB1
        have hsc2 := hsc g
        clear hsc hgood g he hf hP2 hC0 hA0 hB0
        generalize sideR T p.toNat = A at *
        generalize sideR T q.toNat = B at *
        generalize resSide T p = A' at *
        generalize resSide T q = B' at *
        generalize decide ((uq (colP T p.toNat q.toNat)).length = 4) = z4 at *
        generalize cfR T p.toNat q.toNat = cf at *
        cases h1 : splR T p.toNat with
        | false =>
          rw [h1] at HA hcf
          rw [h1, if_neg (by decide)] at hA1
          have Hcf := hid_ (hcf.trans (Bool.false_and _))
          rw [Hcf.out] at HC
          generalize splR T q.toNat = s2 at *
          clear h1 hcf hA1 hB1 hsc2 Hcf
          go_enter Try.func5, Try.ntmps5
          go_wp2_with (first
            | (go_at_call 18; refine (HG.out).mono ?_; rintro e w' ⟨rfl, rfl⟩)
            | (go_at_call 22; (with_reducible refine (HA.out _ hb).mono ?_); rintro e w2 ⟨v2, rfl, hm2⟩; have hb2 := hm2.bel; obtain ⟨a2, c2, rfl, -⟩ := hm2.at_)
            | (go_at_call 22; (with_reducible refine (HB.out _ hb2).mono ?_); rintro e w3 ⟨v3, rfl, hm3⟩; have hb3 := hb2.trans (hm3.bel.mono hb2.size); obtain ⟨a3, c3, rfl, -⟩ := hm3.at_)
            | (go_at_call 27; (with_reducible refine (HC.out _ hb3).mono ?_); rintro e w4 ⟨rfl, hc4⟩; have hb4 := hb3.trans (hc4.mono hb3.size))
            | (go_at_call 19; (with_reducible refine (HK.out _).mono ?_); rintro e w9 ⟨rfl, hb9⟩))
          go_ret
          exact ⟨rfl, hb4.trans (hb9.mono hb4.size)⟩
        | true =>
          cases h2 : splR T q.toNat with
          | false =>
            rw [h1] at HA
            rw [h2] at HB hcf
            have Hcf := hid_ (hcf.trans (by rw [Bool.false_and, Bool.and_false]))
            rw [Hcf.out] at HC
            clear h1 h2 hcf hA1 hB1 hsc2 Hcf
            go_enter Try.func5, Try.ntmps5
            go_wp2_with (first
              | (go_at_call 18; refine (HG.out).mono ?_; rintro e w' ⟨rfl, rfl⟩)
              | (go_at_call 22; (with_reducible refine (HA.out _ hb).mono ?_); rintro e w2 ⟨v2, rfl, hm2⟩; have hb2 := hm2.bel; obtain ⟨a2, c2, rfl, -⟩ := hm2.at_)
              | (go_at_call 22; (with_reducible refine (HB.out _ hb2).mono ?_); rintro e w3 ⟨v3, rfl, hm3⟩; have hb3 := hb2.trans (hm3.bel.mono hb2.size); obtain ⟨a3, c3, rfl, -⟩ := hm3.at_)
              | (go_at_call 27; (with_reducible refine (HC.out _ hb3).mono ?_); rintro e w4 ⟨rfl, hc4⟩; have hb4 := hb3.trans (hc4.mono hb3.size))
              | (go_at_call 19; (with_reducible refine (HK.out _).mono ?_); rintro e w9 ⟨rfl, hb9⟩))
            go_ret
            exact ⟨rfl, hb4.trans (hb9.mono hb4.size)⟩
          | true =>
            have hsc3 := hsc2 h1 h2
            rw [h1] at HA
            rw [h2] at HB
            rw [h1, if_pos rfl] at hA1
            rw [h2, if_pos rfl] at hB1
            subst hA1 hB1
            have HS1 := hid_ (fun i hi => @bothL_succ A' B' i hi)
            have HS2 := hid_ (fun x k hk => @count_succ B' x k hk)
            have HLe := hid_ (bothL_le A' B')
            have H0 : Hid (bothL A' B' 0 = 0) := hid_ (by simp [bothL])
            obtain ⟨mA, hmA⟩ : ∃ m, A'.length = m := ⟨_, rfl⟩
            obtain ⟨mB, hmB⟩ : ∃ m, B'.length = m := ⟨_, rfl⟩
            rw [hmA, hmB] at hsc3
            rw [hmA] at hl1 HS1
            rw [hmB] at hl2 HS2 HLe
            have HmA := hid_ hmA; have HmB := hid_ hmB
            have Hsc := hid_ hsc3
            have HTk : Hid (∀ x, (B'.take mB).count x = B'.count x) := hid_ (fun x => by rw [List.take_of_length_le (by omega)])
            have hA6 : mA ≤ 6 := by omega
            have hB6 : mB ≤ 6 := by omega
            clear h1 h2 hcf hsc2 hsc3 hmA hmB hl1 hl2 hT6
            go_enter Try.func5, Try.ntmps5
            go_wp2_with (first
              | (go_at_call 18; refine (HG.out).mono ?_; rintro e w' ⟨rfl, rfl⟩)
              | (go_at_call 22; (with_reducible refine (HA.out _ hb).mono ?_); rintro e w2 ⟨v2, rfl, hm2⟩; have hb2 := hm2.bel; obtain ⟨a2, c2, rfl, hi2⟩ := hm2.at_; have Hi2 := hid_ hi2; rw [HmA.out] at Hi2 ⊢; clear hi2 hm2)
              | (go_at_call 22; (with_reducible refine (HB.out _ hb2).mono ?_); rintro e w3 ⟨v3, rfl, hm3⟩; have hb3 := hb2.trans (hm3.bel.mono hb2.size); obtain ⟨a3, c3, rfl, hi3⟩ := hm3.at_; have Hj3 := hid_ hi3; rw [HmB.out] at Hj3 ⊢; have Hi3 := hid_ (Hi2.out.below hm3.bel (Nat.le_refl _)); clear hi3 hm3)
              | (go_at_call 27; (with_reducible refine (HC.out _ hb3).mono ?_); rintro e w4 ⟨rfl, hc4⟩; have hb4 := hb3.trans (hc4.mono hb3.size); have Hi4 := hid_ (Hi3.out.below hc4 (Nat.le_refl _)); have Hj4 := hid_ (Hj3.out.below hc4 (Nat.le_refl _)))
              | (go_at_call 19; (with_reducible refine (HK.out _).mono ?_); rintro e w9 ⟨rfl, hb9⟩))
            have Hb4 := hid_ hb4
            clear hb2 hb3 hb4 hc4
            go_loopw [15, 16] (fun v i wr => ∃ (k x : Nat), k ≤ mA ∧ i = .int .i64 k ∧ v = .int .i64 (bothL A' B' k : Nat) ∧ wr = w4.drewN x) (fun _ i _ => mA - (intOf i).toNat)
            case atStart => exact ⟨0, 0, Nat.zero_le _, rfl, by rw [H0.out]; rfl, rfl⟩
            case round =>
              obtain ⟨k, x, hk, rfl, rfl, hx⟩ := hrel
              have Hx := hid_ hx; clear hx
              have hle := HLe.out k
              have hle36 : bothL A' B' k ≤ 36 := Nat.le_trans hle (Nat.le_trans (Nat.mul_le_mul hk (Nat.le_refl mB)) (Nat.le_trans (Nat.mul_le_mul hA6 hB6) (by decide)))
              clear hle
              by_cases hlt : k < mA
              · have hs1 := hid_ (HS1.out k hlt)
                go_wp2_with fail
                obtain ⟨wo, hwo⟩ : ∃ wo, wo = wr := ⟨_, rfl⟩
                rw [← hwo] at Hx ⊢
                clear hwo
                go_loopw [15, 17] (fun v j wr => ∃ (l x : Nat), l ≤ mB ∧ j = .int .i64 l ∧ v = .int .i64 (bothL A' B' k + (B'.take l).count (A'.getD k 0) : Nat) ∧ wr = w4.drewN x) (fun _ j _ => mB - (intOf j).toNat)
                case atStart => exact ⟨0, x, Nat.zero_le _, rfl, by simp, Hx.out⟩
                case round =>
                  obtain ⟨l, y, hl, rfl, rfl, hy⟩ := hrel
                  have Hy := hid_ hy
                  have hcl : (B'.take l).count (A'.getD k 0) ≤ 6 := Nat.le_trans List.count_le_length (by rw [List.length_take]; omega)
                  by_cases hlt2 : l < mB
                  · have hI : IntsAt wr a2 mA c2 A' := by rw [hy]; exact Hi4.out.drewN y
                    have hJ : IntsAt wr a3 mB c3 B' := by rw [hy]; exact Hj4.out.drewN y
                    obtain ⟨b, off, rfl, hb0, hcell⟩ := hI.cells k hlt
                    obtain ⟨b1, off1, rfl, hb1, hcell1⟩ := hJ.cells l hlt2
                    have hs2 := HS2.out (A'.getD k 0) l hlt2
                    clear hI hJ hy
                    generalize A'.getD k 0 = s at *
                    generalize B'.getD l 0 = r at *
                    generalize (B'.take l).count s = ct at *
                    by_cases hrs : s = r
                    · have hqq : (s == r) = true := by simpa using hrs
                      have Hs := hid_ (hs2.trans (if_pos (c := r = s) hrs.symm ▸ rfl : _ = ct + 1))
                      clear hs2 hrs
                      go_wp2_with fail
                      go_quiet (fail)
                      go_wp2
                      go_roundw
                      case rel => exact ⟨l + 1, _, by omega, by go_num, by rw [Hs.out]; go_num, by rw [Hy.out, drewN2]⟩
                      case measure => simp [intOf]; omega
                    · have hqq : (s == r) = false := by simpa using hrs
                      have Hs := hid_ (hs2.trans (by rw [if_neg (fun e => hrs e.symm)] : _ = ct + 0))
                      clear hs2 hrs
                      go_wp2_with fail
                      go_quiet (fail)
                      go_wp2
                      go_roundw
                      case rel => exact ⟨l + 1, _, by omega, by go_num, by rw [Hs.out]; rfl, by rw [Hy.out, drewN2]⟩
                      case measure => simp [intOf]; omega
                  · have hl2 : l = mB := by omega
                    have Hv : Hid (bothL A' B' (k + 1) = bothL A' B' k + (B'.take l).count (A'.getD k 0)) := hid_ (by rw [hs1.out, hl2, HTk.out])
                    clear hl2 hy
                    generalize (B'.take l).count (A'.getD k 0) = ct at *
                    go_wp2
                    go_roundw
                    case rel => exact ⟨k + 1, y, by omega, by go_num, by rw [Hv.out], Hy.out⟩
                    case measure => simp [intOf]; omega
              · obtain rfl : k = mA := by omega
                have hsc := Hsc.out
                generalize bothL A' B' k = N at *
                by_cases c1 : 0 < N
                · by_cases c2 : N < k
                  · by_cases c3 : N < mB
                    · have c1' : (0 : Int) < (N : Int) := by omega
                      have hcf2 : cf = true := hsc.trans (show (decide (0 < N) && (decide (N < k) && decide (N < mB))) = true by simp [c1, c2, c3])
                      clear hsc
                      go_wp2_with (go_at_call 19; (with_reducible refine (HK.out _).mono ?_); rintro e w9 ⟨rfl, hb9⟩)
                      go_ret
                      exact ⟨rfl, Hb4.out.trans ((show Below w4.heap.size w4 w9 from by rw [Hx.out] at hb9; exact (below_drewN (Below.refl _ _) _).trans hb9).mono Hb4.out.size)⟩
                    · have c1' : (0 : Int) < (N : Int) := by omega
                      have hcf2 : cf = false := hsc.trans (show (decide (0 < N) && (decide (N < k) && decide (N < mB))) = false by simp [c3])
                      clear hsc
                      go_wp2_with (go_at_call 19; (with_reducible refine (HK.out _).mono ?_); rintro e w9 ⟨rfl, hb9⟩)
                      go_ret
                      exact ⟨rfl, Hb4.out.trans ((show Below w4.heap.size w4 w9 from by rw [Hx.out] at hb9; exact (below_drewN (Below.refl _ _) _).trans hb9).mono Hb4.out.size)⟩
                  · have c1' : (0 : Int) < (N : Int) := by omega
                    have hcf2 : cf = false := hsc.trans (show (decide (0 < N) && (decide (N < k) && decide (N < mB))) = false by simp [c2])
                    clear hsc
                    go_wp2_with (go_at_call 19; (with_reducible refine (HK.out _).mono ?_); rintro e w9 ⟨rfl, hb9⟩)
                    go_ret
                    exact ⟨rfl, Hb4.out.trans ((show Below w4.heap.size w4 w9 from by rw [Hx.out] at hb9; exact (below_drewN (Below.refl _ _) _).trans hb9).mono Hb4.out.size)⟩
                · have c1' : ¬ (0 : Int) < (N : Int) := by omega
                  have hcf2 : cf = false := hsc.trans (show (decide (0 < N) && (decide (N < k) && decide (N < mB))) = false by simp [c1])
                  clear hsc
                  go_wp2_with (go_at_call 19; (with_reducible refine (HK.out _).mono ?_); rintro e w9 ⟨rfl, hb9⟩)
                  go_ret
                  exact ⟨rfl, Hb4.out.trans ((show Below w4.heap.size w4 w9 from by rw [Hx.out] at hb9; exact (below_drewN (Below.refl _ _) _).trans hb9).mono Hb4.out.size)⟩
      · rw [if_pos he] at hP2
        have hq : (placesE T [q] != 0) = true := by simpa using hf
        rw [he] at HA
        clear hP2 hC0 hA0 hB0 hA1 hB1 hgood hsc hcf hl1 hl2 he hf
        generalize placesE T [q] = y at *
        go_enter Try.func5, Try.ntmps5
        go_wp2_with (first
          | (go_at_call 18; refine (HG.out).mono ?_; rintro e w' ⟨rfl, rfl⟩)
          | (go_at_call 22; (with_reducible refine (HA.out _ hb).mono ?_); rintro e w2 ⟨v2, rfl, hm2⟩; have hb2 := hm2.bel; obtain ⟨a2, c2, rfl, -⟩ := hm2.at_)
          | (go_at_call 22; (with_reducible refine (HB.out _ hb2).mono ?_); rintro e w3 ⟨v3, rfl, hm3⟩; have hb3 := hb2.trans (hm3.bel.mono hb2.size); obtain ⟨a3, c3, rfl, -⟩ := hm3.at_)
          | (go_at_call 27; (with_reducible refine (HC.out _ hb3).mono ?_); rintro e w4 ⟨rfl, hc4⟩; have hb4 := hb3.trans (hc4.mono hb3.size))
          | (go_at_call 19; (with_reducible refine (HK.out _).mono ?_); rintro e w9 ⟨rfl, hb9⟩))
        go_ret
        exact ⟨rfl, hb4.trans (hb9.mono hb4.size)⟩
    · have hq : (placesE T [p] != 0) = true := by simpa using he
      clear hP2 hC0 hA0 hB0 hA1 hB1 hgood hsc hcf hl1 hl2 he
      generalize placesE T [p] = y at *
      go_enter Try.func5, Try.ntmps5
      go_wp2_with (first
        | (go_at_call 18; refine (HG.out).mono ?_; rintro e w' ⟨rfl, rfl⟩)
        | (go_at_call 22; (with_reducible refine (HA.out _ hb).mono ?_); rintro e w2 ⟨v2, rfl, hm2⟩; have hb2 := hm2.bel; obtain ⟨a2, c2, rfl, -⟩ := hm2.at_)
        | (go_at_call 22; (with_reducible refine (HB.out _ hb2).mono ?_); rintro e w3 ⟨v3, rfl, hm3⟩; have hb3 := hb2.trans (hm3.bel.mono hb2.size); obtain ⟨a3, c3, rfl, -⟩ := hm3.at_)
        | (go_at_call 27; (with_reducible refine (HC.out _ hb3).mono ?_); rintro e w4 ⟨rfl, hc4⟩; have hb4 := hb3.trans (hc4.mono hb3.size))
        | (go_at_call 19; (with_reducible refine (HK.out _).mono ?_); rintro e w9 ⟨rfl, hb9⟩))
      go_ret
      exact ⟨rfl, hb4.trans (hb9.mono hb4.size)⟩
end Go.Proofs.Ytdhmcmkpeaoigaa
