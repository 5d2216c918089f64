import Derived.Test.YtdhmcmkpeaoigaaYL
namespace Go.Proofs.Ytdhmcmkpeaoigaa
open Go.RowKit Go.Proofs.Kv Go

/-! ### the law StemmaLoses -/
theorem place_ok {T : List (List Int)} (g : GoodT T) {p : Nat} (hp : p < n0 T) : placesE T [(p : Int)] = 0 := by
  rw [placesE, if_pos (good_valid g), numE_one, if_pos (isNum_iff.2 ⟨by omega, by omega⟩)]
set_option maxRecDepth 100000 in
set_option maxHeartbeats 4000000 in
theorem stemmaLoses_calls (a : Option Addr) (n c : Nat) (T : List (List Int)) (i : Int) (w : World) (h : ListsAt w a n c T) :
    Calls Try.prog 16 #[.slice a n c, .int .i64 i] w fun e w' => e = .returned (.bool true) ∧ Below w.heap.size w w' := by
  have HG := hid_ (long_calls a n c T w h)
  have HK := hid_ sane_calls
  have HA := hid_ (fun W (hW : Below w.heap.size w W) => stLose_calls a n c T i W (h.below hW (Nat.le_refl _)))
  have HB := hid_ (fun W (hW : Below w.heap.size w W) => r7Lose_calls a n c T i W (h.below hW (Nat.le_refl _)))
  have hb : Below w.heap.size w w := Below.refl _ _
  cases hg : longT T with
  | true =>
    rw [hg] at HG
    go_enter Try.func16, Try.ntmps16
    go_wp2_with (first
      | (go_at_call 18; refine (HG.out).mono ?_; rintro e w' ⟨rfl, rfl⟩)
      | (go_at_call 19; (with_reducible refine (HK.out _).mono ?_); rintro e w3 ⟨rfl, hb3⟩))
    go_ret
    exact ⟨rfl, hb3⟩
  | false =>
    rw [hg] at HG
    clear hg
    by_cases he : loseE T i = 0
    · obtain ⟨gT, hi0, hi1, h2⟩ := loseE_ok he
      have hRe : resLose T i = T.eraseIdx i.toNat := by rw [resLose, if_pos he]
      have hgood := lose_good gT (i := i.toNat) (by omega) h2
      have hdw := fun (hd : ∀ p, p < n0 T → diffR T p ≤ 2) => lose_conf gT (i := i.toNat) (by omega) h2 hd
      have hv1 := good_valid gT
      have hv2 := good_valid hgood.1
      rw [← hRe] at hgood hdw hv2
      have HC := hid_ (fun W (hW : Below w.heap.size w W) => stConflicts_calls a n c T W (h.below hW (Nat.le_refl _)))
      have HD := hid_ (fun W a' c' (hL : ListsAt W a' (resLose T i).length c' (resLose T i)) => stConflicts_calls a' _ c' (resLose T i) W hL)
      have e1 : resConfs T = confR T := if_pos hv1
      have e2 : resConfs (resLose T i) = confR (resLose T i) := if_pos hv2
      rw [hv1, e1] at HC
      rw [hv2, e2] at HD
      have HS := hid_ (fun W a1 n1 c1 a2 n2 c2 (h1 : ListsAt W a1 n1 c1 (resLose T i)) (h2 : ListsAt W a2 n2 c2 (resLose T i)) => sameL7_calls a1 n1 c1 _ a2 n2 c2 W h1 h2)
      have HF : Hid (∀ p : Nat, p < n0 T → ∀ W, Below w.heap.size w W → Calls Try.prog 20 #[.slice a n c, .int .i64 (p : Int)] W fun e w' => e = .returned (.tuple #[.int .i64 (diffR T p : Nat), .int .i64 0]) ∧ Below W.heap.size W w') := hid_ (fun p hp W hW => by
        have := stDifferent_calls a n c T p W (h.below hW (Nat.le_refl _))
        rw [place_ok gT hp] at this
        have e : resDiff T p = (diffR T p : Nat) := by rw [resDiff, if_pos (place_ok gT hp), Int.toNat_natCast]
        rwa [e] at this)
      have hDl : ∀ p, diffR T p ≤ 6 := fun p => Nat.le_trans (diffR_le T p) gT.le
      have hn : 0 < n := by rw [← h.len]; omega
      have hm6 : n0 T ≤ 6 := gT.w6
      obtain ⟨b, off, a1, m1, c1, rfl, hb', hcell, hrow⟩ := h.cells 0 hn
      rw [Nat.add_zero] at hcell
      have hm : m1 = n0 T := by rw [← hrow.len]; rfl
      subst hm
      have Hdl := hid_ hDl
      rw [he] at HA HB
      clear gT hi0 hi1 h2 hRe hgood hv1 hv2 e1 e2 he hrow hDl h
      generalize n0 T = m at *
      generalize resLose T i = L at *
      generalize diffR T = D at *
      have Hdw := hid_ hdw
      clear hdw
      obtain ⟨x, hx⟩ : ∃ x, (confR T).length = x := ⟨_, rfl⟩
      obtain ⟨y, hy⟩ : ∃ y, (confR L).length = y := ⟨_, rfl⟩
      rw [hx, hy] at Hdw
      have Hx := hid_ hx
      have Hy := hid_ hy
      clear hx hy
      generalize confR T = C1 at *
      generalize confR L = C2 at *
      go_enter Try.func16, Try.ntmps16
      go_wp2_with (first
        | (go_at_call 18; refine (HG.out).mono ?_; rintro e w' ⟨rfl, rfl⟩)
        | (go_at_call 57; (with_reducible refine (HA.out _ hb).mono ?_); rintro e w2 ⟨v2, us2, rfl, ho2, hc2⟩; obtain ⟨a2, c2, rfl, hl2⟩ := ho2.lists; have hb2 := hb.trans (hc2.mono hb.size); have Hl2 := hid_ hl2; clear ho2 hl2 hc2)
        | (go_at_call 58; (with_reducible refine (HB.out _ hb2).mono ?_); rintro e w3 ⟨v3, us3, rfl, ho3, hc3⟩; obtain ⟨a3, c3, rfl, hl3⟩ := ho3.lists; have hb3 := hb2.trans (hc3.mono hb2.size); have Hl3 := hid_ hl3; have Hm2 := hid_ (Hl2.out.below hc3 (Nat.le_refl _)); clear ho3 hl3 hc3)
        | (go_at_call 51; (with_reducible refine (HS.out _ _ _ _ _ _ _ Hm2.out Hl3.out).mono ?_); rintro e w4 ⟨rfl, q4, rfl⟩; have hb4 := below_drewN hb3 q4; have Hm3 := hid_ (Hm2.out.drewN q4)))
      go_loopw [9] (fun v wr => ∃ p : Nat, p ≤ m ∧ v = .int .i64 p ∧ (∀ q, q < p → D q ≤ 2) ∧ ListsAt wr a2 L.length c2 L ∧ Below w.heap.size w wr) (fun v _ => m - (intOf v).toNat)
      case atStart => exact ⟨0, Nat.zero_le _, rfl, fun q hq => absurd hq (by omega), Hm3.out, hb4⟩
      case round =>
        obtain ⟨p, hp, rfl, hall, hLr, hbr⟩ := hrel
        have q0r := cell_below hcell hbr
        have Hall := hid_ hall
        have HLr := hid_ hLr
        clear hall hLr
        by_cases hlt : p < m
        · have HFp := hid_ (HF.out p hlt)
          have hdp := Hdl.out p
          by_cases h3 : D p ≤ 2
          · have hq2 : ¬ (2 < (D p : Int)) := by omega
            have Hnx : Hid (∀ q, q < p + 1 → D q ≤ 2) := hid_ (fun q hq => by by_cases e : q = p; subst e; exact h3; exact Hall.out q (by omega))
            generalize D p = d at *
            go_wp2_with (go_at_call 20; (with_reducible refine (HFp.out _ hbr).mono ?_); rintro e w5 ⟨rfl, hc5⟩; have hb5 := hbr.trans (hc5.mono hbr.size); have Hn5 := hid_ (HLr.out.below hc5 (Nat.le_refl _)))
            go_roundw
            case rel => exact ⟨p + 1, by omega, by go_num, Hnx.out, Hn5.out, hb5⟩
            case measure => simp [intOf]; omega
          · have hq2 : 2 < (D p : Int) := by omega
            generalize D p = d at *
            go_wp2_with (first
              | (go_at_call 20; (with_reducible refine (HFp.out _ hbr).mono ?_); rintro e w5 ⟨rfl, hc5⟩; have hb5 := hbr.trans (hc5.mono hbr.size))
              | (go_at_call 19; (with_reducible refine (HK.out _).mono ?_); rintro e w9 ⟨rfl, hb9⟩))
            go_ret
            exact ⟨rfl, hb5.trans (hb9.mono hb5.size)⟩
        · obtain rfl : p = m := by omega
          have hyx := Hdw.out Hall.out
          go_wp2_with (first
            | (go_at_call 29; first | ((with_reducible refine (HC.out _ hbr).mono ?_); rintro e w5 ⟨v5, rfl, hm5⟩; obtain ⟨a5, c5, rfl, -⟩ := hm5.at_; rw [Hx.out]; have hb5 := hbr.trans (hm5.bel.mono hbr.size); have Hn5 := hid_ (HLr.out.below hm5.bel (Nat.le_refl _)); clear hm5) | ((with_reducible refine (HD.out _ _ _ Hn5.out).mono ?_); rintro e w6 ⟨v6, rfl, hm6⟩; obtain ⟨a6, c6, rfl, -⟩ := hm6.at_; rw [Hy.out]; have hb6 := hb5.trans (hm6.bel.mono hb5.size); clear hm6))
            | (go_at_call 19; (with_reducible refine (HK.out _).mono ?_); rintro e w9 ⟨rfl, hb9⟩))
          go_ret
          exact ⟨rfl, hb6.trans (hb9.mono hb6.size)⟩
    · have hq : (loseE T i != 0) = true := by simpa using he
      have hRe : resLose T i = [] := by rw [resLose, if_neg he]
      have HS := hid_ (fun W a1 n1 c1 a2 n2 c2 (h1 : ListsAt W a1 n1 c1 (resLose T i)) (h2 : ListsAt W a2 n2 c2 (resLose T i)) => sameL7_calls a1 n1 c1 _ a2 n2 c2 W h1 h2)
      clear he hRe h
      generalize resLose T i = L at *
      generalize loseE T i = x at *
      go_enter Try.func16, Try.ntmps16
      go_wp2_with (first
        | (go_at_call 18; refine (HG.out).mono ?_; rintro e w' ⟨rfl, rfl⟩)
        | (go_at_call 57; (with_reducible refine (HA.out _ hb).mono ?_); rintro e w2 ⟨v2, us2, rfl, ho2, hc2⟩; obtain ⟨a2, c2, rfl, hl2⟩ := ho2.lists; have hb2 := hb.trans (hc2.mono hb.size); have Hl2 := hid_ hl2; clear ho2 hl2 hc2)
        | (go_at_call 58; (with_reducible refine (HB.out _ hb2).mono ?_); rintro e w3 ⟨v3, us3, rfl, ho3, hc3⟩; obtain ⟨a3, c3, rfl, hl3⟩ := ho3.lists; have hb3 := hb2.trans (hc3.mono hb2.size); have Hl3 := hid_ hl3; have Hm2 := hid_ (Hl2.out.below hc3 (Nat.le_refl _)); clear ho3 hl3 hc3)
        | (go_at_call 51; (with_reducible refine (HS.out _ _ _ _ _ _ _ Hm2.out Hl3.out).mono ?_); rintro e w4 ⟨rfl, q4, rfl⟩; have hb4 := below_drewN hb3 q4)
        | (go_at_call 19; (with_reducible refine (HK.out _).mono ?_); rintro e w9 ⟨rfl, hb9⟩))
      go_ret
      exact ⟨rfl, hb4.trans (hb9.mono hb4.size)⟩
end Go.Proofs.Ytdhmcmkpeaoigaa
