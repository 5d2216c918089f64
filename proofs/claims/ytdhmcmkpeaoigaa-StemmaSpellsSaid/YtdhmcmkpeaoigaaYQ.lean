import Derived.Test.YtdhmcmkpeaoigaaYO
namespace Go.Proofs.Ytdhmcmkpeaoigaa
open Go.RowKit Go.Proofs.Kv Go

/-! ### the law StemmaWithout -/
set_option maxRecDepth 100000 in
set_option maxHeartbeats 4000000 in
theorem stemmaWithout_calls (a : Option Addr) (n c : Nat) (T : List (List Int)) (i : Int) (w : World) (h : ListsAt w a n c T) :
    Calls Try.prog 15 #[.slice a n c, .int .i64 i] w fun e w' => e = .returned (.bool true) ∧ Below w.heap.size w w' := by
  have HG := hid_ (long_calls a n c T w h)
  have HK := hid_ sane_calls
  have HA := hid_ (fun W (hW : Below w.heap.size w W) => stWithout_calls a n c T i W (h.below hW (Nat.le_refl _)))
  have HB := hid_ (fun W (hW : Below w.heap.size w W) => r7Without_calls a n c T i W (h.below hW (Nat.le_refl _)))
  have HS := hid_ (fun W a1 n1 c1 a2 n2 c2 (h1 : ListsAt W a1 n1 c1 (resWout T i)) (h2 : ListsAt W a2 n2 c2 (resWout T i)) => sameL7_calls a1 n1 c1 _ a2 n2 c2 W h1 h2)
  have hb : Below w.heap.size w w := Below.refl _ _
  cases hg : longT T with
  | true =>
    rw [hg] at HG
    go_enter Try.func15, Try.ntmps15
    go_wp2_with (first
      | (go_at_call 18; refine (HG.out).mono ?_; rintro e w' ⟨rfl, rfl⟩)
      | (go_at_call 19; (with_reducible refine (HK.out _).mono ?_); rintro e w3 ⟨rfl, hb3⟩))
    go_ret
    exact ⟨rfl, hb3⟩
  | false =>
    rw [hg] at HG
    clear hg
    by_cases he : woutE T i = 0
    · obtain ⟨gT, hi0, hi1, h2⟩ := woutE_ok he
      have hRe : resWout T i = T.map fun r => r.eraseIdx i.toNat := by rw [resWout, if_pos he]
      have hgood := erase_good gT (p := i.toNat) (by omega)
      have hyx := erase_conf gT (p := i.toNat) (by omega)
      have hv1 := good_valid gT
      have hv2 := good_valid hgood
      rw [← hRe] at hgood hyx hv2
      have HC := hid_ (fun W (hW : Below w.heap.size w W) => stConflicts_calls a n c T W (h.below hW (Nat.le_refl _)))
      have HD := hid_ (fun W a' c' (hL : ListsAt W a' (resWout T i).length c' (resWout T i)) => stConflicts_calls a' _ c' (resWout T i) W hL)
      have e1 : resConfs T = confR T := if_pos hv1
      have e2 : resConfs (resWout T i) = confR (resWout T i) := if_pos hv2
      rw [hv1, e1] at HC
      rw [hv2, e2] at HD
      rw [he] at HA HB
      clear gT hi0 hi1 h2 hRe hgood hv1 hv2 e1 e2 he h
      generalize resWout T i = L at *
      obtain ⟨x, hx⟩ : ∃ x, (confR T).length = x := ⟨_, rfl⟩
      obtain ⟨y, hy⟩ : ∃ y, (confR L).length = y := ⟨_, rfl⟩
      rw [hx, hy] at hyx
      have Hx := hid_ hx
      have Hy := hid_ hy
      clear hx hy
      generalize confR T = C1 at *
      generalize confR L = C2 at *
      go_enter Try.func15, Try.ntmps15
      go_wp2_with (first
        | (go_at_call 18; refine (HG.out).mono ?_; rintro e w' ⟨rfl, rfl⟩)
        | (go_at_call 55; (with_reducible refine (HA.out _ hb).mono ?_); rintro e w2 ⟨v2, us2, rfl, ho2, hc2⟩; obtain ⟨a2, c2, rfl, hl2⟩ := ho2.lists; have hb2 := hb.trans (hc2.mono hb.size); have Hl2 := hid_ hl2; clear ho2 hl2 hc2)
        | (go_at_call 56; (with_reducible refine (HB.out _ hb2).mono ?_); rintro e w3 ⟨v3, us3, rfl, ho3, hc3⟩; obtain ⟨a3, c3, rfl, hl3⟩ := ho3.lists; have hb3 := hb2.trans (hc3.mono hb2.size); have Hl3 := hid_ hl3; have Hm2 := hid_ (Hl2.out.below hc3 (Nat.le_refl _)); clear ho3 hl3 hc3)
        | (go_at_call 51; (with_reducible refine (HS.out _ _ _ _ _ _ _ Hm2.out Hl3.out).mono ?_); rintro e w4 ⟨rfl, q4, rfl⟩; have hb4 := below_drewN hb3 q4; have Hm3 := hid_ (Hm2.out.drewN q4))
        | (go_at_call 29; first | ((with_reducible refine (HC.out _ hb4).mono ?_); rintro e w5 ⟨v5, rfl, hm5⟩; obtain ⟨a5, c5, rfl, -⟩ := hm5.at_; rw [Hx.out]; have hb5 := hb4.trans (hm5.bel.mono hb4.size); have Hn5 := hid_ (Hm3.out.below hm5.bel (Nat.le_refl _)); clear hm5) | ((with_reducible refine (HD.out _ _ _ Hn5.out).mono ?_); rintro e w6 ⟨v6, rfl, hm6⟩; obtain ⟨a6, c6, rfl, -⟩ := hm6.at_; rw [Hy.out]; have hb6 := hb5.trans (hm6.bel.mono hb5.size); clear hm6))
        | (go_at_call 19; (with_reducible refine (HK.out _).mono ?_); rintro e w9 ⟨rfl, hb9⟩))
      go_ret
      exact ⟨rfl, hb6.trans (hb9.mono hb6.size)⟩
    · have hq : (woutE T i != 0) = true := by simpa using he
      clear he h
      generalize resWout T i = L at *
      generalize woutE T i = x at *
      go_enter Try.func15, Try.ntmps15
      go_wp2_with (first
        | (go_at_call 18; refine (HG.out).mono ?_; rintro e w' ⟨rfl, rfl⟩)
        | (go_at_call 55; (with_reducible refine (HA.out _ hb).mono ?_); rintro e w2 ⟨v2, us2, rfl, ho2, hc2⟩; obtain ⟨a2, c2, rfl, hl2⟩ := ho2.lists; have hb2 := hb.trans (hc2.mono hb.size); have Hl2 := hid_ hl2; clear ho2 hl2 hc2)
        | (go_at_call 56; (with_reducible refine (HB.out _ hb2).mono ?_); rintro e w3 ⟨v3, us3, rfl, ho3, hc3⟩; obtain ⟨a3, c3, rfl, hl3⟩ := ho3.lists; have hb3 := hb2.trans (hc3.mono hb2.size); have Hl3 := hid_ hl3; have Hm2 := hid_ (Hl2.out.below hc3 (Nat.le_refl _)); clear ho3 hl3 hc3)
        | (go_at_call 51; (with_reducible refine (HS.out _ _ _ _ _ _ _ Hm2.out Hl3.out).mono ?_); rintro e w4 ⟨rfl, q4, rfl⟩; have hb4 := below_drewN hb3 q4)
        | (go_at_call 19; (with_reducible refine (HK.out _).mono ?_); rintro e w9 ⟨rfl, hb9⟩))
      go_ret
      exact ⟨rfl, hb4.trans (hb9.mono hb4.size)⟩
end Go.Proofs.Ytdhmcmkpeaoigaa
