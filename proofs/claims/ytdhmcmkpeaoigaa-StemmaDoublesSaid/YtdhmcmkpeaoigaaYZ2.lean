import Derived.Test.YtdhmcmkpeaoigaaYY
namespace Go.Proofs.Ytdhmcmkpeaoigaa
open Go.RowKit Go.Proofs.Kv Go

/-! ### the law StemmaDoubles -/
theorem sumL_take (L : List (List Int)) {k : Nat} (hk : k < L.length) : sumL (L.take (k + 1)) = sumL (L.take k) + (L.getD k []).length := by
  rw [Kv.take_snoc L [] k hk]
  unfold sumL
  rw [List.map_append, List.sum_append]
  simp
theorem sumL_le (L : List (List Int)) (h : ∀ j, j < L.length → (L.getD j []).length ≤ 50) : ∀ k, k ≤ L.length → sumL (L.take k) ≤ 50 * k
  | 0, _ => by simp [sumL]
  | k + 1, hk => by
    have h1 := sumL_le L h k (by omega)
    have h2 := h k (by omega)
    rw [sumL_take L (by omega)]
    omega
theorem resDbl_good (T : List (List Int)) : (resDbl T).length ≤ 50 ∧ (∀ j, j < (resDbl T).length → ((resDbl T).getD j []).length ≤ 50) ∧ (validT T = 0 → sumL (resDbl T) = T.length) := by
  unfold resDbl
  split
  · rename_i he
    have g := validT_ok he
    have hg := dblG_good T T.length
    have hle := g.le
    refine ⟨by have := hg.len; omega, fun j hj => by have := hg.le j hj; omega, fun _ => hg.sum⟩
  · rename_i he
    exact ⟨by simp, fun j hj => absurd hj (by simp), fun h => absurd h he⟩
set_option maxRecDepth 100000 in
set_option maxHeartbeats 4000000 in
theorem stemmaDoubles_calls (a : Option Addr) (n c : Nat) (T : List (List Int)) (w : World) (h : ListsAt w a n c T) :
    Calls Try.prog 13 #[.slice a n c] w fun e w' => e = .returned (.bool true) ∧ Below w.heap.size w w' := by
  have HG := hid_ (long_calls a n c T w h)
  have HK := hid_ sane_calls
  have HA := hid_ (fun W (hW : Below w.heap.size w W) => stDoubles_calls a n c T W (h.below hW (Nat.le_refl _)))
  have HB := hid_ (fun W (hW : Below w.heap.size w W) => r7Doubles_calls a n c T W (h.below hW (Nat.le_refl _)))
  have HS := hid_ (fun W a1 n1 c1 a2 n2 c2 (h1 : ListsAt W a1 n1 c1 (resDbl T)) (h2 : ListsAt W a2 n2 c2 (resDbl T)) => sameL7_calls a1 n1 c1 _ a2 n2 c2 W h1 h2)
  have hb : Below w.heap.size w w := Below.refl _ _
  obtain ⟨hl1, hl2, hl3⟩ := resDbl_good T
  rw [h.len] at hl3
  clear h
  cases hg : longT T with
  | true =>
    rw [hg] at HG
    go_enter Try.func13, Try.ntmps13
    go_wp2_with (first
      | (go_at_call 18; refine (HG.out).mono ?_; rintro e w' ⟨rfl, rfl⟩)
      | (go_at_call 19; (with_reducible refine (HK.out _).mono ?_); rintro e w3 ⟨rfl, hb3⟩))
    go_ret
    exact ⟨rfl, hb3⟩
  | false =>
    rw [hg] at HG
    clear hg
    generalize resDbl T = L at *
    generalize validT T = x at *
    have Hsum := hid_ hl3
    have Hle := hid_ (sumL_le L hl2)
    have Htk := hid_ (fun k hk => @sumL_take L k hk)
    have Hl2 := hid_ hl2
    obtain ⟨m, hm⟩ : ∃ m, L.length = m := ⟨_, rfl⟩
    have Hm := hid_ hm
    have Hall : Hid (L.take m = L) := hid_ (List.take_of_length_le (by omega))
    rw [hm] at hl1
    clear hl2 hl3 hm
    go_enter Try.func13, Try.ntmps13
    go_wp2_with (first
      | (go_at_call 18; refine (HG.out).mono ?_; rintro e w' ⟨rfl, rfl⟩)
      | (go_at_call 49; (with_reducible refine (HA.out _ hb).mono ?_); rintro e w2 ⟨v2, us2, rfl, ho2, hc2⟩; obtain ⟨a2, c2, rfl, hl2⟩ := ho2.lists; rw [Hm.out] at hl2 ⊢; have hb2 := hb.trans (hc2.mono hb.size); have Hl2' := hid_ hl2; clear ho2 hl2 hc2)
      | (go_at_call 50; (with_reducible refine (HB.out _ hb2).mono ?_); rintro e w3 ⟨v3, us3, rfl, ho3, hc3⟩; obtain ⟨a3, c3, rfl, hl3⟩ := ho3.lists; rw [Hm.out] at hl3 ⊢; have hb3 := hb2.trans (hc3.mono hb2.size); have Hl3 := hid_ hl3; have Hm2 := hid_ (Hl2'.out.below hc3 (Nat.le_refl _)); clear ho3 hl3 hc3)
      | (go_at_call 51; (with_reducible refine (HS.out _ _ _ _ _ _ _ Hm2.out Hl3.out).mono ?_); rintro e w4 ⟨rfl, q4, rfl⟩; have hb4 := below_drewN hb3 q4; have Hm3 := hid_ (Hm2.out.drewN q4)))
    go_loopw [7, 8] (fun s i wr => ∃ k : Nat, k ≤ m ∧ i = .int .i64 k ∧ s = .int .i64 (sumL (L.take k) : Nat) ∧ ListsAt wr a2 m c2 L ∧ Below w.heap.size w wr) (fun _ i _ => m - (intOf i).toNat)
    case atStart => exact ⟨0, Nat.zero_le _, rfl, rfl, Hm3.out, hb4⟩
    case round =>
      obtain ⟨k, hk, rfl, rfl, hL, hbr⟩ := hrel
      have hsl := Hle.out k (by rw [Hm.out]; exact hk)
      by_cases hlt : k < m
      · obtain ⟨b, off, a5, n5, c5, rfl, hb5, hcell, hrow⟩ := hL.cells k hlt
        have ht := Htk.out k (by rw [Hm.out]; exact hlt)
        have hr := Hl2.out k (by rw [Hm.out]; exact hlt)
        rw [hrow.len] at ht hr
        have Ht := hid_ ht
        have HLr := hid_ hL
        clear ht hrow hL
        generalize sumL (L.take k) = z at *
        go_wp2
        go_roundw
        case rel => exact ⟨k + 1, by omega, by go_num, by rw [Ht.out]; go_num, HLr.out, hbr⟩
        case measure => simp [intOf]; omega
      · obtain rfl : k = m := by omega
        rw [Hall.out] at hsl ⊢
        clear hL
        by_cases hx : x = 0
        · have hs := Hsum.out hx
          rw [hs]
          have hq : ((n : Int) == (n : Int)) = true := by simp
          subst hx
          go_wp2_with (go_at_call 19; (with_reducible refine (HK.out _).mono ?_); rintro e w9 ⟨rfl, hb9⟩)
          go_ret
          exact ⟨rfl, hbr.trans (hb9.mono hbr.size)⟩
        · have hq : (x != 0) = true := by simpa using hx
          generalize sumL L = z at *
          go_wp2_with (go_at_call 19; (with_reducible refine (HK.out _).mono ?_); rintro e w9 ⟨rfl, hb9⟩)
          go_ret
          exact ⟨rfl, hbr.trans (hb9.mono hbr.size)⟩
end Go.Proofs.Ytdhmcmkpeaoigaa
