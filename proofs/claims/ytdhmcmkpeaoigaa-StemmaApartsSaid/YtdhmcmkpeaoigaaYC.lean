import Derived.Test.YtdhmcmkpeaoigaaYB
namespace Go.Proofs.Ytdhmcmkpeaoigaa
open Go.RowKit Go.Proofs.Kv

/-! ### the law StemmaAparts -/
theorem ne1_tri (x y z : Int) : ne1 x z ≤ ne1 x y + ne1 y z := by
  unfold ne1
  split
  · omega
  · rename_i h
    by_cases e : x = y
    · subst e; rw [if_neg h]; omega
    · rw [if_neg e]; omega
theorem apN_tri (R Q S : List Int) (m : Nat) : apN R S m ≤ apN R Q m + apN Q S m := by
  induction m with
  | zero => exact Nat.le_refl _
  | succ k ih =>
    have := ne1_tri (R.getD k 0) (Q.getD k 0) (S.getD k 0)
    unfold apN; omega
theorem copiesE_of {T : List (List Int)} {i j : Int} (h : copiesE T [i, j] = 0) {k : Nat} (hk : k < T.length) : copiesE T [i, (k : Int)] = 0 ∧ copiesE T [(k : Int), j] = 0 := by
  have hv : validT T = 0 := by
    rw [copiesE] at h
    split at h
    · assumption
    · exact h
  obtain ⟨-, ⟨h1, h2⟩, h3, h4⟩ := copiesE_two h
  constructor
  · rw [copiesE, if_pos hv, numE_two, if_pos ⟨isNum_iff.2 ⟨h1, h2⟩, isNum_iff.2 ⟨by omega, by omega⟩⟩]
  · rw [copiesE, if_pos hv, numE_two, if_pos ⟨isNum_iff.2 ⟨by omega, by omega⟩, isNum_iff.2 ⟨h3, h4⟩⟩]
theorem resApart_le (T : List (List Int)) (i j : Int) : 0 ≤ resApart T i j ∧ resApart T i j ≤ 6 := by
  rw [resApart]
  split
  · rename_i he
    have g := (copiesE_two he).1.w6
    have := apN_le (T.getD i.toNat []) (T.getD j.toNat []) (n0 T)
    omega
  · omega
theorem resApart_tri {T : List (List Int)} {i j : Int} (h : copiesE T [i, j] = 0) {k : Nat} (hk : k < T.length) : resApart T i j ≤ resApart T i k + resApart T k j := by
  obtain ⟨h1, h2⟩ := copiesE_of h hk
  rw [resApart, resApart, resApart, if_pos h, if_pos h1, if_pos h2, Int.toNat_natCast]
  have := apN_tri (T.getD i.toNat []) (T.getD k []) (T.getD j.toNat []) (n0 T)
  omega
set_option maxRecDepth 100000 in
set_option maxHeartbeats 4000000 in
theorem stemmaAparts_calls (a : Option Addr) (n c : Nat) (T : List (List Int)) (i j : Int) (w : World) (h : ListsAt w a n c T) :
    Calls Try.prog 12 #[.slice a n c, .int .i64 i, .int .i64 j] w fun e w' => e = .returned (.bool true) ∧ Below w.heap.size w w' := by
  have HG := hid_ (long_calls a n c T w h)
  have HK := hid_ sane_calls
  have HA := hid_ (fun W (hW : Below w.heap.size w W) => stApart_calls a n c T i j W (h.below hW (Nat.le_refl _)))
  have HB := hid_ (fun W (hW : Below w.heap.size w W) => r7Apart_calls a n c T i j W (h.below hW (Nat.le_refl _)))
  have hn : n ≤ 9223372036854775807 := Nat.le_trans h.le h.small
  cases hg : longT T with
  | true =>
    rw [hg] at HG
    go_enter Try.func12, Try.ntmps12
    go_wp2_with (first
      | (go_at_call 18; refine (HG.out).mono ?_; rintro e w' ⟨rfl, rfl⟩)
      | (go_at_call 19; (with_reducible refine (HK.out _).mono ?_); rintro e w3 ⟨rfl, hb3⟩))
    go_ret
    exact ⟨rfl, hb3⟩
  | false =>
    rw [hg] at HG
    clear hg
    have hb : Below w.heap.size w w := Below.refl _ _
    by_cases he : copiesE T [i, j] = 0
    · have HX : Hid (∀ k : Nat, k < n → ∀ W, Below w.heap.size w W → Calls Try.prog 47 #[.slice a n c, .int .i64 i, .int .i64 k] W fun e w' => e = .returned (.tuple #[.int .i64 (resApart T i k), .int .i64 0]) ∧ Below W.heap.size W w') := hid_ (fun k hk W hW => by
        have := stApart_calls a n c T i k W (h.below hW (Nat.le_refl _))
        rwa [(copiesE_of he (show k < T.length by rw [h.len]; exact hk)).1] at this)
      have HY : Hid (∀ k : Nat, k < n → ∀ W, Below w.heap.size w W → Calls Try.prog 47 #[.slice a n c, .int .i64 k, .int .i64 j] W fun e w' => e = .returned (.tuple #[.int .i64 (resApart T k j), .int .i64 0]) ∧ Below W.heap.size W w') := hid_ (fun k hk W hW => by
        have := stApart_calls a n c T k j W (h.below hW (Nat.le_refl _))
        rwa [(copiesE_of he (show k < T.length by rw [h.len]; exact hk)).2] at this)
      have HT := hid_ (fun (k : Nat) (hk : k < n) => resApart_tri he (show k < T.length by rw [h.len]; exact hk))
      have HXl := hid_ (fun k : Nat => resApart_le T i k)
      have HYl := hid_ (fun k : Nat => resApart_le T k j)
      rw [he] at HA HB
      clear he h
      generalize resApart T i j = x at *
      generalize hf : (fun k : Nat => resApart T i k) = f at *
      have Hf : Hid (∀ k : Nat, resApart T i k = f k) := hid_ (fun k => by rw [← hf])
      generalize hg : (fun k : Nat => resApart T k j) = g at *
      have Hg : Hid (∀ k : Nat, resApart T k j = g k) := hid_ (fun k => by rw [← hg])
      clear hf hg
      simp only [Hf.out] at HX HT HXl
      simp only [Hg.out] at HY HT HYl
      clear Hf Hg
      go_enter Try.func12, Try.ntmps12
      go_wp2_with (first
        | (go_at_call 18; refine (HG.out).mono ?_; rintro e w' ⟨rfl, rfl⟩)
        | (go_at_call 47; (with_reducible refine (HA.out _ hb).mono ?_); rintro e w2 ⟨rfl, hb2⟩)
        | (go_at_call 48; (with_reducible refine (HB.out _ hb2).mono ?_); rintro e w3 ⟨rfl, hc3⟩; have hb3 := hb2.trans (hc3.mono hb2.size)))
      go_loopw [11] (fun v wr => ∃ k : Nat, k ≤ n ∧ v = .int .i64 k ∧ Below w.heap.size w wr) (fun v _ => n - (intOf v).toNat)
      case atStart => exact ⟨0, Nat.zero_le _, rfl, hb3⟩
      case round =>
        obtain ⟨k, hk, rfl, hbr⟩ := hrel
        by_cases hlt : k < n
        · have HXk := hid_ (HX.out k hlt)
          have HYk := hid_ (HY.out k hlt)
          have hle := HT.out k hlt
          have hxl := HXl.out k
          have hyl := HYl.out k
          generalize f k = y at *
          generalize g k = z at *
          go_wp2_with (go_at_call 47; first | ((with_reducible refine (HXk.out _ hbr).mono ?_); rintro e w4 ⟨rfl, hc4⟩; have hb4 := hbr.trans (hc4.mono hbr.size); clear hc4) | ((with_reducible refine (HYk.out _ hb4).mono ?_); rintro e w5 ⟨rfl, hc5⟩; have hb5 := hb4.trans (hc5.mono hb4.size); clear hc5))
          go_roundw
          case rel => exact ⟨k + 1, by omega, by go_num, hb5⟩
          case measure => simp [intOf]; omega
        · obtain rfl : k = n := by omega
          go_wp2_with (go_at_call 19; (with_reducible refine (HK.out _).mono ?_); rintro e w9 ⟨rfl, hb9⟩)
          go_ret
          exact ⟨rfl, hbr.trans (hb9.mono hbr.size)⟩
    · have hq : (copiesE T [i, j] == 0) = false := by simpa using he
      clear h he
      generalize copiesE T [i, j] = z at *
      generalize resApart T i j = x at *
      go_enter Try.func12, Try.ntmps12
      go_wp2_with (first
        | (go_at_call 18; refine (HG.out).mono ?_; rintro e w' ⟨rfl, rfl⟩)
        | (go_at_call 47; (with_reducible refine (HA.out _ hb).mono ?_); rintro e w2 ⟨rfl, hb2⟩)
        | (go_at_call 48; (with_reducible refine (HB.out _ hb2).mono ?_); rintro e w3 ⟨rfl, hc3⟩; have hb3 := hb2.trans (hc3.mono hb2.size)))
      go_loopw [11] (fun v wr => v = .int .i64 (0 : Nat) ∧ Below w.heap.size w wr) (fun v _ => 0)
      case atStart => exact ⟨rfl, hb3⟩
      case round =>
        obtain ⟨rfl, hbr⟩ := hrel
        go_wp2_with (go_at_call 19; (with_reducible refine (HK.out _).mono ?_); rintro e w9 ⟨rfl, hb9⟩)
        go_ret
        exact ⟨rfl, hbr.trans (hb9.mono hbr.size)⟩
end Go.Proofs.Ytdhmcmkpeaoigaa
