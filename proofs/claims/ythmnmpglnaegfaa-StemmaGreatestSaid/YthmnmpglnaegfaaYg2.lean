import Derived.Test.YthmnmpglnaegfaaYg1
namespace Go.Proofs.Ythmnmpglnaegfaa
open Go.RowKit Go.Proofs.Kv Go

/-! ### members -/
theorem and_one : ∀ y : Nat, y < 64 → bits BinOp.and IntKind.i64 (y : Int) 1 = ((y % 2 : Nat) : Int) := by decide +kernel
theorem memB_stop {b k : Nat} (h : b < 2 ^ k) : ∀ d, memB (k + d) b = memB k b
  | 0 => rfl
  | d + 1 => by
    have h1 : b < 2 ^ (k + d) := Nat.lt_of_lt_of_le h (Nat.pow_le_pow_right (by omega) (by omega))
    rw [← Nat.add_assoc, memB_succ, if_neg (by rw [Nat.testBit_lt_two_pow h1]; decide), memB_stop h d]
theorem memB_to {b k m : Nat} (h : b < 2 ^ k) (hk : k ≤ m) : memB m b = memB k b := by
  obtain ⟨d, rfl⟩ := Nat.le.dest hk
  exact memB_stop h d
theorem memB_len (m b : Nat) : (memB m b).length ≤ m := by
  unfold memB; rw [List.length_map]; exact Nat.le_trans (List.length_filter_le _ _) (by rw [List.length_range]; exact Nat.le_refl _)
set_option maxRecDepth 100000 in
theorem members_calls (b : Nat) (hb : b < 64) (w : World) :
    Calls Try.prog 28 #[.int .i64 (b : Int)] w fun e w' => ∃ v, e = .returned v ∧ Made 3 w w' v (memB 6 b) := by
  go_enter Try.func28, Try.ntmps28
  go_wp2
  go_loopw [3, 4] (fun v n wr => ∃ k : Nat, k ≤ 6 ∧ n = .int .i64 k ∧ wr.ownsRow w.heap.size 3 1 v (memB k b).length ((memB k b).map (Value.int .i64)) ∧ Below w.heap.size w wr) (fun _ n _ => 6 - (intOf n).toNat)
  case atStart => exact ⟨0, Nat.zero_le _, rfl, World.ownsRow_nil _ _ _ _, Below.refl _ _⟩
  case round =>
    obtain ⟨k, hk, rfl, hO, hbr⟩ := hrel
    have hsz := hbr.size
    have hy : (b : Int) / 2 ^ k = ((b / 2 ^ k : Nat) : Int) := by rw [Int.natCast_ediv]; simp
    have hyl : b / 2 ^ k < 64 := Nat.lt_of_le_of_lt (Nat.div_le_self _ _) hb
    have han := and_one _ hyl
    have htb : b.testBit k = decide (b / 2 ^ k % 2 = 1) := Nat.testBit_eq_decide_div_mod_eq
    have hpw : 0 < 2 ^ k := Nat.two_pow_pos k
    have hfin : b / 2 ^ k = 0 → memB 6 b = memB k b := fun h => memB_to ((Nat.div_eq_zero_iff_lt hpw).1 h) hk
    have hlast : k = 6 → b / 2 ^ k = 0 := fun h => by subst h; exact Nat.div_eq_of_lt hb
    have hml := memB_len k b
    have Hm := hid_ (memB_succ k b)
    have HO := hid_ hO
    have Hb := hid_ hbr
    clear hO hbr hpw
    by_cases h0 : b / 2 ^ k = 0
    · have Hf := hid_ (hfin h0)
      rw [h0] at hy
      have hy0 : (b : Int) / 2 ^ k = 0 := hy
      clear hfin hlast hy han htb h0 hyl
      obtain ⟨av, cv, ev, -⟩ := IntsAt.own HO.out
      go_wp2
      go_ret
      exact ⟨_, rfl, by rw [Hf.out]; exact HO.out, Hb.out⟩
    · have hk6 : k < 6 := by
        rcases Nat.lt_or_ge k 6 with h | h
        · exact h
        · exact absurd (hlast (by omega)) h0
      generalize b / 2 ^ k = y at *
      have hy0 : 0 < (y : Int) := by omega
      have hyn : 0 < y := by omega
      have hyd : decide (0 < y) = true := decide_eq_true hyn
      clear hfin hlast h0
      by_cases h1 : y % 2 = 1
      · rw [h1] at han
        have Hn : Hid (memB (k + 1) b = memB k b ++ [(k : Int)]) := hid_ (by rw [Hm.out, if_pos (by rw [htb, decide_eq_true h1])])
        clear htb h1
        have hown := HO.out.alloc (.cells #[.int .i64 (k : Int)] 3)
        have hz8 : w.heap.size ≤ (wr.alloc (.cells #[.int .i64 (k : Int)] 3)).heap.size := Nat.le_trans hsz (below_alloc _ _).size
        obtain ⟨i0, hi0, hz0, hz1, hz2⟩ := info_parts Try.infoInt
        go_wp2_with (at_builtin; refine wpList_append_ints _ rfl (.tmp 16) (.tmp 18) _ rfl w.heap.size 3 i0 Try.underlying25 hi0 hz0 hz1 hz2 _ _ _ rfl hown _ _ _ _ rfl (IntsAt.one _ _ _) (by omega) hz8 ?_; intro v6 w6 ho6 hg6 hat6; have Ho6 := hid_ ho6; have Hb6 := hid_ (below_app Hb.out hsz HO.out hg6); clear ho6 hg6 hat6)
        go_roundw
        case rel => exact ⟨k + 1, by omega, by go_num, by rw [Hn.out, List.length_append]; exact Ho6.out, Hb6.out⟩
        case measure => simp [intOf]; omega
      · have h2 : y % 2 = 0 := by omega
        rw [h2] at han
        have Hn : Hid (memB (k + 1) b = memB k b) := hid_ (by rw [Hm.out, if_neg (by rw [htb, decide_eq_false h1]; decide)])
        clear htb h1 h2
        go_wp2
        go_roundw
        case rel => exact ⟨k + 1, by omega, by go_num, by rw [Hn.out]; exact HO.out, Hb.out⟩
        case measure => simp [intOf]; omega
end Go.Proofs.Ythmnmpglnaegfaa
