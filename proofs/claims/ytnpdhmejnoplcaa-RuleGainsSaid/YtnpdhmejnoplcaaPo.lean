import Derived.Test.YtnpdhmejnoplcaaPm
import Derived.Test.YtnpdhmejnoplcaaKs
import Derived.Test.YtnpdhmejnoplcaaKc
namespace Go.Proofs.Ytnpdhmejnoplcaa
open Go.RowKit Go.Proofs.Kv

/-! ### common, by the program and by the reference -/
def cmN (a b : List Int) (k : Nat) : List Int := ((List.range k).map fun j : Nat => (j : Int) - 1).filter fun x => mayL a x && mayL b x
def comL (a b : List Int) : List Int := cmN a b 7
theorem cm_hit {a b : List Int} {k : Nat} (h : (mayL a ((k : Int) - 1) && mayL b ((k : Int) - 1)) = true) : cmN a b (k + 1) = cmN a b k ++ [(k : Int) - 1] := by
  simp only [cmN, List.range_succ, List.map_append, List.filter_append, List.map_cons, List.map_nil, List.filter_cons, h, if_true, List.filter_nil]
theorem cm_miss {a b : List Int} {k : Nat} (h : (mayL a ((k : Int) - 1) && mayL b ((k : Int) - 1)) = false) : cmN a b (k + 1) = cmN a b k := by
  simp only [cmN, List.range_succ, List.map_append, List.filter_append, List.map_cons, List.map_nil, List.filter_cons, h, List.filter_nil]
  simp
theorem cm_le (a b : List Int) (k : Nat) : (cmN a b k).length ≤ k := by
  refine Nat.le_trans (List.length_filter_le _ _) ?_
  simp
theorem mem_com {a b : List Int} {x : Int} : x ∈ comL a b ↔ -1 ≤ x ∧ x ≤ 5 ∧ mayL a x = true ∧ mayL b x = true := by
  simp only [comL, cmN, List.mem_filter, List.mem_map, List.mem_range, Bool.and_eq_true]
  constructor
  · rintro ⟨⟨j, hj, rfl⟩, h⟩
    exact ⟨by omega, by omega, h⟩
  · rintro ⟨h0, h5, h⟩
    exact ⟨⟨(x + 1).toNat, by omega, by omega⟩, h⟩
set_option maxRecDepth 100000 in
set_option maxHeartbeats 4000000 in
theorem common_calls (a b : List Int) (w : World) :
    Calls Try.prog 135 #[.func (.func 182) #[.agg (nbV a)] #[], .func (.func 182) #[.agg (nbV b)] #[]] w fun e w' => ∃ v', e = .returned v' ∧ Made 3 w w' v' (comL a b) := by
  obtain ⟨i0, hi0, hz0, hz1, hz2⟩ := info_parts Try.infoInt
  go_enter Try.func135, Try.ntmps135
  go_wp2
  go_loopw [5, 6] (fun v i wr => ∃ k : Nat, k ≤ 7 ∧ i = .int .i64 ((k : Int) - 1) ∧ wr.ownsRow w.heap.size 3 1 v (cmN a b k).length ((cmN a b k).map (Value.int .i64)) ∧ Below w.heap.size w wr) (fun _ i _ => 7 - (intOf i + 1).toNat)
  case atStart => exact ⟨0, by omega, rfl, World.ownsRow_nil _ _ _ _, Below.refl _ _⟩
  case round =>
    obtain ⟨k, hk, rfl, hown, hbel⟩ := hrel
    have hsz := hbel.size
    by_cases hlt : k < 7
    · have hA := hid_ (fun W => has7_calls a ((k : Int) - 1) W (by omega) (by omega))
      have hB := hid_ (fun W => has7_calls b ((k : Int) - 1) W (by omega) (by omega))
      have h6 : (k : Int) - 1 < 6 := by omega
      have hH := hid_ (@cm_hit a b k)
      have hM := hid_ (@cm_miss a b k)
      have hle := cm_le a b k
      have hs1 : (cmN a b k).length + 1 ≤ 1000000 := by omega
      clear hle
      generalize mayL a ((k : Int) - 1) = x1 at *
      generalize mayL b ((k : Int) - 1) = x2 at *
      cases x1 with
      | false =>
        have Hn := hid_ (hM.out rfl)
        go_wp2_with (go_at_call 182; with_reducible refine (hA.out _).mono ?_; rintro e w2 ⟨rfl, hb2⟩)
        go_roundw
        case rel => exact ⟨k + 1, by omega, by go_num, by rw [Hn.out]; exact own_grown hown hb2, hbel.trans (hb2.mono hsz)⟩
        case measure => simp [intOf]; omega
      | true =>
        cases x2 with
        | false =>
          have Hn := hid_ (hM.out rfl)
          go_wp2_with (first
            | (go_at_call 182; with_reducible refine (hA.out _).mono ?_; rintro e w2 ⟨rfl, hb2⟩)
            | (go_at_call 182; with_reducible refine (hB.out _).mono ?_; rintro e w3 ⟨rfl, hb3⟩))
          go_roundw
          case rel => exact ⟨k + 1, by omega, by go_num, by rw [Hn.out]; exact own_grown (own_grown hown hb2) hb3, hbel.trans ((hb2.trans (hb3.mono hb2.size)).mono hsz)⟩
          case measure => simp [intOf]; omega
        | true =>
          have Hn := hid_ (hH.out rfl)
          go_wp2_with (first
            | (go_at_call 182; with_reducible refine (hA.out _).mono ?_; rintro e w2 ⟨rfl, hb2⟩)
            | (go_at_call 182; with_reducible refine (hB.out _).mono ?_; rintro e w3 ⟨rfl, hb3⟩; have hb13 := hbel.trans ((hb2.trans (hb3.mono hb2.size)).mono hsz); have hown3 := own_grown (own_grown hown hb2) hb3)
            | (at_builtin; refine wpList_append_ints _ rfl (.tmp 19) (.tmp 21) _ rfl w.heap.size 3 i0 Try.underlying22 hi0 hz0 hz1 hz2 _ _ _ rfl (hown3.alloc _) _ _ _ _ rfl (IntsAt.one _ _ _) hs1 (le_alloc hb13.size) ?_; intro v' w5 hown5 hg5 hat5))
          go_roundw
          case rel => exact ⟨k + 1, by omega, by go_num, by rw [Hn.out]; simpa using hown5, below_app hb13 hb13.size hown3 hg5⟩
          case measure => simp [intOf]; omega
    · obtain rfl : k = 7 := by omega
      go_wp2
      go_ret
      exact ⟨_, rfl, hown, hbel⟩
set_option maxRecDepth 100000 in
set_option maxHeartbeats 4000000 in
theorem refCommon_calls (a : Option Addr) (n c : Nat) (s : List Int) (a' : Option Addr) (n' c' : Nat) (t : List Int) (w : World) (h : IntsAt w a n c s) (h' : IntsAt w a' n' c' t) :
    Calls Try.prog 136 #[.slice a n c, .slice a' n' c'] w fun e w' => ∃ v', e = .returned v' ∧ Made 3 w w' v' (comL s t) := by
  obtain ⟨i0, hi0, hz0, hz1, hz2⟩ := info_parts Try.infoInt
  go_enter Try.func136, Try.ntmps136
  go_wp2
  go_loopw [5, 6] (fun v i wr => ∃ k : Nat, k ≤ 7 ∧ i = .int .i64 ((k : Int) - 1) ∧ wr.ownsRow w.heap.size 3 1 v (cmN s t k).length ((cmN s t k).map (Value.int .i64)) ∧ Below w.heap.size w wr) (fun _ i _ => 7 - (intOf i + 1).toNat)
  case atStart => exact ⟨0, by omega, rfl, World.ownsRow_nil _ _ _ _, Below.refl _ _⟩
  case round =>
    obtain ⟨k, hk, rfl, hown, hbel⟩ := hrel
    have hsz := hbel.size
    by_cases hlt : k < 7
    · have hA := hid_ (may_calls a n c s ((k : Int) - 1) wr (h.below hbel (Nat.le_refl _)))
      have hB := hid_ (may_calls a' n' c' t ((k : Int) - 1) wr (h'.below hbel (Nat.le_refl _)))
      have h6 : (k : Int) - 1 < 6 := by omega
      have hH := hid_ (@cm_hit s t k)
      have hM := hid_ (@cm_miss s t k)
      have hle := cm_le s t k
      have hs1 : (cmN s t k).length + 1 ≤ 1000000 := by omega
      clear hle
      generalize mayL s ((k : Int) - 1) = x1 at *
      generalize mayL t ((k : Int) - 1) = x2 at *
      cases x1 with
      | false =>
        have Hn := hid_ (hM.out rfl)
        go_wp2_with (go_at_call 131; with_reducible refine hA.out.mono ?_; rintro e w2 ⟨rfl, rfl⟩)
        go_roundw
        case rel => exact ⟨k + 1, by omega, by go_num, by rw [Hn.out]; exact hown, hbel⟩
        case measure => simp [intOf]; omega
      | true =>
        cases x2 with
        | false =>
          have Hn := hid_ (hM.out rfl)
          go_wp2_with (first
            | (go_at_call 131; with_reducible refine hA.out.mono ?_; rintro e w2 ⟨rfl, rfl⟩)
            | (go_at_call 131; with_reducible refine hB.out.mono ?_; rintro e w3 ⟨rfl, rfl⟩))
          go_roundw
          case rel => exact ⟨k + 1, by omega, by go_num, by rw [Hn.out]; exact hown, hbel⟩
          case measure => simp [intOf]; omega
        | true =>
          have Hn := hid_ (hH.out rfl)
          go_wp2_with (first
            | (go_at_call 131; with_reducible refine hA.out.mono ?_; rintro e w2 ⟨rfl, rfl⟩)
            | (go_at_call 131; with_reducible refine hB.out.mono ?_; rintro e w3 ⟨rfl, rfl⟩)
            | (at_builtin; refine wpList_append_ints _ rfl (.tmp 19) (.tmp 21) _ rfl w.heap.size 3 i0 Try.underlying22 hi0 hz0 hz1 hz2 _ _ _ rfl (hown.alloc _) _ _ _ _ rfl (IntsAt.one _ _ _) hs1 (le_alloc hsz) ?_; intro v' w5 hown5 hg5 hat5))
          go_roundw
          case rel => exact ⟨k + 1, by omega, by go_num, by rw [Hn.out]; simpa using hown5, below_app hbel hsz hown hg5⟩
          case measure => simp [intOf]; omega
    · obtain rfl : k = 7 := by omega
      go_wp2
      go_ret
      exact ⟨_, rfl, hown, hbel⟩
end Go.Proofs.Ytnpdhmejnoplcaa
