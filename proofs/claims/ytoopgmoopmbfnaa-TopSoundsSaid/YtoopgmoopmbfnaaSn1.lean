import Derived.Test.YtoopgmoopmbfnaaRf2
import Derived.Lib.AppendZerosOnto
import Derived.Lib.Walk
import Derived.Test.YtoopgmoopmbfnaaKit
import Derived.RangeFuncNested
import Derived.RangeFuncBound
import Derived.RangeFuncCalls
import Derived.RangeFuncLeaves
import Derived.RangeFuncWrites
import Derived.Deep.OwnRows
import Derived.RegionTactic
import Derived.ChangeAlike
import Derived.BigRegion
import Derived.Shelf.Abstract
import Derived.Shelf.RegionOpen
import Derived.OwnWalkIn
import Derived.TacticsInMore
import Derived.LoopNIn
import Derived.LoopIn
import Derived.Sort.LoopGhostIn
namespace Go.Proofs.Ytoopgmoopmbfnaa
open Go.RowKit Go.Proofs.Kv Go.Proofs.Snd

/-! ### allBelow -/
def AllB (l : List Int) (m : Int) : Bool := l.all fun x => decide (0 ≤ x) && decide (x < m)
theorem AllB_no {l : List Int} {m : Int} {k : Nat} (hk : k < l.length) (h : (decide (0 ≤ l.getD k 0) && decide (l.getD k 0 < m)) = false) : AllB l m = false := by
  rw [Bool.eq_false_iff]
  intro e
  rw [AllB, List.all_eq_true] at e
  have := e _ (getD_mem hk)
  rw [h] at this; cases this
theorem AllB_yes {l : List Int} {m : Int} {n : Nat} (hn : l.length = n) (h : ∀ j, j < n → (decide (0 ≤ l.getD j 0) && decide (l.getD j 0 < m)) = true) : AllB l m = true := by
  rw [AllB, List.all_eq_true]
  intro x hx
  obtain ⟨i, hi, e⟩ := mem_getD hx
  have := h i (by omega)
  rwa [e] at this
set_option maxRecDepth 100000 in
theorem allBelow_calls (a : Option Addr) (n c : Nat) (l : List Int) (m : Int) (w : World) (h : IntsAt w a n c l) :
    Calls Try.prog 104 #[.slice a n c, .int .i64 m] w fun e w' => e = .returned (.bool (AllB l m)) ∧ w = w' := by
  have hn : n ≤ 9223372036854775807 := Nat.le_trans h.le h.small
  go_enter Try.func104, Try.ntmps104
  go_wp2
  go_loop [9] (fun i => ∃ k : Nat, k ≤ n ∧ i = .int .i64 k ∧ ∀ j, j < k → (decide (0 ≤ l.getD j 0) && decide (l.getD j 0 < m)) = true) (fun i => n - (intOf i).toNat)
  case atStart => exact ⟨0, Nat.zero_le _, rfl, fun _ h => absurd h (by omega)⟩
  case round =>
    obtain ⟨k, hk, rfl, hall⟩ := hrel
    have Hall := hid_ hall; clear hall
    by_cases hlt : k < n
    · obtain ⟨b, off, rfl, hb, hcell⟩ := h.cells k hlt
      have hl : k < l.length := by rw [h.len]; exact hlt
      generalize hy : l.getD k 0 = y at hcell
      have Hy := hid_ hy; clear hy
      by_cases h0 : y < 0
      · have Hf : Hid (AllB l m = false) := hid_ (AllB_no hl (by rw [Hy.out]; simp; omega))
        go_wp2
        go_ret
        exact ⟨retB Hf.out, rfl⟩
      · by_cases h1 : m ≤ y
        · have Hf : Hid (AllB l m = false) := hid_ (AllB_no hl (by rw [Hy.out]; simp; omega))
          go_wp2
          go_ret
          exact ⟨retB Hf.out, rfl⟩
        · go_wp2
          go_round
          case rel => exact ⟨k + 1, by omega, by go_num, lt_snoc Hall.out (by rw [Hy.out]; simp; omega)⟩
          case measure => simp [intOf]; omega
    · have Hf : Hid (AllB l m = true) := hid_ (AllB_yes h.len fun j hj => Hall.out j (by omega))
      go_wp2
      go_ret
      exact ⟨retB Hf.out, rfl⟩

/-! ### Index, Contains -/
def idx (l : List Int) (x : Int) : Int := if Has l x then (l.findIdx (fun y => y == x) : Int) else -1
theorem idx_hit {l : List Int} {x : Int} {k : Nat} (hk : k < l.length) (h : ∀ j, j < k → l.getD j 0 ≠ x) (hh : l.getD k 0 = x) : idx l x = k := by
  have hm : Has l x = true := Has_iff.2 (by rw [← hh]; exact getD_mem hk)
  rw [idx, hm, if_pos rfl]
  congr 1
  rw [List.findIdx_eq hk]
  refine ⟨by simpa [List.getD, List.getElem?_eq_getElem hk] using hh, fun j hj => ?_⟩
  have := h j hj
  simpa [List.getD, List.getElem?_eq_getElem (show j < l.length by omega)] using this
theorem idx_miss {l : List Int} {x : Int} {n : Nat} (hn : l.length = n) (h : ∀ j, j < n → l.getD j 0 ≠ x) : Has l x = false := by
  refine Bool.eq_false_iff.2 fun hc => ?_
  obtain ⟨i, hi, hx⟩ := mem_getD (Has_iff.1 hc)
  exact h i (by omega) hx
theorem idx_nn (l : List Int) (x : Int) : decide (0 ≤ idx l x) = Has l x := by
  unfold idx
  cases Has l x <;> simp

set_option maxRecDepth 100000 in
theorem index_calls (a : Option Addr) (n c : Nat) (l : List Int) (x : Int) (w : World) (h : IntsAt w a n c l) :
    Calls Try.prog 130 #[.slice a n c, .int .i64 x] w fun e w' => e = .returned (.int .i64 (idx l x)) ∧ w = w' := by
  have hn : n ≤ 9223372036854775807 := Nat.le_trans h.le h.small
  go_enter Try.func130, Try.ntmps130
  go_wp2
  go_loop [8] (fun i => ∃ k : Nat, k ≤ n ∧ i = .int .i64 k ∧ ∀ j, j < k → l.getD j 0 ≠ x) (fun i => n - (intOf i).toNat)
  case atStart => exact ⟨0, Nat.zero_le _, rfl, fun _ h => absurd h (by omega)⟩
  case round =>
    obtain ⟨k, hk, rfl, hall⟩ := hrel
    have Hall := hid_ hall; clear hall
    by_cases hlt : k < n
    · obtain ⟨b, off, rfl, hb, hcell⟩ := h.cells k hlt
      have hl : k < l.length := by rw [h.len]; exact hlt
      generalize hy : l.getD k 0 = y at hcell
      have Hy := hid_ hy; clear hy
      by_cases he : x = y
      · have hq : (x == y) = true := by simpa using he
        have Hf : Hid (idx l x = k) := hid_ (idx_hit hl Hall.out (by rw [Hy.out, he]))
        have He := hid_ he; clear he
        go_wp2
        go_ret
        exact ⟨retI Hf.out, rfl⟩
      · have hq : (x == y) = false := by simpa using he
        have He := hid_ he; clear he
        go_wp2
        go_round
        case rel => exact ⟨k + 1, by omega, by go_num, lt_snoc Hall.out (by rw [Hy.out]; exact fun e => He.out e.symm)⟩
        case measure => simp [intOf]; omega
    · have Hf : Hid (idx l x = -1) := hid_ (by rw [idx, idx_miss h.len fun j hj => Hall.out j (by omega)]; rfl)
      go_wp2
      go_ret
      exact ⟨retI Hf.out, rfl⟩

theorem contains_calls (a : Option Addr) (n c : Nat) (l : List Int) (x : Int) (w : World) (h : IntsAt w a n c l) :
    Calls Try.prog 131 #[.slice a n c, .int .i64 x] w fun e w' => e = .returned (.bool (Has l x)) ∧ w = w' := by
  have hc := index_calls a n c l x w h
  have Hd := hid_ (idx_nn l x)
  generalize idx l x = r at hc Hd
  have Hc := hid_ hc; clear hc
  go_enter Try.func131, Try.ntmps131
  go_wp2_with (go_at_call 130; refine Hc.out.mono ?_; rintro e w' ⟨rfl, rfl⟩)
  go_ret
  exact ⟨retB Hd.out.symm, rfl⟩

/-! ### rowOf -/
def rowP (L : List (List Int)) (x : Int) : Int × Bool := if rowTo L x < 0 then (0, false) else (rowTo L x, true)
set_option maxRecDepth 100000 in
theorem rowOf_calls (a : Option Addr) (n c : Nat) (L : List (List Int)) (x : Int) (w : World) (h : ListsAt w a n c L) :
    Calls Try.prog 99 #[.slice a n c, .int .i64 x] w fun e w' => e = .returned (.tuple #[.int .i64 (rowP L x).1, .bool (rowP L x).2]) ∧ w = w' := by
  have hn : n ≤ 9223372036854775807 := Nat.le_trans h.le h.small
  go_enter Try.func99, Try.ntmps99
  go_wp2
  go_loop [10] (fun i => ∃ k : Nat, k ≤ n ∧ i = .int .i64 k ∧ ∀ j, j < k → Has (L.getD j []) x = false) (fun i => n - (intOf i).toNat)
  case atStart => exact ⟨0, Nat.zero_le _, rfl, fun _ h => absurd h (by omega)⟩
  case round =>
    obtain ⟨k, hk, rfl, hall⟩ := hrel
    have Hall := hid_ hall; clear hall
    by_cases hlt : k < n
    · obtain ⟨b, off, a', n', c', rfl, hb, hcell, hrow⟩ := h.cells k hlt
      generalize hr : L.getD k [] = r at hrow
      have Hr := hid_ hr; clear hr
      have hl : k < L.length := by rw [h.len]; exact hlt
      cases hh : Has r x with
      | true =>
        have Hf : Hid (rowP L x = ((k : Int), true)) := hid_ (by
          have := rowTo_hit hl Hall.out (by rw [Hr.out]; exact hh)
          rw [rowP, this, if_neg (by omega)])
        go_wp2_with (go_at_call 131; refine (contains_calls _ _ _ _ _ _ hrow).mono ?_; rintro e w' ⟨rfl, rfl⟩)
        go_ret2
        exact ⟨by rw [Hf.out]; rfl, rfl⟩
      | false =>
        go_wp2_with (go_at_call 131; refine (contains_calls _ _ _ _ _ _ hrow).mono ?_; rintro e w' ⟨rfl, rfl⟩)
        go_round
        case rel => exact ⟨k + 1, by omega, by go_num, lt_snoc Hall.out (by rw [Hr.out]; exact hh)⟩
        case measure => simp [intOf]; omega
    · have Hf : Hid (rowP L x = (0, false)) := hid_ (by
        have := rowTo_miss h.len fun j hj => Hall.out j (by omega)
        rw [rowP, this, if_pos (by omega)])
      go_wp2
      go_ret2
      exact ⟨by rw [Hf.out]; rfl, rfl⟩

/-! ### Grow, Concat -/
set_option maxRecDepth 100000 in
theorem grow_calls (n : Nat) (w : World) (hn : n ≤ 1000000) :
    Calls Try.prog 106 #[.slice none 0 0, .int .i64 n] w fun e w' => ∃ v, e = .returned v ∧ w'.ownsRow w.heap.size 3 1 v 0 [] ∧ Below w.heap.size w w' := by
  obtain ⟨i0, hi0, hz0, hz1, hz2⟩ := info_parts Try.infoInt
  by_cases h0 : n = 0
  · subst h0
    go_enter Try.func106, Try.ntmps106
    go_wp2
    go_ret
    exact ⟨_, rfl, World.ownsRow_nil _ _ _ _, Below.refl _ _⟩
  · have hp : (0 : Int) < (n : Int) := by omega
    have hrun : ∀ ty, (Builtin.append_ #[23, 3] ty #[.slice none 0 0, .int .i64 (n : Int)]).run Try.prog w =
        .ok (.slice (some ⟨w.heap.size, 0, none⟩) n (grownCap w n 0 3)) (w.drew.alloc (.cells (([] : List Value).toArray ++ Builtin.zeroCells (Value.int .i64 0).cells n ++ Builtin.zeroCells (Value.int .i64 0).cells (grownCap w n 0 3 - n)) 3)) := fun ty => by
      have hfit : Builtin.nextslicecap n 0 * i0.bytes ≤ 281474976710656 := by
        have := growslice_fits (need := n) (old := 0) (bytes := i0.bytes) (by omega) (by rw [hz2]; omega)
        exact this
      have := Lib.run_append_grow_zeros (P := Try.prog) w 23 3 ty 3 i0 (.int .i64 0) .i64 .i64 Try.underlying23 Try.underlying3 hi0 hz0 none 0 0 [] (by rw [hz1]; exact run_firstCells_none _ _ _ _ _) n (by omega) (by omega) (by omega) (by omega) (by rw [hz2]; omega) (by simpa using hfit)
      simpa using this
    have hge := grownCap_ge w n 0 3
    have hmx := grownCap_le_maxLen w n 0 3 (by unfold maxLen; omega)
    generalize grownCap w n 0 3 = G at hrun hge hmx
    have hG : G ≤ 9223372036854775807 := by unfold maxLen at hmx; omega
    have Hmx := hid_ hmx; clear hmx
    go_enter Try.func106, Try.ntmps106
    go_wp2_with (at_builtin; refine Lib.wpList_append_run _ rfl (.tmp 20) (.tmp 21) _ _ rfl _ _ rfl rfl _ _ (hrun _) ?_)
    go_ret
    refine ⟨_, rfl, World.ownsRow_made (base := w.heap.size) (e := 3) (size := 1) w.drew _ G (Nat.le_refl _) Hmx.out ?_, ((Below.refl _ w).drew.alloc (Nat.le_refl _) _)⟩
    rw [Array.size_append, size_zeroCells, size_zeroCells]
    simp
    omega
end Go.Proofs.Ytoopgmoopmbfnaa
namespace Go.Proofs.Ytoopgmoopmbfnaa
open Go.RowKit Go.Proofs.Kv Go.Proofs.Snd

/-! ### Concat -/
theorem flat_take_len {L : List (List Int)} {k : Nat} (h : k < L.length) : (L.take (k + 1)).flatten.length = (L.take k).flatten.length + (L.getD k []).length := by
  rw [flat_snoc L k h, List.length_append]
set_option maxRecDepth 100000 in
theorem concat_calls (a : Option Addr) (n c : Nat) (L : List (List Int)) (w : World) (h : ListsAt w a n c L) (hs : L.flatten.length ≤ 100000) :
    Calls Try.prog 61 #[.slice a n c] w fun e w' => ∃ v, e = .returned v ∧ Made 3 w w' v L.flatten := by
  have hn : n ≤ 9223372036854775807 := Nat.le_trans h.le h.small
  obtain ⟨i0, hi0, hz0, hz1, hz2⟩ := info_parts Try.infoInt
  have Hs := hid_ hs; clear hs
  go_enter Try.func61, Try.ntmps61
  go_wp2
  go_loop [3, 11] (fun s i => ∃ k : Nat, k ≤ n ∧ i = .int .i64 k ∧ s = .int .i64 ((L.take k).flatten.length : Nat)) (fun _ i => n - (intOf i).toNat)
  case atStart => exact ⟨0, Nat.zero_le _, rfl, rfl⟩
  case round =>
    obtain ⟨k, hk, rfl, rfl⟩ := hrel
    have hle := Nat.le_trans (flat_take_le L k) Hs.out
    by_cases hlt : k < n
    · obtain ⟨b, off, a', n', c', rfl, hb, hcell, hrow⟩ := h.cells k hlt
      have hl : k < L.length := by rw [h.len]; exact hlt
      have hle1 := Nat.le_trans (flat_take_le L (k + 1)) Hs.out
      have hnx := flat_take_len hl
      rw [hrow.len] at hnx
      rw [hnx] at hle1
      have Hnx := hid_ hnx; clear hnx
      generalize (L.take k).flatten.length = s at hle hle1 Hnx
      go_wp2
      go_round
      case rel => exact ⟨k + 1, by omega, by go_num, by rw [Hnx.out]; go_num⟩
      case measure => simp [intOf]; omega
    · obtain rfl : k = n := by omega
      generalize (L.take k).flatten.length = s at hle
      go_wp2_with (go_at_call 106; refine (grow_calls _ _ (by omega)).mono ?_; rintro e w1 ⟨v0, rfl, hown0, hb0⟩)
      go_loopw [6, 27] (fun v i wr => ∃ j : Nat, j ≤ k ∧ i = .int .i64 j ∧ wr.ownsRow w.heap.size 3 1 v (L.take j).flatten.length ((L.take j).flatten.map (Value.int .i64)) ∧ Below w.heap.size w wr) (fun _ i _ => k - (intOf i).toNat)
      case atStart => exact ⟨0, by omega, rfl, by simpa using hown0, hb0⟩
      case round =>
        obtain ⟨j, hj, rfl, hown, hbel⟩ := hrel
        have hsz := hbel.size
        by_cases hlt2 : j < k
        · have hI := h.below hbel (Nat.le_refl _)
          have hl : j < L.length := by rw [h.len]; exact hlt2
          obtain ⟨b, off, a1, n1, c1, rfl, hb, hcell, hrow⟩ := hI.cells j hlt2
          have hf := flat_snoc L j hl
          generalize hy : L.getD j [] = y at hrow hf
          have Hf := hid_ hf; clear hf
          have Hy := hid_ hy; clear hy
          have hs1 : (L.take j).flatten.length + n1 ≤ 1000000 := by
            have h1 := flat_take_le L (j + 1)
            rw [Hf.out, List.length_append, hrow.len] at h1
            have := Hs.out
            omega
          have Hlen : Hid (y.length = n1) := hid_ hrow.len
          go_wp2_with (at_builtin; refine wpList_append_ints _ rfl (.tmp 31) (.tmp 32) _ rfl w.heap.size 3 i0 Try.underlying23 hi0 hz0 hz1 hz2 _ _ _ rfl hown _ _ _ _ rfl hrow hs1 hsz ?_; intro v' w2 hown1 hg1 hat1)
          go_roundw
          case rel => exact ⟨j + 1, by omega, by go_num, by rw [Hf.out, List.length_append, Hlen.out]; exact hown1, below_app0 hbel hsz hown hg1⟩
          case measure => simp [intOf]; omega
        · obtain rfl : j = k := by omega
          have Hf : Hid (L.take j = L) := hid_ (by rw [List.take_of_length_le]; rw [h.len]; omega)
          go_wp2
          go_ret
          exact ⟨_, rfl, by have := hown; rw [Hf.out] at this; exact this, hbel⟩

/-! ### hasTwice -/
/-- the block S says which sounds are in p -/
structure SeenAt (w : World) (S : Nat) (p : List Int) : Prop where
  cell : ∀ x : Int, 0 ≤ x → x ≤ 5 → w.cell? ⟨S, x.toNat, none⟩ = some (.bool (Has p x))
  free : ∀ i, w.frozen? ⟨S, i, none⟩ = false
theorem SeenAt.put {w : World} {S : Nat} {p : List Int} (h : SeenAt w S p) {x : Int} (h0 : 0 ≤ x) (h5 : x ≤ 5) : SeenAt (w.setCell ⟨S, x.toNat, none⟩ (.bool true)) S (p ++ [x]) := by
  refine ⟨fun y hy0 hy5 => ?_, fun i => by rw [World.frozen?_setCell]; exact h.free i⟩
  by_cases he : y = x
  · subst he
    rw [World.cell?_setCell_same _ _ _ (h.cell y h0 h5), Has_snoc]
    simp
  · rw [World.cell?_setCell_other _ _ _ _ (by intro e; injection e with _ e2; omega), h.cell y hy0 hy5, Has_snoc]
    have : (x == y) = false := by simp; omega
    rw [this, Bool.or_false]
theorem seen_sub (L : List (List Int)) {k j : Nat} (hk : k < L.length) : (seen L k j).Sublist L.flatten := by
  have h1 : (seen L k j).Sublist (seen L (k + 1) 0) := by
    rw [seen_zero, flat_snoc L k hk, seen]
    exact List.Sublist.append_left (List.take_sublist _ _) _
  refine h1.trans ?_
  rw [seen_zero]
  have : L.flatten = (L.take (k + 1)).flatten ++ (L.drop (k + 1)).flatten := by rw [← List.flatten_append, List.take_append_drop]
  rw [this]
  exact List.sublist_append_left _ _
theorem dup_seen {L : List (List Int)} {k j : Nat} {z : Int} (hk : k < L.length) (hsn : seen L k (j + 1) = seen L k j ++ [z]) (hh : Has (seen L k j) z = true) : dup L.flatten = true := by
  rw [dup_eq, decide_eq_true_eq]
  intro hn
  have := hn.sublist (seen_sub L (j := j + 1) hk)
  rw [hsn, nodup_snoc] at this
  exact this.2 (Has_iff.1 hh)

set_option maxRecDepth 100000 in
theorem hasTwice_calls (a : Option Addr) (n c : Nat) (L : List (List Int)) (w : World) (h : ListsAt w a n c L) (hok : ∀ r ∈ L, ∀ x ∈ r, 0 ≤ x ∧ x ≤ 5) :
    Calls Try.prog 105 #[.slice a n c] w fun e w' => e = .returned (.bool (dup L.flatten)) ∧ Below w.heap.size w w' := by
  have hn : n ≤ 9223372036854775807 := Nat.le_trans h.le h.small
  go_enter Try.func105, Try.ntmps105
  go_wp2
  go_loopw [10] (fun i wr => ∃ k : Nat, k ≤ n ∧ i = .int .i64 k ∧ (seen L k 0).Nodup ∧ SeenAt wr w.heap.size (seen L k 0) ∧ Below w.heap.size w wr) (fun i _ => n - (intOf i).toNat)
  case atStart =>
    refine ⟨0, Nat.zero_le _, rfl, by simp [seen], ⟨fun x h0 h5 => ?_, fun i => World.frozen?_alloc_at _ _ _ _ (by rfl)⟩, (Below.refl _ w).alloc (Nat.le_refl _) _⟩
    rw [World.cell?_alloc_at _ _ _ _ (by rfl)]
    have : x = 0 ∨ x = 1 ∨ x = 2 ∨ x = 3 ∨ x = 4 ∨ x = 5 := by omega
    rcases this with rfl | rfl | rfl | rfl | rfl | rfl <;> rfl
  case round =>
    obtain ⟨k, hk, rfl, hnd, hS, hbel⟩ := hrel
    have hsz := hbel.size
    by_cases hlt : k < n
    · have hI := h.below hbel (Nat.le_refl _)
      obtain ⟨b, off, a1, n1, c1, rfl, hb, hcell, hrow⟩ := h.cells k hlt
      have hcell' := (hbel.cell (p := ⟨b, off + k, none⟩) hb).trans hcell
      have hl : k < L.length := by rw [h.len]; exact hlt
      have Hl := hid_ hl; clear hl
      have hn1 : n1 ≤ 9223372036854775807 := Nat.le_trans hrow.le hrow.small
      have Hrok : Hid (∀ x ∈ L.getD k [], 0 ≤ x ∧ x ≤ 5) := hid_ (hok _ (by simp [List.getD, List.getElem?_eq_getElem Hl.out]))
      clear hI hcell
      go_wp2
      obtain ⟨wo, rfl⟩ : ∃ wo : World, wo = wr := ⟨_, rfl⟩
      go_loopw [16] (fun i wr => ∃ j : Nat, j ≤ n1 ∧ i = .int .i64 j ∧ (seen L k j).Nodup ∧ SeenAt wr w.heap.size (seen L k j) ∧ Below w.heap.size w wr) (fun i _ => n1 - (intOf i).toNat)
      case atStart => exact ⟨0, Nat.zero_le _, rfl, hnd, hS, hbel⟩
      case round =>
        obtain ⟨j, hj, rfl, hnd2, hS2, hbel2⟩ := hrel
        have Hnd2 := hid_ hnd2; clear hnd2
        by_cases hlt2 : j < n1
        · have hrow2 := hrow.below hbel2 (Nat.le_refl _)
          obtain ⟨b3, off3, rfl, hb3, hcell3⟩ := hrow2.cells j hlt2
          have hjl : j < (L.getD k []).length := by rw [hrow.len]; exact hlt2
          have Hsn : Hid (seen L k (j + 1) = seen L k j ++ [(L.getD k []).getD j 0]) := hid_ (seen_snoc hjl)
          have hrz := Hrok.out _ (getD_mem hjl)
          generalize hz : (L.getD k []).getD j 0 = z at hcell3 Hsn hrz
          clear hz hjl
          obtain ⟨hz0, hz5⟩ := hrz
          have hcS := hS2.cell z hz0 hz5
          have hfS := hS2.free z.toNat
          cases hh : Has (seen L k j) z with
          | true =>
            have Hf : Hid (dup L.flatten = true) := hid_ (dup_seen Hl.out Hsn.out hh)
            rw [hh] at hcS
            have Hh := hid_ hh; clear hh
            go_wp2
            go_ret
            exact ⟨retB Hf.out, hbel2⟩
          | false =>
            rw [hh] at hcS
            have Hh := hid_ hh; clear hh
            go_wp2
            go_roundw
            case rel => exact ⟨j + 1, by omega, by go_num, by rw [Hsn.out, nodup_snoc]; exact ⟨Hnd2.out, fun e => by have := Hh.out; rw [Has_iff.2 e] at this; cases this⟩, by rw [Hsn.out]; exact hS2.put hz0 hz5, hbel2.setCell (Nat.le_refl _) _⟩
            case measure => simp [intOf]; omega
        · obtain rfl : j = n1 := by omega
          have Hse := hid_ (seen_row Hl.out hrow.len)
          go_wp2
          go_roundw
          case rel => exact ⟨k + 1, by omega, by go_num, by rw [← Hse.out]; exact Hnd2.out, by rw [← Hse.out]; exact hS2, hbel2⟩
          case measure => simp [intOf]; omega
    · have Hf : Hid (dup L.flatten = false) := hid_ (by
        rw [seen_zero, List.take_of_length_le (by rw [h.len]; omega)] at hnd
        exact (dup_iff _).2 hnd)
      go_wp2
      go_ret
      exact ⟨retB Hf.out, hbel⟩
end Go.Proofs.Ytoopgmoopmbfnaa
namespace Go.Proofs.Ytoopgmoopmbfnaa
open Go.RowKit Go.Proofs.Kv Go.Proofs.Snd

/-! ### isSet -/
theorem IsSet_asc {l : List Int} {m : Int} {n : Nat} (hl : l.length = n) (h : ∀ j, 0 < j → j < n → ¬ (l.getD j 0 ≤ l.getD (j - 1) 0)) : IsSet l 0 (m - 1) = AllB l m := by
  have key : ∀ i, i < n → (!setBad l 0 (m - 1) i) = (decide (0 ≤ l.getD i 0) && decide (l.getD i 0 < m)) := by
    intro i hi
    have h2 : (decide (0 < i) && decide (l.getD i 0 ≤ l.getD (i - 1) 0)) = false := by
      by_cases h0 : 0 < i
      · rw [decide_eq_false (h i h0 hi), Bool.and_false]
      · rw [decide_eq_false h0, Bool.false_and]
    have h3 : decide (l.getD i 0 ≤ m - 1) = decide (l.getD i 0 < m) := by rw [decide_eq_decide]; omega
    rw [setBad, h2, Bool.or_false, Bool.not_not, Within, h3]
  cases hA : AllB l m with
  | true =>
    refine IsSet_yes hl fun j hj => ?_
    rw [AllB, List.all_eq_true] at hA
    have := hA _ (getD_mem (l := l) (k := j) (by omega))
    rw [← key j hj, Bool.not_eq_true'] at this
    exact this
  | false =>
    rw [Bool.eq_false_iff] at hA ⊢
    intro hI
    refine hA (AllB_yes hl fun j hj => ?_)
    rw [IsSet, List.all_eq_true] at hI
    have := hI j (by rw [List.mem_range, hl]; exact hj)
    rwa [key j hj] at this

set_option maxRecDepth 100000 in
theorem sndIsSet_calls (a : Option Addr) (n c : Nat) (l : List Int) (m : Int) (w : World) (h : IntsAt w a n c l) :
    Calls Try.prog 93 #[.slice a n c, .int .i64 m] w fun e w' => e = .returned (.bool (IsSet l 0 (m - 1))) ∧ ∃ q, w' = w.drewN q := by
  have hn : n ≤ 9223372036854775807 := Nat.le_trans h.le h.small
  go_enter Try.func93, Try.ntmps93
  go_wp2
  go_loopw [5] (fun i wr => ∃ k q : Nat, 1 ≤ k ∧ (k ≤ n ∨ k = 1) ∧ i = .int .i64 k ∧ wr = w.drewN q ∧ ∀ j, 0 < j → j < k → ¬ (l.getD j 0 ≤ l.getD (j - 1) 0)) (fun i _ => n + 1 - (intOf i).toNat)
  case atStart => exact ⟨1, 0, Nat.le_refl _, .inr rfl, rfl, rfl, fun _ h h' => absurd h (by omega)⟩
  case round =>
    obtain ⟨k, q, hk1, hk, rfl, hq, hall⟩ := hrel
    have hI : IntsAt wr a n c l := by rw [hq]; exact h.drewN q
    have Hq := hid_ hq; clear hq
    have Hall := hid_ hall; clear hall
    by_cases hlt : k < n
    · obtain ⟨b, off, rfl, hb, hcell⟩ := hI.cells k hlt
      have hcell2 : wr.cell? ⟨b, off + (k - 1), none⟩ = some (.int .i64 (l.getD (k - 1) 0)) := by
        obtain ⟨b', off', e, _, hc⟩ := hI.cells (k - 1) (by omega)
        injection e with e; injection e with e1 e2; subst e1; subst e2; exact hc
      have hl : k < l.length := by rw [h.len]; exact hlt
      have Hbad : Hid (∀ y z, l.getD k 0 = y → l.getD (k - 1) 0 = z → y ≤ z → IsSet l 0 (m - 1) = false) := hid_ fun y z hy hz hyz => IsSet_no hl (by
        rw [setBad, hy, hz, decide_eq_true (show 0 < k by omega), decide_eq_true hyz]; simp)
      generalize hy : l.getD k 0 = y at hcell
      generalize hz : l.getD (k - 1) 0 = z at hcell2
      have Hy := hid_ hy; clear hy
      have Hz := hid_ hz; clear hz
      have hk1' : (0 : Int) ≤ (k : Int) - 1 := by omega
      have hk2 : (k : Int) - 1 < (n : Int) := by omega
      have hk3 : ((k : Int) - 1).toNat = k - 1 := by omega
      have hw1 : IntKind.i64.wrap ((k : Int) - 1) = (k : Int) - 1 := IntWalk.i64_in _ (by omega)
      by_cases hyz : y ≤ z
      · have Hf := hid_ (Hbad.out y z Hy.out Hz.out hyz)
        clear Hbad
        go_wp2
        go_quiet (fail)
        clear hk3 hw1
        go_wp2
        go_ret
        exact ⟨retB Hf.out, _, by rw [Hq.out, drewN2]⟩
      · have hyz' : ¬ (y ≤ z) := hyz
        clear Hbad
        go_wp2
        go_quiet (fail)
        clear hk3 hw1
        go_wp2
        go_roundw
        case rel => exact ⟨k + 1, _, by omega, by omega, by go_num, by rw [Hq.out, drewN2], fun j h0 hj => by
          rcases Nat.lt_succ_iff_lt_or_eq.1 hj with h1 | rfl
          · have := Hall.out j h0 h1; omega
          · rw [Hy.out, Hz.out]; omega⟩
        case measure => simp [intOf]; omega
    · have Hf : Hid (IsSet l 0 (m - 1) = AllB l m) := hid_ (IsSet_asc h.len fun j h0 hj => by have := Hall.out j h0 (by omega); omega)
      go_wp2_with (go_at_call 104; refine (allBelow_calls _ _ _ _ _ _ hI).mono ?_; rintro e w' ⟨rfl, rfl⟩)
      go_ret
      exact ⟨retB Hf.out, _, Hq.out⟩

/-! ### isOrder -/
theorem perm_of_sub : ∀ {a l : List Int}, a.Nodup → (∀ x ∈ a, x ∈ l) → l.length ≤ a.length → l.Perm a
  | [], l, _, _, h => by rw [List.eq_nil_of_length_eq_zero (Nat.le_zero.1 h)]
  | x :: a, l, hn, hs, hl => by
    have hx := hs x (by simp)
    have hp := List.perm_cons_erase hx
    rw [List.nodup_cons] at hn
    have hle : (l.erase x).length ≤ a.length := by
      rw [List.length_erase_of_mem hx]; simp at hl; omega
    refine hp.trans ((perm_of_sub hn.2 (fun y hy => ?_) hle).cons x)
    have := hs y (by simp [hy])
    rcases List.mem_cons.1 (hp.mem_iff.1 this) with e | e
    · subst e; exact absurd hy hn.1
    · exact e
def rangeI (n : Nat) : List Int := (List.range n).map fun i : Nat => (i : Int)
theorem mem_rangeI {n : Nat} {x : Int} : x ∈ rangeI n ↔ 0 ≤ x ∧ x < n := by
  simp only [rangeI, List.mem_map, List.mem_range]
  constructor
  · rintro ⟨i, hi, rfl⟩; omega
  · intro h; exact ⟨x.toNat, by omega, by omega⟩
theorem nodup_rangeI (n : Nat) : (rangeI n).Nodup := by
  rw [rangeI, List.nodup_iff_pairwise_ne]
  exact List.pairwise_map.2 (List.nodup_range.imp fun h e => h (by omega))
theorem len_rangeI (n : Nat) : (rangeI n).length = n := by simp [rangeI]
theorem IsOrd_perm {l : List Int} {n : Nat} : IsOrd l n = true ↔ l.Perm (rangeI n) := by
  constructor
  · intro h
    simp only [IsOrd, Bool.and_eq_true, decide_eq_true_eq, List.all_eq_true, List.mem_range] at h
    refine perm_of_sub (nodup_rangeI n) (fun x hx => ?_) (by rw [len_rangeI]; omega)
    rw [mem_rangeI] at hx
    have := h.2 x.toNat (by omega)
    rw [Has_iff] at this
    rwa [Int.toNat_of_nonneg hx.1] at this
  · intro h
    simp only [IsOrd, Bool.and_eq_true, decide_eq_true_eq, List.all_eq_true, List.mem_range]
    refine ⟨by rw [h.length_eq, len_rangeI], fun i hi => ?_⟩
    rw [Has_iff, h.mem_iff, mem_rangeI]
    simp at hi; omega
theorem IsOrd_eq {l : List Int} {n : Nat} (hl : l.length = n) : IsOrd l n = (AllB l n && !dup l) := by
  rw [Bool.eq_iff_iff, IsOrd_perm, Bool.and_eq_true, Bool.not_eq_true', dup_iff]
  constructor
  · intro h
    refine ⟨?_, h.symm.nodup (nodup_rangeI n)⟩
    rw [AllB, List.all_eq_true]
    intro x hx
    have := mem_rangeI.1 (h.mem_iff.1 hx)
    simp; omega
  · rintro ⟨h1, h2⟩
    refine (perm_of_sub h2 (fun x hx => ?_) (by rw [len_rangeI]; omega)).symm
    rw [AllB, List.all_eq_true] at h1
    have := h1 x hx
    rw [mem_rangeI]
    simp at this; omega

set_option maxRecDepth 100000 in
theorem sndIsOrder_calls (a : Option Addr) (n c : Nat) (l : List Int) (m : Int) (w : World) (h : IntsAt w a n c l) (hm : m ≤ 6) :
    Calls Try.prog 60 #[.slice a n c, .int .i64 m] w fun e w' => e = .returned (.bool (IsOrd l m)) ∧ Below w.heap.size w w' := by
  by_cases he : (n : Int) = m
  · subst he
    have hq : ((n : Int) == (n : Int)) = true := by simp
    have hq' : (n : Int) = (n : Int) := rfl
    have Hord := hid_ (IsOrd_eq (n := n) h.len)
    cases hA : AllB l (n : Int) with
    | false =>
      have Hf : Hid (IsOrd l (n : Int) = false) := hid_ (by rw [Hord.out, hA]; rfl)
      clear hq'
      go_enter Try.func60, Try.ntmps60
      go_wp2_with (go_at_call 104; refine (allBelow_calls _ _ _ _ _ _ h).mono ?_; rintro e w' ⟨rfl, rfl⟩)
      go_ret
      exact ⟨retB Hf.out, Below.refl _ _⟩
    | true =>
      have Hf : Hid (IsOrd l (n : Int) = !dup l) := hid_ (by rw [Hord.out, hA]; rfl)
      have Hok : Hid (∀ r ∈ [l], ∀ x ∈ r, 0 ≤ x ∧ x ≤ 5) := hid_ (by
        intro r hr x hx
        rw [List.mem_singleton] at hr
        subst hr
        rw [AllB, List.all_eq_true] at hA
        have := hA x hx
        simp at this; omega)
      have hL : ListsAt (w.alloc (.cells #[.slice a n c] 23)) (some ⟨w.heap.size, 0, none⟩) 1 1 [l] :=
        ⟨rfl, Nat.le_refl _, by omega, fun i hi => ⟨w.heap.size, 0, a, n, c, rfl, by simp, by
          obtain rfl : i = 0 := by omega
          rw [World.cell?_alloc_at _ _ _ _ (by rfl)]; rfl, by
          obtain rfl : i = 0 := by omega
          exact h.below ((Below.refl w.heap.size w).alloc (Nat.le_refl _) _) (Nat.le_refl _)⟩⟩
      have hht := hasTwice_calls _ _ _ _ _ hL Hok.out
      have hfl : [l].flatten = l := by simp
      rw [hfl] at hht
      have Hht := hid_ hht; clear hht hfl hL hq'
      generalize dup l = d at Hht Hf
      go_enter Try.func60, Try.ntmps60
      go_wp2_with (first
        | (go_at_call 104; refine (allBelow_calls _ _ _ _ _ _ h).mono ?_; rintro e w' ⟨rfl, rfl⟩)
        | (go_at_call 105; refine Hht.out.mono ?_; rintro e w' ⟨rfl, hb⟩))
      go_ret
      exact ⟨retB Hf.out, ((Below.refl w.heap.size w).alloc (Nat.le_refl _) _).trans (hb.mono (by simp))⟩
  · have hq : ((n : Int) == m) = false := by simpa using he
    have Hf : Hid (IsOrd l m = false) := hid_ (by simp [IsOrd, h.len, he])
    have He := hid_ he; clear he
    go_enter Try.func60, Try.ntmps60
    go_wp2
    go_ret
    exact ⟨retB Hf.out, Below.refl _ _⟩

/-! ### Validate -/
theorem okRow_all {r : List Int} {n : Nat} (hn : r.length = n) (h0 : 0 < n) : okRow r = AllB r 6 := by
  have h2 : r.isEmpty = false := by cases r with | nil => simp at hn; omega | cons _ _ => rfl
  have h3 : r.all okS = AllB r 6 := by
    rw [AllB]
    congr 1
    funext x
    have : decide (x ≤ 5) = decide (x < 6) := by rw [decide_eq_decide]; omega
    rw [okS, this]
  simp [okRow, h2, h3]
theorem okRow_mem {r : List Int} (h : okRow r = true) : ∀ x ∈ r, 0 ≤ x ∧ x ≤ 5 := by
  intro x hx
  simp only [okRow, Bool.and_eq_true, List.all_eq_true] at h
  have := h.2 x hx
  simp [okS] at this
  exact this

set_option maxRecDepth 100000 in
theorem sndValidate_calls (a : Option Addr) (n c : Nat) (L : List (List Int)) (w : World) (h : ListsAt w a n c L) :
    Calls Try.prog 59 #[.slice a n c] w fun e w' => e = .returned (.int .i64 (validT L)) ∧ Below w.heap.size w w' := by
  have hn : n ≤ 9223372036854775807 := Nat.le_trans h.le h.small
  by_cases h1 : n < 1
  · have Hf : Hid (validT L = 3) := hid_ (by rw [validT, if_pos (by rw [h.len]; omega)])
    go_enter Try.func59, Try.ntmps59
    go_wp2
    go_ret
    exact ⟨retI Hf.out, Below.refl _ _⟩
  · by_cases h6 : 6 < n
    · have Hf : Hid (validT L = 3) := hid_ (by rw [validT, if_pos (by rw [h.len]; omega)])
      go_enter Try.func59, Try.ntmps59
      go_wp2
      go_ret
      exact ⟨retI Hf.out, Below.refl _ _⟩
    · have H6 : Hid (¬ (L.length = 0 ∨ 6 < L.length)) := hid_ (by rw [h.len]; omega)
      go_enter Try.func59, Try.ntmps59
      go_wp2
      go_loop [15] (fun i => ∃ k : Nat, k ≤ n ∧ i = .int .i64 k ∧ ∀ j, j < k → okRow (L.getD j []) = true) (fun i => n - (intOf i).toNat)
      case atStart => exact ⟨0, Nat.zero_le _, rfl, fun _ h => absurd h (by omega)⟩
      case round =>
        obtain ⟨k, hk, rfl, hall⟩ := hrel
        have Hall := hid_ hall; clear hall
        by_cases hlt : k < n
        · obtain ⟨b, off, a', n', c', rfl, hb, hcell, hrow⟩ := h.cells k hlt
          generalize hr : L.getD k [] = r at hrow
          have Hr := hid_ hr; clear hr
          have hl : k < L.length := by rw [h.len]; exact hlt
          by_cases hz : n' = 0
          · subst hz
            have Hf : Hid (validT L = 1) := hid_ (val_row H6.out hl (by rw [Hr.out, List.eq_nil_of_length_eq_zero hrow.len]; rfl))
            go_wp2
            go_ret
            exact ⟨retI Hf.out, Below.refl _ _⟩
          · have hz' : ((n' : Int) == 0) = false := by simp; omega
            have Hok := hid_ (okRow_all hrow.len (Nat.pos_of_ne_zero hz))
            have Hz := hid_ hz; clear hz
            cases hA : AllB r 6 with
            | false =>
              have Hf : Hid (validT L = 1) := hid_ (val_row H6.out hl (by rw [Hr.out, Hok.out]; exact hA))
              go_wp2_with (go_at_call 104; refine (allBelow_calls _ _ _ _ _ _ hrow).mono ?_; rintro e w' ⟨rfl, rfl⟩)
              go_ret
              exact ⟨retI Hf.out, Below.refl _ _⟩
            | true =>
              go_wp2_with (go_at_call 104; refine (allBelow_calls _ _ _ _ _ _ hrow).mono ?_; rintro e w' ⟨rfl, rfl⟩)
              go_round
              case rel => exact ⟨k + 1, by omega, by go_num, lt_snoc Hall.out (by rw [Hr.out, Hok.out]; exact hA)⟩
              case measure => simp [intOf]; omega
        · have Hrows : Hid (L.all okRow = true) := hid_ (val_rows h.len fun j hj => Hall.out j (by omega))
          have Hm : Hid (∀ r ∈ L, ∀ x ∈ r, 0 ≤ x ∧ x ≤ 5) := hid_ fun r hr => okRow_mem ((List.all_eq_true.1 Hrows.out) r hr)
          have hht := hasTwice_calls _ _ _ _ _ h Hm.out
          cases hd : dup L.flatten with
          | true =>
            have Hf : Hid (validT L = 5) := hid_ (by rw [validT, if_neg H6.out, Hrows.out, hd]; rfl)
            rw [hd] at hht
            have Hht := hid_ hht; clear hht
            go_wp2_with (go_at_call 105; refine Hht.out.mono ?_; rintro e w' ⟨rfl, hb⟩)
            go_ret
            exact ⟨retI Hf.out, hb⟩
          | false =>
            have Hf : Hid (validT L = 0) := hid_ (by rw [validT, if_neg H6.out, Hrows.out, hd]; rfl)
            rw [hd] at hht
            have Hht := hid_ hht; clear hht
            go_wp2_with (go_at_call 105; refine Hht.out.mono ?_; rintro e w' ⟨rfl, hb⟩)
            go_ret
            exact ⟨retI Hf.out, hb⟩
end Go.Proofs.Ytoopgmoopmbfnaa
namespace Go.Proofs.Ytoopgmoopmbfnaa
open Go.RowKit Go.Proofs.Kv Go.Proofs.Snd

/-! ### ValidateFamily -/
set_option maxRecDepth 100000 in
theorem sndFamily_calls (m : Int) (a : Option Addr) (n c : Nat) (F : List (List Int)) (w : World) (h : ListsAt w a n c F) :
    Calls Try.prog 55 #[.int .i64 m, .slice a n c] w fun e w' => e = .returned (.int .i64 (famErr m F)) ∧ ∃ q, w' = w.drewN q := by
  have hn : n ≤ 9223372036854775807 := Nat.le_trans h.le h.small
  by_cases hm1 : m < 1
  · have Hf : Hid (famErr m F = 1) := hid_ (by
      have : Within m 1 6 = false := by simp [Within]; omega
      simp [famErr, this])
    go_enter Try.func55, Try.ntmps55
    go_wp2
    go_ret
    exact ⟨retI Hf.out, 0, rfl⟩
  · by_cases hm2 : 6 < m
    · have Hf : Hid (famErr m F = 1) := hid_ (by
        have : Within m 1 6 = false := by simp [Within]; omega
        simp [famErr, this])
      go_enter Try.func55, Try.ntmps55
      go_wp2
      go_ret
      exact ⟨retI Hf.out, 0, rfl⟩
    · have Hw : Hid (Within m 1 6 = true) := hid_ (by simp [Within]; omega)
      by_cases h6 : 6 < n
      · have Hf : Hid (famErr m F = 3) := hid_ (by simp [famErr, Hw.out, h.len, h6])
        go_enter Try.func55, Try.ntmps55
        go_wp2
        go_ret
        exact ⟨retI Hf.out, 0, rfl⟩
      · go_enter Try.func55, Try.ntmps55
        go_wp2
        go_loopw [18] (fun i wr => ∃ k q : Nat, k ≤ n ∧ i = .int .i64 k ∧ wr = w.drewN q ∧ ∀ j, j < k → famGood m (F.getD j []) = true) (fun i _ => n - (intOf i).toNat)
        case atStart => exact ⟨0, 0, Nat.zero_le _, rfl, rfl, fun _ h => absurd h (by omega)⟩
        case round =>
          obtain ⟨k, q, hk, rfl, hq, hall⟩ := hrel
          have hI : ListsAt wr a n c F := by rw [hq]; exact h.drewN q
          have Hq := hid_ hq; clear hq
          have Hall := hid_ hall; clear hall
          by_cases hlt : k < n
          · obtain ⟨b, off, a', n', c', rfl, hb, hcell, hrow⟩ := hI.cells k hlt
            generalize hr : F.getD k [] = r at hrow
            have Hr := hid_ hr; clear hr
            have hl : k < F.length := by rw [h.len]; exact hlt
            by_cases hz : n' = 0
            · subst hz
              have Hf : Hid (famErr m F = 1) := hid_ (by
                have hr0 : r = [] := List.eq_nil_of_length_eq_zero hrow.len
                have : F.all (famGood m) = false := fam_no hl (by rw [Hr.out, hr0]; rfl)
                simp [famErr, Hw.out, h.len, h6, this])
              go_wp2
              go_ret
              exact ⟨retI Hf.out, _, Hq.out⟩
            · have hz' : ((n' : Int) == 0) = false := by simp; omega
              have hne : r.isEmpty = false := by
                cases hr1 : r with
                | nil => rw [hr1] at hrow; exact absurd hrow.len.symm hz
                | cons _ _ => rfl
              have Hne := hid_ hne; clear hne
              have Hz := hid_ hz; clear hz
              have hsc := sndIsSet_calls _ _ _ _ m _ hrow
              have Hs : Hid (famGood m r = IsSet r 0 (m - 1)) := hid_ (by rw [famGood, Hne.out]; rfl)
              generalize IsSet r 0 (m - 1) = s at hsc Hs
              have Hsc := hid_ hsc; clear hsc
              cases s with
              | false =>
                have Hf : Hid (famErr m F = 1) := hid_ (by
                  have : F.all (famGood m) = false := fam_no hl (by rw [Hr.out, Hs.out])
                  simp [famErr, Hw.out, h.len, h6, this])
                go_wp2_with (go_at_call 93; refine Hsc.out.mono ?_; rintro e w' ⟨rfl, q', rfl⟩)
                go_ret
                exact ⟨retI Hf.out, _, by rw [Hq.out, drewN2]⟩
              | true =>
                go_wp2_with (go_at_call 93; refine Hsc.out.mono ?_; rintro e w' ⟨rfl, q', rfl⟩)
                go_roundw
                case rel => exact ⟨k + 1, _, by omega, by go_num, by rw [Hq.out, drewN2], lt_snoc Hall.out (by rw [Hr.out, Hs.out])⟩
                case measure => simp [intOf]; omega
          · have Hf : Hid (famErr m F = 0) := hid_ (by
              have : F.all (famGood m) = true := fam_yes h.len fun j hj => Hall.out j (by omega)
              rw [famErr, Hw.out, h.len, this]; simp [h6])
            go_wp2
            go_ret
            exact ⟨retI Hf.out, _, Hq.out⟩

/-! ### Sounds, Row -/
/-! ### span, fits -/
def sp1 (n : Nat) (f : Int) : Int := if f < 0 then (n : Int) else f
def spanL (o s : List Int) : Int × Int := (sp1 o.length (ends o s).1, (ends o s).2 + 1)
set_option maxRecDepth 100000 in
theorem span_calls (a' : Option Addr) (n' c' : Nat) (s : List Int) (a : Option Addr) (n c : Nat) (o : List Int) (w : World) (h' : IntsAt w a' n' c' s) (h : IntsAt w a n c o) :
    Calls Try.prog 100 #[.slice a' n' c', .slice a n c] w fun e w' => e = .returned (.tuple #[.int .i64 (spanL o s).1, .int .i64 (spanL o s).2]) ∧ w = w' := by
  have hn : n ≤ 9223372036854775807 := Nat.le_trans h.le h.small
  have Hlen : Hid (spanL o s = (sp1 n (endsTo o s n).1, (endsTo o s n).2 + 1)) := hid_ (by rw [spanL, ends, h.len])
  go_enter Try.func100, Try.ntmps100
  go_wp2
  go_loop [4, 5, 12] (fun f l i => ∃ k : Nat, k ≤ n ∧ i = .int .i64 k ∧ f = .int .i64 (sp1 n (endsTo o s k).1) ∧ l = .int .i64 ((endsTo o s k).2 + 1)) (fun _ _ i => n - (intOf i).toNat)
  case atStart => exact ⟨0, Nat.zero_le _, rfl, rfl, rfl⟩
  case round =>
    obtain ⟨k, hk, rfl, rfl, rfl⟩ := hrel
    by_cases hlt : k < n
    · obtain ⟨b, off, rfl, hb, hcell⟩ := h.cells k hlt
      have hbd := endsTo_bd o s k
      have Hnext : Hid (endsTo o s (k + 1) = if Has s (o.getD k 0) then (if (endsTo o s k).1 < 0 then (k : Int) else (endsTo o s k).1, (k : Int)) else endsTo o s k) := hid_ rfl
      generalize hy : o.getD k 0 = y at hcell Hnext
      have Hy := hid_ hy; clear hy
      generalize endsTo o s k = p at Hnext hbd
      obtain ⟨f, l⟩ := p
      simp only at hbd
      have Hbd := hid_ hbd; clear hbd
      by_cases hf : f < 0
      · have Hif : Hid (sp1 n f = n) := hid_ (if_pos hf)
        cases hh : Has s y with
        | true =>
          have Hf : Hid (endsTo o s (k + 1) = ((k : Int), (k : Int))) := hid_ (by rw [Hnext.out, hh]; simp [hf])
          have Hk : Hid (sp1 n (k : Int) = k) := hid_ (if_neg (by omega))
          have hmin : ¬ ((n : Int) ≤ (k : Int)) := by omega
          clear Hnext
          rw [Hif.out]
          go_wp2_with (go_at_call 131; refine (contains_calls _ _ _ _ _ _ h').mono ?_; rintro e w' ⟨rfl, rfl⟩)
          go_round
          case rel => exact ⟨k + 1, by omega, by go_num, by rw [Hf.out, Hk.out]; congr 1; omega, by rw [Hf.out]⟩
          case measure => simp [intOf]; omega
        | false =>
          have Hf : Hid (endsTo o s (k + 1) = (f, l)) := hid_ (by rw [Hnext.out, hh]; simp)
          clear Hnext
          rw [Hif.out]
          go_wp2_with (go_at_call 131; refine (contains_calls _ _ _ _ _ _ h').mono ?_; rintro e w' ⟨rfl, rfl⟩)
          go_round
          case rel => exact ⟨k + 1, by omega, by go_num, by rw [Hf.out, Hif.out], by rw [Hf.out]⟩
          case measure => simp [intOf]; omega
      · have Hif : Hid (sp1 n f = f) := hid_ (if_neg hf)
        have hfk : f < k := by
          rcases Hbd.out with h | ⟨_, h⟩
          · omega
          · injection h with h1 h2; omega
        cases hh : Has s y with
        | true =>
          have Hf : Hid (endsTo o s (k + 1) = (f, (k : Int))) := hid_ (by rw [Hnext.out, hh]; simp [hf])
          have hmin : f ≤ (k : Int) := by omega
          clear Hnext
          rw [Hif.out]
          go_wp2_with (go_at_call 131; refine (contains_calls _ _ _ _ _ _ h').mono ?_; rintro e w' ⟨rfl, rfl⟩)
          go_round
          case rel => exact ⟨k + 1, by omega, by go_num, by rw [Hf.out, Hif.out]; congr 1; omega, by rw [Hf.out]⟩
          case measure => simp [intOf]; omega
        | false =>
          have Hf : Hid (endsTo o s (k + 1) = (f, l)) := hid_ (by rw [Hnext.out, hh]; simp)
          clear Hnext
          rw [Hif.out]
          go_wp2_with (go_at_call 131; refine (contains_calls _ _ _ _ _ _ h').mono ?_; rintro e w' ⟨rfl, rfl⟩)
          go_round
          case rel => exact ⟨k + 1, by omega, by go_num, by rw [Hf.out, Hif.out], by rw [Hf.out]⟩
          case measure => simp [intOf]; omega
    · obtain rfl : k = n := by omega
      go_wp2
      go_ret2
      exact ⟨by rw [Hlen.out]; rfl, rfl⟩
end Go.Proofs.Ytoopgmoopmbfnaa
/-! A range over a function whose iterator hands out ONE slice, which it turns between two rounds: what the slice holds in round k is told to the body. -/
namespace Go.Proofs.Kv
open Go.RowKit Go

/-- The iterator's contract: B is the block that it makes first; x B is what it hands out; C B k W says what the block holds in round k; N rounds. -/
def SeqMem (F : Fence) (n : Nat) (P : Program) (g : Nat) (lb : Array Value) (x : Nat → Value) (C : Nat → Nat → World → Prop) (N : Nat) (G : World → Prop) : Prop :=
  ∀ (l : Nat) (J Jx : Nat → World → Prop) (W : World), (∀ k A, J k A → G A) → (∀ k A A', J k A → A.grownBy A' (some W.heap.size) → J k A') →
    (∀ k A, J k A → k < N → C W.heap.size k A → YieldAt F (n - 1) P l #[x W.heap.size] A fun e A' =>
      (e = .returned (.bool true) ∧ J (k + 1) A' ∧ A.heap.size ≤ A'.heap.size ∧ A'.heap[W.heap.size]? = A.heap[W.heap.size]?) ∨ (e = .returned (.bool false) ∧ Jx (k + 1) A')) →
    J 0 W →
    CallsIn F n P g (#[.func (.yield l) #[] #[]] ++ lb) W fun e W' => (∃ v, e = .returned v) ∧ (J N W' ∨ ∃ k, k ≤ N ∧ Jx k W')

/-- How the body of a round may be left. -/
def memPost (B : Nat) (I : Nat → World → Prop) (Ix : Code → Nat → World → Prop) (k : Nat) (W : World) : Exit → Act → World → Prop
  | .normal, _, W' => KeepsOthers W W' ∧ W'.heap[B]? = W.heap[B]? ∧ I k W'
  | .ret, _, W' => KeepsOthers W W' ∧ Ix .ret k W'
  | .exit id, _, W' => KeepsOthers W W' ∧ Ix (.exit id) k W'
  | .goto t, _, W' => KeepsOthers W W' ∧ Ix (.goto t) k W'
  | .panic _, _, _ => False
  | .outgrown, _, _ => False

/-- what may turn under an invariant of the caller's: the block B, and blocks that hold no cells -/
def Stays (B : Nat) (I : World → Prop) : Prop := ∀ A A' row, I A → A.grownBy A' row → (∀ r, row = some r → B ≤ r + 2 ∧ (r = B ∨ ∃ o : Obj, A.heap[r]? = some o ∧ o.isCells = false)) → I A'

theorem Stays.put {B : Nat} {I : World → Prop} (h : Stays B I) {W : World} {l : Nat} {o : Obj} (o' : Obj) (hs : I W) (hl : W.heap[l]? = some o) (ho : o.isCells = false) (hB : B ≤ l + 2) : I (W.putObj l o') :=
  h W _ (some l) hs (grownBy_putObj' W l o') fun r e => by cases e; exact ⟨hB, .inr ⟨o, hl, ho⟩⟩
theorem Stays.new {B : Nat} {I : World → Prop} (h : Stays B I) {W : World} (o : Obj) (hs : I W) : I (W.alloc o) :=
  h W _ none hs (World.grownBy_alloc W o none) fun r e => by cases e

variable {F : Fence} {n : Nat} {P : Program}

theorem wpIn_rangeFunc_mem {g : Operand} {ps : Array Tmp} {assign body : Code} {Q : Exit → Act → World → Prop} {a : Act} {w : World}
    (hro : F.round = none) (h1 : 1 ≤ n) {gf : Nat} {lb : Array Value} (hg : a.eval g = .func (.func gf) #[] lb) (hFg : F.fn gf) (eg : ∀ args w, (callFunc gf args).run P w = .ok (.enter gf args) w)
    {x : Nat → Value} {C : Nat → Nat → World → Prop} {N : Nat} {G : World → Prop} (hseq : SeqMem F (n - 1) P gf lb x C N G) (hps : ps.size = 1)
    (hC : ∀ k A A', C (w.heap.size + 2) k A → A'.heap[w.heap.size + 2]? = A.heap[w.heap.size + 2]? → C (w.heap.size + 2) k A')
    (I : Nat → World → Prop) (Ix : Code → Nat → World → Prop) (hIG : ∀ k A, I k A → G A) (hI : ∀ k, Stays (w.heap.size + 2) (I k)) (hIx : ∀ c k, Stays (w.heap.size + 2) (Ix c k)) (h0 : I 0 w) (a₁ : Act)
    (hassign : ∀ (l : Nat) (W : World) (K : Act → World → Prop), K a₁ W →
      assign.wpIn (F.inRound l) (n - 1 - 1) P (Exit.then K (fun _ _ _ => False)) { tmps := (ps.zip #[x (w.heap.size + 2)]).foldl (fun t (p, v) => t.setIfInBounds p v) a.tmps, defers := [] } W)
    (hbody : ∀ (l k : Nat) (W : World), I k W → k < N → C (w.heap.size + 2) k W → w.heap.size + 2 < W.heap.size → body.wpIn (F.inRound l) (n - 1 - 1) P (memPost (w.heap.size + 2) I Ix (k + 1) W) a₁ W)
    (hCB : ∀ k A, C (w.heap.size + 2) k A → w.heap.size + 2 < A.heap.size)
    (hdone : ∀ (D : Nat) (W : World), w.heap.size ≤ D → I N W → W.heap[D]? = some (.deferred (some [])) → Q .normal { a with defers := { target := .collected D, args := #[] } :: a.defers } W)
    (hstop : ∀ (D : Nat) (c : Code) (k : Nat) (W : World), w.heap.size ≤ D → k ≤ N → Ix c k W → W.heap[D]? = some (.deferred (some [])) → c.wpIn F n P Q { a with defers := { target := .collected D, args := #[] } :: a.defers } W) :
    (Code.rangeFunc g ps assign body).wpIn F n P Q a w := by
  refine wpIn_rangeFunc ?_
  intro fn hfn
  rw [hro]
  obtain ⟨rec, hrec⟩ : ∃ rec : LoopState → Option Code → Loop, rec = fun st pe => { state := st, pending := pe, fn, tmps := a.tmps, params := ps, assign, body, defers := w.heap.size } := ⟨_, rfl⟩
  obtain ⟨W1, hW1⟩ : ∃ W1, (w.alloc (.deferred (some []))).alloc (.loop (rec .ready none)) = W1 := ⟨_, rfl⟩
  have hL1 : W1.heap[w.heap.size + 1]? = some (.loop (rec .ready none)) := by
    rw [← hW1]; have := World.alloc_heap_new (w.alloc (.deferred (some []))) (.loop (rec .ready none)); rwa [World.size_alloc] at this
  have hK1 : W1.heap[w.heap.size]? = some (.deferred (some [])) := by
    rw [← hW1]; exact (Below.heap_alloc _ _ _ (by simp)).trans (World.alloc_heap_new w _)
  have hI1 : I 0 W1 := by rw [← hW1]; exact (hI 0).new _ ((hI 0).new _ h0)
  have hsz : W1.heap.size = w.heap.size + 2 := by rw [← hW1]; simp
  refine ⟨w.heap.size + 1, [{ target := .collected w.heap.size, args := #[] }], W1, { target := .fn (.func gf) lb, args := #[.func (.yield (w.heap.size + 1)) #[] #[]] }, W1, gf,
    #[.func (.yield (w.heap.size + 1)) #[] #[]] ++ lb, W1, ?_, ?_, ?_, ?_, fun _ => h1, ?_⟩
  · rw [← hW1, hrec]; exact run_enterLoop_outer _ _ _ _ _
  · simp only [resolve, hg]
    simp [go_sem]
  · intro f' hf'; simp [Target.leads] at hf'; subst hf'; exact hFg
  · simp [invoke, go_sem, eg]
  · refine (hseq (w.heap.size + 1)
      (fun k W => I k W ∧ W.heap[w.heap.size + 1]? = some (.loop (rec .ready none)) ∧ W.heap[w.heap.size]? = some (.deferred (some [])))
      (fun k W => ∃ c, Ix c k W ∧ W.heap[w.heap.size + 1]? = some (.loop (rec .done (some c))) ∧ W.heap[w.heap.size]? = some (.deferred (some [])))
      W1 (fun k A h => hIG k A h.1) ?_ ?_ ⟨hI1, hL1, hK1⟩).mono ?_
    · rintro k A A' ⟨hi, hl, hk⟩ hg'
      rw [hsz] at hg'
      refine ⟨hI k A A' _ hi hg' fun r e => by cases e; exact ⟨by omega, .inl rfl⟩, ?_, ?_⟩
      · rw [hg'.block _ (Array.getElem?_eq_some_iff.1 hl).1 (by simp)]; exact hl
      · rw [hg'.block _ (Array.getElem?_eq_some_iff.1 hk).1 (by simp)]; exact hk
    · rintro k W ⟨hi, hl, hk⟩ hlen hc
      rw [hsz] at hc ⊢
      have hlt : w.heap.size + 1 < W.heap.size := (Array.getElem?_eq_some_iff.1 hl).1
      have hBs := hCB k W hc
      have hy := run_yield (P := P) (args := #[x (w.heap.size + 2)]) hl (by rw [hrec]; simp [hps])
      rw [hrec] at hy
      refine ⟨fn, _, assign, body, hy, roundIn_of_wpIn hfn (hassign _ W _ ⟨_, run_beginRound hl (by rw [hrec]), ?_⟩)⟩
      have hl2 : (W.putObj (w.heap.size + 1) (.loop { rec .ready none with state := .busy })).heap[w.heap.size + 1]? = some (.loop { rec .ready none with state := .busy }) := World.putObj_heap_same hlt
      have hk2 : (W.putObj (w.heap.size + 1) (.loop { rec .ready none with state := .busy })).heap[w.heap.size]? = some (.deferred (some [])) := (World.putObj_heap_other (by omega)).trans hk
      have hb2 : (W.putObj (w.heap.size + 1) (.loop { rec .ready none with state := .busy })).heap[w.heap.size + 2]? = W.heap[w.heap.size + 2]? := World.putObj_heap_other (by omega)
      refine wpIn_mono (hbody _ k _ ((hI k).put _ hi hl rfl (by omega)) hlen (hC k _ _ hc hb2) (by simpa using hBs)) ?_
      have fin : ∀ (jump : Option Code) (W3 : World), KeepsOthers (W.putObj (w.heap.size + 1) (.loop { rec .ready none with state := .busy })) W3 →
          (Instr.endRound (w.heap.size + 1) jump).run P W3 = .ok (.bool jump.isNone) (W3.putObj (w.heap.size + 1) (.loop (rec (if jump.isNone then .ready else .done) jump))) ∧
          W3.heap[w.heap.size + 1]? = some (.loop { rec .ready none with state := .busy }) ∧
          (W3.putObj (w.heap.size + 1) (.loop (rec (if jump.isNone then .ready else .done) jump))).heap[w.heap.size + 1]? = some (.loop (rec (if jump.isNone then .ready else .done) jump)) ∧
          (W3.putObj (w.heap.size + 1) (.loop (rec (if jump.isNone then .ready else .done) jump))).heap[w.heap.size]? = some (.deferred (some [])) := fun jump W3 hk3 => by
        have hl3 := hk3.same _ _ hl2 rfl
        have := run_endRound (P := P) jump hl3
        rw [hrec] at this ⊢
        exact ⟨this, by rw [hrec] at hl3; exact hl3, World.putObj_heap_same (Array.getElem?_eq_some_iff.1 hl3).1, (World.putObj_heap_other (by omega)).trans (hk3.same _ _ hk2 rfl)⟩
      rintro e a3 W3 hp
      cases e with
      | normal =>
        obtain ⟨hk3, hkp3, hi3⟩ := hp
        obtain ⟨hr, hl3, hl4, hk4⟩ := fin none W3 hk3
        refine ⟨_, _, hr, .inl ⟨rfl, ⟨(hI _).put _ hi3 hl3 rfl (by omega), hl4, hk4⟩, ?_, ?_⟩⟩
        · have := hk3.size; simpa using this
        · rw [World.putObj_heap_other (by omega), hkp3, hb2]
      | ret =>
        obtain ⟨hk3, hi3⟩ := hp
        obtain ⟨hr, hl3, hl4, hk4⟩ := fin (some .ret) W3 hk3
        exact ⟨_, _, hr, .inr ⟨rfl, .ret, (hIx _ _).put _ hi3 hl3 rfl (by omega), hl4, hk4⟩⟩
      | exit id =>
        obtain ⟨hk3, hi3⟩ := hp
        obtain ⟨hr, hl3, hl4, hk4⟩ := fin (some (.exit id)) W3 hk3
        exact ⟨_, _, hr, .inr ⟨rfl, .exit id, (hIx _ _).put _ hi3 hl3 rfl (by omega), hl4, hk4⟩⟩
      | goto t =>
        obtain ⟨hk3, hi3⟩ := hp
        obtain ⟨hr, hl3, hl4, hk4⟩ := fin (some (.goto t)) W3 hk3
        exact ⟨_, _, hr, .inr ⟨rfl, .goto t, (hIx _ _).put _ hi3 hl3 rfl (by omega), hl4, hk4⟩⟩
      | panic ch => exact hp.elim
      | outgrown => exact hp.elim
    · rintro e W2 ⟨⟨v, rfl⟩, (⟨hi, hl, hk⟩ | ⟨k, hkN, c, hi, hl, hk⟩)⟩
      · exact ⟨none, _, by have := run_endLoop (P := P) hl (by rw [hrec]; simp); rw [hrec] at this; exact this, hdone _ _ (Nat.le_refl _) ((hI N).put _ hi hl rfl (by omega)) ((World.putObj_heap_other (by omega)).trans hk)⟩
      · exact ⟨some c, _, by have := run_endLoop (P := P) hl (by rw [hrec]; simp); rw [hrec] at this; exact this, hstop _ c k _ (Nat.le_refl _) hkN ((hIx c k).put _ hi hl rfl (by omega)) ((World.putObj_heap_other (by omega)).trans hk)⟩
end Go.Proofs.Kv
namespace Go.Proofs.Ytoopgmoopmbfnaa
open Go.RowKit Go.Proofs.Kv Go.Proofs.Snd

/-- block B is just the numbers l -/
def RowL (w : World) (B : Nat) (l : List Int) : Prop := w.rowIs B 3 l.length fun i => .int .i64 (l.getD i 0)
theorem RowL.put {w : World} {B : Nat} {l : List Int} (h : RowL w B l) (i : Nat) (x : Int) : RowL (w.setCell ⟨B, i, none⟩ (.int .i64 x)) B (l.set i x) := by
  unfold RowL at h ⊢
  rw [List.length_set]
  refine (World.rowIs.set h i (.int .i64 x)).congr fun j hj => ?_
  by_cases e : j = i
  · subst e
    simp [List.getD, hj]
  · rw [if_neg e]
    simp [List.getD, List.getElem?_set_ne (Ne.symm e)]
theorem RowL.ints {w : World} {B : Nat} {l : List Int} (h : RowL w B l) (hm : l.length ≤ 1000) : IntsAt w (some ⟨B, 0, none⟩) l.length l.length l :=
  ⟨rfl, Nat.le_refl _, by omega, fun i hi => ⟨B, 0, rfl, World.rowIs.lt h, by rw [Nat.zero_add]; exact World.rowIs.cell h hi⟩⟩

theorem grown_set {w w' : World} {B : Nat} (h : w.grownBy w' (some B)) (i : Nat) (v : Value) : w.grownBy (w'.setCell ⟨B, i, none⟩ v) (some B) :=
  ⟨h.os, h.tape, h.output, by simpa [World.setCell] using h.size, fun k hk hne => (Below.heap_setCell w' ⟨B, i, none⟩ v k (fun e => hne (by rw [e]))).trans (h.block k hk hne)⟩
theorem grown_drew {w w' : World} {row : Option Nat} (h : w.grownBy w' row) : w.grownBy w'.drew row := ⟨h.os, h.tape, h.output, h.size, h.block⟩
theorem grown_drewN {w w' : World} {row : Option Nat} (h : w.grownBy w' row) (q : Nat) : w.grownBy (w'.drewN q) row := ⟨h.os, h.tape, h.output, h.size, h.block⟩
theorem grown_trans {a b c : World} {row : Option Nat} (h : a.grownBy b row) (k : b.grownBy c row) : a.grownBy c row :=
  ⟨k.os.trans h.os, k.tape.trans h.tape, k.output.trans h.output, Nat.le_trans h.size k.size, fun i hi hne => (k.block i (Nat.lt_of_lt_of_le hi h.size) hne).trans (h.block i hi hne)⟩

def swapL (l : List Int) (i j : Nat) : List Int := (l.set i (l.getD j 0)).set j (l.getD i 0)
theorem swapL_len (l : List Int) (i j : Nat) : (swapL l i j).length = l.length := by simp [swapL]
def revK (l : List Int) (p : Nat) : Nat → List Int
  | 0 => l
  | k + 1 => swapL (revK l p k) (p + k) (l.length - 1 - k)
theorem revK_len (l : List Int) (p k : Nat) : (revK l p k).length = l.length := by
  induction k with
  | zero => rfl
  | succ k ih => rw [revK, swapL_len, ih]
def revL (l : List Int) (p : Nat) : List Int := revK l p ((l.length - p) / 2)

set_option maxRecDepth 100000 in
theorem reverse_calls (B p m c : Nat) (l : List Int) (w : World) (h : RowL w B l) (hl : l.length = p + m) (hm : l.length ≤ 1000) :
    Calls Try.prog 153 #[.slice (some ⟨B, p, none⟩) m c] w fun e w' => e = .returned (.tuple #[]) ∧ RowL w' B (revL l p) ∧ w.grownBy w' (some B) := by
  have hmm : m ≤ 1000 := by omega
  have Hrev : Hid (revL l p = revK l p (m / 2)) := hid_ (by rw [revL, hl, Nat.add_sub_cancel_left])
  have Hl := hid_ hl; clear hl hm
  go_enter Try.func153, Try.ntmps153
  go_wp2
  go_loopw [2, 3] (fun i j wr => ∃ k : Nat, k ≤ m / 2 ∧ i = .int .i64 k ∧ j = .int .i64 ((m : Int) - 1 - k) ∧ RowL wr B (revK l p k) ∧ w.grownBy wr (some B)) (fun i _ _ => m - (intOf i).toNat)
  case atStart => exact ⟨0, Nat.zero_le _, rfl, by simp, h, World.grownBy.refl _ _⟩
  case round =>
    obtain ⟨k, hk, rfl, rfl, hR, hg⟩ := hrel
    by_cases hlt : (k : Int) < (m : Int) - 1 - k
    · have hj0 : (0 : Int) ≤ (m : Int) - 1 - k := by omega
      have hjm : (m : Int) - 1 - k < m := by omega
      obtain ⟨j, hj⟩ : ∃ j : Nat, (m : Int) - 1 - k = j := ⟨m - 1 - k, by omega⟩
      have Hj := hid_ hj
      rw [hj] at hlt hj0 hjm ⊢
      clear hj
      have Hjj : Hid (l.length - 1 - k = p + j) := hid_ (by have := Hj.out; have := Hl.out; omega)
      have Hnx : Hid (revK l p (k + 1) = swapL (revK l p k) (p + k) (p + j)) := hid_ (by rw [revK, Hjj.out])
      have hlen : (revK l p k).length = p + m := by rw [revK_len]; exact Hl.out
      generalize revK l p k = r at hR hlen Hnx
      have hc1 : wr.cell? ⟨B, p + k, none⟩ = some (.int .i64 (r.getD (p + k) 0)) := World.rowIs.cell hR (by omega)
      have hc2 : wr.cell? ⟨B, p + j, none⟩ = some (.int .i64 (r.getD (p + j) 0)) := World.rowIs.cell hR (by omega)
      have hf : ∀ i, wr.frozen? ⟨B, i, none⟩ = false := fun i => World.rowIs.frozen hR i
      have hf1 := hf (p + k)
      have hf2 := hf (p + j)
      clear hf hlen
      generalize hx : r.getD (p + k) 0 = x at hc1
      generalize hy : r.getD (p + j) 0 = y at hc2
      have Hx := hid_ hx; clear hx
      have Hy := hid_ hy; clear hy
      have hkj : k < j := by omega
      go_wp2
      go_region
      have hR2 : RowL (((wr.setCell ⟨B, p + k, none⟩ (.int .i64 y)).setCell ⟨B, p + j, none⟩ (.int .i64 x)).drew) B (swapL r (p + k) (p + j)) := by
        have := (hR.put (p + k) y).put (p + j) x
        rw [swapL, Hx.out, Hy.out]; exact this
      have hg2 : w.grownBy (((wr.setCell ⟨B, p + k, none⟩ (.int .i64 y)).setCell ⟨B, p + j, none⟩ (.int .i64 x)).drew) (some B) := grown_drew (grown_set (grown_set hg _ _) _ _)
      have HR2 := hid_ hR2; clear hR2
      have Hg2 := hid_ hg2; clear hg2
      go_wp2
      go_roundw
      case rel => exact ⟨k + 1, by have := Hj.out; omega, by go_num, by have := Hj.out; congr 1; omega, by rw [Hnx.out]; exact HR2.out, Hg2.out⟩
      case measure => simp [intOf]; omega
    · have Hk : Hid (k = m / 2) := hid_ (by omega)
      go_wp2
      go_end0
      exact ⟨rfl, by rw [Hrev.out, ← Hk.out]; exact hR, hg⟩

/-! ### advance -/
def pivF (l : List Int) : Nat → Option Nat
  | 0 => none
  | m + 1 => if l.getD (m + 1) 0 < l.getD m 0 then pivF l m else some m
def sucF (l : List Int) (x : Int) : Nat → Nat
  | 0 => 0
  | m + 1 => if l.getD (m + 1) 0 < x then sucF l x m else m + 1
def nextP (l : List Int) (i : Nat) : List Int := revL (swapL l i (sucF l (l.getD i 0) (l.length - 1))) (i + 1)
def advL (l : List Int) : Option (List Int) := (pivF l (l.length - 1)).map (nextP l)
theorem pivF_some {l : List Int} : ∀ {m i : Nat}, pivF l m = some i → i < m ∧ ¬ l.getD (i + 1) 0 < l.getD i 0
  | 0, i, h => by cases h
  | m + 1, i, h => by
    unfold pivF at h
    by_cases hc : l.getD (m + 1) 0 < l.getD m 0
    · rw [if_pos hc] at h
      have := pivF_some h
      exact ⟨by omega, this.2⟩
    · rw [if_neg hc] at h
      injection h with h
      subst h
      exact ⟨by omega, hc⟩

set_option maxRecDepth 100000 in
set_option maxHeartbeats 400000 in
theorem advance_calls (B n : Nat) (l : List Int) (w : World) (h : RowL w B l) (hl : l.length = n) (hn1 : 1 ≤ n) (hm : n ≤ 1000) :
    Calls Try.prog 126 #[.slice (some ⟨B, 0, none⟩) n n] w fun e w' => w.grownBy w' (some B) ∧
      ((e = .returned (.bool false) ∧ advL l = none ∧ RowL w' B l) ∨ ∃ l', e = .returned (.bool true) ∧ advL l = some l' ∧ RowL w' B l') := by
  have hcell : ∀ i, i < n → w.cell? ⟨B, i, none⟩ = some (.int .i64 (l.getD i 0)) := fun i hi => World.rowIs.cell h (by omega)
  have Hc := hid_ hcell; clear hcell
  have Hl := hid_ hl; clear hl
  have HP : Hid (advL l = (pivF l (n - 1)).map (nextP l)) := hid_ (by rw [advL, Hl.out])
  go_enter Try.func126, Try.ntmps126
  go_wp2
  go_loopw [3] (fun i wr => ∃ m q : Nat, m ≤ n - 1 ∧ i = .int .i64 ((m : Int) - 1) ∧ wr = w.drewN q ∧ pivF l (n - 1) = pivF l m) (fun i _ => ((intOf i) + 1).toNat)
  case atStart => exact ⟨n - 1, 0, Nat.le_refl _, by congr 1; omega, rfl, rfl⟩
  case round =>
    obtain ⟨m, q, hmn, rfl, hq, hp⟩ := hrel
    have Hq := hid_ hq; clear hq
    have HR : Hid (RowL wr B l) := hid_ (by rw [Hq.out]; exact h)
    have Hcr : Hid (∀ i, i < n → wr.cell? ⟨B, i, none⟩ = some (.int .i64 (l.getD i 0))) := hid_ fun i hi => World.rowIs.cell HR.out (by rw [Hl.out]; exact hi)
    have Hg : Hid (w.grownBy wr (some B)) := hid_ (by rw [Hq.out]; exact grown_drewN (World.grownBy.refl _ _) q)
    have Hp := hid_ hp; clear hp
    cases m with
    | zero =>
      have hd : decide ((0 : Int) ≤ ((0 : Nat) : Int) - 1) = false := by simp
      have Hno : Hid (advL l = none) := hid_ (by rw [HP.out, Hp.out]; rfl)
      go_wp2
      go_quiet (fail)
      go_wp2
      go_ret
      exact ⟨grown_drewN Hg.out _, .inl ⟨rfl, Hno.out, HR.out⟩⟩
    | succ m =>
      rw [show ((m + 1 : Nat) : Int) - 1 = (m : Int) by omega]
      have hc1 := Hcr.out m (by omega)
      have hc2 := Hcr.out (m + 1) (by omega)
      have Hstep : Hid (pivF l (m + 1) = if l.getD (m + 1) 0 < l.getD m 0 then pivF l m else some m) := hid_ rfl
      have hz1 : ((m : Int) + 1).toNat = m + 1 := by omega
      have hz2 : IntKind.i64.wrap ((m : Int) + 1) = (m : Int) + 1 := IntWalk.i64_in _ (by omega)
      have hz3 : (m : Int) + 1 < (n : Int) := by omega
      have hz4 : (0 : Int) ≤ (m : Int) + 1 := by omega
      generalize hx : l.getD m 0 = x at hc1 Hstep
      generalize hy : l.getD (m + 1) 0 = y at hc2 Hstep
      have Hx := hid_ hx; clear hx
      have Hy := hid_ hy; clear hy
      by_cases hlt : y < x
      · have Hnx : Hid (pivF l (n - 1) = pivF l m) := hid_ (by rw [Hp.out, Hstep.out, if_pos hlt])
        go_wp2
        go_quiet (fail)
        clear hz1 hz2
        go_wp2
        go_roundw
        case rel => exact ⟨m, _, by omega, rfl, by rw [Hq.out, drewN2], Hnx.out⟩
        case measure => simp [intOf]
      · have Hpv : Hid (pivF l (n - 1) = some m) := hid_ (by rw [Hp.out, Hstep.out, if_neg hlt])
        go_wp2
        go_quiet (fail)
        clear hz1 hz2
        generalize hwq : wr.drewN _ = wq
        have Hwq := hid_ hwq; clear hwq
        have HRq : Hid (RowL wq B l) := hid_ (by rw [← Hwq.out]; exact HR.out)
        have Hgq : Hid (w.grownBy wq (some B)) := hid_ (by rw [← Hwq.out]; exact grown_drewN Hg.out _)
        clear Hcr
        go_wp2
        go_loopw [4] (fun j wr => ∃ k q : Nat, m < k ∧ k ≤ n - 1 ∧ j = .int .i64 (k : Int) ∧ wr = wq.drewN q ∧ sucF l x (n - 1) = sucF l x k) (fun j _ => (intOf j).toNat)
        case atStart => exact ⟨n - 1, 0, by omega, Nat.le_refl _, by congr 1; omega, rfl, rfl⟩
        case round =>
          obtain ⟨k, q2, hmk, hkn, rfl, hq2, hs⟩ := hrel
          have Hq2 := hid_ hq2; clear hq2
          have HR2 : Hid (RowL wr B l) := hid_ (by rw [Hq2.out]; exact HRq.out)
          have Hg2 : Hid (w.grownBy wr (some B)) := hid_ (by rw [Hq2.out]; exact grown_drewN Hgq.out q2)
          have Hs := hid_ hs; clear hs
          obtain ⟨k, rfl⟩ : ∃ k', k = k' + 1 := ⟨k - 1, by omega⟩
          have hc3 : wr.cell? ⟨B, m, none⟩ = some (.int .i64 x) := by rw [← Hx.out]; exact World.rowIs.cell HR2.out (by rw [Hl.out]; omega)
          have hc4 : wr.cell? ⟨B, k + 1, none⟩ = some (.int .i64 (l.getD (k + 1) 0)) := World.rowIs.cell HR2.out (by rw [Hl.out]; omega)
          have Hst2 : Hid (sucF l x (k + 1) = if l.getD (k + 1) 0 < x then sucF l x k else k + 1) := hid_ rfl
          have Hkm : Hid (l.getD (k + 1) 0 < x → m < k) := hid_ fun hh => by
            rcases Nat.lt_or_ge m k with h1 | h1
            · exact h1
            · obtain rfl : k = m := by omega
              rw [Hy.out] at hh; omega
          generalize hz : l.getD (k + 1) 0 = z at hc4 Hst2 Hkm
          have Hz := hid_ hz; clear hz
          have hkk : ((k + 1 : Nat) : Int) = (k : Int) + 1 := by omega
          rw [hkk]
          clear hkk
          have hz1 : ((k : Int) + 1).toNat = k + 1 := by omega
          have hz3 : (k : Int) + 1 < (n : Int) := by omega
          have hz4 : (0 : Int) ≤ (k : Int) + 1 := by omega
          by_cases hzx : z < x
          · have hmk2 := Hkm.out hzx
            have Hnx : Hid (sucF l x (n - 1) = sucF l x k) := hid_ (by rw [Hs.out, Hst2.out, if_pos hzx])
            go_wp2
            go_quiet (fail)
            go_wp2
            go_roundw
            case rel => exact ⟨k, _, hmk2, by omega, rfl, by rw [Hq2.out, drewN2], Hnx.out⟩
            case measure => simp [intOf]
          · have Hsuc : Hid (sucF l x (n - 1) = k + 1) := hid_ (by rw [Hs.out, Hst2.out, if_neg hzx])
            go_wp2
            go_quiet (fail)
            generalize hw3 : wr.drewN _ = w3
            have Hw3 := hid_ hw3; clear hw3
            have hR3 : RowL w3 B l := by rw [← Hw3.out]; exact HR2.out
            have Hg3 : Hid (w.grownBy w3 (some B)) := hid_ (by rw [← Hw3.out]; exact grown_drewN Hg2.out _)
            have hc5 : w3.cell? ⟨B, m, none⟩ = some (.int .i64 x) := by rw [← Hw3.out]; exact hc3
            have hc6 : w3.cell? ⟨B, k + 1, none⟩ = some (.int .i64 z) := by rw [← Hw3.out]; exact hc4
            have hf1 : w3.frozen? ⟨B, m, none⟩ = false := World.rowIs.frozen hR3 m
            have hf2 : w3.frozen? ⟨B, k + 1, none⟩ = false := World.rowIs.frozen hR3 (k + 1)
            have HR3 := hid_ hR3; clear hR3
            clear hc3 hc4
            have hmk3 : m < k + 1 := hmk
            go_wp2
            go_region
            have HR4 : Hid (RowL (((w3.setCell ⟨B, m, none⟩ (.int .i64 z)).setCell ⟨B, k + 1, none⟩ (.int .i64 x)).drew) B (swapL l m (k + 1))) := hid_ (by
              have := (HR3.out.put m z).put (k + 1) x
              rw [swapL, Hx.out, Hz.out]; exact this)
            have Hg4 : Hid (w.grownBy (((w3.setCell ⟨B, m, none⟩ (.int .i64 z)).setCell ⟨B, k + 1, none⟩ (.int .i64 x)).drew) (some B)) := hid_ (grown_drew (grown_set (grown_set Hg3.out _ _) _ _))
            generalize hw4 : ((w3.setCell ⟨B, m, none⟩ (.int .i64 z)).setCell ⟨B, k + 1, none⟩ (.int .i64 x)).drew = w4 at HR4 Hg4
            clear hw4 hc5 hc6 hf1 hf2
            have hz5 : ((m : Int) + 1).toNat = m + 1 := by omega
            have hz6 : (0 : Int) ≤ (m : Int) + 1 := by omega
            have hz7 : (m : Int) + 1 ≤ (n : Int) := by omega
            have hz8 : ¬ (n = m + 1) := by omega
            have hrev := reverse_calls B (m + 1) (n - (m + 1)) (n - (m + 1)) _ w4 HR4.out (by rw [swapL_len, Hl.out]; omega) (by rw [swapL_len, Hl.out]; exact hm)
            have Hrev := hid_ hrev; clear hrev
            have Hfin : Hid (advL l = some (revL (swapL l m (k + 1)) (m + 1))) := hid_ (by rw [HP.out, Hpv.out, Option.map_some, nextP, Hl.out, Hx.out, Hsuc.out])
            generalize revL (swapL l m (k + 1)) (m + 1) = lf at Hrev Hfin
            go_wp2_with (go_at_call 153; refine Hrev.out.mono ?_; rintro e w5 ⟨rfl, hR5, hg5⟩)
            go_ret
            exact ⟨grown_trans Hg4.out hg5, .inr ⟨lf, rfl, Hfin.out, hR5⟩⟩
end Go.Proofs.Ytoopgmoopmbfnaa
namespace Go.Proofs.Ytoopgmoopmbfnaa
open Go.RowKit Go.Proofs.Kv Go.Proofs.Snd
attribute [local go_sem] Oper.semAt_some

/-! ### all orders -/
def ordStep (n : Nat) (L : List (List Int)) : List (List Int) := L.flatMap fun o => ((rangeI n).filter fun x => !Has o x).map fun x => o ++ [x]
def ordIter (n : Nat) : Nat → List (List Int)
  | 0 => [[]]
  | k + 1 => ordStep n (ordIter n k)
def ordersL (n : Nat) : List (List Int) := ordIter n n
def chain (n : Nat) : List (List Int) → Bool
  | [] => false
  | [x] => decide (x.length = n) && decide (advL x = none)
  | x :: y :: r => decide (x.length = n) && (decide (advL x = some y) && chain n (y :: r))
theorem chain_at {n : Nat} : ∀ {L : List (List Int)}, chain n L = true → (∀ k, k < L.length → (L.getD k []).length = n) ∧ (∀ k, k + 1 < L.length → advL (L.getD k []) = some (L.getD (k + 1) [])) ∧ advL (L.getD (L.length - 1) []) = none ∧ 0 < L.length
  | [], _ => by contradiction
  | [x], h => by
    simp only [chain, Bool.and_eq_true, decide_eq_true_eq] at h
    refine ⟨fun k hk => ?_, fun k hk => absurd hk (by simp), by simpa [List.getD] using h.2, by simp⟩
    obtain rfl : k = 0 := by simp at hk; omega
    simpa [List.getD] using h.1
  | x :: y :: r, h => by
    simp only [chain, Bool.and_eq_true, decide_eq_true_eq] at h
    obtain ⟨h1, h2, h3, _⟩ := chain_at h.2.2
    refine ⟨fun k hk => ?_, fun k hk => ?_, ?_, by simp⟩
    · cases k with
      | zero => simpa [List.getD] using h.1
      | succ k => simpa [List.getD] using h1 k (by simpa using hk)
    · cases k with
      | zero => simpa [List.getD] using h.2.1
      | succ k => simpa [List.getD] using h2 k (by simpa using hk)
    · simpa [List.getD] using h3
theorem orders_chain {n : Nat} (h1 : 1 ≤ n) (h6 : n ≤ 6) : chain n (ordersL n) = true ∧ (ordersL n).getD 0 [] = rangeI n := by
  match n, h1, h6 with
  | 1, _, _ => decide +kernel
  | 2, _, _ => decide +kernel
  | 3, _, _ => decide +kernel
  | 4, _, _ => decide +kernel
  | 5, _, _ => decide +kernel
  | 6, _, _ => decide +kernel

/-! ### the iterator -/
def fillL (n k : Nat) : List Int := (List.range n).map fun i : Nat => if i < k then (i : Int) else 0
theorem fillL_len (n k : Nat) : (fillL n k).length = n := by simp [fillL]
theorem fillL_succ {n k : Nat} : (fillL n k).set k (k : Int) = fillL n (k + 1) := by
  refine List.ext_getElem (by simp [fillL]) fun i h1 h2 => ?_
  simp [fillL_len] at h1
  rw [List.getElem_set]
  simp only [fillL, List.getElem_map, List.getElem_range]
  by_cases e : k = i
  · subst e; simp
  · rw [if_neg e]
    by_cases h3 : i < k
    · rw [if_pos h3, if_pos (by omega)]
    · rw [if_neg h3, if_neg (by omega)]
theorem fillL_all (n : Nat) : fillL n n = rangeI n := by
  unfold fillL rangeI
  refine List.map_congr_left fun i hi => ?_
  rw [if_pos (List.mem_range.1 hi)]

set_option maxRecDepth 100000 in
set_option maxHeartbeats 1000000 in
theorem orders_iter (n Bn : Nat) (h1 : 1 ≤ n) (h6 : n ≤ 6) (m : Nat) :
    SeqMem Fence.wide m Try.prog 125 #[.pointer (some ⟨Bn, 0, none⟩)] (fun B => .slice (some ⟨B, 0, none⟩) n n) (fun B k W => RowL W B ((ordersL n).getD k [])) (ordersL n).length
      (fun W => W.cell? ⟨Bn, 0, none⟩ = some (.int .i64 n)) := by
  intro l J Jx W hG hJ hY h0
  obtain ⟨hch, hfirst⟩ := orders_chain h1 h6
  obtain ⟨hlen, hnext, hlast, hpos⟩ := chain_at hch
  have hbn := hG _ _ h0
  have hmk : ∀ W' : World, (Instr.makeSlice 23 (.int .i64 (n : Int)) (.int .i64 (n : Int))).run Try.prog W' = .ok (.slice (some ⟨W'.heap.size, 0, none⟩) n n) (W'.alloc (.cells (madeCells #[.int .i64 0] n) 3)) := fun W' => by
    obtain ⟨i0, hi0, hz0, hz1, hz2⟩ := info_parts Try.infoInt
    have := run_make (P := Try.prog) W' 23 3 i0 (.int .i64 0) Try.underlying23 hi0 hz0 .i64 .i64 n n (by omega) (by omega) (by rw [hz2]; omega) (by omega)
    simpa [hz1, Value.cells] using this
  have Hlen := hid_ hlen; clear hlen
  have Hnext := hid_ hnext; clear hnext
  have Hlast := hid_ hlast; clear hlast
  have Hfirst := hid_ hfirst; clear hfirst
  have Hpos := hid_ hpos; clear hpos hch
  have HY := hid_ hY; clear hY
  have HJ := hid_ hJ; clear hJ
  have HG := hid_ hG; clear hG
  have HJ1 : Hid (J 0 (W.alloc (.cells (madeCells #[.int .i64 0] n) 3))) := hid_ (HJ.out 0 _ _ h0 (World.grownBy_alloc W _ _))
  have HR1 : Hid (RowL (W.alloc (.cells (madeCells #[.int .i64 0] n) 3)) W.heap.size (fillL n 0)) := hid_ (by
    have h := World.rowIs_made W (.int .i64 0) n 3
    unfold RowL
    rw [fillL_len]
    refine h.congr fun i hi => ?_
    simp [fillL, List.getD, hi])
  generalize hN : (ordersL n).length = N at Hnext Hlast HY Hpos Hlen ⊢
  generalize ordersL n = O at Hnext Hlast HY Hfirst Hlen
  clear hN h0
  refine callsIn_of_wp Try.func125 rfl trivial ?_ rfl
  simp only [Try.ntmps125, List.size_toArray, List.length_cons, List.length_nil, Nat.reduceAdd, Nat.reduceSub, Array.replicate_succ, Array.replicate_zero, List.push_toArray, List.append_toArray, List.nil_append, List.cons_append]
  gi_wp2
  gi_loopw [9] (fun i wr => ∃ k : Nat, k ≤ n ∧ i = .int .i64 k ∧ RowL wr W.heap.size (fillL n k) ∧ J 0 wr) (fun i _ => n - (intOf i).toNat)
  case atStart => exact ⟨0, Nat.zero_le _, rfl, HR1.out, HJ1.out⟩
  case round =>
    obtain ⟨k, hk, rfl, hR, hJk⟩ := hrel
    by_cases hlt : k < n
    · have hc : wr.cell? ⟨W.heap.size, k, none⟩ = some (.int .i64 ((fillL n k).getD k 0)) := World.rowIs.cell hR (by rw [fillL_len]; exact hlt)
      have hf : wr.frozen? ⟨W.heap.size, k, none⟩ = false := World.rowIs.frozen hR k
      generalize (fillL n k).getD k 0 = z at hc
      have Hput : Hid (RowL (wr.setCell ⟨W.heap.size, k, none⟩ (.int .i64 k)) W.heap.size (fillL n (k + 1))) := hid_ (by rw [← fillL_succ]; exact hR.put k k)
      have Hj : Hid (J 0 (wr.setCell ⟨W.heap.size, k, none⟩ (.int .i64 k))) := hid_ (HJ.out 0 _ _ hJk (grown_set (World.grownBy.refl _ _) k _))
      clear hR hJk
      gi_wp2
      go_roundw
      case rel => exact ⟨k + 1, by omega, by go_num, Hput.out, Hj.out⟩
      case measure => simp [intOf]; omega
    · obtain rfl : k = n := by omega
      have HR2 : Hid (RowL wr W.heap.size (O.getD 0 [])) := hid_ (by rw [Hfirst.out, ← fillL_all]; exact hR)
      have HJ2 := hid_ hJk
      clear hR hJk
      have Hr0 : Hid (0 < N) := Hpos
      gi_wp2
      gi_loopg [] N (fun g wr => ∃ j : Nat, j < N ∧ g = N - j ∧ RowL wr W.heap.size (O.getD j []) ∧ J j wr)
      case atStart => exact ⟨0, Hr0.out, by omega, HR2.out, HJ2.out⟩
      case round =>
        obtain ⟨j, hj, hgk, hR, hJj⟩ := hrel
        have Hgk := hid_ hgk; clear hgk
        obtain ⟨fn, tmps, assign, body, hy, hround⟩ := HY.out j wr hJj hj hR
        have HR3 := hid_ hR; clear hR
        have HJj := hid_ hJj; clear hJj
        have Hround := hid_ hround; clear hround
        gi_wp2
        refine ⟨fun h => absurd h (by simp [Fence.wide]), Hround.out.mono ?_⟩
        rintro e W3 (⟨rfl, hJ3, hs3, hB3⟩ | ⟨rfl, hJx3⟩)
        · have hRow : RowL W3 W.heap.size (O.getD j []) := World.rowIs.of_block HR3.out hB3
          have hadv := advance_calls W.heap.size k _ W3 hRow (Hlen.out j hj) h1 (by omega)
          have Hadv := hid_ hadv; clear hadv
          have HJ3 := hid_ hJ3; clear hJ3 hs3 hB3 hRow
          gi_wp2
          refine ⟨trivial, fun h => absurd h (by simp [Fence.wide]), (callsIn_wide.2 Hadv.out).mono ?_⟩
          rintro e W4 ⟨hg4, (⟨rfl, hn4, hR4⟩ | ⟨l', rfl, hs4, hR4⟩)⟩
          · have HJ4 : Hid (J (j + 1) W4) := hid_ (HJ.out _ _ _ HJ3.out hg4)
            have HjN : Hid (j + 1 = N) := hid_ (by
              rcases Nat.lt_or_ge (j + 1) N with h | h
              · rw [Hnext.out j h] at hn4; cases hn4
              · omega)
            clear hn4 hR4 hg4
            gi_wp2
            go_end0
            exact ⟨⟨_, rfl⟩, .inl (by rw [← HjN.out]; exact HJ4.out)⟩
          · have HJ4 : Hid (J (j + 1) W4) := hid_ (HJ.out _ _ _ HJ3.out hg4)
            have hjN : j + 1 < N := by
              rcases Nat.lt_or_ge (j + 1) N with h | h
              · exact h
              · have : j = N - 1 := by omega
                rw [this, Hlast.out] at hs4; cases hs4
            have HR5 : Hid (RowL W4 W.heap.size (O.getD (j + 1) [])) := hid_ (by
              rw [Hnext.out j hjN] at hs4
              injection hs4 with hs4
              rw [hs4]; exact hR4)
            clear hs4 hR4 hg4
            gi_wp2
            gi_roundg (N - (j + 1))
            case rel => exact ⟨j + 1, hjN, rfl, HR5.out, HJ4.out⟩
            case measure => have := Hgk.out; omega
        · have HJx := hid_ hJx3; clear hJx3
          gi_wp2
          refine ⟨trivial, ?_⟩
          gi_wp2
          go_end0
          exact ⟨⟨_, rfl⟩, .inr ⟨j + 1, by omega, HJx.out⟩⟩
end Go.Proofs.Ytoopgmoopmbfnaa
