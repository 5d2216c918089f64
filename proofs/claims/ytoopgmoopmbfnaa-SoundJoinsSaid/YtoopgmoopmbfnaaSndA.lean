import Derived.Test.YtoopgmoopmbfnaaRefI
import Derived.Test.YtoopgmoopmbfnaaLists
import Derived.Lib.AppendZerosOnto
import Derived.Lib.Walk
namespace Go.Proofs.Ytoopgmoopmbfnaa
open Go.RowKit Go.Proofs.Kv Go.Proofs.Snd

/-! ### allBelow -/
def AllB (l : List Int) (m : Int) : Bool := l.all fun x => decide (0 ≤ x) && decide (x < m)
theorem AllB_no {l : List Int} {m : Int} {k : Nat} (hk : k < l.length) (h : (decide (0 ≤ l.getD k 0) && decide (l.getD k 0 < m)) = false) : AllB l m = false := by
  rw [Bool.eq_false_iff]
  intro e
  rw [AllB, List.all_eq_true] at e
  have := e _ (getD_mem hk)
  rw [h] at this; cases this
theorem AllB_yes {l : List Int} {m : Int} {n : Nat} (hn : l.length = n) (h : ∀ j, j < n → (decide (0 ≤ l.getD j 0) && decide (l.getD j 0 < m)) = true) : AllB l m = true := by
  rw [AllB, List.all_eq_true]
  intro x hx
  obtain ⟨i, hi, e⟩ := mem_getD hx
  have := h i (by omega)
  rwa [e] at this
set_option maxRecDepth 100000 in
theorem allBelow_calls (a : Option Addr) (n c : Nat) (l : List Int) (m : Int) (w : World) (h : IntsAt w a n c l) :
    Calls Try.prog 104 #[.slice a n c, .int .i64 m] w fun e w' => e = .returned (.bool (AllB l m)) ∧ w = w' := by
  have hn : n ≤ 9223372036854775807 := Nat.le_trans h.le h.small
  go_enter Try.func104, Try.ntmps104
  go_wp2
  go_loop [9] (fun i => ∃ k : Nat, k ≤ n ∧ i = .int .i64 k ∧ ∀ j, j < k → (decide (0 ≤ l.getD j 0) && decide (l.getD j 0 < m)) = true) (fun i => n - (intOf i).toNat)
  case atStart => exact ⟨0, Nat.zero_le _, rfl, fun _ h => absurd h (by omega)⟩
  case round =>
    obtain ⟨k, hk, rfl, hall⟩ := hrel
    have Hall := hid_ hall; clear hall
    by_cases hlt : k < n
    · obtain ⟨b, off, rfl, hb, hcell⟩ := h.cells k hlt
      have hl : k < l.length := by rw [h.len]; exact hlt
      generalize hy : l.getD k 0 = y at hcell
      have Hy := hid_ hy; clear hy
      by_cases h0 : y < 0
      · have Hf : Hid (AllB l m = false) := hid_ (AllB_no hl (by rw [Hy.out]; simp; omega))
        go_wp2
        go_ret
        exact ⟨retB Hf.out, rfl⟩
      · by_cases h1 : m ≤ y
        · have Hf : Hid (AllB l m = false) := hid_ (AllB_no hl (by rw [Hy.out]; simp; omega))
          go_wp2
          go_ret
          exact ⟨retB Hf.out, rfl⟩
        · go_wp2
          go_round
          case rel => exact ⟨k + 1, by omega, by go_num, lt_snoc Hall.out (by rw [Hy.out]; simp; omega)⟩
          case measure => simp [intOf]; omega
    · have Hf : Hid (AllB l m = true) := hid_ (AllB_yes h.len fun j hj => Hall.out j (by omega))
      go_wp2
      go_ret
      exact ⟨retB Hf.out, rfl⟩

/-! ### Index, Contains -/
def idx (l : List Int) (x : Int) : Int := if Has l x then (l.findIdx (fun y => y == x) : Int) else -1
theorem idx_hit {l : List Int} {x : Int} {k : Nat} (hk : k < l.length) (h : ∀ j, j < k → l.getD j 0 ≠ x) (hh : l.getD k 0 = x) : idx l x = k := by
  have hm : Has l x = true := Has_iff.2 (by rw [← hh]; exact getD_mem hk)
  rw [idx, hm, if_pos rfl]
  congr 1
  rw [List.findIdx_eq hk]
  refine ⟨by simpa [List.getD, List.getElem?_eq_getElem hk] using hh, fun j hj => ?_⟩
  have := h j hj
  simpa [List.getD, List.getElem?_eq_getElem (show j < l.length by omega)] using this
theorem idx_miss {l : List Int} {x : Int} {n : Nat} (hn : l.length = n) (h : ∀ j, j < n → l.getD j 0 ≠ x) : Has l x = false := by
  refine Bool.eq_false_iff.2 fun hc => ?_
  obtain ⟨i, hi, hx⟩ := mem_getD (Has_iff.1 hc)
  exact h i (by omega) hx
theorem idx_nn (l : List Int) (x : Int) : decide (0 ≤ idx l x) = Has l x := by
  unfold idx
  cases Has l x <;> simp

set_option maxRecDepth 100000 in
theorem index_calls (a : Option Addr) (n c : Nat) (l : List Int) (x : Int) (w : World) (h : IntsAt w a n c l) :
    Calls Try.prog 130 #[.slice a n c, .int .i64 x] w fun e w' => e = .returned (.int .i64 (idx l x)) ∧ w = w' := by
  have hn : n ≤ 9223372036854775807 := Nat.le_trans h.le h.small
  go_enter Try.func130, Try.ntmps130
  go_wp2
  go_loop [8] (fun i => ∃ k : Nat, k ≤ n ∧ i = .int .i64 k ∧ ∀ j, j < k → l.getD j 0 ≠ x) (fun i => n - (intOf i).toNat)
  case atStart => exact ⟨0, Nat.zero_le _, rfl, fun _ h => absurd h (by omega)⟩
  case round =>
    obtain ⟨k, hk, rfl, hall⟩ := hrel
    have Hall := hid_ hall; clear hall
    by_cases hlt : k < n
    · obtain ⟨b, off, rfl, hb, hcell⟩ := h.cells k hlt
      have hl : k < l.length := by rw [h.len]; exact hlt
      generalize hy : l.getD k 0 = y at hcell
      have Hy := hid_ hy; clear hy
      by_cases he : x = y
      · have hq : (x == y) = true := by simpa using he
        have Hf : Hid (idx l x = k) := hid_ (idx_hit hl Hall.out (by rw [Hy.out, he]))
        have He := hid_ he; clear he
        go_wp2
        go_ret
        exact ⟨retI Hf.out, rfl⟩
      · have hq : (x == y) = false := by simpa using he
        have He := hid_ he; clear he
        go_wp2
        go_round
        case rel => exact ⟨k + 1, by omega, by go_num, lt_snoc Hall.out (by rw [Hy.out]; exact fun e => He.out e.symm)⟩
        case measure => simp [intOf]; omega
    · have Hf : Hid (idx l x = -1) := hid_ (by rw [idx, idx_miss h.len fun j hj => Hall.out j (by omega)]; rfl)
      go_wp2
      go_ret
      exact ⟨retI Hf.out, rfl⟩

theorem contains_calls (a : Option Addr) (n c : Nat) (l : List Int) (x : Int) (w : World) (h : IntsAt w a n c l) :
    Calls Try.prog 131 #[.slice a n c, .int .i64 x] w fun e w' => e = .returned (.bool (Has l x)) ∧ w = w' := by
  have hc := index_calls a n c l x w h
  have Hd := hid_ (idx_nn l x)
  generalize idx l x = r at hc Hd
  have Hc := hid_ hc; clear hc
  go_enter Try.func131, Try.ntmps131
  go_wp2_with (go_at_call 130; refine Hc.out.mono ?_; rintro e w' ⟨rfl, rfl⟩)
  go_ret
  exact ⟨retB Hd.out.symm, rfl⟩

/-! ### rowOf -/
def rowP (L : List (List Int)) (x : Int) : Int × Bool := if rowTo L x < 0 then (0, false) else (rowTo L x, true)
set_option maxRecDepth 100000 in
theorem rowOf_calls (a : Option Addr) (n c : Nat) (L : List (List Int)) (x : Int) (w : World) (h : ListsAt w a n c L) :
    Calls Try.prog 99 #[.slice a n c, .int .i64 x] w fun e w' => e = .returned (.tuple #[.int .i64 (rowP L x).1, .bool (rowP L x).2]) ∧ w = w' := by
  have hn : n ≤ 9223372036854775807 := Nat.le_trans h.le h.small
  go_enter Try.func99, Try.ntmps99
  go_wp2
  go_loop [10] (fun i => ∃ k : Nat, k ≤ n ∧ i = .int .i64 k ∧ ∀ j, j < k → Has (L.getD j []) x = false) (fun i => n - (intOf i).toNat)
  case atStart => exact ⟨0, Nat.zero_le _, rfl, fun _ h => absurd h (by omega)⟩
  case round =>
    obtain ⟨k, hk, rfl, hall⟩ := hrel
    have Hall := hid_ hall; clear hall
    by_cases hlt : k < n
    · obtain ⟨b, off, a', n', c', rfl, hb, hcell, hrow⟩ := h.cells k hlt
      generalize hr : L.getD k [] = r at hrow
      have Hr := hid_ hr; clear hr
      have hl : k < L.length := by rw [h.len]; exact hlt
      cases hh : Has r x with
      | true =>
        have Hf : Hid (rowP L x = ((k : Int), true)) := hid_ (by
          have := rowTo_hit hl Hall.out (by rw [Hr.out]; exact hh)
          rw [rowP, this, if_neg (by omega)])
        go_wp2_with (go_at_call 131; refine (contains_calls _ _ _ _ _ _ hrow).mono ?_; rintro e w' ⟨rfl, rfl⟩)
        go_ret2
        exact ⟨by rw [Hf.out]; rfl, rfl⟩
      | false =>
        go_wp2_with (go_at_call 131; refine (contains_calls _ _ _ _ _ _ hrow).mono ?_; rintro e w' ⟨rfl, rfl⟩)
        go_round
        case rel => exact ⟨k + 1, by omega, by go_num, lt_snoc Hall.out (by rw [Hr.out]; exact hh)⟩
        case measure => simp [intOf]; omega
    · have Hf : Hid (rowP L x = (0, false)) := hid_ (by
        have := rowTo_miss h.len fun j hj => Hall.out j (by omega)
        rw [rowP, this, if_pos (by omega)])
      go_wp2
      go_ret2
      exact ⟨by rw [Hf.out]; rfl, rfl⟩

/-! ### Grow, Concat -/
set_option maxRecDepth 100000 in
theorem grow_calls (n : Nat) (w : World) (hn : n ≤ 1000000) :
    Calls Try.prog 106 #[.slice none 0 0, .int .i64 n] w fun e w' => ∃ v, e = .returned v ∧ w'.ownsRow w.heap.size 3 1 v 0 [] ∧ Below w.heap.size w w' := by
  obtain ⟨i0, hi0, hz0, hz1, hz2⟩ := info_parts Try.infoInt
  by_cases h0 : n = 0
  · subst h0
    go_enter Try.func106, Try.ntmps106
    go_wp2
    go_ret
    exact ⟨_, rfl, World.ownsRow_nil _ _ _ _, Below.refl _ _⟩
  · have hp : (0 : Int) < (n : Int) := by omega
    have hrun : ∀ ty, (Builtin.append_ #[23, 3] ty #[.slice none 0 0, .int .i64 (n : Int)]).run Try.prog w =
        .ok (.slice (some ⟨w.heap.size, 0, none⟩) n (grownCap w n 0 3)) (w.drew.alloc (.cells (([] : List Value).toArray ++ Builtin.zeroCells (Value.int .i64 0).cells n ++ Builtin.zeroCells (Value.int .i64 0).cells (grownCap w n 0 3 - n)) 3)) := fun ty => by
      have hfit : Builtin.nextslicecap n 0 * i0.bytes ≤ 281474976710656 := by
        have := growslice_fits (need := n) (old := 0) (bytes := i0.bytes) (by omega) (by rw [hz2]; omega)
        exact this
      have := Lib.run_append_grow_zeros (P := Try.prog) w 23 3 ty 3 i0 (.int .i64 0) .i64 .i64 Try.underlying23 Try.underlying3 hi0 hz0 none 0 0 [] (by rw [hz1]; exact run_firstCells_none _ _ _ _ _) n (by omega) (by omega) (by omega) (by omega) (by rw [hz2]; omega) (by simpa using hfit)
      simpa using this
    have hge := grownCap_ge w n 0 3
    have hmx := grownCap_le_maxLen w n 0 3 (by unfold maxLen; omega)
    generalize grownCap w n 0 3 = G at hrun hge hmx
    have hG : G ≤ 9223372036854775807 := by unfold maxLen at hmx; omega
    have Hmx := hid_ hmx; clear hmx
    go_enter Try.func106, Try.ntmps106
    go_wp2_with (at_builtin; refine Lib.wpList_append_run _ rfl (.tmp 20) (.tmp 21) _ _ rfl _ _ rfl rfl _ _ (hrun _) ?_)
    go_ret
    refine ⟨_, rfl, World.ownsRow_made (base := w.heap.size) (e := 3) (size := 1) w.drew _ G (Nat.le_refl _) Hmx.out ?_, ((Below.refl _ w).drew.alloc (Nat.le_refl _) _)⟩
    rw [Array.size_append, size_zeroCells, size_zeroCells]
    simp
    omega
end Go.Proofs.Ytoopgmoopmbfnaa
