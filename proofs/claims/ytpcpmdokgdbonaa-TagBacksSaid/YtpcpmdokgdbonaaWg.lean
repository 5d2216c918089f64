import Derived.Test.YtpcpmdokgdbonaaWf
namespace Go.Proofs.Kv
open Go.RowKit Go
theorem grown_drew8 {w w' : World} {row : Option Nat} (h : w.grownBy w' row) : w.grownBy w'.drew row := ⟨h.os, h.tape, h.output, h.size, h.block⟩
end Go.Proofs.Kv
namespace Go.Proofs.Ytpcpmdokgdbonaa
open Go.RowKit Go.Proofs.Kv Go

/-! ### slices.Reverse of an own row: nothing else turns -/
set_option maxRecDepth 100000 in
set_option maxHeartbeats 4000000 in
theorem reverseG_calls (B n c g : Nat) (l : List Int) (w : World) (h : w.ownsRow B 3 1 (.slice (some ⟨g, 0, none⟩) n c) n (l.map (Value.int .i64))) (h0 : 0 < n) (hn : n ≤ 1000) :
    Calls Try.prog 60 #[.slice (some ⟨g, 0, none⟩) n c] w fun e w' => e = .returned (.tuple #[]) ∧ w'.ownsRow B 3 1 (.slice (some ⟨g, 0, none⟩) n c) n (l.reverse.map (Value.int .i64)) ∧ w.grownBy w' (some g) := by
  have hl : l.length = n := by have := h.1; simpa using this
  obtain ⟨cur0, hg, hcur, hsz, htk⟩ : ∃ cur, B ≤ g ∧ w.heap[g]? = some (.cells cur 3 (0, 0)) ∧ cur.size = c ∧ cur.toList.take n = l.map (Value.int .i64) := by
    rcases h.2 with ⟨_, h2⟩ | ⟨g', cap, cur, h1, h2, h3, h4, _, h6, h7⟩
    · omega
    · injection h1 with h1 _ h5
      injection h1 with h1
      injection h1 with h1
      subst h1; subst h5
      exact ⟨cur, h2, h3, by omega, by simpa using h7⟩
  have hcap : n ≤ c ∧ c ≤ maxLen := by
    rcases h.2 with ⟨h1, _⟩ | ⟨_, cap, _, h1, _, _, h4, h5, _, _⟩
    · injection h1 with h1; cases h1
    · injection h1 with _ _ h1; subst h1; exact ⟨h4, h5⟩
  have hstart : ∀ i, i < n → cur0[i]? = some (.int .i64 (revAt l n 0 i)) := by
    intro i hi
    have h1 : (cur0.toList.take n)[i]? = (l.map (Value.int .i64))[i]? := by rw [htk]
    rw [List.getElem?_take_of_lt hi, Array.getElem?_toList, List.getElem?_map, List.getElem?_eq_getElem (by omega)] at h1
    rw [h1, revAt, if_neg (by omega), List.getD, List.getElem?_eq_getElem (by omega)]
    rfl
  have Hl := hid_ hl
  clear h htk
  go_enter Try.func60, Try.ntmps60
  go_wp2
  go_loopw [2, 3] (fun i j wr => ∃ (k : Nat) (cur : Array Value), k ≤ n / 2 ∧ i = .int .i64 k ∧ j = .int .i64 ((n : Int) - 1 - k) ∧ wr.heap[g]? = some (.cells cur 3 (0, 0)) ∧ cur.size = c ∧ (∀ i, i < n → cur[i]? = some (.int .i64 (revAt l n k i))) ∧ w.grownBy wr (some g)) (fun i _ _ => n - (intOf i).toNat)
  case atStart => exact ⟨0, cur0, Nat.zero_le _, rfl, by simp, hcur, hsz, hstart, World.grownBy.refl _ _⟩
  case round =>
    clear hcur hsz hstart cur0
    obtain ⟨k, cur, hk, rfl, rfl, hcur, hsz, hall, hbel⟩ := hrel
    have Hall := hid_ hall; clear hall
    have Hcur := hid_ hcur; clear hcur
    by_cases hlt : (k : Int) < (n : Int) - 1 - k
    · have hj0 : (0 : Int) ≤ (n : Int) - 1 - k := by omega
      have hjm : (n : Int) - 1 - k < n := by omega
      obtain ⟨j, hj⟩ : ∃ j : Nat, (n : Int) - 1 - k = j := ⟨n - 1 - k, by omega⟩
      have Hj := hid_ hj
      rw [hj] at hlt hj0 hjm ⊢
      clear hj
      have hkj : k < j := by omega
      have hkn : (k : Int) < (n : Int) := by omega
      have hc1 : wr.cell? ⟨g, k, none⟩ = some (.int .i64 (l.getD k 0)) := by rw [Go.Joins.cell_of_block Hcur.out, Hall.out k (by omega), revAt, if_neg (by have := Hj.out; omega)]
      have hc2 : wr.cell? ⟨g, j, none⟩ = some (.int .i64 (l.getD j 0)) := by rw [Go.Joins.cell_of_block Hcur.out, Hall.out j (by omega), revAt, if_neg (by have := Hj.out; omega)]
      have hf1 : wr.frozen? ⟨g, k, none⟩ = false := Go.Joins.unfrozen_of_block Hcur.out k
      have hf2 : wr.frozen? ⟨g, j, none⟩ = false := Go.Joins.unfrozen_of_block Hcur.out j
      generalize hx : l.getD k 0 = x at hc1
      generalize hy : l.getD j 0 = y at hc2
      have Hx := hid_ hx; clear hx
      have Hy := hid_ hy; clear hy
      go_wp2
      go_region
      have Hcur2 : Hid ((((wr.setCell ⟨g, k, none⟩ (.int .i64 y)).setCell ⟨g, j, none⟩ (.int .i64 x)).drew).heap[g]? = some (.cells ((cur.setIfInBounds k (.int .i64 y)).setIfInBounds j (.int .i64 x)) 3 (0, 0))) := hid_ (by
        rw [heap_drew]; exact Go.Joins.block_setCell (Go.Joins.block_setCell Hcur.out _) _)
      have Hbel2 : Hid (World.grownBy w (((wr.setCell ⟨g, k, none⟩ (.int .i64 y)).setCell ⟨g, j, none⟩ (.int .i64 x)).drew) (some g)) := hid_ (grown_drew8 ((hbel.trans (setCell_grown _ ⟨g, k, none⟩ _)).trans (setCell_grown _ ⟨g, j, none⟩ _)))
      go_wp2
      go_roundw
      case rel =>
        refine ⟨k + 1, _, by have := Hj.out; omega, by go_num, by have := Hj.out; congr 1; omega, Hcur2.out, by simpa using hsz, fun i hi => ?_, Hbel2.out⟩
        have hjn := Hj.out
        have hkc : k < cur.size := by have := hcap.1; omega
        have hjc : j < cur.size := by have := hcap.1; omega
        rw [Array.getElem?_setIfInBounds, Array.getElem?_setIfInBounds]
        by_cases e1 : j = i
        · subst e1
          rw [if_pos rfl, if_pos (by simpa using hjc), revAt, if_pos (by omega), ← Hx.out, show n - 1 - j = k by omega]
        · rw [if_neg e1]
          by_cases e2 : k = i
          · subst e2
            rw [if_pos rfl, if_pos hkc, revAt, if_pos (by omega), ← Hy.out, show n - 1 - k = j by omega]
          · rw [if_neg e2, Hall.out i hi, revAt, revAt]
            by_cases e3 : i < k ∨ n - 1 - k < i
            · rw [if_pos e3, if_pos (by omega)]
            · rw [if_neg e3, if_neg (by omega)]
      case measure => simp [intOf]; omega
    · go_wp2
      go_end0
      refine ⟨rfl, ⟨by simp [Hl.out], .inr ⟨g, c, cur, rfl, hg, Hcur.out, hcap.1, hcap.2, by omega, ?_⟩⟩, hbel⟩
      apply List.ext_getElem?
      intro i
      by_cases hi : i < n
      · rw [List.getElem?_take_of_lt (by omega), Array.getElem?_toList, Hall.out i hi, ← List.map_reverse, List.getElem?_map, List.getElem?_reverse (by rw [Hl.out]; exact hi), Hl.out, List.getElem?_eq_getElem (by rw [Hl.out]; omega)]
        simp only [Option.map_some, revAt]
        split
        · rw [List.getD, List.getElem?_eq_getElem (by rw [Hl.out]; omega)]; rfl
        · rw [List.getD, List.getElem?_eq_getElem (by rw [Hl.out]; omega)]
          have : n - 1 - i = i := by omega
          simp [this]
      · rw [List.getElem?_take_eq_none (by omega), List.getElem?_eq_none (by simp [Hl.out]; omega)]
set_option maxRecDepth 100000 in
set_option maxHeartbeats 4000000 in
theorem r8Turned_calls (a : Option Addr) (n c : Nat) (l : List Int) (w : World) (h : IntsAt w a n c l) (hn : n ≤ 1000) :
    Calls Try.prog 29 #[.slice a n c] w fun e w' => ∃ v, e = .returned v ∧ Made 3 w w' v l.reverse := by
  obtain ⟨i0, hi0, hz0, hz1, hz2⟩ := info_parts Try.infoInt
  have hl := h.len
  have HI := hid_ h
  have Hl := hid_ hl
  have hwl : IntKind.i64.wrap ((n : Int) - 1) = (n : Int) - 1 := IntWalk.i64_in _ (by omega)
  clear h hl
  go_enter Try.func29, Try.ntmps29
  go_wp2
  go_loopw [3, 4] (fun v i wr => ∃ k : Nat, k ≤ n ∧ i = .int .i64 ((n : Int) - 1 - k) ∧ Made 3 w wr v (l.reverse.take k)) (fun _ i _ => (intOf i + 1).toNat)
  case atStart => exact ⟨0, Nat.zero_le _, by simp, Made.none_ _ (Below.refl _ _)⟩
  case round =>
    obtain ⟨k, hk, rfl, hm⟩ := hrel
    by_cases hlt : k < n
    · obtain ⟨j, hj⟩ : ∃ j : Nat, (n : Int) - 1 - k = (j : Int) := ⟨n - 1 - k, by omega⟩
      have hjn : j < n := by omega
      have hj2 : j = n - 1 - k := by omega
      rw [hj]
      obtain ⟨b, off, rfl, -, hcell⟩ := (HI.out.below hm.bel (Nat.le_refl _)).cells j hjn
      have hge : decide ((j : Int) ≥ 0) = true := decide_eq_true (by omega)
      have Htk : Hid (l.reverse.take (k + 1) = l.reverse.take k ++ [l.getD j 0]) := hid_ (by
        rw [Kv.take_snoc l.reverse 0 k (by rw [List.length_reverse, Hl.out]; exact hlt), getD_rev l (by rw [Hl.out]; exact hlt), Hl.out, hj2])
      have hkl : (l.reverse.take k).length = k := by rw [List.length_take, List.length_reverse, Hl.out]; omega
      generalize l.getD j 0 = x at *
      have hown := hm.own
      rw [hkl] at hown
      have Hown := hid_ hown
      have Hbel := hid_ hm.bel
      have hsz := hm.bel.size
      have Hkl := hid_ hkl
      have hjk : j + k + 1 = n := by omega
      clear hj2
      have hwj : IntKind.i64.wrap ((j : Int) - 1) = (n : Int) - 1 - ((k + 1 : Nat) : Int) := by rw [IntKind.wrap_i64]; omega
      have Hjk := hid_ hjk
      clear hm hown hj hkl hjk
      go_wp2_with (at_builtin; refine wpList_append_ints _ rfl (.tmp 12) (.tmp 17) _ rfl w.heap.size 3 i0 Try.underlying26 hi0 hz0 hz1 hz2 _ k _ rfl (Hown.out.alloc _) _ _ _ _ rfl (IntsAt.one _ _ _) (by omega) (by simp; omega) ?_; intro v5 w5 ho5 hg5 hat5)
      go_roundw
      case rel =>
        refine ⟨k + 1, by omega, rfl, ⟨?_, (Hbel.out.alloc hsz _).grown hg5 (by simp; omega) (fun r e => (Hown.out.lt r e).1)⟩⟩
        rw [Htk.out, List.length_append, Hkl.out]
        simpa using ho5
      case measure =>
        have h9 := Hjk.out
        simp [intOf]; omega
    · obtain rfl : k = n := by omega
      have hge : decide (((k : Int) - 1 - k) ≥ 0) = false := decide_eq_false (by omega)
      rw [List.take_of_length_le (by rw [List.length_reverse, Hl.out]; exact Nat.le_refl _)] at hm
      have Hm := hid_ hm
      clear hm
      go_wp2
      go_ret
      exact ⟨_, rfl, Hm.out⟩
end Go.Proofs.Ytpcpmdokgdbonaa
