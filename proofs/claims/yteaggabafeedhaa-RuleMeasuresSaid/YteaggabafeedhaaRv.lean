import Derived.Test.YteaggabafeedhaaRx
import Derived.Test.YteaggabafeedhaaKc
import Derived.Lib.SmallJoins
import Derived.Deep.OwnRows
import Derived.RegionTactic
import Derived.ChangeAlike
import Derived.BigRegion
namespace Go.Proofs.Yteaggabafeedhaa
open Go.RowKit Go.Proofs.Kv

/-! ### slices.Reverse of a row of the call's own -/
def revAt (l : List Int) (n k i : Nat) : Int := if i < k ∨ n - 1 - k < i then l.getD (n - 1 - i) 0 else l.getD i 0
theorem below_drew1 {B : Nat} {w w' : World} (h : Below B w w') : Below B w w'.drew := Below.drew h
theorem heap_drew (w : World) : w.drew.heap = w.heap := rfl
set_option maxRecDepth 100000 in
set_option maxHeartbeats 4000000 in
theorem reverse_calls (B n c : Nat) (a : Option Addr) (l : List Int) (w : World) (h : w.ownsRow B 3 1 (.slice a n c) n (l.map (Value.int .i64))) (hB : B ≤ w.heap.size) (hn : n ≤ 1000) :
    Calls Try.prog 108 #[.slice a n c] w fun e w' => e = .returned (.tuple #[]) ∧ w'.ownsRow B 3 1 (.slice a n c) n (l.reverse.map (Value.int .i64)) ∧ Below B w w' := by
  have hl : l.length = n := by have := h.1; simpa using this
  by_cases h0 : n = 0
  · subst h0
    have e0 : l = [] := List.eq_nil_of_length_eq_zero hl
    subst e0
    have Hh := hid_ h; clear h
    go_enter Try.func108, Try.ntmps108
    go_wp2
    go_loopw [2, 3] (fun i j wr => i = .int .i64 0 ∧ j = .int .i64 (-1) ∧ wr = w) (fun i _ _ => 0)
    case atStart => exact ⟨rfl, rfl, rfl⟩
    case round =>
      obtain ⟨rfl, rfl, rfl⟩ := hrel
      go_wp2
      go_end0
      exact ⟨rfl, Hh.out, Below.refl _ _⟩
  · obtain ⟨g, cur0, rfl, hg, hcur, hsz, htk⟩ : ∃ g cur, a = some ⟨g, 0, none⟩ ∧ B ≤ g ∧ w.heap[g]? = some (.cells cur 3 (0, 0)) ∧ cur.size = c ∧ cur.toList.take n = l.map (Value.int .i64) := by
      rcases h.2 with ⟨_, h2⟩ | ⟨g, cap, cur, h1, h2, h3, h4, _, h6, h7⟩
      · exact absurd h2 h0
      · injection h1 with h1 _ h5
        subst h1; subst h5
        exact ⟨g, cur, rfl, h2, h3, by omega, by simpa using h7⟩
    have hcap : n ≤ c ∧ c ≤ maxLen := by
      rcases h.2 with ⟨h1, _⟩ | ⟨_, cap, _, h1, _, _, h4, h5, _, _⟩
      · injection h1 with h1; cases h1
      · injection h1 with _ _ h1; subst h1; exact ⟨h4, h5⟩
    have hstart : ∀ i, i < n → cur0[i]? = some (.int .i64 (revAt l n 0 i)) := by
      intro i hi
      have h1 : (cur0.toList.take n)[i]? = (l.map (Value.int .i64))[i]? := by rw [htk]
      rw [List.getElem?_take_of_lt hi, Array.getElem?_toList, List.getElem?_map, List.getElem?_eq_getElem (by omega)] at h1
      rw [h1, revAt, if_neg (by omega), List.getD, List.getElem?_eq_getElem (by omega)]
      rfl
    have Hl := hid_ hl
    clear h htk
    go_enter Try.func108, Try.ntmps108
    go_wp2
    go_loopw [2, 3] (fun i j wr => ∃ (k : Nat) (cur : Array Value), k ≤ n / 2 ∧ i = .int .i64 k ∧ j = .int .i64 ((n : Int) - 1 - k) ∧ wr.heap[g]? = some (.cells cur 3 (0, 0)) ∧ cur.size = c ∧ (∀ i, i < n → cur[i]? = some (.int .i64 (revAt l n k i))) ∧ Below B w wr) (fun i _ _ => n - (intOf i).toNat)
    case atStart => exact ⟨0, cur0, Nat.zero_le _, rfl, by simp, hcur, hsz, hstart, Below.refl _ _⟩
    case round =>
      clear hcur hsz hstart cur0
      obtain ⟨k, cur, hk, rfl, rfl, hcur, hsz, hall, hbel⟩ := hrel
      have Hall := hid_ hall; clear hall
      have Hcur := hid_ hcur; clear hcur
      by_cases hlt : (k : Int) < (n : Int) - 1 - k
      · have hj0 : (0 : Int) ≤ (n : Int) - 1 - k := by omega
        have hjm : (n : Int) - 1 - k < n := by omega
        obtain ⟨j, hj⟩ : ∃ j : Nat, (n : Int) - 1 - k = j := ⟨n - 1 - k, by omega⟩
        have Hj := hid_ hj
        rw [hj] at hlt hj0 hjm ⊢
        clear hj
        have hkj : k < j := by omega
        have hkn : (k : Int) < (n : Int) := by omega
        have hc1 : wr.cell? ⟨g, k, none⟩ = some (.int .i64 (l.getD k 0)) := by rw [Go.Joins.cell_of_block Hcur.out, Hall.out k (by omega), revAt, if_neg (by have := Hj.out; omega)]
        have hc2 : wr.cell? ⟨g, j, none⟩ = some (.int .i64 (l.getD j 0)) := by rw [Go.Joins.cell_of_block Hcur.out, Hall.out j (by omega), revAt, if_neg (by have := Hj.out; omega)]
        have hf1 : wr.frozen? ⟨g, k, none⟩ = false := Go.Joins.unfrozen_of_block Hcur.out k
        have hf2 : wr.frozen? ⟨g, j, none⟩ = false := Go.Joins.unfrozen_of_block Hcur.out j
        generalize hx : l.getD k 0 = x at hc1
        generalize hy : l.getD j 0 = y at hc2
        have Hx := hid_ hx; clear hx
        have Hy := hid_ hy; clear hy
        go_wp2
        go_region
        have Hcur2 : Hid ((((wr.setCell ⟨g, k, none⟩ (.int .i64 y)).setCell ⟨g, j, none⟩ (.int .i64 x)).drew).heap[g]? = some (.cells ((cur.setIfInBounds k (.int .i64 y)).setIfInBounds j (.int .i64 x)) 3 (0, 0))) := hid_ (by
          rw [heap_drew]; exact Go.Joins.block_setCell (Go.Joins.block_setCell Hcur.out _) _)
        have Hbel2 : Hid (Below B w (((wr.setCell ⟨g, k, none⟩ (.int .i64 y)).setCell ⟨g, j, none⟩ (.int .i64 x)).drew)) := hid_ (Below.drew (Below.setCell (Below.setCell hbel hg _) hg _))
        go_wp2
        go_roundw
        case rel =>
          refine ⟨k + 1, _, by have := Hj.out; omega, by go_num, by have := Hj.out; congr 1; omega, Hcur2.out, by simpa using hsz, fun i hi => ?_, Hbel2.out⟩
          have hjn := Hj.out
          have hkc : k < cur.size := by have := hcap.1; omega
          have hjc : j < cur.size := by have := hcap.1; omega
          rw [Array.getElem?_setIfInBounds, Array.getElem?_setIfInBounds]
          by_cases e1 : j = i
          · subst e1
            rw [if_pos rfl, if_pos (by simpa using hjc), revAt, if_pos (by omega), ← Hx.out, show n - 1 - j = k by omega]
          · rw [if_neg e1]
            by_cases e2 : k = i
            · subst e2
              rw [if_pos rfl, if_pos hkc, revAt, if_pos (by omega), ← Hy.out, show n - 1 - k = j by omega]
            · rw [if_neg e2, Hall.out i hi, revAt, revAt]
              by_cases e3 : i < k ∨ n - 1 - k < i
              · rw [if_pos e3, if_pos (by omega)]
              · rw [if_neg e3, if_neg (by omega)]
        case measure => simp [intOf]; omega
      · go_wp2
        go_end0
        refine ⟨rfl, ⟨by simp [Hl.out], .inr ⟨g, c, cur, rfl, hg, Hcur.out, hcap.1, hcap.2, by omega, ?_⟩⟩, hbel⟩
        apply List.ext_getElem?
        intro i
        by_cases hi : i < n
        · rw [List.getElem?_take_of_lt (by omega), Array.getElem?_toList, Hall.out i hi, ← List.map_reverse, List.getElem?_map, List.getElem?_reverse (by rw [Hl.out]; exact hi), Hl.out, List.getElem?_eq_getElem (by rw [Hl.out]; omega)]
          simp only [Option.map_some, revAt]
          split
          · rw [List.getD, List.getElem?_eq_getElem (by rw [Hl.out]; omega)]; rfl
          · rw [List.getD, List.getElem?_eq_getElem (by rw [Hl.out]; omega)]
            have : n - 1 - i = i := by omega
            simp [this]
        · rw [List.getElem?_take_eq_none (by omega), List.getElem?_eq_none (by simp [Hl.out]; omega)]
end Go.Proofs.Yteaggabafeedhaa
