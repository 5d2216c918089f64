import Derived.Test.YtoopgmoopmbfnaaSndE
import Derived.Shelf.Abstract
import Derived.Shelf.RegionOpen
import Derived.OwnWalkIn
import Derived.TacticsInMore
import Derived.LoopNIn
import Derived.LoopIn
import Derived.Sort.LoopGhostIn
namespace Go.Proofs.Ytoopgmoopmbfnaa
open Go.RowKit Go.Proofs.Kv Go.Proofs.Snd
attribute [local go_sem] Oper.semAt_some

/-! ### all orders -/
def ordStep (n : Nat) (L : List (List Int)) : List (List Int) := L.flatMap fun o => ((rangeI n).filter fun x => !Has o x).map fun x => o ++ [x]
def ordIter (n : Nat) : Nat → List (List Int)
  | 0 => [[]]
  | k + 1 => ordStep n (ordIter n k)
def ordersL (n : Nat) : List (List Int) := ordIter n n
def chain (n : Nat) : List (List Int) → Bool
  | [] => false
  | [x] => decide (x.length = n) && decide (advL x = none)
  | x :: y :: r => decide (x.length = n) && (decide (advL x = some y) && chain n (y :: r))
theorem chain_at {n : Nat} : ∀ {L : List (List Int)}, chain n L = true → (∀ k, k < L.length → (L.getD k []).length = n) ∧ (∀ k, k + 1 < L.length → advL (L.getD k []) = some (L.getD (k + 1) [])) ∧ advL (L.getD (L.length - 1) []) = none ∧ 0 < L.length
  | [], _ => by contradiction
  | [x], h => by
    simp only [chain, Bool.and_eq_true, decide_eq_true_eq] at h
    refine ⟨fun k hk => ?_, fun k hk => absurd hk (by simp), by simpa [List.getD] using h.2, by simp⟩
    obtain rfl : k = 0 := by simp at hk; omega
    simpa [List.getD] using h.1
  | x :: y :: r, h => by
    simp only [chain, Bool.and_eq_true, decide_eq_true_eq] at h
    obtain ⟨h1, h2, h3, _⟩ := chain_at h.2.2
    refine ⟨fun k hk => ?_, fun k hk => ?_, ?_, by simp⟩
    · cases k with
      | zero => simpa [List.getD] using h.1
      | succ k => simpa [List.getD] using h1 k (by simpa using hk)
    · cases k with
      | zero => simpa [List.getD] using h.2.1
      | succ k => simpa [List.getD] using h2 k (by simpa using hk)
    · simpa [List.getD] using h3
theorem orders_chain {n : Nat} (h1 : 1 ≤ n) (h6 : n ≤ 6) : chain n (ordersL n) = true ∧ (ordersL n).getD 0 [] = rangeI n := by
  match n, h1, h6 with
  | 1, _, _ => decide +kernel
  | 2, _, _ => decide +kernel
  | 3, _, _ => decide +kernel
  | 4, _, _ => decide +kernel
  | 5, _, _ => decide +kernel
  | 6, _, _ => decide +kernel

/-! ### the iterator -/
def fillL (n k : Nat) : List Int := (List.range n).map fun i : Nat => if i < k then (i : Int) else 0
theorem fillL_len (n k : Nat) : (fillL n k).length = n := by simp [fillL]
theorem fillL_succ {n k : Nat} : (fillL n k).set k (k : Int) = fillL n (k + 1) := by
  refine List.ext_getElem (by simp [fillL]) fun i h1 h2 => ?_
  simp [fillL_len] at h1
  rw [List.getElem_set]
  simp only [fillL, List.getElem_map, List.getElem_range]
  by_cases e : k = i
  · subst e; simp
  · rw [if_neg e]
    by_cases h3 : i < k
    · rw [if_pos h3, if_pos (by omega)]
    · rw [if_neg h3, if_neg (by omega)]
theorem fillL_all (n : Nat) : fillL n n = rangeI n := by
  unfold fillL rangeI
  refine List.map_congr_left fun i hi => ?_
  rw [if_pos (List.mem_range.1 hi)]

set_option maxRecDepth 100000 in
set_option maxHeartbeats 1000000 in
theorem orders_iter (n Bn : Nat) (h1 : 1 ≤ n) (h6 : n ≤ 6) (m : Nat) :
    SeqMem Fence.wide m Try.prog 125 #[.pointer (some ⟨Bn, 0, none⟩)] (fun B => .slice (some ⟨B, 0, none⟩) n n) (fun B k W => RowL W B ((ordersL n).getD k [])) (ordersL n).length
      (fun W => W.cell? ⟨Bn, 0, none⟩ = some (.int .i64 n)) := by
  intro l J Jx W hG hJ hY h0
  obtain ⟨hch, hfirst⟩ := orders_chain h1 h6
  obtain ⟨hlen, hnext, hlast, hpos⟩ := chain_at hch
  have hbn := hG _ _ h0
  have hmk : ∀ W' : World, (Instr.makeSlice 23 (.int .i64 (n : Int)) (.int .i64 (n : Int))).run Try.prog W' = .ok (.slice (some ⟨W'.heap.size, 0, none⟩) n n) (W'.alloc (.cells (madeCells #[.int .i64 0] n) 3)) := fun W' => by
    obtain ⟨i0, hi0, hz0, hz1, hz2⟩ := info_parts Try.infoInt
    have := run_make (P := Try.prog) W' 23 3 i0 (.int .i64 0) Try.underlying23 hi0 hz0 .i64 .i64 n n (by omega) (by omega) (by rw [hz2]; omega) (by omega)
    simpa [hz1, Value.cells] using this
  have Hlen := hid_ hlen; clear hlen
  have Hnext := hid_ hnext; clear hnext
  have Hlast := hid_ hlast; clear hlast
  have Hfirst := hid_ hfirst; clear hfirst
  have Hpos := hid_ hpos; clear hpos hch
  have HY := hid_ hY; clear hY
  have HJ := hid_ hJ; clear hJ
  have HG := hid_ hG; clear hG
  have HJ1 : Hid (J 0 (W.alloc (.cells (madeCells #[.int .i64 0] n) 3))) := hid_ (HJ.out 0 _ _ h0 (World.grownBy_alloc W _ _))
  have HR1 : Hid (RowL (W.alloc (.cells (madeCells #[.int .i64 0] n) 3)) W.heap.size (fillL n 0)) := hid_ (by
    have h := World.rowIs_made W (.int .i64 0) n 3
    unfold RowL
    rw [fillL_len]
    refine h.congr fun i hi => ?_
    simp [fillL, List.getD, hi])
  generalize hN : (ordersL n).length = N at Hnext Hlast HY Hpos Hlen ⊢
  generalize ordersL n = O at Hnext Hlast HY Hfirst Hlen
  clear hN h0
  refine callsIn_of_wp Try.func125 rfl trivial ?_ rfl
  simp only [Try.ntmps125, List.size_toArray, List.length_cons, List.length_nil, Nat.reduceAdd, Nat.reduceSub, Array.replicate_succ, Array.replicate_zero, List.push_toArray, List.append_toArray, List.nil_append, List.cons_append]
  gi_wp2
  gi_loopw [9] (fun i wr => ∃ k : Nat, k ≤ n ∧ i = .int .i64 k ∧ RowL wr W.heap.size (fillL n k) ∧ J 0 wr) (fun i _ => n - (intOf i).toNat)
  case atStart => exact ⟨0, Nat.zero_le _, rfl, HR1.out, HJ1.out⟩
  case round =>
    obtain ⟨k, hk, rfl, hR, hJk⟩ := hrel
    by_cases hlt : k < n
    · have hc : wr.cell? ⟨W.heap.size, k, none⟩ = some (.int .i64 ((fillL n k).getD k 0)) := World.rowIs.cell hR (by rw [fillL_len]; exact hlt)
      have hf : wr.frozen? ⟨W.heap.size, k, none⟩ = false := World.rowIs.frozen hR k
      generalize (fillL n k).getD k 0 = z at hc
      have Hput : Hid (RowL (wr.setCell ⟨W.heap.size, k, none⟩ (.int .i64 k)) W.heap.size (fillL n (k + 1))) := hid_ (by rw [← fillL_succ]; exact hR.put k k)
      have Hj : Hid (J 0 (wr.setCell ⟨W.heap.size, k, none⟩ (.int .i64 k))) := hid_ (HJ.out 0 _ _ hJk (grown_set (World.grownBy.refl _ _) k _))
      clear hR hJk
      gi_wp2
      go_roundw
      case rel => exact ⟨k + 1, by omega, by go_num, Hput.out, Hj.out⟩
      case measure => simp [intOf]; omega
    · obtain rfl : k = n := by omega
      have HR2 : Hid (RowL wr W.heap.size (O.getD 0 [])) := hid_ (by rw [Hfirst.out, ← fillL_all]; exact hR)
      have HJ2 := hid_ hJk
      clear hR hJk
      have Hr0 : Hid (0 < N) := Hpos
      gi_wp2
      gi_loopg [] N (fun g wr => ∃ j : Nat, j < N ∧ g = N - j ∧ RowL wr W.heap.size (O.getD j []) ∧ J j wr)
      case atStart => exact ⟨0, Hr0.out, by omega, HR2.out, HJ2.out⟩
      case round =>
        obtain ⟨j, hj, hgk, hR, hJj⟩ := hrel
        have Hgk := hid_ hgk; clear hgk
        obtain ⟨fn, tmps, assign, body, hy, hround⟩ := HY.out j wr hJj hj hR
        have HR3 := hid_ hR; clear hR
        have HJj := hid_ hJj; clear hJj
        have Hround := hid_ hround; clear hround
        gi_wp2
        refine ⟨fun h => absurd h (by simp [Fence.wide]), Hround.out.mono ?_⟩
        rintro e W3 (⟨rfl, hJ3, hs3, hB3⟩ | ⟨rfl, hJx3⟩)
        · have hRow : RowL W3 W.heap.size (O.getD j []) := World.rowIs.of_block HR3.out hB3
          have hadv := advance_calls W.heap.size k _ W3 hRow (Hlen.out j hj) h1 (by omega)
          have Hadv := hid_ hadv; clear hadv
          have HJ3 := hid_ hJ3; clear hJ3 hs3 hB3 hRow
          gi_wp2
          refine ⟨trivial, fun h => absurd h (by simp [Fence.wide]), (callsIn_wide.2 Hadv.out).mono ?_⟩
          rintro e W4 ⟨hg4, (⟨rfl, hn4, hR4⟩ | ⟨l', rfl, hs4, hR4⟩)⟩
          · have HJ4 : Hid (J (j + 1) W4) := hid_ (HJ.out _ _ _ HJ3.out hg4)
            have HjN : Hid (j + 1 = N) := hid_ (by
              rcases Nat.lt_or_ge (j + 1) N with h | h
              · rw [Hnext.out j h] at hn4; cases hn4
              · omega)
            clear hn4 hR4 hg4
            gi_wp2
            go_end0
            exact ⟨⟨_, rfl⟩, .inl (by rw [← HjN.out]; exact HJ4.out)⟩
          · have HJ4 : Hid (J (j + 1) W4) := hid_ (HJ.out _ _ _ HJ3.out hg4)
            have hjN : j + 1 < N := by
              rcases Nat.lt_or_ge (j + 1) N with h | h
              · exact h
              · have : j = N - 1 := by omega
                rw [this, Hlast.out] at hs4; cases hs4
            have HR5 : Hid (RowL W4 W.heap.size (O.getD (j + 1) [])) := hid_ (by
              rw [Hnext.out j hjN] at hs4
              injection hs4 with hs4
              rw [hs4]; exact hR4)
            clear hs4 hR4 hg4
            gi_wp2
            gi_roundg (N - (j + 1))
            case rel => exact ⟨j + 1, hjN, rfl, HR5.out, HJ4.out⟩
            case measure => have := Hgk.out; omega
        · have HJx := hid_ hJx3; clear hJx3
          gi_wp2
          refine ⟨trivial, ?_⟩
          gi_wp2
          go_end0
          exact ⟨⟨_, rfl⟩, .inr ⟨j + 1, by omega, HJx.out⟩⟩
end Go.Proofs.Ytoopgmoopmbfnaa
