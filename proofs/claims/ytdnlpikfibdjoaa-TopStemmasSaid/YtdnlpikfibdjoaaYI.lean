import Derived.Test.YtdnlpikfibdjoaaYH
namespace Go.Proofs.Kv
open Go.RowKit Go
theorem ownRw_made {E E1 : TypeId} (w : World) (n : Nat) (hE : E ≠ E1) (h : n ≤ 1000) : OwnRw E E1 (w.alloc (.cells (madeCells #[.slice none 0 0] n) E)) w.heap.size (.slice (some ⟨w.heap.size, 0, none⟩) n n) (List.replicate n (.slice none 0 0)) (List.replicate n []) := by
  have hm : (madeCells #[(.slice none 0 0 : Value)] n).toList = List.replicate n (.slice none 0 0) := toList_madeCells_one _ _
  refine ⟨hE, ?_, fun i hi => ?_, fun i j u u' b _ hu _ hb => ?_⟩
  · rw [List.length_replicate, ← hm]
    exact World.ownsRow_lit w _ n (Nat.le_refl _) (by unfold maxLen; omega) (by rw [size_madeCells, Nat.mul_one])
  · rw [List.length_replicate] at hi
    refine ⟨_, List.getElem?_replicate.trans (if_pos hi), ?_⟩
    have e : (List.replicate n ([] : List Int)).getD i [] = [] := by simp [List.getD, hi]
    rw [e]
    exact World.ownsRow_nil _ _ _ _
  · have := List.getElem?_replicate.symm.trans hu
    split at this
    · injection this with this; subst this; cases hb
    · cases this
theorem made_row (w : World) (n : Nat) (E : TypeId) : (w.alloc (.cells (madeCells #[.int .i64 0] n) E)).heap[w.heap.size]? = some (.cells (List.replicate n (Value.int .i64 0)).toArray E (0, 0)) := by
  have hm : madeCells #[(.int .i64 0 : Value)] n = (List.replicate n (Value.int .i64 0)).toArray := by
    rw [← toList_madeCells_one]
  rw [hm]
  show (w.heap.push _)[w.heap.size]? = _
  simp
theorem own_of_block {w : World} {B g n : Nat} {E : TypeId} {l : List Int} (hg : w.heap[g]? = some (.cells (l.map (Value.int .i64)).toArray E (0, 0))) (hl : l.length = n) (hB : B ≤ g) (hn : n ≤ 1000) : w.ownsRow B E 1 (.slice (some ⟨g, 0, none⟩) n n) n (l.map (Value.int .i64)) := by
  refine ⟨by simp [hl], .inr ⟨g, n, _, rfl, hB, hg, Nat.le_refl _, by unfold maxLen; omega, by simp [hl], ?_⟩⟩
  rw [Nat.mul_one]; exact List.take_of_length_le (by simp [hl])
theorem part_set {α : Type} (T : List (List α)) {n k : Nat} (hk : k < n) (hT : T.length = n) (y : List α) : (T.take k ++ List.replicate (n - k) []).set k y = T.take k ++ y :: List.replicate (n - (k + 1)) [] := by
  have hl : (T.take k).length = k := by rw [List.length_take]; omega
  rw [List.set_append_right _ _ (by omega), hl, Nat.sub_self, show n - k = (n - (k + 1)) + 1 by omega, List.replicate_succ, List.set_cons_zero]
theorem part_next {α : Type} (T : List (List α)) {n k : Nat} (hk : k < n) (hT : T.length = n) : T.take k ++ T.getD k [] :: List.replicate (n - (k + 1)) [] = T.take (k + 1) ++ List.replicate (n - (k + 1)) [] := by
  rw [Kv.take_snoc T [] k (by omega), List.append_assoc]; rfl
end Go.Proofs.Kv
namespace Go.Proofs.Ytdnlpikfibdjoaa
open Go.RowKit Go.Proofs.Kv Go

/-! ### the program's copied -/
set_option maxRecDepth 100000 in
set_option maxHeartbeats 4000000 in
theorem copied7_calls (a : Option Addr) (n c : Nat) (L : List (List Int)) (w : World) (h : ListsAt w a n c L) (hn : n ≤ 1000) (hs : ∀ i, i < n → (L.getD i []).length ≤ 1000) :
    Calls Try.prog 101 #[.slice a n c] w fun e w' => ∃ v us, e = .returned v ∧ OwnRw 22 3 w' w.heap.size v us L ∧ Below w.heap.size w w' := by
  have Hlen := hid_ h.len
  have Hrow := hid_ hs
  have HL := hid_ (fun W (hW : Below w.heap.size w W) => h.below hW (Nat.le_refl _))
  have HM := hid_ (ownRw_made (E := 22) (E1 := 3) w n (by decide) hn)
  have HB := hid_ (below_alloc w (.cells (madeCells #[.slice none 0 0] n) 22))
  obtain ⟨i0, hi0, hz0, hz1, hz2⟩ := info_parts Try.infoInts
  obtain ⟨i1, hi1, hz3, hz4, hz5⟩ := info_parts Try.infoInt
  have hmk : ∀ W' : World, (Instr.makeSlice 43 (.int .i64 (n : Int)) (.int .i64 (n : Int))).run Try.prog W' = .ok (.slice (some ⟨W'.heap.size, 0, none⟩) n n) (W'.alloc (.cells (madeCells #[.slice none 0 0] n) 22)) := fun W' => by
    have := run_make (P := Try.prog) W' 43 22 i0 (.slice none 0 0) Try.underlying43 hi0 hz0 .i64 .i64 n n (by omega) (by omega) (by rw [hz2]; omega) (by omega)
    rw [this, hz1]; simp [Value.cells]
  clear h hs
  go_enter Try.func101, Try.ntmps101
  go_wp2
  go_loopw [11] (fun i wr => ∃ (k : Nat) (us : List Value), k ≤ n ∧ i = .int .i64 k ∧ OwnRw 22 3 wr w.heap.size (.slice (some ⟨w.heap.size, 0, none⟩) n n) us (L.take k ++ List.replicate (n - k) []) ∧ (∀ j, k ≤ j → j < n → us[j]? = some (.slice none 0 0)) ∧ Below w.heap.size w wr) (fun i _ => n - (intOf i).toNat)
  case atStart => exact ⟨0, _, Nat.zero_le _, rfl, by simpa using HM.out, fun j _ hj => List.getElem?_replicate.trans (if_pos hj), HB.out⟩
  case round =>
    obtain ⟨k, us, hk, rfl, hO, hus, hbel⟩ := hrel
    have hsz := hbel.size
    by_cases hlt : k < n
    · obtain ⟨b, off, a1, n1, c1, rfl, hb, hcell, hrow⟩ := (HL.out wr hbel).cells k hlt
      have hkl : k < L.length := by rw [Hlen.out]; exact hlt
      have hle : n1 ≤ 1000 := by rw [← hrow.len]; exact Hrow.out _ hlt
      have hPl : (L.take k ++ List.replicate (n - k) []).length = n := by rw [List.length_append, List.length_take, List.length_replicate]; omega
      have Hset := hid_ (part_set L hlt Hlen.out (L.getD k []))
      have Hnx := hid_ (part_next L hlt Hlen.out)
      have huk := hus k (Nat.le_refl _) hlt
      have Hyl := hid_ hrow.len
      have hB0 : w.heap.size < wr.heap.size := by
        have h1 := hO.top
        rw [hPl] at h1
        exact (h1.lt _ rfl).2
      obtain ⟨w1, hw1⟩ : ∃ w1, wr.alloc (.cells (madeCells #[.int .i64 0] n1) 3) = w1 := ⟨_, rfl⟩
      have hb1 : Below wr.heap.size wr w1 := by rw [← hw1]; exact below_alloc _ _
      have hm1 : w1.heap[wr.heap.size]? = some (.cells (List.replicate n1 (Value.int .i64 0)).toArray 3 (0, 0)) := by rw [← hw1]; exact made_row _ _ _
      have ho1 : w1.ownsRow w.heap.size 3 1 (.slice (some ⟨wr.heap.size, 0, none⟩) n1 n1) n1 ((List.replicate n1 (0 : Int)).map (Value.int .i64)) := own_of_block (by rw [List.map_replicate]; exact hm1) (by simp) hsz hle
      have hO1 := hO.below hb1 (Nat.le_refl _)
      have htop := hO1.top
      rw [hPl] at htop
      have q0 : w1.cell? ⟨w.heap.size, k, none⟩ = some (.slice none 0 0) := by rw [htop.cellAt k (by omega)]; exact huk
      have f0 : w1.frozen? ⟨w.heap.size, k, none⟩ = false := htop.frozenAt k
      have hO2 := hO.put (u' := .slice (some ⟨wr.heap.size, 0, none⟩) n1 n1) (r := List.replicate n1 0) hPl.symm huk (grown_of_below hb1 _) (by simpa using ho1) (fun b9 hb9 => .inr (by have h9 : some wr.heap.size = some b9 := hb9; injection h9 with h9; omega))
      have q0b := cell_below hcell hb1
      have hrow1 := hrow.below hb1 (Nat.le_refl _)
      have hs1 : w1.heap.size = wr.heap.size + 1 := by rw [← hw1]; simp
      have hb2 : Below w.heap.size w (w1.setCell ⟨w.heap.size, k, none⟩ (.slice (some ⟨wr.heap.size, 0, none⟩) n1 n1)) := (hbel.trans (hb1.mono hsz)).setCell (p := ⟨w.heap.size, k, none⟩) (Nat.le_refl _) _
      obtain ⟨w2, hw2⟩ : ∃ w2, w1.setCell ⟨w.heap.size, k, none⟩ (.slice (some ⟨wr.heap.size, 0, none⟩) n1 n1) = w2 := ⟨_, rfl⟩
      have q2 : w2.cell? ⟨w.heap.size, k, none⟩ = some (.slice (some ⟨wr.heap.size, 0, none⟩) n1 n1) := by rw [← hw2]; exact World.cell?_setCell_same _ _ _ q0
      have hm2 : w2.heap[wr.heap.size]? = some (.cells (List.replicate n1 (Value.int .i64 0)).toArray 3 (0, 0)) := by rw [← hw2]; exact (Below.heap_setCell _ _ _ _ (show wr.heap.size ≠ w.heap.size by omega)).trans hm1
      rw [hw2] at hO2 hb2
      have hrow2 := (HL.out w2 hb2).cells k hlt
      obtain ⟨b', off', a1', n1', c1', e, -, hcell', hrow2⟩ := hrow2
      injection e with e; injection e with e1 e2; subst e1; subst e2
      have hcb : w2.cell? ⟨b, off + k, none⟩ = some (.slice a1 n1 c1) := by
        have hbw : b < w.heap.size := by
          obtain ⟨b9, off9, a9, n9, c9, e9, hb9, _⟩ := (HL.out w (Below.refl _ _)).cells k hlt
          injection e9 with e9; injection e9 with e9 _; omega
        rw [← hw2, World.cell?_setCell_other _ _ _ _ (by intro e'; injection e' with e' _; omega)]; exact q0b
      rw [hcb] at hcell'
      injection hcell' with hcell'; injection hcell' with e1 e2 e3; subst e1; subst e2; subst e3
      obtain ⟨V, hV⟩ : ∃ V, (L.getD k []).map (Value.int .i64) = V := ⟨_, rfl⟩
      have HV := hid_ hV
      have Hmin : Hid (V.length = Nat.min n1 n1) := hid_ (by rw [← hV, List.length_map, Hyl.out]; exact (Nat.min_self _).symm)
      have HVc : Hid (0 < V.length → ∃ ad, a1 = some ad ∧ ∀ j v, V[j]? = some v → w2.cell? (ad.add j) = some v) := hid_ (fun h0 => by
        obtain ⟨b5, off5, rfl, -, -⟩ := hrow2.cells 0 (by rw [← hV, List.length_map, Hyl.out] at h0; exact h0)
        exact ⟨_, rfl, by rw [← hV]; exact hrow2.cellsIn⟩)
      have Hfit : Hid (0 + V.length ≤ (List.replicate n1 (Value.int .i64 0)).length) := hid_ (by rw [← hV, List.length_map, Hyl.out, List.length_replicate]; omega)
      have hV1 : ∀ v ∈ V, v.oneCell' = true := by rw [← hV]; exact ints_oneCell .i64 _
      have Hsp : Hid (splice (List.replicate n1 (Value.int .i64 0)) 0 V = V) := hid_ (by
        unfold splice
        rw [List.take_zero, List.nil_append, Nat.zero_add, List.drop_of_length_le (by rw [← hV, List.length_map, Hyl.out, List.length_replicate]; exact Nat.le_refl _), List.append_nil])
      have HO2 := hid_ hO2
      have Hus := hid_ (fun j (h1 : k + 1 ≤ j) (h2 : j < n) => hus j (by omega) h2)
      have Hul := hid_ hO.len
      have HPl := hid_ hPl
      have hmk1 : ∀ W' : World, (Instr.makeSlice 22 (.int .i64 (n1 : Int)) (.int .i64 (n1 : Int))).run Try.prog W' = .ok (.slice (some ⟨W'.heap.size, 0, none⟩) n1 n1) (W'.alloc (.cells (madeCells #[.int .i64 0] n1) 3)) := fun W' => by
        have := run_make (P := Try.prog) W' 22 3 i1 (.int .i64 0) Try.underlying22 hi1 hz3 .i64 .i64 n1 n1 (by omega) (by omega) (by rw [hz5]; omega) (by omega)
        simpa [hz4, Value.cells] using this
      have Hblt : Hid (wr.heap.size < w2.heap.size) := hid_ (by rw [← hw2]; simp [World.setCell]; omega)
      clear hO hO1 hO2 htop ho1 hm1 hrow hrow1 hrow2 hV hPl hus huk
      go_wp2_with (refine wpList_copy_row rfl (.tmp 25) (.tmp 26) 22 22 rfl 3 Try.underlying22 Try.oneInt _ _ _ _ _ _ rfl rfl wr.heap.size 0 (List.replicate n1 (Value.int .i64 0)) 3 hm2 V Hmin.out (fun h0 => ⟨rfl, HVc.out h0⟩) Hfit.out hV1 w2 (grown_refl _ _) ?_; intro w3 hh3 hb3)
      have hr3 := hh3.out
      rw [Hsp.out, ← HV.out] at hr3
      have hro : w3.ownsRow w.heap.size 3 1 (.slice (some ⟨wr.heap.size, 0, none⟩) n1 n1) n1 ((L.getD k []).map (Value.int .i64)) := own_of_block hr3 Hyl.out hsz hle
      have HO3 := hid_ (HO2.out.turn (i := k) (u := .slice (some ⟨wr.heap.size, 0, none⟩) n1 n1) (r := L.getD k []) (List.getElem?_set_self (by rw [Hul.out, HPl.out]; exact hlt)) hb3 (by rw [Hyl.out]; exact hro))
      rw [List.set_set, Hset.out, Hnx.out] at HO3
      have Hb3 : Hid (Below w.heap.size w w3) := hid_ (hb2.grown hb3 hb2.size (fun k9 hk9 => by injection hk9 with hk9; omega))
      clear hr3 hro hh3 hb3
      go_roundw
      case rel => exact ⟨k + 1, _, by omega, by go_num, HO3.out, fun j h1 h2 => by rw [List.getElem?_set_ne (by omega)]; exact Hus.out j h1 h2, Hb3.out⟩
      case measure => simp [intOf]; omega
    · obtain rfl : k = n := by omega
      have e : L.take k ++ List.replicate (k - k) [] = L := by rw [Nat.sub_self, List.replicate_zero, List.append_nil]; exact List.take_of_length_le (by rw [Hlen.out]; exact Nat.le_refl _)
      rw [e] at hO
      have HO := hid_ hO
      clear hO
      go_wp2
      go_ret
      exact ⟨_, us, rfl, HO.out, hbel⟩
end Go.Proofs.Ytdnlpikfibdjoaa
