import Derived.Test.YthmnmpglnaegfaaYh
namespace Go.Proofs.Kv
open Go.RowKit
/-- block b holds m bits, those of f -/
def BitsAt (w : World) (b m : Nat) (f : Nat → Bool) : Prop := ∀ j, j < m → w.cell? ⟨b, j, none⟩ = some (.bool (f j)) ∧ w.frozen? ⟨b, j, none⟩ = false
theorem BitsAt.set {w : World} {b m : Nat} {f : Nat → Bool} (h : BitsAt w b m f) {j : Nat} (hj : j < m) : BitsAt (w.setCell ⟨b, j, none⟩ (.bool true)) b m (fun i => f i || decide (i = j)) := by
  intro i hi
  refine ⟨?_, by rw [World.frozen?_setCell]; exact (h i hi).2⟩
  by_cases e : i = j
  · subst e
    rw [World.cell?_setCell_same _ _ _ (h i hi).1]; simp
  · rw [World.cell?_setCell_other _ _ _ _ (by intro e'; injection e' with _ e'; exact e e'.symm), (h i hi).1]; simp [e]
theorem BitsAt.drewN {w : World} {b m : Nat} {f : Nat → Bool} (h : BitsAt w b m f) (q : Nat) : BitsAt (w.drewN q) b m f := h
theorem BitsAt.congr {w : World} {b m : Nat} {f g : Nat → Bool} (h : BitsAt w b m f) (e : ∀ j, j < m → f j = g j) : BitsAt w b m g := fun j hj => by rw [← e j hj]; exact h j hj
end Go.Proofs.Kv
namespace Go.Proofs.Ythmnmpglnaegfaa
open Go.RowKit Go.Proofs.Kv

set_option maxRecDepth 100000 in
theorem r7diff_calls (a : Option Addr) (n c : Nat) (T : List (List Int)) (p : Nat) (w : World) (h : ListsAt w a n c T) (g : GoodT T) (hp : p < n0 T) :
    Calls Try.prog 34 #[.slice a n c, .int .i64 (p : Int)] w fun e w' => e = .returned (.int .i64 (diffR T p : Nat)) ∧ Below w.heap.size w w' := by
  have hn : n ≤ 9223372036854775807 := Nat.le_trans h.le h.small
  have hn6 : n ≤ 6 := by have := g.le; have := h.len; omega
  have Hlen := hid_ h.len
  have Hg := hid_ g
  have HD : Hid (diffR T p = (uq (colR T p)).length) := hid_ rfl
  have Hall : Hid ((colR T p).take n = colR T p) := hid_ (List.take_of_length_le (by rw [colR_len, h.len]; omega))
  generalize diffR T p = D at *
  clear g
  go_enter Try.func34, Try.ntmps34
  go_wp2
  go_loopw [6, 7] (fun v i wr => ∃ k : Nat, k ≤ n ∧ i = .int .i64 k ∧ v = .int .i64 (uq ((colR T p).take k)).length ∧ BitsAt wr w.heap.size 3 (fun j => decide ((j : Int) ∈ (colR T p).take k)) ∧ Below w.heap.size w wr) (fun _ i _ => n - (intOf i).toNat)
  case atStart =>
    refine ⟨0, Nat.zero_le _, rfl, rfl, fun j hj => ⟨?_, World.frozen?_alloc_at _ _ _ _ (by simp)⟩, below_alloc _ _⟩
    rcases (show j = 0 ∨ j = 1 ∨ j = 2 by omega) with rfl | rfl | rfl
    · exact cells_alloc _ _ _ 0
    · exact cells_alloc _ _ _ 1
    · exact cells_alloc _ _ _ 2
  case round =>
    obtain ⟨k, hk, rfl, rfl, hbits, hb⟩ := hrel
    by_cases hlt : k < n
    · obtain ⟨b, off, a1, n1, c1, rfl, hb', hcell, hrow⟩ := (h.below hb (Nat.le_refl _)).cells k hlt
      have hl : k < T.length := by rw [Hlen.out]; exact hlt
      have hpn : p < n1 := by rw [← hrow.len, Hg.out.len k hl]; exact hp
      have hrl := Nat.le_trans hrow.le hrow.small
      obtain ⟨b1, off1, rfl, hb1, hcell1⟩ := hrow.cells p hpn
      have hy := Hg.out.ok k hl p hp
      have Ht := hid_ (@colR_take T p k hl)
      have Hb := hid_ hb; have Hbits := hid_ hbits
      have hUl : (uq ((colR T p).take k)).length ≤ n := Nat.le_trans (uq_le _) (by rw [List.length_take]; omega)
      clear hrow hb hbits
      generalize (T.getD k []).getD p 0 = y at *
      obtain ⟨j, rfl⟩ := nat_of hy.1
      obtain ⟨C, hC⟩ : ∃ C, (colR T p).take k = C := ⟨_, rfl⟩
      rw [hC] at Hbits Ht hUl ⊢
      clear hC
      have hj3 : j < 3 := by omega
      have hbj := (Hbits.out j hj3).1
      have hbf := (Hbits.out j hj3).2
      have hlw := World.block_lt_of_cell? _ _ hbj
      by_cases hm : (j : Int) ∈ C
      · have HU : Hid (uq (C ++ [(j : Int)]) = uq C) := hid_ (by rw [uq_snoc, insU_hit (mem_uq.2 hm)])
        have HE : Hid (∀ i : Nat, i < 3 → decide ((i : Int) ∈ C) = decide ((i : Int) ∈ C ++ [(j : Int)])) := hid_ (fun i hi => by
          rw [decide_eq_decide, List.mem_append, List.mem_singleton]
          exact ⟨.inl, fun h => by rcases h with h | h; exact h; rw [h]; exact hm⟩)
        rw [show (fun j : Nat => decide ((j : Int) ∈ C)) j = true from decide_eq_true hm] at hbj
        clear hm
        go_wp2
        go_roundw
        case rel => exact ⟨k + 1, by omega, by go_num, by rw [Ht.out, HU.out], by rw [Ht.out]; exact Hbits.out.congr HE.out, Hb.out⟩
        case measure => simp [intOf]; omega
      · have HU : Hid ((uq (C ++ [(j : Int)])).length = (uq C).length + 1) := hid_ (by rw [uq_snoc, insU_miss (fun h => hm (mem_uq.1 h)), List.length_append]; rfl)
        have HE : Hid (∀ i : Nat, i < 3 → (decide ((i : Int) ∈ C) || decide (i = j)) = decide ((i : Int) ∈ C ++ [(j : Int)])) := hid_ (fun i hi => by
          rw [Bool.eq_iff_iff]; simp only [Bool.or_eq_true, decide_eq_true_eq, List.mem_append, List.mem_singleton]; exact or_congr Iff.rfl (by omega))
        rw [show (fun j : Nat => decide ((j : Int) ∈ C)) j = false from decide_eq_false hm] at hbj
        clear hm
        go_wp2
        go_roundw
        case rel => exact ⟨k + 1, by omega, by go_num, by rw [Ht.out, HU.out]; go_num, by rw [Ht.out]; exact (Hbits.out.set hj3).congr HE.out, Hb.out.setCell (p := ⟨w.heap.size, j, none⟩) (Nat.le_refl _) _⟩
        case measure => simp [intOf]; omega
    · obtain rfl : n = k := by omega
      rw [Hall.out]
      go_wp2
      go_ret
      exact ⟨by rw [HD.out]; rfl, hb⟩
end Go.Proofs.Ythmnmpglnaegfaa
