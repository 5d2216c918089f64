import Derived.Test.YtnpdhmejnoplcaaPa
namespace Go.Proofs.Ytnpdhmejnoplcaa
open Go.RowKit Go.Proofs.Kv

/-! ### neighborsOf -/
/-- the seven cells of block S say which neighbors are in p -/
structure NbAt (w : World) (S : Nat) (p : List Int) : Prop where
  cell : ∀ x : Int, -1 ≤ x → x ≤ 5 → w.cell? ⟨S, (x + 1).toNat, none⟩ = some (.bool (Has p x))
  free : ∀ i, w.frozen? ⟨S, i, none⟩ = false
theorem Has_snoc' (l : List Int) (x y : Int) : Has (l ++ [x]) y = (Has l y || (x == y)) := by
  rw [Bool.eq_iff_iff]
  simp only [Has, List.contains_iff_mem, List.mem_append, List.mem_singleton, Bool.or_eq_true, beq_iff_eq]
  exact or_congr Iff.rfl eq_comm
theorem NbAt.put {w : World} {S : Nat} {p : List Int} (h : NbAt w S p) {x : Int} (h0 : -1 ≤ x) (h5 : x ≤ 5) : NbAt (w.setCell ⟨S, (x + 1).toNat, none⟩ (.bool true)) S (p ++ [x]) := by
  refine ⟨fun y hy0 hy5 => ?_, fun i => by rw [World.frozen?_setCell]; exact h.free i⟩
  by_cases he : y = x
  · subst he
    rw [World.cell?_setCell_same _ _ _ (h.cell y h0 h5), Has_snoc']
    simp
  · rw [World.cell?_setCell_other _ _ _ _ (by intro e; injection e with _ e2; omega), h.cell y hy0 hy5, Has_snoc']
    have : (x == y) = false := by simp; omega
    rw [this, Bool.or_false]
theorem heap_alloc_at (w : World) (o : Obj) : (w.alloc o).heap[w.heap.size]? = some o := by
  show (w.heap.push o)[w.heap.size]? = _
  simp
theorem cells7 {w : World} {b : Nat} {T : TypeId} (h : w.heap[b]? = some (.cells #[.bool false, .bool false, .bool false, .bool false, .bool false, .bool false, .bool false] T (0, 0))) {i : Nat} (hi : i < 7) : w.cell? ⟨b, i, none⟩ = some (.bool false) := by
  unfold World.cell?
  simp only [h]
  match i, hi with
  | 0, _ => rfl
  | 1, _ => rfl
  | 2, _ => rfl
  | 3, _ => rfl
  | 4, _ => rfl
  | 5, _ => rfl
  | 6, _ => rfl
theorem free7 {w : World} {b : Nat} {T : TypeId} {cs : Array Value} (h : w.heap[b]? = some (.cells cs T (0, 0))) (i : Nat) : w.frozen? ⟨b, i, none⟩ = false := by
  unfold World.frozen?
  simp only [h]
  simp
def seven : List Int := [-1, 0, 1, 2, 3, 4, 5]
theorem seven_take {k : Nat} (h : k < 7) : seven.take (k + 1) = seven.take k ++ [(k : Int) - 1] := by
  match k, h with
  | 0, _ => rfl
  | 1, _ => rfl
  | 2, _ => rfl
  | 3, _ => rfl
  | 4, _ => rfl
  | 5, _ => rfl
  | 6, _ => rfl
/-- which neighbors may be by a set, as an array -/
def nbV (s : List Int) : Array Value := #[.bool (mayL s (-1)), .bool (mayL s 0), .bool (mayL s 1), .bool (mayL s 2), .bool (mayL s 3), .bool (mayL s 4), .bool (mayL s 5)]
set_option maxRecDepth 100000 in
set_option maxHeartbeats 2000000 in
theorem neighborsOf_calls (a : Option Addr) (n c : Nat) (s : List Int) (w : World) (h : IntsAt w a n c s) (hs : setN s = true) :
    Calls Try.prog 181 #[.slice a n c] w fun e w' => e = .returned (.agg (nbV s)) ∧ Below w.heap.size w w' := by
  have hn : n ≤ 9223372036854775807 := Nat.le_trans h.le h.small
  have hok : Hid (∀ x ∈ s, -1 ≤ x ∧ x ≤ 5) := hid_ (by
    intro x hx
    obtain ⟨i, hi, rfl⟩ := mem_getD hx
    rw [setN, IsSet, List.all_eq_true] at hs
    have := hs i (by simpa using hi)
    rw [setBad] at this
    generalize s.getD i 0 = y at *
    generalize s.getD (i - 1) 0 = z at *
    simp [Within] at this
    omega)
  clear hs
  go_enter Try.func181, Try.ntmps181
  go_wp2
  go_loopw [9] (fun i wr => ∃ k : Nat, k ≤ n ∧ i = .int .i64 k ∧ NbAt wr (w.heap.size + 1) (s.take k) ∧ Below w.heap.size w wr ∧ wr.heap[w.heap.size]? = some (.cells #[.bool false, .bool false, .bool false, .bool false, .bool false, .bool false, .bool false] 164 (0, 0))) (fun i _ => n - (intOf i).toNat)
  case atStart =>
    refine ⟨0, Nat.zero_le _, rfl, ⟨fun x h0 h5 => ?_, fun i => World.frozen?_alloc_at _ _ _ _ (by simp)⟩, (below_alloc w _).alloc (by simp) _, by rw [Below.heap_alloc _ _ _ (by simp), heap_alloc_at]⟩
    rw [World.cell?_alloc_at _ _ _ _ (by simp)]
    have : x = -1 ∨ x = 0 ∨ x = 1 ∨ x = 2 ∨ x = 3 ∨ x = 4 ∨ x = 5 := by omega
    rcases this with rfl | rfl | rfl | rfl | rfl | rfl | rfl <;> rfl
  case round =>
    obtain ⟨k, hk, rfl, hS, hbel, hc0⟩ := hrel
    have hsz := hbel.size
    by_cases hlt : k < n
    · have hI := h.below hbel (Nat.le_refl _)
      obtain ⟨b, off, rfl, hb, hcell⟩ := hI.cells k hlt
      have hl : k < s.length := by rw [h.len]; exact hlt
      have hr := hok.out _ (getD_mem hl)
      have Hsn : Hid (s.take (k + 1) = s.take k ++ [s.getD k 0]) := hid_ (take_snoc s 0 k hl)
      generalize s.getD k 0 = y at hcell hr Hsn
      obtain ⟨hr0, hr5⟩ := hr
      have hcS := hS.cell y hr0 hr5
      have hfS := hS.free (y + 1).toNat
      have hy0 : 0 ≤ y + 1 := by omega
      have hy5 : y + 1 < 7 := by omega
      go_wp2
      go_roundw
      case rel => exact ⟨k + 1, by omega, by go_num, by rw [Hsn.out]; exact hS.put hr0 hr5, hbel.setCell (by simp) _, by rw [Below.heap_setCell _ _ _ _ (by simp)]; exact hc0⟩
      case measure => simp [intOf]; omega
    · obtain rfl : k = n := by omega
      have Hst : Hid (s.take k = s) := hid_ (by rw [List.take_of_length_le]; rw [h.len]; omega)
      rw [Hst.out] at hS
      by_cases h0 : k = 0
      · subst h0
        have Hnil : Hid (s = []) := hid_ (List.eq_nil_of_length_eq_zero h.len)
        rw [Hnil.out] at hS
        clear hlt Hst
        go_wp2
        obtain ⟨wo, rfl⟩ : ∃ wo : World, wo = wr := ⟨_, rfl⟩
        go_loopw [20] (fun i wr => ∃ k : Nat, k ≤ 7 ∧ i = .int .i64 k ∧ NbAt wr (w.heap.size + 1) (seven.take k) ∧ Below w.heap.size w wr ∧ wr.heap[w.heap.size]? = some (.cells #[.bool false, .bool false, .bool false, .bool false, .bool false, .bool false, .bool false] 164 (0, 0))) (fun i _ => 7 - (intOf i).toNat)
        case atStart => exact ⟨0, Nat.zero_le _, rfl, hS, hbel, hc0⟩
        case round =>
          clear hS hbel hc0 hsz
          obtain ⟨k, hk, rfl, hS, hbel, hc0⟩ := hrel
          have hsz := hbel.size
          by_cases hlt : k < 7
          · have Hsn : Hid (seven.take (k + 1) = seven.take k ++ [(k : Int) - 1]) := hid_ (seven_take hlt)
            have hcS := hS.cell ((k : Int) - 1) (by omega) (by omega)
            have hfS := hS.free k
            rw [show ((k : Int) - 1 + 1).toNat = k by omega] at hcS
            go_wp2
            go_roundw
            case rel => exact ⟨k + 1, by omega, by go_num, by have := hS.put (x := (k : Int) - 1) (by omega) (by omega); rw [show ((k : Int) - 1 + 1).toNat = k by omega] at this; rw [Hsn.out]; exact this, hbel.setCell (by simp) _, by rw [Below.heap_setCell _ _ _ _ (by simp)]; exact hc0⟩
            case measure => simp [intOf]; omega
          · obtain rfl : k = 7 := by omega
            have Hm : Hid (∀ x, -1 ≤ x → x ≤ 5 → Has (seven.take 7) x = mayL s x) := hid_ (fun x h0 h5 => by
              rw [Hnil.out]
              have : x = -1 ∨ x = 0 ∨ x = 1 ∨ x = 2 ∨ x = 3 ∨ x = 4 ∨ x = 5 := by omega
              rcases this with rfl | rfl | rfl | rfl | rfl | rfl | rfl <;> rfl)
            clear hlt hk
            have c0 := hS.cell (-1) (by omega) (by omega)
            have c1 := hS.cell 0 (by omega) (by omega)
            have c2 := hS.cell 1 (by omega) (by omega)
            have c3 := hS.cell 2 (by omega) (by omega)
            have c4 := hS.cell 3 (by omega) (by omega)
            have c5 := hS.cell 4 (by omega) (by omega)
            have c6 := hS.cell 5 (by omega) (by omega)
            simp only [Int.reduceAdd, Int.reduceNeg, Int.reduceToNat] at c0 c1 c2 c3 c4 c5 c6
            have hg := fun (i : Nat) (hi : i < 7) => cells7 hc0 hi
            have hk := fun (i : Nat) => free7 hc0 i
            have g0 := hg 0 (by omega)
            have g1 := hg 1 (by omega)
            have g2 := hg 2 (by omega)
            have g3 := hg 3 (by omega)
            have g4 := hg 4 (by omega)
            have g5 := hg 5 (by omega)
            have g6 := hg 6 (by omega)
            clear hg
            rw [Hm.out _ (by omega) (by omega)] at c0 c1 c2 c3 c4 c5 c6
            go_wp2
            refine bodyPost_ret (v := .agg (nbV s)) ?_ rfl ⟨rfl, ?_⟩
            · simp [results, Try.results181, go_sem, g0, g1, g2, g3, g4, g5, g6]
              simp only [nbV]
            · ((repeat (with_reducible refine Below.setCell ?_ (by simp) _)); exact hbel)
      · have hz : ((k : Int) == 0) = false := by simp; omega
        have Hm : Hid (∀ x, mayL s x = Has s x) := hid_ (fun x => by
          cases s with
          | nil => exact absurd h.len.symm h0
          | cons y s => rfl)
        have H0 := hid_ h0; clear h0 hlt
        have c0 := hS.cell (-1) (by omega) (by omega)
        have c1 := hS.cell 0 (by omega) (by omega)
        have c2 := hS.cell 1 (by omega) (by omega)
        have c3 := hS.cell 2 (by omega) (by omega)
        have c4 := hS.cell 3 (by omega) (by omega)
        have c5 := hS.cell 4 (by omega) (by omega)
        have c6 := hS.cell 5 (by omega) (by omega)
        simp only [Int.reduceAdd, Int.reduceNeg, Int.reduceToNat] at c0 c1 c2 c3 c4 c5 c6
        have hg := fun (i : Nat) (hi : i < 7) => cells7 hc0 hi
        have hk := fun (i : Nat) => free7 hc0 i
        have g0 := hg 0 (by omega)
        have g1 := hg 1 (by omega)
        have g2 := hg 2 (by omega)
        have g3 := hg 3 (by omega)
        have g4 := hg 4 (by omega)
        have g5 := hg 5 (by omega)
        have g6 := hg 6 (by omega)
        clear hg
        go_wp2
        refine bodyPost_ret (v := .agg (nbV s)) ?_ rfl ⟨rfl, ?_⟩
        · simp [results, Try.results181, go_sem, g0, g1, g2, g3, g4, g5, g6]
          simp only [nbV, Hm.out]
        · ((repeat (with_reducible refine Below.setCell ?_ (by simp) _)); exact hbel)
end Go.Proofs.Ytnpdhmejnoplcaa
