import Derived.Test.YthmnmpglnaegfaaYn
import Derived.Test.YthmnmpglnaegfaaRz
namespace Go.Proofs.Ythmnmpglnaegfaa
open Go.RowKit Go.Proofs.Kv

/-! ### slices.Repeat of one number -/
set_option maxRecDepth 100000 in
theorem mul64_calls (m : Nat) (h1 : 1 ≤ m) (h : m ≤ 16) (w : World) :
    Calls Try.prog 80 #[.int .u64 1, .int .u64 (m : Int)] w fun e w' => e = .returned (.tuple #[.int .u64 0, .int .u64 (m : Int)]) ∧ w = w' := by
  rcases (show m = 1 ∨ m = 2 ∨ m = 3 ∨ m = 4 ∨ m = 5 ∨ m = 6 ∨ m = 7 ∨ m = 8 ∨ m = 9 ∨ m = 10 ∨ m = 11 ∨ m = 12 ∨ m = 13 ∨ m = 14 ∨ m = 15 ∨ m = 16 by omega) with rfl | rfl | rfl | rfl | rfl | rfl | rfl | rfl | rfl | rfl | rfl | rfl | rfl | rfl | rfl | rfl
  all_goals
    go_enter Try.func80, Try.ntmps80
    go_wp2
    go_ret2
    exact ⟨rfl, rfl⟩
theorem mul_calls (m : Nat) (h1 : 1 ≤ m) (h : m ≤ 16) (w : World) :
    Calls Try.prog 75 #[.int .u64 1, .int .u64 (m : Int)] w fun e w' => e = .returned (.tuple #[.int .u64 0, .int .u64 (m : Int)]) ∧ w = w' := by
  have HM := hid_ (mul64_calls m h1 h w)
  go_enter Try.func75, Try.ntmps75
  go_wp2_with (go_at_call 80; refine (HM.out).mono ?_; rintro e w' ⟨rfl, rfl⟩)
  go_ret2
  exact ⟨rfl, rfl⟩
def repV (m j : Nat) (x : Int) : List Value := (List.replicate j x ++ List.replicate (m - j) 0).map (Value.int .i64)
theorem repV_len {m j : Nat} (h : j ≤ m) (x : Int) : (repV m j x).length = m := by simp [repV]; omega
theorem repV_zero (m : Nat) (x : Int) : (repV m 0 x).toArray = madeCells #[.int .i64 0] m := by
  apply Array.ext'
  simp [repV, madeCells]
  apply List.ext_getElem
  · simp
  · intro i h1 h2; simp; rw [Nat.mod_one]; rfl
theorem repV_splice {m j k : Nat} (x : Int) : splice (repV m j x) j ((List.replicate k x).map (Value.int .i64)) = repV m (j + k) x := by
  simp only [splice, repV, List.map_append, List.map_replicate, List.length_replicate]
  rw [List.take_append_of_le_length (by simp), List.take_of_length_le (by simp), List.drop_append, List.drop_eq_nil_of_le (by simp)]
  simp
  rw [← List.append_assoc, List.replicate_append_replicate]
  congr 2
  omega
theorem repV_at {m j i : Nat} (h : i < j) (x : Int) : (repV m j x)[i]? = some (.int .i64 x) := by
  simp [repV, List.getElem?_append_left, h]
set_option maxRecDepth 100000 in
set_option maxHeartbeats 2000000 in
theorem repeat_calls (a : Option Addr) (c : Nat) (x : Int) (m : Nat) (h1 : 1 ≤ m) (h16 : m ≤ 16) (w : World) (h : IntsAt w a 1 c [x]) :
    Calls Try.prog 65 #[.slice a 1 c, .int .i64 (m : Int)] w fun e w' => ∃ v, e = .returned v ∧ Made 3 w w' v (List.replicate m x) := by
  have HM := hid_ (fun W => mul_calls m h1 h16 W)
  obtain ⟨b, off, rfl, hb, hcell⟩ := h.cells 0 (by omega)
  rw [Nat.add_zero] at hcell
  have hg0 : ([x] : List Int).getD 0 0 = x := rfl
  rw [hg0] at hcell
  clear hg0 h
  have hmk : ∀ W' : World, (Instr.makeSlice 25 (.int .i64 (m : Int)) (.int .i64 (m : Int))).run Try.prog W' = .ok (.slice (some ⟨W'.heap.size, 0, none⟩) m m) (W'.alloc (.cells (madeCells #[.int .i64 0] m) 3)) := fun W' => by
    obtain ⟨i0, hi0, hz0, hz1, hz2⟩ := info_parts Try.infoInt
    have := run_make (P := Try.prog) W' 25 3 i0 (.int .i64 0) Try.underlying25 hi0 hz0 .i64 .i64 m m (by omega) (by omega) (by rw [hz2]; omega) (by omega)
    simpa [hz1, Value.cells] using this
  have hsz : (Try.prog.info? 3).map (·.size) = some 1 := by
    obtain ⟨i0, hi0, hz0, hz1, hz2⟩ := info_parts Try.infoInt
    rw [hi0]; simp [hz1]
  have Hsz := hid_ hsz
  clear hsz
  obtain ⟨wa, hwa⟩ : ∃ wa, w.alloc (.cells (madeCells #[.int .i64 0] m) 3) = wa := ⟨_, rfl⟩
  have Hba : Hid (Below w.heap.size w wa) := hid_ (by rw [← hwa]; exact below_alloc _ _)
  have Hca := hid_ (cell_below hcell Hba.out)
  have Hga : Hid (wa.heap[w.heap.size]? = some (.cells (repV m 0 x).toArray 3 (0, 0))) := hid_ (by rw [← hwa, repV_zero]; show (w.heap.push _)[w.heap.size]? = _; simp)
  have H1 : Hid (([.int .i64 x] : List Value).length = Nat.min 1 m) := hid_ (by simp [Nat.min_eq_left h1])
  have HPos := hid_ (fun (j : Nat) v (hv : ([.int .i64 x] : List Value)[j]? = some v) => (by
    match j, hv with
    | 0, hv => simp at hv; subst hv; exact Hca.out
    | j + 1, hv => simp at hv : wa.cell? ((⟨b, off, none⟩ : Addr).add j) = some v))
  have HFit : Hid (0 + ([.int .i64 x] : List Value).length ≤ (repV m 0 x).length) := hid_ (by rw [repV_len (by omega)]; simpa using h1)
  have HOne : Hid (∀ v ∈ ([.int .i64 x] : List Value), v.oneCell' = true) := hid_ (fun v hv => by rw [List.mem_singleton] at hv; subst hv; rfl)
  have HSp : Hid (splice (repV m 0 x) 0 [.int .i64 x] = repV m 1 x) := hid_ (by have := repV_splice (m := m) (j := 0) (k := 1) x; simpa using this)
  go_enter Try.func65, Try.ntmps65
  go_wp2_with (first
    | (go_at_call 75; (with_reducible refine (HM.out _).mono ?_); rintro e w2 ⟨rfl, rfl⟩)
    | (refine wpList_copy_row rfl (.tmp 31) (.tmp 32) 25 25 rfl 3 Try.underlying25 Hsz.out (some ⟨w.heap.size, 0, none⟩) (some ⟨b, off, none⟩) m m 1 c rfl rfl w.heap.size 0 (repV m 0 x) 3 Hga.out [.int .i64 x] H1.out (fun _ => ⟨rfl, _, rfl, HPos.out⟩) HFit.out HOne.out wa (World.grownBy.refl _ _) ?_; intro w3 hw3 hg3; rw [HSp.out] at hw3; have Hb3 := hid_ (Hba.out.grown hg3 Hba.out.size (fun r e => by cases e; exact Nat.le_refl _))))
  have Hw3 := hid_ hw3.out
  clear hw3 hg3
  go_loopw [8] (fun v wr => ∃ j : Nat, 1 ≤ j ∧ j ≤ m ∧ v = .int .i64 j ∧ wr.heap[w.heap.size]? = some (.cells (repV m j x).toArray 3 (0, 0)) ∧ Below w.heap.size w wr) (fun v _ => m - (intOf v).toNat)
  case atStart => exact ⟨1, Nat.le_refl _, h1, rfl, Hw3.out, Hb3.out⟩
  case round =>
    obtain ⟨j, hj1, hj, rfl, hh, hb⟩ := hrel
    by_cases hlt : j < m
    · obtain ⟨k, hk⟩ : ∃ k, Nat.min j (m - j) = k := ⟨_, rfl⟩
      have hk1 : 1 ≤ k := by rw [← hk]; exact Nat.le_min.2 ⟨hj1, by omega⟩
      have hk2 : k ≤ m - j := by rw [← hk]; exact Nat.min_le_right _ _
      have hk3 : k ≤ j := by rw [← hk]; exact Nat.min_le_left _ _
      have Hk := hid_ hk
      have Hh := hid_ hh
      have Hb := hid_ hb
      have HSk : Hid (splice (repV m j x) j ((List.replicate k x).map (Value.int .i64)) = repV m (j + k) x) := hid_ (repV_splice x)
      have hlw : w.heap.size < wr.heap.size := (Array.getElem?_eq_some_iff.1 hh).1
      clear hk hh hb
      have HL : Hid (((List.replicate k x).map (Value.int .i64)).length = Nat.min j (m - j)) := hid_ (by rw [Hk.out]; simp)
      have HPo := hid_ (fun (i : Nat) v (hv : ((List.replicate k x).map (Value.int .i64))[i]? = some v) => (by
        have hi : i < k := by
          rcases Nat.lt_or_ge i k with h | h
          · exact h
          · rw [List.getElem?_eq_none (by simpa using h)] at hv; cases hv
        have hv' : v = .int .i64 x := by simpa [hi] using hv.symm
        subst hv'
        have e : (⟨w.heap.size, 0, none⟩ : Addr).add i = ⟨w.heap.size, i, none⟩ := by unfold Addr.add; split <;> simp_all
        rw [e]
        unfold World.cell?
        rw [show wr.drew.heap = wr.heap from rfl, Hh.out]
        simpa using repV_at (m := m) (show i < j by omega) x : wr.drew.cell? ((⟨w.heap.size, 0, none⟩ : Addr).add i) = some v))
      have HFi : Hid (j + ((List.replicate k x).map (Value.int .i64)).length ≤ (repV m j x).length) := hid_ (by rw [repV_len (by omega)]; simp; omega)
      have HOn : Hid (∀ v ∈ (List.replicate k x).map (Value.int .i64), v.oneCell' = true) := hid_ (ints_oneCell .i64 _)
      have Hd : Hid (wr.grownBy wr.drew (some w.heap.size)) := hid_ (grown_drew (grown_refl _ _))
      have hmj : ¬ m = j := by omega
      have hjk : j + k ≤ m := by omega
      have hw1 : IntKind.i64.wrap ((j : Int) + (k : Int)) = (j : Int) + (k : Int) := IntWalk.i64_in _ (by omega)
      go_wp2_with fail
      go_region_law (refine step_copy_row rfl (.tmp 41) (.tmp 44) 25 25 rfl 3 Try.underlying25 Hsz.out (some ⟨w.heap.size, j, none⟩) (some ⟨w.heap.size, 0, none⟩) (m - j) (m - j) j m (by simp [Act.eval, Act.put]) (by simp [Act.eval, Act.put]) w.heap.size j (repV m j x) 3 Hh.out ((List.replicate k x).map (Value.int .i64)) HL.out (fun _ => ⟨rfl, _, rfl, HPo.out⟩) HFi.out HOn.out wr Hd.out ?_; intro w4 hw4 hg4; rw [HSk.out] at hw4)
      clear hw1
      simp [Act.put]
      go_roundw
      case rel => exact ⟨_, _, _, _, _, _, _, _, _, _, _, _, _, _, ⟨j + k, by omega, by omega, by go_num, hw4.out, Hb.out.grown hg4 Hb.out.size (fun r e => by cases e; exact Nat.le_refl _)⟩, rfl⟩
      case measure => simp [intOf]; omega
    · obtain rfl : j = m := by omega
      go_wp2
      go_ret
      have hown : wr.ownsRow w.heap.size 3 1 (.slice (some ⟨w.heap.size, 0, none⟩) j j) j ((List.replicate j x).map (Value.int .i64)) :=
        ⟨by simp, .inr ⟨w.heap.size, j, _, rfl, Nat.le_refl _, hh, Nat.le_refl _, by unfold maxLen; omega, by simpa using repV_len (Nat.le_refl j) x, by simp [repV]⟩⟩
      exact ⟨_, rfl, ⟨by simpa using hown, hb⟩⟩
end Go.Proofs.Ythmnmpglnaegfaa
