import Derived.Test.YtdnlpikfibdjoaaYmc
import Derived.Test.YtdnlpikfibdjoaaRz
import Derived.Laws.OwnMore
import Derived.WalkKit
import Derived.RegionTactic
import Derived.BigRegion
namespace Go.Proofs.Ytdnlpikfibdjoaa
open Go.RowKit Go.Proofs.Kv

/-! ### slices.Repeat of one number -/
set_option maxRecDepth 100000 in
theorem mul64_calls (m : Nat) (h1 : 1 ≤ m) (h : m ≤ 16) (w : World) :
    Calls Try.prog 144 #[.int .u64 1, .int .u64 (m : Int)] w fun e w' => e = .returned (.tuple #[.int .u64 0, .int .u64 (m : Int)]) ∧ w = w' := by
  rcases (show m = 1 ∨ m = 2 ∨ m = 3 ∨ m = 4 ∨ m = 5 ∨ m = 6 ∨ m = 7 ∨ m = 8 ∨ m = 9 ∨ m = 10 ∨ m = 11 ∨ m = 12 ∨ m = 13 ∨ m = 14 ∨ m = 15 ∨ m = 16 by omega) with rfl | rfl | rfl | rfl | rfl | rfl | rfl | rfl | rfl | rfl | rfl | rfl | rfl | rfl | rfl | rfl
  all_goals
    go_enter Try.func144, Try.ntmps144
    go_wp2
    go_ret2
    exact ⟨rfl, rfl⟩
theorem mul_calls (m : Nat) (h1 : 1 ≤ m) (h : m ≤ 16) (w : World) :
    Calls Try.prog 137 #[.int .u64 1, .int .u64 (m : Int)] w fun e w' => e = .returned (.tuple #[.int .u64 0, .int .u64 (m : Int)]) ∧ w = w' := by
  have HM := hid_ (mul64_calls m h1 h w)
  go_enter Try.func137, Try.ntmps137
  go_wp2_with (go_at_call 144; refine (HM.out).mono ?_; rintro e w' ⟨rfl, rfl⟩)
  go_ret2
  exact ⟨rfl, rfl⟩
def repV (m j : Nat) (x : Int) : List Value := (List.replicate j x ++ List.replicate (m - j) 0).map (Value.int .i64)
theorem repV_len {m j : Nat} (h : j ≤ m) (x : Int) : (repV m j x).length = m := by simp [repV]; omega
theorem repV_zero (m : Nat) (x : Int) : (repV m 0 x).toArray = madeCells #[.int .i64 0] m := by
  apply Array.ext'
  simp [repV, madeCells]
  apply List.ext_getElem
  · simp
  · intro i h1 h2; simp; rw [Nat.mod_one]; rfl
theorem repV_splice {m j k : Nat} (x : Int) : splice (repV m j x) j ((List.replicate k x).map (Value.int .i64)) = repV m (j + k) x := by
  simp only [splice, repV, List.map_append, List.map_replicate, List.length_replicate]
  rw [List.take_append_of_le_length (by simp), List.take_of_length_le (by simp), List.drop_append, List.drop_eq_nil_of_le (by simp)]
  simp
  rw [← List.append_assoc, List.replicate_append_replicate]
  congr 2
  omega
theorem repV_at {m j i : Nat} (h : i < j) (x : Int) : (repV m j x)[i]? = some (.int .i64 x) := by
  simp [repV, List.getElem?_append_left, h]
set_option maxRecDepth 100000 in
set_option maxHeartbeats 2000000 in
theorem repeat_calls (a : Option Addr) (c : Nat) (x : Int) (m : Nat) (h1 : 1 ≤ m) (h16 : m ≤ 16) (w : World) (h : IntsAt w a 1 c [x]) :
    Calls Try.prog 127 #[.slice a 1 c, .int .i64 (m : Int)] w fun e w' => ∃ v, e = .returned v ∧ Made 3 w w' v (List.replicate m x) := by
  have HM := hid_ (fun W => mul_calls m h1 h16 W)
  obtain ⟨b, off, rfl, hb, hcell⟩ := h.cells 0 (by omega)
  rw [Nat.add_zero] at hcell
  have hg0 : ([x] : List Int).getD 0 0 = x := rfl
  rw [hg0] at hcell
  clear hg0 h
  have hmk : ∀ W' : World, (Instr.makeSlice 22 (.int .i64 (m : Int)) (.int .i64 (m : Int))).run Try.prog W' = .ok (.slice (some ⟨W'.heap.size, 0, none⟩) m m) (W'.alloc (.cells (madeCells #[.int .i64 0] m) 3)) := fun W' => by
    obtain ⟨i0, hi0, hz0, hz1, hz2⟩ := info_parts Try.infoInt
    have := run_make (P := Try.prog) W' 22 3 i0 (.int .i64 0) Try.underlying22 hi0 hz0 .i64 .i64 m m (by omega) (by omega) (by rw [hz2]; omega) (by omega)
    simpa [hz1, Value.cells] using this
  have hsz : (Try.prog.info? 3).map (·.size) = some 1 := by
    obtain ⟨i0, hi0, hz0, hz1, hz2⟩ := info_parts Try.infoInt
    rw [hi0]; simp [hz1]
  have Hsz := hid_ hsz
  clear hsz
  obtain ⟨wa, hwa⟩ : ∃ wa, w.alloc (.cells (madeCells #[.int .i64 0] m) 3) = wa := ⟨_, rfl⟩
  have Hba : Hid (Below w.heap.size w wa) := hid_ (by rw [← hwa]; exact below_alloc _ _)
  have Hca := hid_ (cell_below hcell Hba.out)
  have Hga : Hid (wa.heap[w.heap.size]? = some (.cells (repV m 0 x).toArray 3 (0, 0))) := hid_ (by rw [← hwa, repV_zero]; show (w.heap.push _)[w.heap.size]? = _; simp)
  have H1 : Hid (([.int .i64 x] : List Value).length = Nat.min 1 m) := hid_ (by simp [Nat.min_eq_left h1])
  have HPos := hid_ (fun (j : Nat) v (hv : ([.int .i64 x] : List Value)[j]? = some v) => (by
    match j, hv with
    | 0, hv => simp at hv; subst hv; exact Hca.out
    | j + 1, hv => simp at hv : wa.cell? ((⟨b, off, none⟩ : Addr).add j) = some v))
  have HFit : Hid (0 + ([.int .i64 x] : List Value).length ≤ (repV m 0 x).length) := hid_ (by rw [repV_len (by omega)]; simpa using h1)
  have HOne : Hid (∀ v ∈ ([.int .i64 x] : List Value), v.oneCell' = true) := hid_ (fun v hv => by rw [List.mem_singleton] at hv; subst hv; rfl)
  have HSp : Hid (splice (repV m 0 x) 0 [.int .i64 x] = repV m 1 x) := hid_ (by have := repV_splice (m := m) (j := 0) (k := 1) x; simpa using this)
  go_enter Try.func127, Try.ntmps127
  go_wp2_with (first
    | (go_at_call 137; (with_reducible refine (HM.out _).mono ?_); rintro e w2 ⟨rfl, rfl⟩)
    | (refine wpList_copy_row rfl (.tmp 31) (.tmp 32) 22 22 rfl 3 Try.underlying22 Hsz.out (some ⟨w.heap.size, 0, none⟩) (some ⟨b, off, none⟩) m m 1 c rfl rfl w.heap.size 0 (repV m 0 x) 3 Hga.out [.int .i64 x] H1.out (fun _ => ⟨rfl, _, rfl, HPos.out⟩) HFit.out HOne.out wa (World.grownBy.refl _ _) ?_; intro w3 hw3 hg3; rw [HSp.out] at hw3; have Hb3 := hid_ (Hba.out.grown hg3 Hba.out.size (fun r e => by cases e; exact Nat.le_refl _))))
  have Hw3 := hid_ hw3.out
  clear hw3 hg3
  go_loopw [8] (fun v wr => ∃ j : Nat, 1 ≤ j ∧ j ≤ m ∧ v = .int .i64 j ∧ wr.heap[w.heap.size]? = some (.cells (repV m j x).toArray 3 (0, 0)) ∧ Below w.heap.size w wr) (fun v _ => m - (intOf v).toNat)
  case atStart => exact ⟨1, Nat.le_refl _, h1, rfl, Hw3.out, Hb3.out⟩
  case round =>
    obtain ⟨j, hj1, hj, rfl, hh, hb⟩ := hrel
    by_cases hlt : j < m
    · obtain ⟨k, hk⟩ : ∃ k, Nat.min j (m - j) = k := ⟨_, rfl⟩
      have hk1 : 1 ≤ k := by rw [← hk]; exact Nat.le_min.2 ⟨hj1, by omega⟩
      have hk2 : k ≤ m - j := by rw [← hk]; exact Nat.min_le_right _ _
      have hk3 : k ≤ j := by rw [← hk]; exact Nat.min_le_left _ _
      have Hk := hid_ hk
      have Hh := hid_ hh
      have Hb := hid_ hb
      have HSk : Hid (splice (repV m j x) j ((List.replicate k x).map (Value.int .i64)) = repV m (j + k) x) := hid_ (repV_splice x)
      have hlw : w.heap.size < wr.heap.size := (Array.getElem?_eq_some_iff.1 hh).1
      clear hk hh hb
      have HL : Hid (((List.replicate k x).map (Value.int .i64)).length = Nat.min j (m - j)) := hid_ (by rw [Hk.out]; simp)
      have HPo := hid_ (fun (i : Nat) v (hv : ((List.replicate k x).map (Value.int .i64))[i]? = some v) => (by
        have hi : i < k := by
          rcases Nat.lt_or_ge i k with h | h
          · exact h
          · rw [List.getElem?_eq_none (by simpa using h)] at hv; cases hv
        have hv' : v = .int .i64 x := by simpa [hi] using hv.symm
        subst hv'
        have e : (⟨w.heap.size, 0, none⟩ : Addr).add i = ⟨w.heap.size, i, none⟩ := by unfold Addr.add; split <;> simp_all
        rw [e]
        unfold World.cell?
        rw [show wr.drew.heap = wr.heap from rfl, Hh.out]
        simpa using repV_at (m := m) (show i < j by omega) x : wr.drew.cell? ((⟨w.heap.size, 0, none⟩ : Addr).add i) = some v))
      have HFi : Hid (j + ((List.replicate k x).map (Value.int .i64)).length ≤ (repV m j x).length) := hid_ (by rw [repV_len (by omega)]; simp; omega)
      have HOn : Hid (∀ v ∈ (List.replicate k x).map (Value.int .i64), v.oneCell' = true) := hid_ (ints_oneCell .i64 _)
      have Hd : Hid (wr.grownBy wr.drew (some w.heap.size)) := hid_ (grown_drew (grown_refl _ _))
      have hmj : ¬ m = j := by omega
      have hjk : j + k ≤ m := by omega
      have hw1 : IntKind.i64.wrap ((j : Int) + (k : Int)) = (j : Int) + (k : Int) := IntWalk.i64_in _ (by omega)
      go_wp2_with fail
      go_region_law (refine step_copy_row rfl (.tmp 41) (.tmp 44) 22 22 rfl 3 Try.underlying22 Hsz.out (some ⟨w.heap.size, j, none⟩) (some ⟨w.heap.size, 0, none⟩) (m - j) (m - j) j m (by simp [Act.eval, Act.put]) (by simp [Act.eval, Act.put]) w.heap.size j (repV m j x) 3 Hh.out ((List.replicate k x).map (Value.int .i64)) HL.out (fun _ => ⟨rfl, _, rfl, HPo.out⟩) HFi.out HOn.out wr Hd.out ?_; intro w4 hw4 hg4; rw [HSk.out] at hw4)
      clear hw1
      simp [Act.put]
      go_roundw
      case rel => exact ⟨_, _, _, _, _, _, _, _, _, _, _, _, _, _, ⟨j + k, by omega, by omega, by go_num, hw4.out, Hb.out.grown hg4 Hb.out.size (fun r e => by cases e; exact Nat.le_refl _)⟩, rfl⟩
      case measure => simp [intOf]; omega
    · obtain rfl : j = m := by omega
      go_wp2
      go_ret
      have hown : wr.ownsRow w.heap.size 3 1 (.slice (some ⟨w.heap.size, 0, none⟩) j j) j ((List.replicate j x).map (Value.int .i64)) :=
        ⟨by simp, .inr ⟨w.heap.size, j, _, rfl, Nat.le_refl _, hh, Nat.le_refl _, by unfold maxLen; omega, by simpa using repV_len (Nat.le_refl j) x, by simp [repV]⟩⟩
      exact ⟨_, rfl, ⟨by simpa using hown, hb⟩⟩
end Go.Proofs.Ytdnlpikfibdjoaa
namespace Go.Proofs.Kv
open Go.RowKit
theorem own_form7 {B e size n : Nat} {v : Value} {w : World} {xs : List Value} (h : w.ownsRow B e size v n xs) (h0 : 0 < n) : ∃ g cap, v = .slice (some ⟨g, 0, none⟩) n cap ∧ n ≤ cap ∧ cap ≤ 9223372036854775807 ∧ B ≤ g ∧ g < w.heap.size := by
  rcases h.2 with ⟨rfl, h1⟩ | ⟨g, cap, cur, rfl, hb, hg, hn, hm, hs, ht⟩
  · omega
  · exact ⟨g, cap, rfl, hn, by unfold maxLen at hm; omega, hb, (Array.getElem?_eq_some_iff.1 hg).1⟩
theorem own_cell7 {B E n cap g : Nat} {w : World} {l : List Int} (h : w.ownsRow B E 1 (.slice (some ⟨g, 0, none⟩) n cap) n (l.map (Value.int .i64))) {j : Nat} (hj : j < n) :
    w.cell? ⟨g, j, none⟩ = some (.int .i64 (l.getD j 0)) ∧ w.frozen? ⟨g, j, none⟩ = false := by
  have hl : l.length = n := by have := h.1; simpa using this
  refine ⟨?_, ?_⟩
  · have hc := h.cells (g := g) rfl j (.int .i64 (l.getD j 0)) (by
      rw [List.getElem?_map, List.getElem?_eq_getElem (by omega)]
      simp [List.getD, List.getElem?_eq_getElem (show j < l.length by omega)])
    have : (⟨g, 0, none⟩ : Addr).add j = ⟨g, j, none⟩ := by unfold Addr.add; split <;> simp_all
    rwa [this] at hc
  · rcases h.2 with ⟨h1, _⟩ | ⟨g', cap', cur, h1, _, hg, _⟩
    · simp at h1
    · injection h1 with q1; injection q1 with q1; injection q1 with q1; subst q1
      exact row_free hg j
theorem own_put7 {B E n cap g : Nat} {w : World} {l : List Int} (h : w.ownsRow B E 1 (.slice (some ⟨g, 0, none⟩) n cap) n (l.map (Value.int .i64))) (j : Nat) (y : Int) :
    (w.setCell ⟨g, j, none⟩ (.int .i64 y)).ownsRow B E 1 (.slice (some ⟨g, 0, none⟩) n cap) n ((l.set j y).map (Value.int .i64)) := by
  rw [List.map_set]; exact (h.stored j _).1
end Go.Proofs.Kv
namespace Go.Proofs.Ytdnlpikfibdjoaa
open Go.RowKit Go.Proofs.Kv

/-! ### what is known at the nodes -/
def rdT (T : List (List Int)) (p c : Nat) : Int := (T.getD c []).getD p 0
def nodeX (X : Tr) (c : Nat) : Nat := (X.at_.getD c 0).toNat
def stepK (K : List Int) (v : Nat) (r : Int) : Option (List Int) := if K.getD v 0 ≠ -1 ∧ K.getD v 0 ≠ r then none else some (K.set v r)
def foldK (X : Tr) (T : List (List Int)) (p : Nat) : Nat → Option (List Int)
  | 0 => some (List.replicate X.par.length (-1))
  | k + 1 => (foldK X T p k).bind fun K => stepK K (nodeX X k) (rdT T p k)
def atK (X : Tr) (T : List (List Int)) (p : Nat) : Option (List Int) := foldK X T p T.length
theorem foldK_none {X : Tr} {T : List (List Int)} {p k : Nat} (h : foldK X T p k = none) : ∀ j, foldK X T p (k + j) = none
  | 0 => h
  | j + 1 => by rw [← Nat.add_assoc, foldK, foldK_none h j]; rfl
theorem foldK_len {X : Tr} {T : List (List Int)} {p : Nat} : ∀ {k : Nat} {K : List Int}, foldK X T p k = some K → K.length = X.par.length
  | 0, K, h => by injection h with h; rw [← h]; simp
  | k + 1, K, h => by
    rw [foldK] at h
    obtain ⟨K', h1, h2⟩ := Option.bind_eq_some_iff.1 h
    unfold stepK at h2
    split at h2
    · cases h2
    · injection h2 with h2; rw [← h2, List.length_set]; exact foldK_len h1
def atV (o : Option (List Int)) : List Int := o.getD []
set_option maxRecDepth 100000 in
set_option maxHeartbeats 2000000 in
theorem atNodes_calls (a : Option Addr) (n c : Nat) (T : List (List Int)) (v : Value) (X : Tr) (p : Nat) (w : World) (hT : ListsAt w a n c T) (h : TreeAt w v X) (gT : GoodT T) (gX : GoodX X) (hl : X.at_.length = T.length) (hp : p < n0 T) :
    Calls Try.prog 99 #[.slice a n c, v, .int .i64 (p : Int)] w fun e w' => ∃ v', e = .returned (.tuple #[v', .bool (atK X T p).isSome]) ∧ Made 3 w w' v' (atV (atK X T p)) := by
  have HP := hid_ h
  obtain ⟨a1, n1, c1, a2, n2, c2, rfl, h1, h2⟩ := h
  obtain ⟨w1, hw1⟩ : ∃ w1, w.alloc (.cells #[.slice a1 n1 c1, .slice a2 n2 c2] 46) = w1 := ⟨_, rfl⟩
  have cb : Below w.heap.size w w1 := by rw [← hw1]; exact below_alloc _ _
  have q0 : w1.cell? ⟨w.heap.size, 0, none⟩ = some (.slice a1 n1 c1) := by rw [← hw1]; exact cells_alloc _ _ _ 0
  have q1 : w1.cell? ⟨w.heap.size, 1, none⟩ = some (.slice a2 n2 c2) := by rw [← hw1]; exact cells_alloc _ _ _ 1
  have HP1 := hid_ (HP.out.below cb (Nat.le_refl _)); have Hc1 := hid_ cb
  have HT1 := hid_ (hT.below cb (Nat.le_refl _))
  have H2 := hid_ (h2.below cb (Nat.le_refl _))
  have L1 := hid_ h1.len
  have L2 := hid_ h2.len
  have LT := hid_ hT.len
  have Hn21 : Hid (n2 = n) := hid_ (by rw [← L2.out, ← LT.out]; exact hl)
  have g1 := gX.ge; have g16 := gX.le; have ga6 := gX.a6
  rw [L1.out] at g1 g16; rw [L2.out] at ga6
  have HR := hid_ (fun W a c (h : IntsAt W a 1 c [-1]) => repeat_calls a c (-1) n1 g1 g16 W h)
  have HgT := hid_ gT; have HgX := hid_ gX
  have H0 : Hid (foldK X T p 0 = some (List.replicate n1 (-1))) := hid_ (by rw [← L1.out]; rfl)
  have HA : Hid (atK X T p = foldK X T p n2) := hid_ (by rw [atK, LT.out, Hn21.out])
  have HS : Hid (∀ k, foldK X T p (k + 1) = (foldK X T p k).bind fun K => stepK K (nodeX X k) (rdT T p k)) := hid_ (fun k => rfl)
  have HN := hid_ (fun k (hh : foldK X T p k = none) j => foldK_none hh j)
  have HLe := hid_ (fun k K (hh : foldK X T p k = some K) => foldK_len hh)
  rw [L1.out] at HLe
  have hrl := Nat.le_trans h2.le h2.small
  clear h1 h2 cb hT gT gX hl
  generalize atK X T p = o at *
  have q01 := cell_below q0 (below_alloc w1 (.cells #[.int .i64 (-1)] 3))
  go_enter Try.func99, Try.ntmps99
  go_wp2_with (go_at_call 127; (with_reducible refine (HR.out _ _ _ (IntsAt.one _ _ _)).mono ?_); rintro e w2 ⟨v2, rfl, hm⟩; have Hb2 := hid_ ((below_alloc w1 (.cells #[.int .i64 (-1)] 3)).trans (hm.bel.mono (below_alloc _ _).size)); have q02 := cell_below q0 Hb2.out; have q12 := cell_below q1 Hb2.out; have ho := hm.own; rw [List.length_replicate] at ho; obtain ⟨g, cap, rfl, hcap1, hcap2, hg1, hg2⟩ := own_form7 ho (by omega); have Ho := hid_ (own_base ho (below_alloc w1 (.cells #[.int .i64 (-1)] 3)).size); have hgl : w1.heap.size ≤ g := Nat.le_trans (below_alloc w1 (.cells #[.int .i64 (-1)] 3)).size hg1; clear hm ho hg1)
  go_loopw [20] (fun i wr => ∃ (k : Nat) (K : List Int), k ≤ n2 ∧ i = .int .i64 k ∧ foldK X T p k = some K ∧ wr.ownsRow w1.heap.size 3 1 (.slice (some ⟨g, 0, none⟩) n1 cap) n1 (K.map (Value.int .i64)) ∧ Below w1.heap.size w1 wr) (fun i _ => n2 - (intOf i).toNat)
  case atStart => exact ⟨0, _, Nat.zero_le _, rfl, H0.out, Ho.out, Hb2.out⟩
  case round =>
    obtain ⟨k, K, hk, rfl, hf, hown, hb⟩ := hrel
    have Hf := hid_ hf; have Hb := hid_ hb
    by_cases hlt : k < n2
    · have hq1 := cell_below q1 hb
      obtain ⟨b, off, rfl, hb0, hcell⟩ := (H2.out.below hb (Nat.le_refl _)).cells k hlt
      have hkn : k < n := by rw [← Hn21.out]; exact hlt
      obtain ⟨b1, off1, a3, n3, c3, rfl, hb1, hcell1, hrow⟩ := (HT1.out.below hb (Nat.le_refl _)).cells k hkn
      have hkT : k < T.length := by rw [LT.out]; exact hkn
      have hpn : p < n3 := by rw [← hrow.len, HgT.out.len k hkT]; exact hp
      have hr3 := Nat.le_trans hrow.le hrow.small
      obtain ⟨b2, off2, rfl, hb2, hcell2⟩ := hrow.cells p hpn
      have hv := HgX.out.at_ k (by rw [L2.out]; exact hlt)
      have hr := HgT.out.ok k hkT p hp
      have hs := HS.out k
      rw [Hf.out] at hs
      have hs' : foldK X T p (k + 1) = stepK K (X.at_.getD k 0).toNat ((T.getD k []).getD p 0) := hs
      have Hs := hid_ hs'
      rw [L1.out] at hv
      clear hs hs' hrow hf hb
      generalize (T.getD k []).getD p 0 = r at *
      generalize X.at_.getD k 0 = y at *
      obtain ⟨y, rfl⟩ := nat_of hv.1
      rw [Int.toNat_natCast] at Hs
      have hyn : y < n1 := by omega
      obtain ⟨hky, hkf⟩ := own_cell7 hown hyn
      have hky' := World.block_lt_of_cell? _ _ hky
      have hst : stepK K y r = if K.getD y 0 ≠ -1 ∧ K.getD y 0 ≠ r then none else some (K.set y r) := rfl
      have Hown := hid_ hown
      clear hown
      generalize K.getD y 0 = z at *
      by_cases h1 : z = -1
      · have Hz := hid_ (Hs.out.trans (hst.trans (if_neg (by rw [h1]; simp))))
        have hq : (z != -1) = false := by rw [h1]; rfl
        clear h1 hst
        go_wp2
        go_roundw
        case rel => exact ⟨k + 1, _, by omega, by go_num, Hz.out, own_put7 Hown.out y r, Hb.out.setCell (p := ⟨g, y, none⟩) hgl _⟩
        case measure => simp [intOf]; omega
      · have hq : (z != -1) = true := by simpa using h1
        by_cases h2 : z = r
        · have Hz := hid_ (Hs.out.trans (hst.trans (if_neg (fun hh => hh.2 h2))))
          have hq2 : (z != r) = false := by simpa using h2
          clear h1 h2 hst
          go_wp2
          go_roundw
          case rel => exact ⟨k + 1, _, by omega, by go_num, Hz.out, own_put7 Hown.out y r, Hb.out.setCell (p := ⟨g, y, none⟩) hgl _⟩
          case measure => simp [intOf]; omega
        · have Hz := hid_ (Hs.out.trans (hst.trans (if_pos ⟨h1, h2⟩)))
          have hq2 : (z != r) = true := by simpa using h2
          have HE : Hid (o = none) := hid_ (by rw [HA.out, show n2 = k + 1 + (n2 - (k + 1)) by omega]; exact HN.out _ Hz.out _)
          clear h1 h2 hst
          go_wp2
          go_ret2
          exact ⟨_, by rw [HE.out]; rfl, by rw [HE.out]; exact Made.none_ _ (Hc1.out.trans (Hb.out.mono Hc1.out.size))⟩
    · obtain rfl : n2 = k := by omega
      have HE : Hid (o = some K) := hid_ (by rw [HA.out, Hf.out])
      have HKl : Hid (K.length = n1) := hid_ (HLe.out _ _ Hf.out)
      have Hown := hid_ hown
      clear hown hf hb
      go_wp2
      go_ret2
      exact ⟨_, by rw [HE.out]; rfl, by rw [HE.out]; exact ⟨by show World.ownsRow _ _ _ _ _ K.length (K.map _); rw [HKl.out]; exact own_base Hown.out Hc1.out.size, Hc1.out.trans (Hb.out.mono Hc1.out.size)⟩⟩
end Go.Proofs.Ytdnlpikfibdjoaa
namespace Go.Proofs.Kv
/-! ### the fewest changes on a tree: mathematics -/
def sumN (f : Nat → Nat) : Nat → Nat
  | 0 => 0
  | k + 1 => sumN f k + f k
theorem sumN_congr {f g : Nat → Nat} : ∀ {k : Nat}, (∀ i, i < k → f i = g i) → sumN f k = sumN g k
  | 0, _ => rfl
  | k + 1, h => by rw [sumN, sumN, sumN_congr fun i hi => h i (by omega), h k (by omega)]
theorem sumN_le {f g : Nat → Nat} : ∀ {k : Nat}, (∀ i, i < k → f i ≤ g i) → sumN f k ≤ sumN g k
  | 0, _ => Nat.le_refl _
  | k + 1, h => Nat.add_le_add (sumN_le fun i hi => h i (by omega)) (h k (by omega))
theorem sumN_upd (f : Nat → Nat) (p m : Nat) : ∀ {k : Nat}, p < k → sumN (fun i => if i = p then f i + m else f i) k = sumN f k + m
  | 0, h => absurd h (by omega)
  | k + 1, h => by
    rw [sumN, sumN]
    by_cases e : k = p
    · subst e
      rw [if_pos rfl, sumN_congr (g := f) fun i hi => if_neg (by omega)]; omega
    · rw [if_neg e, sumN_upd f p m (by omega)]; omega
theorem sumN_ge (f : Nat → Nat) : ∀ {k i : Nat}, i < k → f i ≤ sumN f k
  | 0, _, h => absurd h (by omega)
  | k + 1, i, h => by
    rw [sumN]
    by_cases e : i = k
    · subst e; omega
    · have := sumN_ge f (k := k) (i := i) (by omega); omega
theorem sumN_zero : ∀ {f : Nat → Nat} {k : Nat}, (∀ i, i < k → f i = 0) → sumN f k = 0
  | _, 0, _ => rfl
  | f, k + 1, h => by rw [sumN, sumN_zero fun i hi => h i (by omega), h k (by omega)]
theorem sumN_add (f g : Nat → Nat) : ∀ k : Nat, sumN (fun i => f i + g i) k = sumN f k + sumN g k
  | 0 => rfl
  | k + 1 => by rw [sumN, sumN, sumN, sumN_add f g k]; omega

def ne1 (a b : Int) : Nat := if a = b then 0 else 1
theorem ne1_le (a b : Int) : ne1 a b ≤ 1 := by unfold ne1; split <;> omega
theorem ne1_same (a : Int) : ne1 a a = 0 := if_pos rfl
/-- a table: a number for each node and reading -/
abbrev Tab := Nat → Nat → Nat
def mn (c : Nat → Nat) (p : Int) : Nat := min (min (c 0 + ne1 0 p) (c 1 + ne1 1 p)) (c 2 + ne1 2 p)
def am (c : Nat → Nat) (p : Int) : Nat := if c 1 + ne1 1 p < c 0 + ne1 0 p then (if c 2 + ne1 2 p < c 1 + ne1 1 p then 2 else 1) else (if c 2 + ne1 2 p < c 0 + ne1 0 p then 2 else 0)
theorem mn_le (c : Nat → Nat) (p : Int) {s : Nat} (h : s < 3) : mn c p ≤ c s + ne1 (s : Int) p := by
  rcases (show s = 0 ∨ s = 1 ∨ s = 2 by omega) with rfl | rfl | rfl
  · exact Nat.le_trans (Nat.min_le_left _ _) (Nat.min_le_left _ _)
  · exact Nat.le_trans (Nat.min_le_left _ _) (Nat.min_le_right _ _)
  · exact Nat.min_le_right _ _
theorem am_lt (c : Nat → Nat) (p : Int) : am c p < 3 := by unfold am; split <;> split <;> omega
theorem am_eq (c : Nat → Nat) (p : Int) : c (am c p) + ne1 ((am c p : Nat) : Int) p = mn c p := by
  unfold am mn
  have e0 : ((0 : Nat) : Int) = 0 := rfl
  have e1 : ((1 : Nat) : Int) = 1 := rfl
  have e2 : ((2 : Nat) : Int) = 2 := rfl
  split <;> split <;> simp only [e0, e1, e2] <;> omega
theorem mn_congr {c d : Nat → Nat} {p : Int} (h : ∀ s, s < 3 → c s = d s) : mn c p = mn d p := by
  unfold mn; rw [h 0 (by omega), h 1 (by omega), h 2 (by omega)]

section
variable (par : Nat → Nat)
def chgN (L : Nat → Nat) (k : Nat) : Nat := sumN (fun i => if i = 0 then 0 else ne1 (L i : Int) (L (par i) : Int)) k
def totN (D : Tab) (L : Nat → Nat) (k : Nat) : Nat := sumN (fun i => D i (L i)) k + chgN par L k
def elim (v : Nat) (D : Tab) : Tab := fun i r => if i = par v then D i r + mn (D v) (r : Int) else D i r
variable {par}
theorem totN_elim {v : Nat} (hv : 0 < v) (hp : par v < v) (D : Tab) (L : Nat → Nat) : totN par D L (v + 1) + mn (D v) (L (par v) : Int) = totN par (elim par v D) L v + (D v (L v) + ne1 (L v : Int) (L (par v) : Int)) := by
  have e1 : sumN (fun i => elim par v D i (L i)) v = sumN (fun i => D i (L i)) v + mn (D v) (L (par v) : Int) := by
    rw [← sumN_upd (fun i => D i (L i)) (par v) (mn (D v) (L (par v) : Int)) hp]
    refine sumN_congr fun i hi => ?_
    unfold elim
    by_cases e : i = par v
    · subst e; simp
    · rw [if_neg e, if_neg e]
  have e2 : sumN (fun i => D i (L i)) (v + 1) = sumN (fun i => D i (L i)) v + D v (L v) := rfl
  have e3 : chgN par L (v + 1) = chgN par L v + ne1 (L v : Int) (L (par v) : Int) := by
    unfold chgN
    rw [sumN, if_neg (by omega)]
  unfold totN
  rw [e1, e2, e3]
  omega
theorem elim_le {v : Nat} (hv : 0 < v) (hp : par v < v) (D : Tab) {L : Nat → Nat} (hL : L v < 3) : totN par (elim par v D) L v ≤ totN par D L (v + 1) := by
  have h1 := totN_elim hv hp D L
  have h2 := mn_le (D v) (L (par v) : Int) hL
  omega
theorem elim_eq {v : Nat} (hv : 0 < v) (hp : par v < v) (D : Tab) {L : Nat → Nat} (hL : L v = am (D v) (L (par v) : Int)) : totN par (elim par v D) L v = totN par D L (v + 1) := by
  have h1 := totN_elim hv hp D L
  have h2 := am_eq (D v) (L (par v) : Int)
  rw [← hL] at h2
  omega
theorem totN_congr {D D' : Tab} {L : Nat → Nat} {k : Nat} (h : ∀ i, i < k → D i (L i) = D' i (L i)) : totN par D L k = totN par D' L k := by
  unfold totN; rw [sumN_congr h]
theorem totN_one (D : Tab) (L : Nat → Nat) : totN par D L 1 = D 0 (L 0) := by simp [totN, chgN, sumN]

/-! #### the document's table: all labelings -/
def refT (par : Nat → Nat) (n : Nat) (D0 : Tab) : Nat → Tab
  | 0 => D0
  | t + 1 => elim par (n - 1 - t) (refT par n D0 t)
/-- from the last node on, each node but 0 is taken away -/
theorem refT_le {n : Nat} (hp : ∀ v, 0 < v → v < n → par v < v) (D0 : Tab) {L : Nat → Nat} (hL : ∀ v, v < n → L v < 3) : ∀ {t : Nat}, t < n → totN par (refT par n D0 t) L (n - t) ≤ totN par D0 L n
  | 0, _ => Nat.le_refl _
  | t + 1, h => by
    have ih := refT_le hp D0 hL (t := t) (by omega)
    have := elim_le (par := par) (v := n - 1 - t) (by omega) (hp _ (by omega) (by omega)) (refT par n D0 t) (L := L) (hL _ (by omega))
    rw [show n - 1 - t + 1 = n - t by omega] at this
    rw [show n - (t + 1) = n - 1 - t by omega]
    exact Nat.le_trans this ih
/-- rows that are behind stay -/
theorem refT_row {n : Nat} (hp : ∀ v, 0 < v → v < n → par v < v) (D0 : Tab) {t : Nat} : ∀ {s : Nat}, t + s < n → ∀ i, n - 1 - t ≤ i → i < n → refT par n D0 (t + s) i = refT par n D0 t i
  | 0, _, i, _, _ => rfl
  | s + 1, h, i, h1, h2 => by
    have ih := refT_row hp D0 (t := t) (s := s) (by omega) i h1 h2
    rw [← Nat.add_assoc, refT]
    funext r
    unfold elim
    have hlt := hp (n - 1 - (t + s)) (by omega) (by omega)
    rw [if_neg (by omega), ih]
/-- the labeling that takes the best for each node, in the order of the nodes -/
def labA (F : Tab) (par : Nat → Nat) : Nat → List Nat
  | 0 => []
  | i + 1 => labA F par i ++ [am (F i) (if i = 0 then -1 else (((labA F par i).getD (par i) 0 : Nat) : Int))]
theorem labA_len (F : Tab) (par : Nat → Nat) : ∀ i, (labA F par i).length = i
  | 0 => rfl
  | i + 1 => by rw [labA, List.length_append, labA_len F par i]; rfl
theorem labA_take (F : Tab) (par : Nat → Nat) {i : Nat} : ∀ {k : Nat}, i < k → (labA F par k).getD i 0 = (labA F par (i + 1)).getD i 0
  | 0, h => absurd h (by omega)
  | k + 1, h => by
    by_cases e : i = k
    · rw [e]
    · rw [labA]
      have hl := labA_len F par k
      simp only [List.getD]
      rw [List.getElem?_append_left (by omega)]
      have := labA_take F par (i := i) (k := k) (by omega)
      simpa [List.getD] using this
theorem labA_at (F : Tab) (par : Nat → Nat) {n i : Nat} (hi : i < n) (hp : 0 < i → par i < i) : (labA F par n).getD i 0 = am (F i) (if i = 0 then -1 else (((labA F par n).getD (par i) 0 : Nat) : Int)) := by
  rw [labA_take F par hi]
  have e : (labA F par (i + 1)).getD i 0 = am (F i) (if i = 0 then -1 else (((labA F par i).getD (par i) 0 : Nat) : Int)) := by
    rw [labA]
    have hl := labA_len F par i
    simp only [List.getD]
    rw [List.getElem?_append_right (by omega), hl]
    simp
  rw [e]
  by_cases h0 : i = 0
  · rw [if_pos h0, if_pos h0]
  · rw [if_neg h0, if_neg h0]
    have hpi := hp (by omega)
    rw [labA_take F par (k := i) hpi, labA_take F par (k := n) (i := par i) (by omega)]
theorem labA_lt (F : Tab) (par : Nat → Nat) {n i : Nat} (hi : i < n) (hp : 0 < i → par i < i) : (labA F par n).getD i 0 < 3 := by rw [labA_at F par hi hp]; exact am_lt _ _
theorem refT_eq {n : Nat} (hp : ∀ v, 0 < v → v < n → par v < v) (D0 : Tab) {L : Nat → Nat} (hL : ∀ v, 0 < v → v < n → L v = am (refT par n D0 (n - 1) v) (L (par v) : Int)) : ∀ {t : Nat}, t < n → totN par (refT par n D0 t) L (n - t) = totN par D0 L n
  | 0, _ => rfl
  | t + 1, h => by
    have ih := refT_eq hp D0 hL (t := t) (by omega)
    have e : refT par n D0 (n - 1) (n - 1 - t) = refT par n D0 t (n - 1 - t) := by
      have := refT_row hp D0 (t := t) (s := n - 1 - t) (by omega) (n - 1 - t) (Nat.le_refl _) (by omega)
      rwa [show t + (n - 1 - t) = n - 1 by omega] at this
    have hl := hL (n - 1 - t) (by omega) (by omega)
    rw [e] at hl
    have := elim_eq (par := par) (v := n - 1 - t) (by omega) (hp _ (by omega) (by omega)) (refT par n D0 t) hl
    rw [show n - 1 - t + 1 = n - t by omega] at this
    rw [show n - (t + 1) = n - 1 - t by omega, refT]
    exact this.trans ih
/-- the smallest number in row 0 is the smallest total -/
def minR (c : Nat → Nat) : Nat := min (min (c 0) (c 1)) (c 2)
theorem minR_le (c : Nat → Nat) {s : Nat} (h : s < 3) : minR c ≤ c s := by
  unfold minR
  rcases (show s = 0 ∨ s = 1 ∨ s = 2 by omega) with rfl | rfl | rfl <;> omega
theorem mn_open (c : Nat → Nat) : mn c (-1) = minR c + 1 := by
  unfold mn minR ne1
  simp only [show ¬ ((0 : Int) = -1) by omega, show ¬ ((1 : Int) = -1) by omega, show ¬ ((2 : Int) = -1) by omega, if_false]
  omega
theorem refT_all {n : Nat} (h0 : 0 < n) (hp : ∀ v, 0 < v → v < n → par v < v) (D0 : Tab) {L : Nat → Nat} (hL : ∀ v, v < n → L v < 3) : minR (refT par n D0 (n - 1) 0) ≤ totN par D0 L n := by
  have := refT_le hp D0 hL (t := n - 1) (by omega)
  rw [show n - (n - 1) = 1 by omega, totN_one] at this
  exact Nat.le_trans (minR_le _ (hL 0 h0)) this
theorem refT_one {n : Nat} (h0 : 0 < n) (hp : ∀ v, 0 < v → v < n → par v < v) (D0 : Tab) : ∃ L : Nat → Nat, (∀ v, v < n → L v < 3) ∧ totN par D0 L n = minR (refT par n D0 (n - 1) 0) := by
  obtain ⟨F, hF⟩ : ∃ F, refT par n D0 (n - 1) = F := ⟨_, rfl⟩
  refine ⟨fun v => (labA F par n).getD v 0, fun v hv => labA_lt F par hv fun h => hp v h hv, ?_⟩
  have := refT_eq (par := par) hp D0 (L := fun v => (labA F par n).getD v 0) (fun v h1 h2 => by
    rw [hF]
    have := labA_at F par h2 fun h => hp v h h2
    rw [if_neg (by omega)] at this
    exact this) (t := n - 1) (by omega)
  rw [show n - (n - 1) = 1 by omega, totN_one, hF] at this
  rw [hF, ← this]
  show F 0 ((labA F par n).getD 0 0) = _
  have hl := labA_at F par h0 fun h => absurd h (by omega)
  rw [if_pos rfl] at hl
  have := am_eq (F 0) (-1)
  rw [mn_open, ← hl] at this
  have h3 := labA_lt F par h0 fun h => absurd h (by omega)
  have : ne1 (((labA F par n).getD 0 0 : Nat) : Int) (-1) = 1 := if_neg (by omega)
  omega
end
end Go.Proofs.Kv
namespace Go.Proofs.Kv
section
variable (par : Nat → Nat) (bad : Nat → Nat → Bool)
/-! #### the program's table: what may not be is 16 -/
def ovr (v : Nat) (D : Tab) : Tab := fun i r => if i = v ∧ bad v r = true then 16 else D i r
def proT (n : Nat) : Nat → Tab
  | 0 => fun _ _ => 0
  | t + 1 => if n - 1 - t = 0 then ovr bad (n - 1 - t) (proT n t) else elim par (n - 1 - t) (ovr bad (n - 1 - t) (proT n t))
def szT (n : Nat) : Nat → Nat → Nat
  | 0 => fun _ => 1
  | t + 1 => fun i => if i = par (n - 1 - t) then szT n t i + szT n t (n - 1 - t) else szT n t i
variable {par bad}
theorem ovr_other {v i : Nat} (h : i ≠ v) (D : Tab) : ovr bad v D i = D i := by funext r; exact if_neg fun e => h e.1
theorem ovr_good {v r : Nat} (h : bad v r = false) (D : Tab) : ovr bad v D v r = D v r := if_neg fun e => by rw [h] at e; exact absurd e.2 (by decide)
theorem szT_sum {n : Nat} (hp : ∀ v, 0 < v → v < n → par v < v) : ∀ {t : Nat}, t < n → sumN (szT par n t) (n - t) = n
  | 0, _ => by
    have : ∀ k, sumN (szT par n 0) k = k := fun k => by induction k with | zero => rfl | succ k ih => rw [sumN, ih]; rfl
    exact this n
  | t + 1, h => by
    have ih := szT_sum hp (t := t) (by omega)
    have hv := hp (n - 1 - t) (by omega) (by omega)
    have e : sumN (szT par n (t + 1)) (n - 1 - t) = sumN (szT par n t) (n - 1 - t) + szT par n t (n - 1 - t) := by
      rw [← sumN_upd (szT par n t) (par (n - 1 - t)) (szT par n t (n - 1 - t)) hv]
      rfl
    rw [show n - (t + 1) = n - 1 - t by omega, e]
    rw [show n - t = n - 1 - t + 1 by omega, sumN] at ih
    exact ih
theorem szT_pos (n : Nat) : ∀ (t i : Nat), 1 ≤ szT par n t i
  | 0, _ => Nat.le_refl _
  | t + 1, i => by
    have := szT_pos n t i
    show 1 ≤ if i = par (n - 1 - t) then szT par n t i + szT par n t (n - 1 - t) else szT par n t i
    split <;> omega
theorem sumN_two (f : Nat → Nat) : ∀ {k i : Nat}, 0 < i → i < k → f 0 + f i ≤ sumN f k
  | 0, _, _, h => absurd h (by omega)
  | k + 1, i, h0, h => by
    rw [sumN]
    by_cases e : i = k
    · subst e
      have := sumN_ge f (k := i) (i := 0) h0; omega
    · have := sumN_two f (k := k) (i := i) h0 (by omega); omega
theorem szT_le {n : Nat} (hp : ∀ v, 0 < v → v < n → par v < v) {t i : Nat} (ht : t < n) (h0 : 0 < i) (hi : i < n - t) : szT par n t i + 1 ≤ n := by
  have h1 := szT_sum (par := par) hp ht
  have h2 := sumN_two (szT par n t) (k := n - t) h0 hi
  have h3 := szT_pos (par := par) n t 0
  omega
theorem szT_root {n : Nat} (hp : ∀ v, 0 < v → v < n → par v < v) {t : Nat} (ht : t < n) : szT par n t 0 ≤ n := by
  have h1 := szT_sum (par := par) hp ht
  have h2 := sumN_ge (szT par n t) (k := n - t) (i := 0) (by omega)
  omega
variable (good : ∀ v, ∃ s, s < 3 ∧ bad v s = false)
include good
theorem proT_le {n : Nat} (hp : ∀ v, 0 < v → v < n → par v < v) : ∀ {t : Nat}, t < n → ∀ i, i < n - t → ∀ r, proT par bad n t i r + 1 ≤ szT par n t i
  | 0, _, i, _, r => by show 0 + 1 ≤ 1; omega
  | t + 1, h, i, hi, r => by
    have ih := proT_le hp (t := t) (by omega)
    have hv := hp (n - 1 - t) (by omega) (by omega)
    have e1 : proT par bad n (t + 1) i r = elim par (n - 1 - t) (ovr bad (n - 1 - t) (proT par bad n t)) i r := by rw [proT, if_neg (by omega)]
    rw [e1]
    have hne : i ≠ n - 1 - t := by omega
    unfold elim
    show _ ≤ if i = par (n - 1 - t) then szT par n t i + szT par n t (n - 1 - t) else szT par n t i
    have hi' := ih i (by omega) r
    by_cases e : i = par (n - 1 - t)
    · rw [if_pos e, if_pos e, ovr_other hne]
      obtain ⟨s, hs, hb⟩ := good (n - 1 - t)
      have h1 := ih (n - 1 - t) (by omega) s
      have h2 := mn_le (ovr bad (n - 1 - t) (proT par bad n t) (n - 1 - t)) (r : Int) hs
      rw [ovr_good hb] at h2
      have := ne1_le (s : Int) (r : Int)
      omega
    · rw [if_neg e, if_neg e, ovr_other hne]; exact hi'
omit good in
theorem proT_row {n : Nat} (hp : ∀ v, 0 < v → v < n → par v < v) {t : Nat} : ∀ {s : Nat}, t + 1 + s ≤ n → ∀ i, n - 1 - t ≤ i → i < n → proT par bad n (t + 1 + s) i = proT par bad n (t + 1) i
  | 0, _, i, _, _ => rfl
  | s + 1, h, i, h1, h2 => by
    have ih := proT_row hp (t := t) (s := s) (by omega) i h1 h2
    rw [← Nat.add_assoc, proT]
    have hne : i ≠ n - 1 - (t + 1 + s) := by omega
    by_cases h0 : n - 1 - (t + 1 + s) = 0
    · rw [if_pos h0, ovr_other hne]; exact ih
    · rw [if_neg h0]
      have hlt := hp (n - 1 - (t + 1 + s)) (by omega) (by omega)
      funext r
      unfold elim
      rw [if_neg (by omega), ovr_other hne, ih]
omit good in
/-- the last table's row of a node is that with which it was taken away -/
theorem proT_last {n : Nat} (hp : ∀ v, 0 < v → v < n → par v < v) {v : Nat} (hv : v < n) : proT par bad n n v = ovr bad v (proT par bad n (n - 1 - v)) v := by
  have := proT_row (par := par) (bad := bad) hp (t := n - 1 - v) (s := v) (by omega) v (by omega) hv
  rw [show n - 1 - v + 1 + v = n by omega] at this
  rw [this, proT, show n - 1 - (n - 1 - v) = v by omega]
  by_cases h0 : v = 0
  · rw [if_pos h0]
  · rw [if_neg h0]
    have hlt := hp v (by omega) hv
    funext r
    unfold elim
    rw [if_neg (by omega)]
theorem proT_good {n : Nat} (h16 : n ≤ 16) (hp : ∀ v, 0 < v → v < n → par v < v) {v : Nat} (hv : v < n) (p : Int) (h0 : v = 0 → p = -1) : bad v (am (proT par bad n n v) p) = false := by
  obtain ⟨c, hc⟩ : ∃ c, proT par bad n n v = c := ⟨_, rfl⟩
  have hl := proT_last (par := par) (bad := bad) hp hv
  rw [hc] at hl
  rw [hc]
  cases hb : bad v (am c p) with
  | false => rfl
  | true =>
    exfalso
    have e16 : c (am c p) = 16 := by rw [hl]; exact if_pos ⟨rfl, by rw [← hl]; exact hb⟩
    have h1 := am_eq c p
    rw [e16] at h1
    obtain ⟨s, hs, hbs⟩ := good v
    have h2 := mn_le c p hs
    have hcs : c s = proT par bad n (n - 1 - v) v s := by rw [hl]; exact ovr_good hbs _
    have h3 := proT_le good hp (t := n - 1 - v) (by omega) v (by omega) s
    rw [← hcs] at h3
    have h4 := ne1_le (s : Int) p
    by_cases hz : v = 0
    · subst hz
      have h5 := szT_root (par := par) hp (t := n - 1 - 0) (by omega)
      have e1 : ne1 ((am c p : Nat) : Int) p = 1 := by rw [h0 rfl]; exact if_neg (by omega)
      omega
    · have h5 := szT_le (par := par) hp (t := n - 1 - v) (i := v) (by omega) (by omega) (by omega)
      omega
omit good in
theorem proT_tot {n : Nat} (hp : ∀ v, 0 < v → v < n → par v < v) {L : Nat → Nat} (hL : ∀ v, v < n → L v < 3 ∧ bad v (L v) = false) : ∀ {t : Nat}, t < n → totN par (proT par bad n t) L (n - t) ≤ chgN par L n
  | 0, _ => by
    show totN par (fun _ _ => 0) L n ≤ _
    have : totN par (fun _ _ => 0) L n = chgN par L n := by unfold totN; rw [sumN_zero fun i _ => rfl]; omega
    omega
  | t + 1, h => by
    have ih := proT_tot hp hL (t := t) (by omega)
    have := elim_le (par := par) (v := n - 1 - t) (by omega) (hp _ (by omega) (by omega)) (ovr bad (n - 1 - t) (proT par bad n t)) (L := L) (hL _ (by omega)).1
    rw [show n - 1 - t + 1 = n - t by omega] at this
    rw [show n - (t + 1) = n - 1 - t by omega, proT, if_neg (by omega)]
    refine Nat.le_trans this (Nat.le_trans (Nat.le_of_eq (totN_congr fun i hi => ?_)) ih)
    by_cases e : i = n - 1 - t
    · rw [e]; exact ovr_good (hL _ (by omega)).2 _
    · rw [ovr_other e]
omit good in
theorem proT_totE {n : Nat} (hp : ∀ v, 0 < v → v < n → par v < v) {L : Nat → Nat} (hL : ∀ v, v < n → L v < 3 ∧ bad v (L v) = false) (hE : ∀ v, 0 < v → v < n → L v = am (proT par bad n n v) (L (par v) : Int)) : ∀ {t : Nat}, t < n → totN par (proT par bad n t) L (n - t) = chgN par L n
  | 0, _ => by
    show totN par (fun _ _ => 0) L n = _
    unfold totN; rw [sumN_zero fun i _ => rfl]; omega
  | t + 1, h => by
    have ih := proT_totE hp hL hE (t := t) (by omega)
    have hl := hE (n - 1 - t) (by omega) (by omega)
    rw [proT_last hp (by omega), show n - 1 - (n - 1 - t) = t by omega] at hl
    have := elim_eq (par := par) (v := n - 1 - t) (by omega) (hp _ (by omega) (by omega)) (ovr bad (n - 1 - t) (proT par bad n t)) (L := L) hl
    rw [show n - 1 - t + 1 = n - t by omega] at this
    rw [show n - (t + 1) = n - 1 - t by omega, proT, if_neg (by omega), this, ← ih]
    refine totN_congr fun i hi => ?_
    by_cases e : i = n - 1 - t
    · rw [e]; exact ovr_good (hL _ (by omega)).2 _
    · rw [ovr_other e]
/-- the program's labeling is one that may be, with the fewest changes -/
def labP (par : Nat → Nat) (bad : Nat → Nat → Bool) (n : Nat) (v : Nat) : Nat := (labA (proT par bad n n) par n).getD v 0
theorem labP_good {n : Nat} (h16 : n ≤ 16) (hp : ∀ v, 0 < v → v < n → par v < v) : ∀ v, v < n → labP par bad n v < 3 ∧ bad v (labP par bad n v) = false := fun v hv => by
  refine ⟨labA_lt _ par hv fun h => hp v h hv, ?_⟩
  unfold labP
  rw [labA_at _ par hv fun h => hp v h hv]
  exact proT_good good h16 hp hv _ fun h => if_pos h
theorem labP_least {n : Nat} (h0 : 0 < n) (h16 : n ≤ 16) (hp : ∀ v, 0 < v → v < n → par v < v) {L : Nat → Nat} (hL : ∀ v, v < n → L v < 3 ∧ bad v (L v) = false) : chgN par (labP par bad n) n ≤ chgN par L n := by
  have hg := labP_good good h16 hp
  have e1 := proT_totE (par := par) (bad := bad) hp hg (fun v h1 h2 => by
    have := labA_at (proT par bad n n) par h2 fun h => hp v h h2
    rw [if_neg (by omega)] at this
    exact this) (t := n - 1) (by omega)
  have e2 := proT_tot (par := par) (bad := bad) hp hL (t := n - 1) (by omega)
  rw [show n - (n - 1) = 1 by omega, totN_one] at e1 e2
  have hl := proT_last (par := par) (bad := bad) hp h0
  rw [show n - 1 - 0 = n - 1 by omega] at hl
  have c1 : proT par bad n n 0 (labP par bad n 0) = proT par bad n (n - 1) 0 (labP par bad n 0) := by rw [hl]; exact ovr_good (hg 0 h0).2 _
  have c2 : proT par bad n n 0 (L 0) = proT par bad n (n - 1) 0 (L 0) := by rw [hl]; exact ovr_good (hL 0 h0).2 _
  have hat := labA_at (proT par bad n n) par h0 fun h => absurd h (by omega)
  rw [if_pos rfl] at hat
  have ham := am_eq (proT par bad n n 0) (-1)
  rw [mn_open, ← hat] at ham
  have hne : ne1 (((labA (proT par bad n n) par n).getD 0 0 : Nat) : Int) (-1) = 1 := if_neg (by omega)
  have hmin := minR_le (proT par bad n n 0) (hL 0 h0).1
  unfold labP at c1 e1
  unfold labP
  omega
omit good in
theorem chgN_lt {n : Nat} (h0 : 0 < n) (L : Nat → Nat) : chgN par L n < n := by
  have h1 : chgN par L n ≤ sumN (fun i => if i = 0 then 0 else 1) n := sumN_le fun i _ => by
    split
    · exact Nat.le_refl _
    · exact ne1_le _ _
  have h2 : ∀ k, 0 < k → sumN (fun i => if i = 0 then 0 else 1) k + 1 = k := fun k hk => by
    induction k with
    | zero => omega
    | succ k ih =>
      rw [sumN]
      by_cases e : k = 0
      · subst e; rfl
      · rw [if_neg e]; have := ih (by omega); omega
  have := h2 n h0
  omega
end
end Go.Proofs.Kv
namespace Go.Proofs.Ytdnlpikfibdjoaa
open Go.RowKit Go.Proofs.Kv

/-! ### the best reading of a node -/
def bf (c : Nat → Nat) (p : Int) : Nat → Nat × Nat
  | 0 => (0, 0)
  | k + 1 => if k = 0 ∨ c k + ne1 (k : Int) p < (bf c p k).2 then (k, c k + ne1 (k : Int) p) else bf c p k
theorem bf_all (c : Nat → Nat) (p : Int) : bf c p 3 = (am c p, mn c p) := by
  have h1 : bf c p 1 = (0, c 0 + ne1 0 p) := rfl
  have h2 : bf c p 2 = if c 1 + ne1 1 p < c 0 + ne1 0 p then (1, c 1 + ne1 1 p) else (0, c 0 + ne1 0 p) := by
    rw [bf, h1]; simp
  have h3 : bf c p 3 = if c 2 + ne1 2 p < (bf c p 2).2 then (2, c 2 + ne1 2 p) else bf c p 2 := by
    rw [bf]; simp
  rw [h3, h2]
  unfold am mn
  by_cases a : c 1 + ne1 1 p < c 0 + ne1 0 p
  · rw [if_pos a, if_pos a]
    by_cases b : c 2 + ne1 2 p < c 1 + ne1 1 p
    · rw [if_pos b, if_pos b]; congr 1; omega
    · rw [if_neg b, if_neg b]; congr 1; omega
  · rw [if_neg a, if_neg a]
    by_cases b : c 2 + ne1 2 p < c 0 + ne1 0 p
    · rw [if_pos b, if_pos b]; congr 1; omega
    · rw [if_neg b, if_neg b]; congr 1; omega
def cntV (c : Nat → Nat) : Value := .agg #[.int .i64 (c 0 : Int), .int .i64 (c 1 : Int), .int .i64 (c 2 : Int)]
set_option maxRecDepth 100000 in
set_option maxHeartbeats 2000000 in
theorem best_calls (c : Nat → Nat) (p : Int) (hc : ∀ s, s < 3 → c s ≤ 100000) (w : World) :
    Calls Try.prog 129 #[.agg #[.int .i64 (c 0 : Int), .int .i64 (c 1 : Int), .int .i64 (c 2 : Int)], .int .i64 p] w fun e w' => e = .returned (.tuple #[.int .i64 (am c p : Nat), .int .i64 (mn c p : Nat)]) ∧ Below w.heap.size w w' := by
  have h0 := hc 0 (by omega); have h1 := hc 1 (by omega); have h2 := hc 2 (by omega)
  have HB := hid_ (bf_all c p)
  have HS : Hid (∀ k, bf c p (k + 1) = if k = 0 ∨ c k + ne1 (k : Int) p < (bf c p k).2 then (k, c k + ne1 (k : Int) p) else bf c p k) := hid_ (fun k => rfl)
  have Hz : Hid (bf c p 0 = (0, 0)) := hid_ rfl
  have HL : Hid (∀ k, k ≤ 3 → (bf c p k).2 ≤ 100001) := hid_ (fun k hk => by
    have hn := fun s => ne1_le ((s : Nat) : Int) p
    induction k with
    | zero => exact Nat.zero_le _
    | succ k ih =>
      rw [bf]
      have := hc k (by omega)
      have := hn k
      split
      · show c k + ne1 (k : Int) p ≤ 100001; omega
      · exact ih (by omega))
  have i0 : ∀ w, (Instr.index 139 (.agg #[.int .i64 (c 0 : Int), .int .i64 (c 1 : Int), .int .i64 (c 2 : Int)]) (.int .i64 0)).run Try.prog w = .ok (.int .i64 (c 0 : Int)) w := fun _ => by kernel_rfl
  have i1 : ∀ w, (Instr.index 139 (.agg #[.int .i64 (c 0 : Int), .int .i64 (c 1 : Int), .int .i64 (c 2 : Int)]) (.int .i64 1)).run Try.prog w = .ok (.int .i64 (c 1 : Int)) w := fun _ => by kernel_rfl
  have i2 : ∀ w, (Instr.index 139 (.agg #[.int .i64 (c 0 : Int), .int .i64 (c 1 : Int), .int .i64 (c 2 : Int)]) (.int .i64 2)).run Try.prog w = .ok (.int .i64 (c 2 : Int)) w := fun _ => by kernel_rfl
  clear hc
  generalize am c p = A at *
  generalize mn c p = M at *
  go_enter Try.func129, Try.ntmps129
  go_wp2
  go_loop [6, 7, 11] (fun b f i => ∃ k : Nat, k ≤ 3 ∧ i = .int .i64 k ∧ b = .int .i64 ((bf c p k).1 : Nat) ∧ f = .int .i64 ((bf c p k).2 : Nat)) (fun _ _ i => 3 - (intOf i).toNat)
  case atStart => exact ⟨0, by omega, rfl, by rw [Hz.out]; rfl, by rw [Hz.out]; rfl⟩
  case round =>
    obtain ⟨k, hk, rfl, rfl, rfl⟩ := hrel
    have hl := HL.out k hk
    have hs := HS.out k
    rcases (show k = 0 ∨ k = 1 ∨ k = 2 ∨ k = 3 by omega) with rfl | rfl | rfl | rfl
    · obtain ⟨x, y, hxy⟩ : ∃ x y, bf c p 0 = (x, y) := ⟨_, _, rfl⟩
      rw [hxy] at hs hl
      have Hxy := hid_ hxy
      have hl' : y ≤ 100001 := hl
      have Hs := hid_ hs
      clear hxy hs hl
      rw [Hxy.out]
      by_cases he : p = 0
      · subst he
        have hn : Hid (c 0 + ne1 ((0 : Nat) : Int) 0 = c 0) := hid_ (by rw [show ((0 : Nat) : Int) = 0 from rfl, ne1_same]; rfl)
        have Ht := hid_ (by have := Hs.out; rw [hn.out] at this; exact this : bf c 0 (0 + 1) = if (0 : Nat) = 0 ∨ c 0 < y then (0, c 0) else (x, y))
        clear Hs
        have Hu := hid_ (Ht.out.trans (if_pos (.inl rfl)))
        go_wp2
        go_round
        case rel => exact ⟨1, by omega, by go_num, by rw [Hu.out], by rw [Hu.out]⟩
        case measure => simp [intOf]
      · have hq : ((0 : Int) != p) = true := by simp; omega
        have hn : Hid (c 0 + ne1 ((0 : Nat) : Int) p = c 0 + 1) := hid_ (by rw [ne1, if_neg (by simp; omega)])
        have Ht := hid_ (by have := Hs.out; rw [hn.out] at this; exact this : bf c p (0 + 1) = if (0 : Nat) = 0 ∨ c 0 + 1 < y then (0, c 0 + 1) else (x, y))
        clear Hs he
        have Hu := hid_ (Ht.out.trans (if_pos (.inl rfl)))
        go_wp2
        go_round
        case rel => exact ⟨1, by omega, by go_num, by rw [Hu.out], by rw [Hu.out]; go_num⟩
        case measure => simp [intOf]
    · obtain ⟨x, y, hxy⟩ : ∃ x y, bf c p 1 = (x, y) := ⟨_, _, rfl⟩
      rw [hxy] at hs hl
      have Hxy := hid_ hxy
      have hl' : y ≤ 100001 := hl
      have Hs := hid_ hs
      clear hxy hs hl
      rw [Hxy.out]
      by_cases he : p = 1
      · subst he
        have hn : Hid (c 1 + ne1 ((1 : Nat) : Int) 1 = c 1) := hid_ (by rw [show ((1 : Nat) : Int) = 1 from rfl, ne1_same]; rfl)
        have Ht := hid_ (by have := Hs.out; rw [hn.out] at this; exact this : bf c 1 (1 + 1) = if (1 : Nat) = 0 ∨ c 1 < y then (1, c 1) else (x, y))
        clear Hs
        by_cases hlt : c 1 < y
        · have Hu := hid_ (Ht.out.trans (if_pos (.inr hlt)))
          go_wp2
          go_round
          case rel => exact ⟨2, by omega, by go_num, by rw [Hu.out], by rw [Hu.out]⟩
          case measure => simp [intOf]
        · have Hu := hid_ (Ht.out.trans (if_neg (by omega)))
          go_wp2
          go_round
          case rel => exact ⟨2, by omega, by go_num, by rw [Hu.out], by rw [Hu.out]⟩
          case measure => simp [intOf]
      · have hq : ((1 : Int) != p) = true := by simp; omega
        have hn : Hid (c 1 + ne1 ((1 : Nat) : Int) p = c 1 + 1) := hid_ (by rw [ne1, if_neg (by simp; omega)])
        have Ht := hid_ (by have := Hs.out; rw [hn.out] at this; exact this : bf c p (1 + 1) = if (1 : Nat) = 0 ∨ c 1 + 1 < y then (1, c 1 + 1) else (x, y))
        clear Hs he
        by_cases hlt : c 1 + 1 < y
        · have Hu := hid_ (Ht.out.trans (if_pos (.inr hlt)))
          have hlt' : (c 1 : Int) + 1 < (y : Int) := by omega
          go_wp2
          go_round
          case rel => exact ⟨2, by omega, by go_num, by rw [Hu.out], by rw [Hu.out]; go_num⟩
          case measure => simp [intOf]
        · have Hu := hid_ (Ht.out.trans (if_neg (by omega)))
          have hlt' : ¬ (c 1 : Int) + 1 < (y : Int) := by omega
          go_wp2
          go_round
          case rel => exact ⟨2, by omega, by go_num, by rw [Hu.out], by rw [Hu.out]⟩
          case measure => simp [intOf]
    · obtain ⟨x, y, hxy⟩ : ∃ x y, bf c p 2 = (x, y) := ⟨_, _, rfl⟩
      rw [hxy] at hs hl
      have Hxy := hid_ hxy
      have hl' : y ≤ 100001 := hl
      have Hs := hid_ hs
      clear hxy hs hl
      rw [Hxy.out]
      by_cases he : p = 2
      · subst he
        have hn : Hid (c 2 + ne1 ((2 : Nat) : Int) 2 = c 2) := hid_ (by rw [show ((2 : Nat) : Int) = 2 from rfl, ne1_same]; rfl)
        have Ht := hid_ (by have := Hs.out; rw [hn.out] at this; exact this : bf c 2 (2 + 1) = if (2 : Nat) = 0 ∨ c 2 < y then (2, c 2) else (x, y))
        clear Hs
        by_cases hlt : c 2 < y
        · have Hu := hid_ (Ht.out.trans (if_pos (.inr hlt)))
          go_wp2
          go_round
          case rel => exact ⟨3, by omega, by go_num, by rw [Hu.out], by rw [Hu.out]⟩
          case measure => simp [intOf]
        · have Hu := hid_ (Ht.out.trans (if_neg (by omega)))
          go_wp2
          go_round
          case rel => exact ⟨3, by omega, by go_num, by rw [Hu.out], by rw [Hu.out]⟩
          case measure => simp [intOf]
      · have hq : ((2 : Int) != p) = true := by simp; omega
        have hn : Hid (c 2 + ne1 ((2 : Nat) : Int) p = c 2 + 1) := hid_ (by rw [ne1, if_neg (by simp; omega)])
        have Ht := hid_ (by have := Hs.out; rw [hn.out] at this; exact this : bf c p (2 + 1) = if (2 : Nat) = 0 ∨ c 2 + 1 < y then (2, c 2 + 1) else (x, y))
        clear Hs he
        by_cases hlt : c 2 + 1 < y
        · have Hu := hid_ (Ht.out.trans (if_pos (.inr hlt)))
          have hlt' : (c 2 : Int) + 1 < (y : Int) := by omega
          go_wp2
          go_round
          case rel => exact ⟨3, by omega, by go_num, by rw [Hu.out], by rw [Hu.out]; go_num⟩
          case measure => simp [intOf]
        · have Hu := hid_ (Ht.out.trans (if_neg (by omega)))
          have hlt' : ¬ (c 2 : Int) + 1 < (y : Int) := by omega
          go_wp2
          go_round
          case rel => exact ⟨3, by omega, by go_num, by rw [Hu.out], by rw [Hu.out]⟩
          case measure => simp [intOf]
    · have hx : (bf c p 3).1 = A := by rw [HB.out]
      have hy : (bf c p 3).2 = M := by rw [HB.out]
      rw [hx, hy]
      clear hx hy hl hs
      go_wp2
      go_ret2
      exact ⟨rfl, below_alloc _ _⟩
end Go.Proofs.Ytdnlpikfibdjoaa
namespace Go.Proofs.Kv
open Go.RowKit
/-- block g holds the table F, three numbers a node -/
def TabAt (w : World) (g n : Nat) (F : Tab) : Prop := ∀ i, i < n → ∀ r, r < 3 → w.cell? ⟨g, i * 3 + r, none⟩ = some (.int .i64 (F i r : Nat)) ∧ w.frozen? ⟨g, i * 3 + r, none⟩ = false
theorem TabAt.below {w w' : World} {B g n : Nat} {F : Tab} (h : TabAt w g n F) (hb : Below B w w') (hB : g < B) : TabAt w' g n F := fun i hi r hr =>
  ⟨(hb.cell (p := ⟨g, i * 3 + r, none⟩) hB).trans (h i hi r hr).1, (hb.frozen (p := ⟨g, i * 3 + r, none⟩) hB).trans (h i hi r hr).2⟩
theorem TabAt.congr {w : World} {g n : Nat} {F G : Tab} (h : TabAt w g n F) (e : ∀ i, i < n → ∀ r, r < 3 → F i r = G i r) : TabAt w g n G := fun i hi r hr => by rw [← e i hi r hr]; exact h i hi r hr
def setT (F : Tab) (v s y : Nat) : Tab := fun i r => if i = v ∧ r = s then y else F i r
theorem TabAt.set {w : World} {g n : Nat} {F : Tab} (h : TabAt w g n F) {v s : Nat} (hs : s < 3) (y : Nat) {z : Int} (hz : z = (y : Int)) (hv : v < n) : TabAt (w.setCell ⟨g, v * 3 + s, none⟩ (.int .i64 z)) g n (setT F v s y) := by
  subst hz
  intro i hi r hr
  refine ⟨?_, by rw [World.frozen?_setCell]; exact (h i hi r hr).2⟩
  unfold setT
  by_cases e : i = v ∧ r = s
  · rw [if_pos e]
    obtain ⟨rfl, rfl⟩ := e
    exact World.cell?_setCell_same _ _ _ (h i hi r hr).1
  · rw [if_neg e, World.cell?_setCell_other _ _ _ _ (by intro e'; injection e' with _ e'; exact e ⟨by omega, by omega⟩)]
    exact (h i hi r hr).1
end Go.Proofs.Kv
namespace Go.Proofs.Ytdnlpikfibdjoaa
open Go.RowKit Go.Proofs.Kv

def parX (X : Tr) (v : Nat) : Nat := (X.par.getD v 0).toNat
def badK (K : List Int) (v r : Nat) : Bool := decide (K.getD v 0 ≠ -1) && decide (K.getD v 0 ≠ (r : Int))
theorem parX_lt {X : Tr} (g : GoodX X) : ∀ v, 0 < v → v < X.par.length → parX X v < v := fun v h0 hv => by
  have := g.par v h0 hv; unfold parX; omega
structure GoodK (K : List Int) (n : Nat) : Prop where
  len : K.length = n
  ok : ∀ v, -1 ≤ K.getD v 0 ∧ K.getD v 0 ≤ 2
theorem badK_good {K : List Int} {n : Nat} (h : GoodK K n) : ∀ v, ∃ s, s < 3 ∧ badK K v s = false := fun v => by
  have := h.ok v
  by_cases e : K.getD v 0 = -1
  · exact ⟨0, by omega, by unfold badK; rw [e]; rfl⟩
  · obtain ⟨s, hs⟩ := nat_of (show 0 ≤ K.getD v 0 by omega)
    exact ⟨s, by omega, by unfold badK; rw [hs]; simp⟩
def ovrS (bad : Nat → Nat → Bool) (v j : Nat) (D : Tab) : Tab := fun i r => if i = v ∧ r < j ∧ bad v r = true then 16 else D i r
def elimS (par : Nat → Nat) (v j : Nat) (D : Tab) : Tab := fun i r => if i = par v ∧ r < j then D i r + mn (D v) (r : Int) else D i r
theorem ovrS_zero (bad : Nat → Nat → Bool) (v : Nat) (D : Tab) : ovrS bad v 0 D = D := by
  funext i r; exact if_neg fun h => absurd h.2.1 (by omega)
theorem ovrS_hit {bad : Nat → Nat → Bool} {v j : Nat} (D : Tab) (h : bad v j = true) : setT (ovrS bad v j D) v j 16 = ovrS bad v (j + 1) D := by
  funext i r
  unfold setT ovrS
  by_cases e : i = v ∧ r = j
  · obtain ⟨rfl, rfl⟩ := e
    rw [if_pos ⟨rfl, rfl⟩, if_pos ⟨rfl, by omega, h⟩]
  · rw [if_neg e]
    by_cases f : i = v ∧ r < j ∧ bad v r = true
    · rw [if_pos f, if_pos ⟨f.1, by omega, f.2.2⟩]
    · rw [if_neg f, if_neg fun h => f ⟨h.1, by have := h.2.1; by_cases e2 : r = j; exact absurd ⟨h.1, e2⟩ e; omega, h.2.2⟩]
theorem ovrS_miss {bad : Nat → Nat → Bool} {v j : Nat} (D : Tab) (h : bad v j = false) : ovrS bad v j D = ovrS bad v (j + 1) D := by
  funext i r
  unfold ovrS
  by_cases f : i = v ∧ r < j ∧ bad v r = true
  · rw [if_pos f, if_pos ⟨f.1, by omega, f.2.2⟩]
  · rw [if_neg f, if_neg fun h' => f ⟨h'.1, by have := h'.2.1; by_cases e2 : r = j; rw [e2] at h'; rw [h] at h'; exact absurd h'.2.2 (by decide); omega, h'.2.2⟩]
theorem ovrS_all (bad : Nat → Nat → Bool) (v : Nat) (D : Tab) : ∀ i r, r < 3 → ovrS bad v 3 D i r = ovr bad v D i r := fun i r hr => by
  unfold ovrS ovr
  by_cases f : i = v ∧ bad v r = true
  · rw [if_pos f, if_pos ⟨f.1, hr, f.2⟩]
  · rw [if_neg f, if_neg fun h => f ⟨h.1, h.2.2⟩]
theorem elimS_zero (par : Nat → Nat) (v : Nat) (D : Tab) : elimS par v 0 D = D := by
  funext i r; exact if_neg fun h => absurd h.2 (by omega)
theorem elimS_step {par : Nat → Nat} {v j y : Nat} (D : Tab) (hy : y = D (par v) j + mn (D v) (j : Int)) : setT (elimS par v j D) (par v) j y = elimS par v (j + 1) D := by
  funext i r
  unfold setT elimS
  by_cases e : i = par v ∧ r = j
  · obtain ⟨rfl, rfl⟩ := e
    rw [if_pos ⟨rfl, rfl⟩, if_pos ⟨rfl, by omega⟩, hy]
  · rw [if_neg e]
    by_cases f : i = par v ∧ r < j
    · rw [if_pos f, if_pos ⟨f.1, by omega⟩]
    · rw [if_neg f, if_neg fun h => f ⟨h.1, by have := h.2; by_cases e2 : r = j; exact absurd ⟨h.1, e2⟩ e; omega⟩]
theorem elimS_all (par : Nat → Nat) (v : Nat) (D : Tab) : ∀ i r, r < 3 → elimS par v 3 D i r = elim par v D i r := fun i r hr => by
  unfold elimS elim
  by_cases f : i = par v
  · rw [if_pos f, if_pos ⟨f, hr⟩]
  · rw [if_neg f, if_neg fun h => f h.1]
theorem elimS_row {par : Nat → Nat} {v j : Nat} (D : Tab) (h : par v < v) : elimS par v j D v = D v := by
  funext r; exact if_neg fun h' => by have := h'.1; omega
end Go.Proofs.Ytdnlpikfibdjoaa
