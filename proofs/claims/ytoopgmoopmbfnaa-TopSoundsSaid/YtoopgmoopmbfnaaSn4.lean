import Derived.Test.YtoopgmoopmbfnaaSn3
import Derived.Deep.RegionHeld3
import Derived.Laws.OwnMore
namespace Go.Proofs.Ytoopgmoopmbfnaa
open Go.RowKit Go.Proofs.Kv Go.Proofs.Snd

theorem foldI_snoc (M : List (List Int)) (x : List Int) : foldI (M ++ [x]) = insertL (foldI M) x := by simp [foldI, List.foldl_append]
theorem foldI_le (M : List (List Int)) : (foldI M).length ≤ M.length := by
  have key : ∀ (M acc : List (List Int)), (M.foldl insertL acc).length ≤ acc.length + M.length := by
    intro M
    induction M with
    | nil => intro acc; simp
    | cons x M ih =>
      intro acc
      have h1 := ih (insertL acc x)
      have h2 := insertL_le acc x
      rw [List.foldl_cons, List.length_cons]; omega
  have := key M []
  simpa [foldI] using this
theorem namesR_len {L : List (List Int)} (h : Good L) : (namesR L).length ≤ 3600 := by
  rw [← namesS_eq h]
  have := names_len h
  simpa [namesS] using this
theorem namesR_at {L : List (List Int)} (h : Good L) {k : Nat} (hk : k < (namesR L).length) : ∃ (x : Int) (y : Nat), (namesR L).getD k (0, 0) = (x, (y : Int)) ∧ y < L.length := by
  have hm : (namesR L).getD k (0, 0) ∈ namesR L := by simp [List.getD, List.getElem?_eq_getElem hk]
  obtain ⟨y, h1, h2, _⟩ := names_in hm h
  exact ⟨((namesR L).getD k (0, 0)).1, y, by rw [← h1], h2⟩

/-! ### the document's Classes -/
def classesRR (L : List (List Int)) : List (List Int) := if validT L = 0 then classesR L else []
theorem classesRR_eq (L : List (List Int)) : classesRes L = classesRR L := by
  unfold classesRes classesRR
  by_cases h : validT L = 0
  · rw [if_pos h, if_pos h, classesS_eq (good_of h)]
  · rw [if_neg h, if_neg h]
end Go.Proofs.Ytoopgmoopmbfnaa
namespace Go.Proofs.Ytoopgmoopmbfnaa
open Go.RowKit Go.Proofs.Kv Go.Proofs.Snd

theorem below_drew {B : Nat} {a w : World} (h : Below B a w) : Below B a w.drew := ⟨h.os, h.tape, h.output, h.size, h.block⟩
/-! ### Named: what it asks of a name -/
set_option maxRecDepth 100000 in
theorem namedAsk_calls (p2 p3 : Addr) (a : Option Addr) (n c : Nat) (L : List (List Int)) (a' : Option Addr) (n' c' : Nat) (s : List Int) (x : Int) (y : Nat) (w : World) (h : ListsAt w a n c L) (h' : IntsAt w a' n' c' s)
    (hp2 : w.cell? p2 = some (.slice a n c)) (hp3 : w.cell? p3 = some (.slice a' n' c')) (hg : Good L) (hy : y < n) (hx : x ∈ (L.take (y + 1)).flatten) :
    Calls Try.prog 96 #[.agg #[.int .i64 x, .int .i64 y], .pointer (some p2), .pointer (some p3)] w fun e w' => e = .returned (.bool (!Same (standL L x y) s)) ∧ Below w.heap.size w w' := by
  have Hst : Hid (∀ W, Below w.heap.size w W → Calls Try.prog 98 #[.slice a n c, .agg #[.int .i64 x, .int .i64 y]] W fun e w' => ∃ v, e = .returned v ∧ Made 3 W w' v (standL L x y)) := hid_ fun W hW =>
    sndStand_calls a n c L x y W (h.below hW (Nat.le_refl _)) (by have := hg.flat; omega) hy hx hg.nd hg.rg
  have Hs : Hid (∀ W, Below w.heap.size w W → IntsAt W a' n' c' s) := hid_ fun W hW => h'.below hW (Nat.le_refl _)
  have hl2 := World.block_lt_of_cell? w p2 hp2
  have hl3 := World.block_lt_of_cell? w p3 hp3
  generalize standL L x y = l at Hst
  clear h h' hx hy hg
  go_enter Try.func96, Try.ntmps96
  go_wp2
  obtain ⟨w1, hw1⟩ : ∃ w1, w.alloc (.cells #[.int .i64 x, .int .i64 y] 71) = w1 := ⟨_, rfl⟩
  have hb1 : Below w.heap.size w w1 := by rw [← hw1]; exact (Below.refl _ w).alloc (Nat.le_refl _) _
  have c0 : w1.cell? ⟨w.heap.size, 0, none⟩ = some (.int .i64 x) := by rw [← hw1, World.cell?_alloc_at _ _ _ _ rfl]; rfl
  have c1 : w1.cell? ⟨w.heap.size, 1, none⟩ = some (.int .i64 y) := by rw [← hw1, World.cell?_alloc_at _ _ _ _ rfl]; rfl
  have c2 := (hb1.cell hl2).trans hp2
  have c3 := (hb1.cell hl3).trans hp3
  have hz : w.heap.size < w1.heap.size := by rw [← hw1]; simp
  rw [hw1]
  clear hw1 hp2 hp3
  have HS : Hid (∀ W, Below w1.heap.size w1 W → W.cell? p2 = some (.slice a n c) ∧ W.cell? ⟨w.heap.size, 0, none⟩ = some (.int .i64 x) ∧ W.cell? ⟨w.heap.size, 1, none⟩ = some (.int .i64 y) ∧ W.cell? p3 = some (.slice a' n' c') ∧ Below w1.heap.size w1 W) := hid_ fun W hW =>
    ⟨(hW.cell (Nat.lt_of_lt_of_le hl2 hb1.size)).trans c2, (hW.cell (p := ⟨w.heap.size, 0, none⟩) hz).trans c0, (hW.cell (p := ⟨w.heap.size, 1, none⟩) hz).trans c1, (hW.cell (Nat.lt_of_lt_of_le hl3 hb1.size)).trans c3, hW⟩
  have hbd : Below w1.heap.size w1 w1.drew := below_drew (Below.refl _ _)
  go_region_held3 (fun W => W.cell? p2 = some (.slice a n c) ∧ W.cell? ⟨w.heap.size, 0, none⟩ = some (.int .i64 x) ∧ W.cell? ⟨w.heap.size, 1, none⟩ = some (.int .i64 y) ∧ W.cell? p3 = some (.slice a' n' c') ∧ Below w1.heap.size w1 W) (first | exact HS.out _ (by assumption) | fail)
    (first
      | (go_at_call 98; refine (Hst.out _ (hb1.trans (hbd.mono hb1.size))).mono ?_; rintro e w2 ⟨v, rfl, hm⟩; obtain ⟨a5, c5, rfl, hI5⟩ := hm.at_; have hb2 : Below w1.heap.size w1 w2 := hbd.trans hm.bel; clear hm)
      | (go_at_call 97; refine (equal_calls _ _ _ _ _ _ _ _ _ hI5 (Hs.out _ (hb1.trans (hb2.mono hb1.size)))).mono ?_; rintro e w3 ⟨rfl, q, rfl⟩; have hb3 : Below w1.heap.size w1 (w2.drewN q) := below_drewN hb2 q))
  go_wp2
  go_ret
  exact ⟨rfl, hb1.trans (Below.mono (by assumption) hb1.size)⟩

/-! ### slices.IndexFunc of names -/
def idxP (P : Int × Int → Bool) (l : List (Int × Int)) : Int := if l.any P then (l.findIdx P : Int) else -1
theorem idxP_hit {P : Int × Int → Bool} {l : List (Int × Int)} {k : Nat} (hk : k < l.length) (h : ∀ j, j < k → P (l.getD j (0, 0)) = false) (hh : P (l.getD k (0, 0)) = true) : idxP P l = k := by
  have e : l.findIdx P = k := by
    rw [List.findIdx_eq hk]
    refine ⟨by simpa [List.getD, List.getElem?_eq_getElem hk] using hh, fun j hj => ?_⟩
    have := h j hj
    simpa [List.getD, List.getElem?_eq_getElem (show j < l.length by omega)] using this
  rw [idxP, if_pos, e]
  refine List.any_eq_true.2 ⟨_, List.getElem_mem hk, ?_⟩
  simpa [List.getD, List.getElem?_eq_getElem hk] using hh
theorem idxP_miss {P : Int × Int → Bool} {l : List (Int × Int)} {n : Nat} (hn : l.length = n) (h : ∀ j, j < n → P (l.getD j (0, 0)) = false) : idxP P l = -1 := by
  rw [idxP, if_neg]
  rw [Bool.not_eq_true, List.any_eq_false]
  intro x hx
  obtain ⟨i, hi, e⟩ := List.mem_iff_getElem.1 hx
  have := h i (by omega)
  rw [List.getD, List.getElem?_eq_getElem hi, Option.getD_some, e] at this
  simp [this]
/-- what a function value answers of the names of a list, in every later world -/
def Asks (P : Int × Int → Bool) (l : List (Int × Int)) (p2 p3 : Addr) (B : Nat) (w : World) : Prop :=
  ∀ W k, Below B w W → k < l.length → Calls Try.prog 96 #[.agg #[.int .i64 (l.getD k (0, 0)).1, .int .i64 (l.getD k (0, 0)).2], .pointer (some p2), .pointer (some p3)] W fun e w' => e = .returned (.bool (P (l.getD k (0, 0)))) ∧ Below W.heap.size W w'
set_option maxRecDepth 100000 in
theorem indexFunc_calls (P : Int × Int → Bool) (p2 p3 : Addr) (a : Option Addr) (n c : Nat) (l : List (Int × Int)) (w : World) (h : PairsAt w a n c l) {B : Nat} (hB : B ≤ w.heap.size) (hP : Asks P l p2 p3 B w) :
    Calls Try.prog 127 #[.slice a n c, .func (.func 96) #[] #[.pointer (some p2), .pointer (some p3)]] w fun e w' => e = .returned (.int .i64 (idxP P l)) ∧ Below w.heap.size w w' := by
  have hn : n ≤ 9223372036854775807 := Nat.le_trans h.le h.small
  have eg : ∀ args w, (callFunc 96 args).run Try.prog w = .ok (.enter 96 args) w := enters_of Try.func96 (by kernel_rfl) rfl
  have hl := h.len
  have HP := hid_ hP; clear hP
  have Hl := hid_ hl; clear hl
  go_enter Try.func127, Try.ntmps127
  go_wp2
  go_loopw [8] (fun i wr => ∃ k : Nat, k ≤ n ∧ i = .int .i64 k ∧ (∀ j, j < k → P (l.getD j (0, 0)) = false) ∧ Below w.heap.size w wr) (fun i _ => n - (intOf i).toNat)
  case atStart => exact ⟨0, Nat.zero_le _, rfl, fun _ h => absurd h (by omega), Below.refl _ _⟩
  case round =>
    obtain ⟨k, hk, rfl, hall, hbel⟩ := hrel
    have Hall := hid_ hall; clear hall
    by_cases hlt : k < n
    · obtain ⟨b, off, rfl, hb, hc1, hc2⟩ := (h.below hbel (Nat.le_refl _)).cells k hlt
      have Hc := hid_ (HP.out wr k (hbel.mono hB) (by rw [Hl.out]; exact hlt))
      have Hbel := hid_ hbel
      cases hq : P (l.getD k (0, 0)) with
      | true =>
        have Hf : Hid (idxP P l = k) := hid_ (idxP_hit (by rw [Hl.out]; exact hlt) Hall.out hq)
        rw [hq] at Hc
        have Hc' := hid_ Hc.out
        clear Hc hq
        generalize l.getD k (0, 0) = xy at hc1 hc2 Hc'
        obtain ⟨x, y⟩ := xy
        simp only at hc1 hc2
        go_wp2_with (go_at_call 96; refine Hc'.out.mono ?_; rintro e w' ⟨rfl, hb'⟩)
        go_ret
        exact ⟨retI Hf.out, Hbel.out.trans (hb'.mono Hbel.out.size)⟩
      | false =>
        have Hq := hid_ hq
        rw [hq] at Hc
        have Hc' := hid_ Hc.out
        clear Hc hq
        generalize hxy : l.getD k (0, 0) = xy at hc1 hc2 Hc'
        have Hxy := hid_ hxy; clear hxy
        obtain ⟨x, y⟩ := xy
        simp only at hc1 hc2
        go_wp2_with (go_at_call 96; refine Hc'.out.mono ?_; rintro e w' ⟨rfl, hb'⟩)
        go_roundw
        case rel => exact ⟨k + 1, by omega, by go_num, lt_snoc Hall.out Hq.out, Hbel.out.trans (hb'.mono Hbel.out.size)⟩
        case measure => simp [intOf]; omega
    · have Hf : Hid (idxP P l = -1) := hid_ (idxP_miss Hl.out fun j hj => Hall.out j (by omega))
      go_wp2
      go_ret
      exact ⟨retI Hf.out, hbel⟩
end Go.Proofs.Ytoopgmoopmbfnaa
namespace Go.Proofs.Kv
open Go.RowKit
theorem own_setCells {B e size n g cap : Nat} : ∀ (vs : List Value) (o : Nat) {w : World} {xs : List Value}, w.ownsRow B e size (.slice (some ⟨g, 0, none⟩) n cap) n xs →
    ∃ ys, (w.setCells g o vs).ownsRow B e size (.slice (some ⟨g, 0, none⟩) n cap) n ys ∧ ys.take o = xs.take o ∧ w.grownBy (w.setCells g o vs) (some g)
  | [], o, w, xs, h => ⟨xs, h, rfl, World.grownBy.refl w _⟩
  | v :: vs, o, w, xs, h => by
    obtain ⟨h1, h2⟩ := h.stored o v
    obtain ⟨ys, h3, h4, h5⟩ := own_setCells vs (o + 1) h1
    refine ⟨ys, h3, ?_, h2.trans h5⟩
    have h6 := congrArg (List.take o) h4
    rw [List.take_take, List.take_take, Nat.min_eq_left (Nat.le_succ o)] at h6
    rw [h6, List.take_set, List.set_eq_of_length_le (by rw [List.length_take]; omega)]
theorem own_cut {B e size n g cap i : Nat} {w : World} {xs : List Value} (h : w.ownsRow B e size (.slice (some ⟨g, 0, none⟩) n cap) n xs) (hi : i ≤ n) :
    w.ownsRow B e size (.slice (some ⟨g, 0, none⟩) i cap) i (xs.take (i * size)) := by
  have hle : i * size ≤ n * size := Nat.mul_le_mul_right _ hi
  refine ⟨by rw [List.length_take, h.1]; omega, ?_⟩
  rcases h.2 with ⟨h', _⟩ | ⟨g', cap', cur, h', hb, hg, hnc, hcm, hcs, htake⟩
  · simp at h'
  · injection h' with q1 q2 q3
    injection q1 with q1
    injection q1 with q1
    subst q1; subst q3
    refine .inr ⟨g, cap, cur, rfl, hb, hg, by omega, hcm, hcs, ?_⟩
    rw [← htake, List.take_take, Nat.min_eq_left hle]
theorem zero_pairs (n : Nat) : (Builtin.zeroCells (Value.agg #[.int .i64 0, .int .i64 0]).cells n).toList = List.replicate (n * 2) (.int .i64 0) := by
  have e : (Value.agg #[.int .i64 0, .int .i64 0]).cells = #[.int .i64 0, .int .i64 0] := rfl
  rw [e]
  apply List.ext_getElem
  · simp [Builtin.zeroCells]
  · intro i h1 h2
    simp only [Builtin.zeroCells, Array.getElem_toList, Array.getElem_map, Array.getElem_range, List.getElem_replicate]
    rcases Nat.mod_two_eq_zero_or_one i with h | h <;> simp [h]
theorem run_clear_pairs {P : Program} (w : World) (t e ty : TypeId) (ht : P.underlying t = some (.slice e)) (hv : ∀ w, (zeroValue e).run P w = .ok (.agg #[.int .i64 0, .int .i64 0]) w) (b o n c : Nat) (hn : 0 < n)
    (hc : ∀ j, j < n * 2 → (w.cell? ⟨b, o + j, none⟩).isSome = true) (hf : ∀ j, j < n * 2 → w.frozen? ⟨b, o + j, none⟩ = false) :
    (Builtin.clear_ #[t] ty #[.slice (some ⟨b, o, none⟩) n c]).run P w = .ok (.tuple #[]) (w.setCells b o (List.replicate (n * 2) (.int .i64 0))) := by
  have hst := run_storeCells_cells (P := P) b o (List.replicate (n * 2) (.int .i64 0)) 0 w (by simpa using hc) (by simpa using hf) (by intro v hv'; rw [List.eq_of_mem_replicate hv']; rfl)
  simp only [Nat.add_zero] at hst
  obtain ⟨m, rfl⟩ : ∃ m, n = m + 1 := ⟨n - 1, by omega⟩
  simp [Builtin.clear_, run_underlying ht, hv, zero_pairs, hst]
end Go.Proofs.Kv
namespace Go.Proofs.Ytoopgmoopmbfnaa
open Go.RowKit Go.Proofs.Kv Go.Proofs.Snd

/-! ### slices.DeleteFunc of names -/
theorem idxP_cases (P : Int × Int → Bool) (l : List (Int × Int)) : (idxP P l = -1 ∧ ∀ j, j < l.length → P (l.getD j (0, 0)) = false) ∨ ∃ k, k < l.length ∧ idxP P l = (k : Int) ∧ P (l.getD k (0, 0)) = true ∧ ∀ j, j < k → P (l.getD j (0, 0)) = false := by
  have hat : ∀ j, (h : j < l.length) → l.getD j (0, 0) = l[j] := fun j h => by simp [List.getD, List.getElem?_eq_getElem h]
  unfold idxP
  by_cases ha : l.any P = true
  · rw [if_pos ha]
    have hlt : l.findIdx P < l.length := by
      rw [List.findIdx_lt_length]
      obtain ⟨x, hx, hp⟩ := List.any_eq_true.1 ha
      exact ⟨x, hx, hp⟩
    refine .inr ⟨l.findIdx P, hlt, rfl, ?_, fun j hj => ?_⟩
    · rw [hat _ hlt]; exact List.findIdx_getElem (w := hlt)
    · rw [hat j (by omega)]; exact Bool.eq_false_iff.2 (by have := List.not_of_lt_findIdx hj; simpa using this)
  · rw [if_neg ha]
    refine .inl ⟨rfl, fun j hj => ?_⟩
    rw [Bool.not_eq_true, List.any_eq_false] at ha
    rw [hat j hj]
    simpa using ha _ (List.getElem_mem hj)
def kept (P : Int × Int → Bool) (l : List (Int × Int)) : List (Int × Int) := l.filter fun x => !P x
theorem kept_none {P : Int × Int → Bool} {l : List (Int × Int)} (h : ∀ j, j < l.length → P (l.getD j (0, 0)) = false) : kept P l = l := by
  unfold kept
  rw [List.filter_eq_self]
  intro x hx
  obtain ⟨i, hi, e⟩ := List.mem_iff_getElem.1 hx
  have := h i hi
  rw [List.getD, List.getElem?_eq_getElem hi, Option.getD_some, e] at this
  simp [this]
/-- what the row holds once j of the names are asked and i of them are kept -/
structure KeptIn (P : Int × Int → Bool) (l : List (Int × Int)) (i j : Nat) (xs : List Value) : Prop where
  len : xs.length = l.length * 2
  cnt : i = (kept P (l.take j)).length
  lt : i < j
  lo : xs.take (2 * i) = (kept P (l.take j)).flatMap encN
  hi : xs.drop (2 * j) = (l.drop j).flatMap encN
theorem kept_take {P : Int × Int → Bool} {l : List (Int × Int)} {j : Nat} (hj : j < l.length) : kept P (l.take (j + 1)) = if P (l.getD j (0, 0)) then kept P (l.take j) else kept P (l.take j) ++ [l.getD j (0, 0)] := by
  rw [Kv.take_snoc l (0, 0) j hj, kept, List.filter_append]
  generalize l.getD j (0, 0) = z
  cases h : P z <;> simp [kept, h]
theorem drop_flat {l : List (Int × Int)} {j : Nat} {xs : List Value} (h : xs.drop (2 * j) = (l.drop j).flatMap encN) (hj : j < l.length) :
    xs[2 * j]? = some (.int .i64 (l.getD j (0, 0)).1) ∧ xs[2 * j + 1]? = some (.int .i64 (l.getD j (0, 0)).2) ∧ xs.drop (2 * (j + 1)) = (l.drop (j + 1)).flatMap encN := by
  have e : l.drop j = l.getD j (0, 0) :: l.drop (j + 1) := by
    rw [List.drop_eq_getElem_cons hj]; simp [List.getD, List.getElem?_eq_getElem hj]
  rw [e, List.flatMap_cons] at h
  refine ⟨?_, ?_, ?_⟩
  · have := congrArg (fun z => z[0]?) h
    simpa [encN] using this
  · have := congrArg (fun z => z[1]?) h
    simpa [encN] using this
  · have := congrArg (List.drop 2) h
    rw [List.drop_drop] at this
    rw [show 2 * (j + 1) = 2 * j + 2 by omega, this]
    rfl
theorem KeptIn.skip {P : Int × Int → Bool} {l : List (Int × Int)} {i j : Nat} {xs : List Value} (h : KeptIn P l i j xs) (hj : j < l.length) (hp : P (l.getD j (0, 0)) = true) : KeptIn P l i (j + 1) xs :=
  ⟨h.len, by rw [kept_take hj, if_pos hp]; exact h.cnt, by have := h.lt; omega, by rw [kept_take hj, if_pos hp]; exact h.lo, (drop_flat h.hi hj).2.2⟩
theorem KeptIn.keep {P : Int × Int → Bool} {l : List (Int × Int)} {i j : Nat} {xs : List Value} (h : KeptIn P l i j xs) (hj : j < l.length) (hp : P (l.getD j (0, 0)) = false) :
    KeptIn P l (i + 1) (j + 1) ((xs.set (i * 2) (.int .i64 (l.getD j (0, 0)).1)).set (i * 2 + 1) (.int .i64 (l.getD j (0, 0)).2)) := by
  have hlt := h.lt
  have hlen := h.len
  refine ⟨by simpa using hlen, ?_, by omega, ?_, ?_⟩
  · rw [kept_take hj, if_neg (by rw [hp]; decide), List.length_append, ← h.cnt]; rfl
  · rw [set_two (by omega), h.lo, kept_take hj, if_neg (by rw [hp]; decide), List.flatMap_append]; simp [encN]
  · rw [List.drop_set_of_lt (by omega), List.drop_set_of_lt (by omega)]
    exact (drop_flat h.hi hj).2.2
theorem KeptIn.start {P : Int × Int → Bool} {l : List (Int × Int)} {k : Nat} (hk : k < l.length) (hp : P (l.getD k (0, 0)) = true) (hall : ∀ j, j < k → P (l.getD j (0, 0)) = false) : KeptIn P l k (k + 1) (l.flatMap encN) := by
  have e : kept P (l.take (k + 1)) = l.take k := by
    rw [kept_take hk, if_pos hp]
    refine kept_none fun j hj => ?_
    rw [List.length_take] at hj
    have := hall j (by omega)
    simpa [List.getD, show j < k by omega] using this
  have hsp : l.flatMap encN = (l.take k).flatMap encN ++ (l.drop k).flatMap encN := by rw [← List.flatMap_append, List.take_append_drop]
  have hsp' : l.flatMap encN = (l.take (k + 1)).flatMap encN ++ (l.drop (k + 1)).flatMap encN := by rw [← List.flatMap_append, List.take_append_drop]
  have hl : ∀ j, j ≤ l.length → ((l.take j).flatMap encN).length = 2 * j := fun j hj => by rw [encN_len, List.length_take]; omega
  refine ⟨encN_len l, by rw [e, List.length_take]; omega, by omega, ?_, ?_⟩
  · rw [e, hsp, ← hl k (by omega), List.take_left']
    rfl
  · rw [hsp', ← hl (k + 1) (by omega), List.drop_left']
    rfl

theorem Try.zeroName : ∀ w, (zeroValue 71).run Try.prog w = .ok (.agg #[.int .i64 0, .int .i64 0]) w := fun w => by kernel_rfl
set_option maxRecDepth 100000 in
set_option maxHeartbeats 1000000 in
theorem deleteFunc_calls (P : Int × Int → Bool) (p2 p3 : Addr) {B n : Nat} {v : Value} {l : List (Int × Int)} {w : World} (hown : w.ownsRow B 71 2 v n (l.flatMap encN)) (h0 : 0 < n) (hs : n ≤ 1000000) (hB : B ≤ w.heap.size) (hP : Asks P l p2 p3 B w) :
    Calls Try.prog 94 #[v, .func (.func 96) #[] #[.pointer (some p2), .pointer (some p3)]] w fun e w' => ∃ v', e = .returned v' ∧ w'.ownsRow B 71 2 v' (kept P l).length ((kept P l).flatMap encN) ∧ Below B w w' := by
  have hl : l.length = n := by have := hown.1; rw [encN_len] at this; omega
  have eg : ∀ args w, (callFunc 96 args).run Try.prog w = .ok (.enter 96 args) w := enters_of Try.func96 (by kernel_rfl) rfl
  obtain ⟨g, cap, rfl⟩ : ∃ g cap, v = .slice (some ⟨g, 0, none⟩) n cap := by
    rcases hown.2 with ⟨_, rfl⟩ | ⟨g, cap, _, rfl, _⟩
    · omega
    · exact ⟨g, cap, rfl⟩
  obtain ⟨hgB, hgw⟩ := hown.lt g rfl
  have hcap : n ≤ cap := by
    rcases hown.2 with ⟨h, _⟩ | ⟨g', cap', cur, h, _, _, hnc, _⟩
    · cases h
    · injection h with q1 q2 q3; omega
  have hcap2 : cap ≤ 9223372036854775807 := by
    rcases hown.2 with ⟨h, _⟩ | ⟨g', cap', cur, h, _, _, _, hm, _⟩
    · cases h
    · injection h with q1 q2 q3; unfold maxLen at hm; omega
  have hat : PairsAt w (some ⟨g, 0, none⟩) n cap l := by
    obtain ⟨a1, c1, e, hA⟩ := PairsAt.own hown
    injection e with e1 e2 e3
    subst e1; subst e3; exact hA
  have hIF := indexFunc_calls P p2 p3 (some ⟨g, 0, none⟩) n cap l w hat hB hP
  have hnn : n ≤ 9223372036854775807 := by omega
  rcases idxP_cases P l with ⟨e1, hall⟩ | ⟨k, hk, e1, hp, hall⟩
  · rw [e1] at hIF
    have HIF := hid_ hIF
    have Hk : Hid (kept P l = l) := hid_ (kept_none hall)
    have Hl := hid_ hl
    have Hown := hid_ hown
    clear hIF e1 hall hl hown hat hP eg
    go_enter Try.func94, Try.ntmps94
    go_wp2_with fail
    refine HIF.out.mono ?_
    rintro e w1 ⟨rfl, hb1⟩
    go_wp2
    go_ret
    exact ⟨_, rfl, by rw [Hk.out, Hl.out]; exact own_below Hown.out hb1 (Nat.le_refl _), hb1.mono hB⟩
  · rw [e1] at hIF
    have HIF := hid_ hIF
    have Hst := hid_ (KeptIn.start hk hp hall)
    have HP := hid_ hP
    have Hl := hid_ hl
    have Hown := hid_ hown
    have hkn : k < n := by omega
    have hne : ((k : Int) == -1) = false := beq_eq_false_iff_ne.2 (by omega)
    clear hIF e1 hall hl hown hat hP hp hk
    go_enter Try.func94, Try.ntmps94
    go_wp2_with fail
    refine HIF.out.mono ?_
    rintro e w1 ⟨rfl, hb1⟩
    have Hown1 := hid_ (own_below Hown.out hb1 (Nat.le_refl _))
    have Hb1 : Hid (Below B w w1) := hid_ (hb1.mono hB)
    have hgw1 : g < w1.heap.size := Nat.lt_of_lt_of_le hgw hb1.size
    clear hb1 Hown HIF
    go_wp2
    go_loopw [5, 6] (fun i j wr => ∃ (i' j' : Nat) (xs : List Value), j' ≤ n ∧ i = .int .i64 i' ∧ j = .int .i64 j' ∧ i' < j' ∧ wr.ownsRow B 71 2 (.slice (some ⟨g, 0, none⟩) n cap) n xs ∧ KeptIn P l i' j' xs ∧ Below B w wr) (fun _ j _ => n - (intOf j).toNat)
    case atStart => exact ⟨k, k + 1, _, by omega, rfl, by go_num, by omega, Hown1.out, Hst.out, Hb1.out⟩
    case round =>
      obtain ⟨i, j, xs, hj, rfl, rfl, hij, hown, hki, hbel⟩ := hrel
      have hsz := hbel.size
      have hxl : xs.length = n * 2 := hown.1
      by_cases hlt : j < n
      · have hjl : j < l.length := by rw [Hl.out]; exact hlt
        obtain ⟨d1, d2, -⟩ := drop_flat hki.hi hjl
        have c1 : wr.cell? ⟨g, j * 2, none⟩ = some (.int .i64 (l.getD j (0, 0)).1) := (hown.cellAt (j * 2) (by omega)).trans (by rw [Nat.mul_comm j 2]; exact d1)
        have c2 : wr.cell? ⟨g, j * 2 + 1, none⟩ = some (.int .i64 (l.getD j (0, 0)).2) := (hown.cellAt (j * 2 + 1) (by omega)).trans (by rw [Nat.mul_comm j 2]; exact d2)
        have Hc := hid_ (fun W (hW : Below wr.heap.size wr W) => HP.out W j (hbel.trans (hW.mono (by omega))) hjl)
        have Hki := hid_ hki
        have Hkeep := hid_ (fun h => hki.keep hjl h)
        have Hskip := hid_ (fun h => hki.skip hjl h)
        have Hown2 := hid_ hown
        have Hbel := hid_ hbel
        have hgw2 := (hown.lt g rfl).2
        clear hki hown hbel d1 d2
        cases hq : P (l.getD j (0, 0)) with
        | true =>
          have Hs := hid_ (Hskip.out hq)
          rw [hq] at Hc
          have Hc' := hid_ Hc.out
          clear Hc hq Hkeep Hskip
          generalize l.getD j (0, 0) = xy at c1 c2 Hc'
          obtain ⟨x, y⟩ := xy
          simp only at c1 c2
          go_wp2_with (go_at_call 96; refine (Hc'.out _ ((Below.refl _ _).alloc (Nat.le_refl _) _)).mono ?_; rintro e w' ⟨rfl, hb'⟩)
          have hb2 : Below wr.heap.size wr w' := ((Below.refl _ _).alloc (Nat.le_refl _) _).trans (hb'.mono (by simp))
          go_roundw
          case rel => exact ⟨i, j + 1, xs, by omega, rfl, by go_num, by omega, own_below Hown2.out hb2 (Nat.le_refl _), Hs.out, Hbel.out.trans (hb2.mono (Nat.le_trans hB hsz))⟩
          case measure => simp [intOf]; omega
        | false =>
          have Hs := hid_ (Hkeep.out hq)
          rw [hq] at Hc
          have Hc' := hid_ Hc.out
          clear Hc hq Hkeep Hskip
          generalize l.getD j (0, 0) = xy at c1 c2 Hc' Hs
          obtain ⟨x, y⟩ := xy
          simp only at c1 c2
          obtain ⟨wa, hwa⟩ : ∃ wa, wr.alloc (.cells #[.int .i64 x, .int .i64 y] 71) = wa := ⟨_, rfl⟩
          have Hba : Hid (Below wr.heap.size wr wa) := hid_ (by rw [← hwa]; exact (Below.refl _ _).alloc (Nat.le_refl _) _)
          have Hbox : Hid (∀ w', Below wa.heap.size wa w' → w'.cell? ⟨wr.heap.size, 0, none⟩ = some (.int .i64 x) ∧ w'.cell? ⟨wr.heap.size, 1, none⟩ = some (.int .i64 y)) := hid_ fun w' hb => by
            have hz : wr.heap.size < wa.heap.size := by rw [← hwa]; simp
            refine ⟨(hb.cell (p := ⟨wr.heap.size, 0, none⟩) hz).trans ?_, (hb.cell (p := ⟨wr.heap.size, 1, none⟩) hz).trans ?_⟩
            · rw [← hwa, World.cell?_alloc_at _ _ _ _ rfl]; rfl
            · rw [← hwa, World.cell?_alloc_at _ _ _ _ rfl]; rfl
          have Hcw := hid_ (Hc'.out wa Hba.out)
          obtain ⟨ea0, ea1⟩ := Hbox.out wa (Below.refl _ _)
          clear Hc'
          go_wp2_with fail
          refine Hcw.out.mono ?_
          rintro e w' ⟨rfl, hb'⟩
          obtain ⟨e0, e1⟩ := Hbox.out w' hb'
          have Hb2 : Hid (Below wr.heap.size wr w') := hid_ (Hba.out.trans (hb'.mono Hba.out.size))
          have hown3 := own_below Hown2.out Hb2.out (Nat.le_refl _)
          have ht0 := hown3.cellAt (i * 2) (by omega)
          have ht1 := hown3.cellAt (i * 2 + 1) (by omega)
          rw [List.getElem?_eq_getElem (by omega)] at ht0 ht1
          have hf0 := hown3.frozenAt (i * 2)
          have hf1 := hown3.frozenAt (i * 2 + 1)
          have hst1 := hown3.stored (i * 2) (.int .i64 x)
          have hst2 := hst1.1.stored (i * 2 + 1) (.int .i64 y)
          have Hst1 := hid_ hst1
          have Hst2 := hid_ hst2
          have hin : i < n := by omega
          have hgw3 := (hown3.lt g rfl).2
          clear hwa hb' Hcw ea0 ea1 hown3 hst1 hst2 hgw2
          go_wp2
          go_roundw
          case rel => exact ⟨i + 1, j + 1, _, by omega, by go_num, by go_num, by omega, Hst2.out.1, Hs.out, (Hbel.out.trans (Hb2.out.mono (Nat.le_trans hB hsz))).grown (Hst1.out.2.trans Hst2.out.2) (Nat.le_trans hB (Nat.le_trans hsz Hb2.out.size)) (fun r e => by cases e; exact hgB)⟩
          case measure => simp [intOf]; omega
      · obtain rfl : j = n := by omega
        have hclear : ∀ ty, (Builtin.clear_ #[66] ty #[.slice (some ⟨g, i * 2, none⟩) (j - i) (cap - i)]).run Try.prog wr = .ok (.tuple #[]) (wr.setCells g (i * 2) (List.replicate ((j - i) * 2) (.int .i64 0))) := fun ty =>
          run_clear_pairs wr _ _ ty Try.underlying66 Try.zeroName g (i * 2) (j - i) (cap - i) (by omega)
            (fun t ht => by
              have hq : i * 2 + t < j * 2 := by omega
              rw [hown.cellAt (i * 2 + t) hq, List.getElem?_eq_getElem (by omega)]; rfl)
            (fun t ht => hown.frozenAt (i * 2 + t))
        have Hki := hid_ hki
        have Hown2 := hid_ hown
        have Hbel := hid_ hbel
        clear hki hown hbel
        have hcapi : ¬ cap = i := by omega
        go_wp2
        go_ret
        obtain ⟨ys, q1, q2, q3⟩ := own_setCells (List.replicate ((j - i) * 2) (.int .i64 0)) (i * 2) Hown2.out
        have hcut := own_cut q1 (show i ≤ j by omega)
        have hlt' : l.take j = l := List.take_of_length_le (by rw [Hl.out]; exact Nat.le_refl _)
        have hlo := Hki.out.lo
        have hcnt := Hki.out.cnt
        rw [hlt'] at hlo hcnt
        have hlo2 : xs.take (i * 2) = (kept P l).flatMap encN := by rw [Nat.mul_comm i 2]; exact hlo
        rw [q2, hlo2] at hcut
        rw [← hcnt]
        exact ⟨_, rfl, hcut, Hbel.out.grown q3 (Nat.le_trans hB Hbel.out.size) (fun r e => by cases e; exact hgB)⟩
end Go.Proofs.Ytoopgmoopmbfnaa
namespace Go.Proofs.Ytoopgmoopmbfnaa
open Go.RowKit Go.Proofs.Kv Go.Proofs.Snd

/-! ### Named -/
def namedL (L : List (List Int)) (s : List Int) : List (Int × Int) := (namesR L).filter fun p => Same (standL L p.1 p.2) s
def namedErr (L : List (List Int)) (s : List Int) : Int := if validT L = 0 then (if IsSet s 0 5 then 0 else 1) else validT L
def namedRes (L : List (List Int)) (s : List Int) : List (Int × Int) := if namedErr L s = 0 then namedL L s else []
theorem kept_named (L : List (List Int)) (s : List Int) : kept (fun p => !Same (standL L p.1 p.2) s) (namesR L) = namedL L s := by
  unfold kept namedL
  congr 1
  funext p
  simp
set_option maxRecDepth 100000 in
theorem sndNamed_calls (a : Option Addr) (n c : Nat) (L : List (List Int)) (a' : Option Addr) (n' c' : Nat) (s : List Int) (w : World) (h : ListsAt w a n c L) (h' : IntsAt w a' n' c' s) :
    Calls Try.prog 47 #[.slice a n c, .slice a' n' c'] w fun e w' => ∃ v, e = .returned (.tuple #[v, .int .i64 (namedErr L s)]) ∧ MadeP 71 w w' v (namedRes L s) := by
  obtain ⟨w1, hw1⟩ : ∃ w1, (w.alloc (.cells #[.slice a n c] 22)).alloc (.cells #[.slice a' n' c'] 23) = w1 := ⟨_, rfl⟩
  have hb1 : Below w.heap.size w w1 := by rw [← hw1]; exact ((Below.refl _ w).alloc (Nat.le_refl _) _).alloc (by simp) _
  have c0 : w1.cell? ⟨w.heap.size, 0, none⟩ = some (.slice a n c) := by rw [← hw1, World.cell?_alloc_past _ _ _ (by simp), World.cell?_alloc_at _ _ _ _ rfl]; rfl
  have c1 : w1.cell? ⟨w.heap.size + 1, 0, none⟩ = some (.slice a' n' c') := by rw [← hw1, World.cell?_alloc_at _ _ _ _ (by simp)]; rfl
  have hz : w.heap.size + 1 < w1.heap.size := by rw [← hw1]; simp
  have Hcap : Hid (∀ W, Below w1.heap.size w1 W → W.cell? ⟨w.heap.size, 0, none⟩ = some (.slice a n c) ∧ W.cell? ⟨w.heap.size + 1, 0, none⟩ = some (.slice a' n' c')) := hid_ fun W hW =>
    ⟨(hW.cell (p := ⟨w.heap.size, 0, none⟩) (by show w.heap.size < _; omega)).trans c0, (hW.cell (p := ⟨w.heap.size + 1, 0, none⟩) hz).trans c1⟩
  have HL : Hid (∀ W, Below w1.heap.size w1 W → ListsAt W a n c L ∧ IntsAt W a' n' c' s) := hid_ fun W hW =>
    ⟨h.below (hb1.trans (hW.mono hb1.size)) (Nat.le_refl _), h'.below (hb1.trans (hW.mono hb1.size)) (Nat.le_refl _)⟩
  have Hb1 := hid_ hb1
  have hval := sndValidate_calls a n c L w1 (HL.out w1 (Below.refl _ _)).1
  clear hb1
  by_cases he : validT L = 0
  · rw [he] at hval
    have Hv := hid_ hval; clear hval
    have hg := good_of he
    have hn6 : n ≤ 6 := by have := hg.n6; rw [h.len] at this; exact this
    cases hs : IsSet s 0 5 with
    | false =>
      have He : Hid (namedErr L s = 1) := hid_ (by rw [namedErr, if_pos he, hs]; rfl)
      have Hf : Hid (namedRes L s = []) := hid_ (by rw [namedRes, He.out]; rfl)
      have Hset : Hid (∀ W, Below w1.heap.size w1 W → Calls Try.prog 93 #[.slice a' n' c', .int .i64 6] W fun e w' => e = .returned (.bool false) ∧ ∃ q, w' = W.drewN q) := hid_ fun W hW => by
        have := sndIsSet_calls a' n' c' s 6 W (HL.out W hW).2
        rwa [show (6 : Int) - 1 = 5 from rfl, hs] at this
      clear h h' hs he hg
      go_enter Try.func47, Try.ntmps47
      go_wp2_with fail
      refine Hv.out.mono ?_
      rintro e w2 ⟨rfl, hb2⟩
      obtain ⟨d0, d1⟩ := Hcap.out w2 hb2
      go_wp2_with fail
      refine (Hset.out w2 hb2).mono ?_
      rintro e w3 ⟨rfl, q, hq⟩
      have Hb3 : Hid (Below w.heap.size w w3) := hid_ (Hb1.out.trans ((by rw [hq]; exact below_drewN hb2 q : Below w1.heap.size w1 w3).mono Hb1.out.size))
      clear hq hw1
      go_wp2
      go_ret2
      exact ⟨_, by rw [He.out]; rfl, by rw [Hf.out]; exact MadeP.none_ _ Hb3.out⟩
    | true =>
      have He : Hid (namedErr L s = 0) := hid_ (by rw [namedErr, if_pos he, hs]; rfl)
      have Hf : Hid (namedRes L s = kept (fun p => !Same (standL L p.1 p.2) s) (namesR L)) := hid_ (by rw [namedRes, He.out, kept_named]; rfl)
      have Hset : Hid (∀ W, Below w1.heap.size w1 W → Calls Try.prog 93 #[.slice a' n' c', .int .i64 6] W fun e w' => e = .returned (.bool true) ∧ ∃ q, w' = W.drewN q) := hid_ fun W hW => by
        have := sndIsSet_calls a' n' c' s 6 W (HL.out W hW).2
        rwa [show (6 : Int) - 1 = 5 from rfl, hs] at this
      have hns : (rkTo L L.length).mergeSort leP = namesR L := namesS_eq hg
      have Hnm : Hid (∀ W, Below w1.heap.size w1 W → Calls Try.prog 95 #[.slice a n c] W fun e w' => ∃ v, e = .returned v ∧ MadeP 71 W w' v (namesR L)) := hid_ fun W hW => by
        have := sndNames_calls a n c L W (HL.out W hW).1 (by omega) (fun s hs => Nat.le_trans (hg.row s hs) (by omega)) (namesS_pos hg)
        rwa [hns] at this
      have Hask : Hid (∀ W, Below w1.heap.size w1 W → Asks (fun p => !Same (standL L p.1 p.2) s) (namesR L) ⟨w.heap.size, 0, none⟩ ⟨w.heap.size + 1, 0, none⟩ w1.heap.size W) := hid_ fun W hW W' k hW' hk => by
        have hm : (namesR L).getD k (0, 0) ∈ namesR L := by simp [List.getD, List.getElem?_eq_getElem hk]
        obtain ⟨y, hy1, hy2, hy3⟩ := names_in hm hg
        have hX := hW.trans hW'
        have hc := Hcap.out W' hX
        have hl := HL.out W' hX
        have := namedAsk_calls ⟨w.heap.size, 0, none⟩ ⟨w.heap.size + 1, 0, none⟩ a n c L a' n' c' s ((namesR L).getD k (0, 0)).1 y W' hl.1 hl.2 hc.1 hc.2 hg (by have := h.len; omega) hy3
        rw [← hy1] at this
        exact this
      have hN0 : 0 < (namesR L).length := by
        rw [← namesS_eq hg]
        have := namesS_pos hg
        simpa [namesS] using this
      have hN1 : (namesR L).length ≤ 1000000 := by
        rw [← namesS_eq hg]
        have := names_len hg
        simp [namesS]; omega
      clear h h' hs he hg hns
      generalize namesR L = NR at Hf Hnm Hask hN0 hN1
      generalize (fun p : Int × Int => !Same (standL L p.1 p.2) s) = Pq at Hf Hask
      go_enter Try.func47, Try.ntmps47
      go_wp2_with fail
      refine Hv.out.mono ?_
      rintro e w2 ⟨rfl, hb2⟩
      obtain ⟨d0, d1⟩ := Hcap.out w2 hb2
      go_wp2_with fail
      refine (Hset.out w2 hb2).mono ?_
      rintro e w3 ⟨rfl, q, hq⟩
      have hb3 : Below w1.heap.size w1 w3 := by rw [hq]; exact below_drewN hb2 q
      obtain ⟨d2, d3⟩ := Hcap.out w3 hb3
      clear hq d0 d1 hb2
      go_wp2_with fail
      refine (Hnm.out w3 hb3).mono ?_
      rintro e w4 ⟨v4, rfl, hm⟩
      have hb4 : Below w1.heap.size w1 w4 := hb3.trans (hm.bel.mono hb3.size)
      have Hdel := hid_ (deleteFunc_calls Pq ⟨w.heap.size, 0, none⟩ ⟨w.heap.size + 1, 0, none⟩ (own_base hm.own hb3.size) hN0 hN1 hb4.size (Hask.out w4 hb4))
      have Hb4 := hid_ hb4
      clear hm hb4 hb3 d2 d3 hw1
      go_wp2_with fail
      refine Hdel.out.mono ?_
      rintro e w5 ⟨v5, rfl, hown, hb5⟩
      go_wp2
      go_ret2
      exact ⟨v5, by rw [He.out]; rfl, by rw [Hf.out]; exact ⟨own_base hown Hb1.out.size, Hb1.out.trans ((Hb4.out.trans hb5).mono Hb1.out.size)⟩⟩
  · have He : Hid (namedErr L s = validT L) := hid_ (if_neg he)
    have Hf : Hid (namedRes L s = []) := hid_ (by rw [namedRes, if_neg (by rw [He.out]; exact he)])
    generalize validT L = er at hval he He
    have hq : (er != 0) = true := by simpa using he
    have Hv := hid_ hval; clear hval he h h'
    go_enter Try.func47, Try.ntmps47
    go_wp2_with fail
    refine Hv.out.mono ?_
    rintro e w2 ⟨rfl, hb2⟩
    have Hb3 : Hid (Below w.heap.size w w2) := hid_ (Hb1.out.trans (hb2.mono Hb1.out.size))
    clear hw1
    go_wp2
    go_ret2
    exact ⟨_, by rw [He.out]; rfl, by rw [Hf.out]; exact MadeP.none_ _ Hb3.out⟩
end Go.Proofs.Ytoopgmoopmbfnaa
namespace Go.Proofs.Ytoopgmoopmbfnaa
open Go.RowKit Go.Proofs.Kv Go.Proofs.Snd

theorem isSet_as {a : Option Addr} {n c : Nat} {l : List Int} {lo hi : Int} {w : World} {b : Bool} (h : IntsAt w a n c l) (hb : IsSet l lo hi = b) :
    Calls Try.prog 103 #[.slice a n c, .int .i64 lo, .int .i64 hi] w fun e w' => e = .returned (.bool b) ∧ ∃ q, w' = w.drewN q := by subst hb; exact isSet_calls a n c l lo hi w h
theorem same_as {a : Option Addr} {n c : Nat} {l : List Int} {a' : Option Addr} {n' c' : Nat} {l' : List Int} {w : World} {b : Bool} (h : IntsAt w a n c l) (h' : IntsAt w a' n' c' l') (hb : Same l l' = b) :
    Calls Try.prog 41 #[.slice a n c, .slice a' n' c'] w fun e w' => e = .returned (.bool b) ∧ ∃ q, w' = w.drewN q := by subst hb; exact same_calls a n c l a' n' c' l' w h h'

/-! ### the document's Named -/
def namedTo (L : List (List Int)) (s : List Int) (NS : List (Int × Int)) (k : Nat) : List (Int × Int) := (NS.take k).filter fun p => Same (standL L p.1 p.2) s
theorem namedTo_snoc {L : List (List Int)} {s : List Int} {NS : List (Int × Int)} {k : Nat} (hk : k < NS.length) :
    namedTo L s NS (k + 1) = if Same (standL L (NS.getD k (0, 0)).1 (NS.getD k (0, 0)).2) s then namedTo L s NS k ++ [NS.getD k (0, 0)] else namedTo L s NS k := by
  rw [namedTo, Kv.take_snoc NS (0, 0) k hk, List.filter_append]
  generalize NS.getD k (0, 0) = z
  cases h : Same (standL L z.1 z.2) s <;> simp [namedTo, h]
theorem namedTo_le (L : List (List Int)) (s : List Int) (NS : List (Int × Int)) (k : Nat) : (namedTo L s NS k).length ≤ NS.length := by
  refine Nat.le_trans (List.length_filter_le _ _) ?_
  rw [List.length_take]; omega
set_option maxRecDepth 100000 in
set_option maxHeartbeats 1000000 in
theorem refNamed_calls (a : Option Addr) (n c : Nat) (L : List (List Int)) (a' : Option Addr) (n' c' : Nat) (s : List Int) (w : World) (h : ListsAt w a n c L) (h' : IntsAt w a' n' c' s) (hs : L.flatten.length ≤ 100000) :
    Calls Try.prog 68 #[.slice a n c, .slice a' n' c'] w fun e w' => ∃ v, e = .returned (.tuple #[v, .int .i64 (namedErr L s)]) ∧ MadeP 71 w w' v (namedRes L s) := by
  obtain ⟨i0, hi0, hz0, hz1, hz2⟩ := info_parts Try.infoName
  have hval := refValidate_calls a n c L w h hs
  by_cases he : validT L = 0
  · rw [he] at hval
    have Hv := hid_ hval; clear hval
    have hg := good_of he
    have hlen : L.length = n := h.len
    have hn6 := hg.n6
    rw [hlen] at hn6
    cases hset : IsSet s 0 5 with
    | false =>
      have He : Hid (namedErr L s = 1) := hid_ (by rw [namedErr, if_pos he, hset]; rfl)
      have Hf : Hid (namedRes L s = []) := hid_ (by rw [namedRes, He.out]; rfl)
      go_enter Try.func68, Try.ntmps68
      go_wp2_with fail
      refine Hv.out.mono ?_
      rintro e w1 ⟨rfl, hb1⟩
      have Hset := hid_ (isSet_as (h'.below hb1 (Nat.le_refl _)) hset)
      clear h h' hset he hg Hv
      go_wp2_with fail
      refine Hset.out.mono ?_
      rintro e w2 ⟨rfl, q, hq⟩
      have Hb2 : Hid (Below w.heap.size w w2) := hid_ (by rw [hq]; exact below_drewN hb1 q)
      clear hq
      go_wp2
      go_ret2
      exact ⟨_, by rw [He.out]; rfl, by rw [Hf.out]; exact MadeP.none_ _ Hb2.out⟩
    | true =>
      have He : Hid (namedErr L s = 0) := hid_ (by rw [namedErr, if_pos he, hset]; rfl)
      have Hf : Hid (namedRes L s = namedTo L s (namesR L) (namesR L).length) := hid_ (by rw [namedRes, He.out, namedTo, List.take_length]; rfl)
      have Hat : Hid (∀ k, k < (namesR L).length → ∃ (x : Int) (y : Nat), (namesR L).getD k (0, 0) = (x, (y : Int)) ∧ y < n) := hid_ fun k hk => by
        obtain ⟨x, y, h1, h2⟩ := namesR_at hg hk
        exact ⟨x, y, h1, by omega⟩
      have hN1 := namesR_len hg
      go_enter Try.func68, Try.ntmps68
      go_wp2_with fail
      refine Hv.out.mono ?_
      rintro e w0 ⟨rfl, hb0⟩
      have Hset := hid_ (isSet_as (h'.below hb0 (Nat.le_refl _)) hset)
      clear hset Hv he
      go_wp2_with fail
      refine Hset.out.mono ?_
      rintro e w1 ⟨rfl, q, hq⟩
      have hb1 : Below w.heap.size w w1 := by rw [hq]; exact below_drewN hb0 q
      have Hnm := hid_ (names_calls a n c L w1 (h.below hb1 (Nat.le_refl _)) (by omega))
      clear hq hb0 Hset
      go_wp2_with fail
      refine Hnm.out.mono ?_
      rintro e w2 ⟨v2, rfl, hm2⟩
      obtain ⟨a2, c2, rfl, hP2⟩ := hm2.at_
      have Hb2 : Hid (Below w.heap.size w w2) := hid_ (below_then hb1 hm2.bel)
      clear hm2 Hnm hb1
      generalize hNS : namesR L = NS at hP2 Hat Hf hN1
      clear hNS
      generalize hNl : NS.length = N at hP2 Hat hN1 Hf
      have Hnl := hid_ hNl
      clear hNl hlen
      go_wp2
      go_loopw [7, 9] (fun v i wr => ∃ k : Nat, k ≤ N ∧ i = .int .i64 k ∧ wr.ownsRow w2.heap.size 71 2 v (namedTo L s NS k).length ((namedTo L s NS k).flatMap encN) ∧ Below w2.heap.size w2 wr) (fun _ i _ => N - (intOf i).toNat)
      case atStart => exact ⟨0, by omega, rfl, World.ownsRow_nil _ _ _ _, Below.refl _ _⟩
      case round =>
        obtain ⟨k, hk, rfl, hown, hbel⟩ := hrel
        have hsz := hbel.size
        by_cases hlt : k < N
        · obtain ⟨b1, off1, rfl, hb1, hc1, hc2⟩ := hP2.cells k hlt
          have hd1 := (hbel.cell (p := ⟨b1, off1 + k * 2, none⟩) hb1).trans hc1
          have hd2 := (hbel.cell (p := ⟨b1, off1 + k * 2 + 1, none⟩) hb1).trans hc2
          obtain ⟨x, y, hxy, hy⟩ := Hat.out k hlt
          have hsn := namedTo_snoc (L := L) (s := s) (NS := NS) (k := k) (by rw [Hnl.out]; exact hlt)
          rw [hxy] at hd1 hd2 hsn
          simp only at hd1 hd2 hsn
          have Hst := hid_ (stand_calls a n c L x y wr (h.below (Hb2.out.trans (hbel.mono Hb2.out.size)) (Nat.le_refl _)) hs (by omega) (by omega))
          have hle := namedTo_le L s NS k
          have Hll : Hid ((namedTo L s NS k).length + 1 ≤ 1000000) := hid_ (by rw [Hnl.out] at hle; omega)
          generalize namedTo L s NS k = cur at hown hsn Hll hle
          generalize standL L x y = l at Hst hsn
          cases hsm : Same l s with
          | true =>
            rw [hsm, if_pos rfl] at hsn
            have Hsn := hid_ hsn
            clear hc1 hc2 hsn hle
            go_wp2_with fail
            refine Hst.out.mono ?_
            rintro e w3 ⟨v3, rfl, hm3⟩
            obtain ⟨a3, c3, rfl, hI3⟩ := hm3.at_
            have hb3 : Below w2.heap.size w2 w3 := hbel.trans (hm3.bel.mono hsz)
            have Hsame := hid_ (same_as hI3 (h'.below (Hb2.out.trans (hb3.mono Hb2.out.size)) (Nat.le_refl _)) hsm)
            have hown3 := own_below hown hm3.bel (Nat.le_refl _)
            have he1 := (hb3.cell (p := ⟨b1, off1 + k * 2, none⟩) hb1).trans ((hbel.cell (p := ⟨b1, off1 + k * 2, none⟩) hb1).symm.trans hd1)
            have he2 := (hb3.cell (p := ⟨b1, off1 + k * 2 + 1, none⟩) hb1).trans ((hbel.cell (p := ⟨b1, off1 + k * 2 + 1, none⟩) hb1).symm.trans hd2)
            clear hm3 hI3 hsm hd1 hd2 hown Hst
            go_wp2_with fail
            refine Hsame.out.mono ?_
            rintro e w4 ⟨rfl, q4, hq4⟩
            have hb4 : Below w2.heap.size w2 w4 := by rw [hq4]; exact below_drewN hb3 q4
            have hown4 : w4.ownsRow w2.heap.size 71 2 u7 cur.length (cur.flatMap encN) := by rw [hq4]; exact own_drewN hown3 q4
            have hf1 : w4.cell? ⟨b1, off1 + k * 2, none⟩ = some (.int .i64 x) := by rw [hq4]; exact he1
            have hf2 : w4.cell? ⟨b1, off1 + k * 2 + 1, none⟩ = some (.int .i64 y) := by rw [hq4]; exact he2
            clear hq4 hb3 hown3 he1 he2 Hsame
            go_wp2_with (at_builtin; refine wpList_append_pair _ rfl (.tmp 34) (.tmp 39) _ rfl w2.heap.size 71 i0 Try.underlying66 hi0 hz0 hz1 hz2 _ _ _ rfl hown4 _ _ _ rfl Hll.out hb4.size ?_; intro v' w5 hown5 hg5)
            go_roundw
            case rel => exact ⟨k + 1, by omega, by go_num, by rw [Hsn.out, List.length_append]; exact hown5, below_app hb4 hb4.size hown4 hg5⟩
            case measure => simp [intOf]; omega
          | false =>
            rw [hsm, if_neg (by decide)] at hsn
            have Hsn := hid_ hsn
            clear hc1 hc2 hsn hle
            go_wp2_with fail
            refine Hst.out.mono ?_
            rintro e w3 ⟨v3, rfl, hm3⟩
            obtain ⟨a3, c3, rfl, hI3⟩ := hm3.at_
            have hb3 : Below w2.heap.size w2 w3 := hbel.trans (hm3.bel.mono hsz)
            have Hsame := hid_ (same_as hI3 (h'.below (Hb2.out.trans (hb3.mono Hb2.out.size)) (Nat.le_refl _)) hsm)
            have hown3 := own_below hown hm3.bel (Nat.le_refl _)
            clear hm3 hI3 hsm hd1 hd2 hown Hst
            go_wp2_with fail
            refine Hsame.out.mono ?_
            rintro e w4 ⟨rfl, q4, hq4⟩
            have hb4 : Below w2.heap.size w2 w4 := by rw [hq4]; exact below_drewN hb3 q4
            have hown4 : w4.ownsRow w2.heap.size 71 2 u7 cur.length (cur.flatMap encN) := by rw [hq4]; exact own_drewN hown3 q4
            clear hq4 hb3 hown3 Hsame
            go_wp2
            go_roundw
            case rel => exact ⟨k + 1, by omega, by go_num, by rw [Hsn.out]; exact hown4, hb4⟩
            case measure => simp [intOf]; omega
        · obtain rfl : k = N := by omega
          have Hb3 : Hid (Below w.heap.size w wr) := hid_ (below_then Hb2.out hbel)
          go_wp2
          go_ret2
          exact ⟨_, by rw [He.out]; rfl, by rw [Hf.out]; exact ⟨own_base hown Hb2.out.size, Hb3.out⟩⟩
  · have He : Hid (namedErr L s = validT L) := hid_ (if_neg he)
    have Hf : Hid (namedRes L s = []) := hid_ (by rw [namedRes, if_neg (by rw [He.out]; exact he)])
    generalize validT L = er at hval he He
    have hq : (er != 0) = true := by simpa using he
    have Hv := hid_ hval; clear hval he
    go_enter Try.func68, Try.ntmps68
    go_wp2_with fail
    refine Hv.out.mono ?_
    rintro e w2 ⟨rfl, hb2⟩
    go_wp2
    go_ret2
    exact ⟨_, by rw [He.out]; rfl, by rw [Hf.out]; exact MadeP.none_ _ hb2⟩
end Go.Proofs.Ytoopgmoopmbfnaa
