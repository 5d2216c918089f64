import Derived.Test.YtebbmhlkdfmmcaaGreatKa
import Derived.Laws.CopyOwn
import Derived.Lib.AppendZerosOnto
import Derived.Lib.SliceRun
import Derived.Laws.Externs
import Derived.OwnWalk
import Derived.Lib.SmallJoins
import Derived.Deep.OwnRows
import Derived.RegionTactic
import Derived.ChangeAlike
import Derived.BigRegion
namespace Go.Proofs.Kv
open Go Go.RowKit

theorem own_open {w : World} {B E n : Nat} {v : Value} {xs : List Value} (h : w.ownsRow B E 1 v n xs) :
    (v = .slice none 0 0 ∧ n = 0 ∧ xs = []) ∨ ∃ g cap, ∃ cur : List Value, v = .slice (some ⟨g, 0, none⟩) n cap ∧ B ≤ g ∧ g < w.heap.size ∧ w.heap[g]? = some (.cells cur.toArray E (0, 0)) ∧ cur.length = cap ∧ n ≤ cap ∧ cap ≤ 9223372036854775807 ∧ cur.take n = xs := by
  obtain ⟨h1, h2⟩ := h
  rcases h2 with ⟨rfl, rfl⟩ | ⟨g, cap, cur, rfl, hb, hg, hn, hm, hs, ht⟩
  · exact .inl ⟨rfl, rfl, List.eq_nil_of_length_eq_zero (by simpa using h1)⟩
  · refine .inr ⟨g, cap, cur.toList, rfl, hb, (Array.getElem?_eq_some_iff.1 hg).1, by simpa using hg, by simpa using hs, hn, by unfold maxLen at hm; omega, by simpa using ht⟩
theorem own_close {w : World} {B E n g cap : Nat} {cur xs : List Value} (hb : B ≤ g) (hg : w.heap[g]? = some (.cells cur.toArray E (0, 0))) (hc : cur.length = cap) (hn : n ≤ cap) (hm : cap ≤ 9223372036854775807) (ht : cur.take n = xs) :
    w.ownsRow B E 1 (.slice (some ⟨g, 0, none⟩) n cap) n xs :=
  ⟨by rw [← ht, List.length_take]; omega, .inr ⟨g, cap, cur.toArray, rfl, hb, hg, hn, by unfold maxLen; omega, by simpa using hc, by simpa using ht⟩⟩
theorem row_cell {w : World} {E g : Nat} {cur : List Value} (hg : w.heap[g]? = some (.cells cur.toArray E (0, 0))) (j : Nat) : w.cell? ⟨g, j, none⟩ = cur[j]? := by
  unfold World.cell?
  simp only [hg]
  simp
theorem row_free {w : World} {E g : Nat} {cs : Array Value} (hg : w.heap[g]? = some (.cells cs E (0, 0))) (j : Nat) : w.frozen? ⟨g, j, none⟩ = false := by
  unfold World.frozen?
  simp only [hg]
  simp
theorem row_shape {w : World} {E g : Nat} {cur : List Value} (hg : w.heap[g]? = some (.cells cur.toArray E (0, 0))) : w.shape? g = some (E, cur.length) := by
  unfold World.shape?
  simp only [hg]
  simp
theorem add_at (g o j : Nat) : (⟨g, o, none⟩ : Addr).add j = ⟨g, o + j, none⟩ := by unfold Addr.add; split <;> simp_all
theorem splice_take {α : Type} (L : List α) {o i : Nat} (X : List α) (h : i ≤ o) (hl : o ≤ L.length) : (splice L o X).take i = L.take i := by
  unfold splice
  rw [List.take_append_of_le_length (by rw [List.length_take]; omega), List.take_take, Nat.min_eq_left h]
theorem splice_drop {α : Type} (L : List α) {o : Nat} (X : List α) (hl : o ≤ L.length) : (splice L o X).drop o = X ++ L.drop (o + X.length) := by
  unfold splice
  rw [List.drop_left' (by rw [List.length_take]; omega)]
/-- first what stood behind goes to its place, then what is put in -/
theorem splice_in {α : Type} (cur X vs : List α) {i m n : Nat} (hX : X.length = n - i) (hv : vs.length = m) (hi : i ≤ n) (hl : n + m ≤ cur.length) :
    (splice (splice cur (i + m) X) i vs).take (n + m) = cur.take i ++ vs ++ X := by
  have e : splice (splice cur (i + m) X) i vs = (cur.take i ++ vs ++ X) ++ cur.drop (i + m + X.length) := by
    rw [splice, hv, splice_take _ _ (by omega) (by omega), splice_drop _ _ (by omega)]
    simp only [List.append_assoc]
  rw [e, List.take_left' (by simp only [List.length_append, List.length_take]; omega)]
/-- first what is put in, then what stood behind -/
theorem splice_in' {α : Type} (cur X vs : List α) {i m k : Nat} (hX : X.length = k) (hv : vs.length = m) (hl : i + m + k ≤ cur.length) :
    (splice (splice cur i vs) (i + m) X).take (i + m + k) = cur.take i ++ vs ++ X := by
  have e : splice (splice cur i vs) (i + m) X = (cur.take i ++ vs ++ X) ++ (splice cur i vs).drop (i + m + X.length) := by
    rw [splice]
    have : (splice cur i vs).take (i + m) = cur.take i ++ vs := by
      rw [splice, ← List.append_assoc, List.take_left' (by simp only [List.length_append, List.length_take]; omega)]
    rw [this]
    simp only [List.append_assoc]
  rw [e, List.take_left' (by simp only [List.length_append, List.length_take]; omega)]
/-- slices.overlaps of two slices in two blocks that hold cells, of which one is a row of the call's own -/
theorem run_overlaps_own {P : Program} (w : World) (tS tR e : TypeId) (ht : P.underlying tS = some (.slice e)) (size : Nat) (hz : ∀ w, (Go.sizeOf e).run P w = .ok size w)
    (a b : Addr) (la ca lb cb : Nat) (hne : a.block ≠ b.block) (tA tB : TypeId) (kA kB : Nat)
    (hsa : w.shape? a.block = some (tA, kA)) (hsb : w.shape? b.block = some (tB, kB)) (hkA : kA ≠ 0) (hkB : kB ≠ 0)
    (hf : (w.frozen? a = false ∧ w.frozen? { block := a.block, off := kA } = false) ∨ (w.frozen? b = false ∧ w.frozen? { block := b.block, off := kB } = false)) :
    (Extern.SlicesOverlaps.overlaps #[tS, tS] #[tR] #[.slice (some a) la ca, .slice (some b) lb cb]).run P w = .ok (.bool false) w := by
  have hnb : (a.block != b.block) = true := by simpa using hne
  have hnb' : (a.block == b.block) = false := by simpa using hne
  change Sem.run P (α := Value) (do
    let some t := (#[tS, tS] : Array TypeId)[0]? | stuck "slices.overlaps: no parameter types"
    let .slice elem ← underlying t | stuck "slices.overlaps: slice type expected"
    let size ← sizeOf elem
    match (some a : Option Addr), (some b : Option Addr) with
    | some a, some b =>
      if la = 0 ∨ lb = 0 ∨ size = 0 then pure (Value.bool false)
      else if a.block != b.block && (← frozen a) && (← frozen b) then unsupported .addressObserved
      else do
        if a.block != b.block then do
          noView a; noView b
          if ← mayBeOne a b then return Value.bool ((← choose (.extern "sameAddr.stringBytes" 2)) == 1)
        pure (Value.bool (a.block == b.block && a.off < b.off + lb * size && b.off < a.off + la * size))
    | _, _ => pure (Value.bool false)) w = _
  by_cases h0 : la = 0 ∨ lb = 0 ∨ size = 0
  · simp [run_underlying ht, hz, h0]
  · cases kA with
    | zero => exact absurd rfl hkA
    | succ kA =>
      cases kB with
      | zero => exact absurd rfl hkB
      | succ kB =>
        rcases hf with ⟨h1, h2⟩ | ⟨h1, h2⟩
        · cases hb : w.frozen? b <;> cases hb2 : w.frozen? { block := b.block, off := kB + 1 } <;>
            simp [run_underlying ht, hz, h0, hnb, hnb', frozen, noView, viewAt, mayBeOne, stringish, shape, Sem.run, hsa, hsb, h1, h2, hb, hb2]
        · cases hb : w.frozen? a <;> cases hb2 : w.frozen? { block := a.block, off := kA + 1 } <;>
            simp [run_underlying ht, hz, h0, hnb, hnb', frozen, noView, viewAt, mayBeOne, stringish, shape, Sem.run, hsa, hsb, h1, h2, hb, hb2]
theorem grown_refl (w : World) (row : Option Nat) : w.grownBy w row := ⟨rfl, rfl, rfl, Nat.le_refl _, fun _ _ _ => rfl⟩
theorem grown_drewN {w0 w : World} {row : Option Nat} (h : w0.grownBy w row) (q : Nat) : w0.grownBy (w.drewN q) row := ⟨h.os, h.tape, h.output, h.size, h.block⟩
theorem grown_drew {w0 w : World} {row : Option Nat} (h : w0.grownBy w row) : w0.grownBy w.drew row := ⟨h.os, h.tape, h.output, h.size, h.block⟩
theorem grown_setRow {w0 w : World} {g : Nat} (h : w0.grownBy w (some g)) (cs : Array Value) : w0.grownBy (w.setRow g cs) (some g) :=
  ⟨h.os, h.tape, h.output, by simpa [World.setRow] using h.size, fun k hk hne => by rw [setRow_other w g k cs (fun e => hne (by rw [e]))]; exact h.block k hk hne⟩
theorem grown_setCells {w0 : World} {g : Nat} : ∀ (vs : List Value) (o : Nat) {w : World}, w0.grownBy w (some g) → w0.grownBy (w.setCells g o vs) (some g)
  | [], _, _, h => h
  | v :: vs, o, w, h => grown_setCells vs (o + 1) ⟨h.os, h.tape, h.output, by simpa [World.setCell] using h.size, fun k hk hne => by rw [Below.heap_setCell _ _ _ _ (fun e => hne (by rw [e]))]; exact h.block k hk hne⟩
theorem grown_of_below {w w' : World} (h : Below w.heap.size w w') (row : Option Nat) : w.grownBy w' row := ⟨h.os, h.tape, h.output, h.size, fun k hk _ => h.block k hk⟩
theorem below_of_grown {w w' : World} {g B : Nat} (h : w.grownBy w' (some g)) (hB : B ≤ w.heap.size) (hg : B ≤ g) : Below B w w' :=
  ⟨h.os, h.tape, h.output, h.size, fun k hk => h.block k (by omega) (fun e => by injection e with e; omega)⟩
/-- copy into a row that is known whole; of all else that was there nothing turns -/
theorem wpList_copy_row {P : Program} {w : World} {ops : Array Oper} {rest : List Oper} {o : Oper} {a : Act} {Q : Exit → Act → World → Prop} (hgd : o.guard = none) (d s : Operand) (dT sT : TypeId)
    (ho : o.op = .call { callee := .builtin .copy, args := #[d, s], argTypes := #[dT, sT] }) (elem : TypeId) (hu : P.underlying dT = some (.slice elem)) (hsz : (P.info? elem).map (·.size) = some 1)
    (dp sp : Option Addr) (dLen dCap sLen sCap : Nat) (hd : a.eval d = .slice dp dLen dCap) (hs : a.eval s = .slice sp sLen sCap)
    (g off : Nat) (cur : List Value) (t : TypeId) (hg : w.heap[g]? = some (.cells cur.toArray t (0, 0))) (cs : List Value) (hn : cs.length = Nat.min sLen dLen)
    (hpos : 0 < cs.length → dp = some ⟨g, off, none⟩ ∧ ∃ ad, sp = some ad ∧ ∀ j v, cs[j]? = some v → w.cell? (ad.add j) = some v)
    (hfit : off + cs.length ≤ cur.length) (h1 : ∀ v ∈ cs, v.oneCell' = true) (w0 : World) (hb : w0.grownBy w (some g))
    (h : ∀ w', Hid (w'.heap[g]? = some (.cells (splice cur off cs).toArray t (0, 0))) → w0.grownBy w' (some g) → wpList P ops Q rest (a.put o.dst (goInt cs.length)) w') :
    wpList P ops Q (o :: rest) a w := by
  by_cases h0 : cs.length = 0
  · obtain rfl : cs = [] := List.eq_nil_of_length_eq_zero h0
    refine wpList_copy_nothing hgd d s dT sT ho elem hu hsz dp sp dLen dCap sLen sCap hd hs (by simpa using hn.symm) ?_
    exact h w (show _ = _ by simpa [splice] using hg) hb
  · obtain ⟨rfl, ad, rfl, hsrc⟩ := hpos (by omega)
    refine wpList_copy_own hgd d s dT sT ho elem hu hsz g off dLen dCap ad sLen sCap hd hs cur.toArray t hg cs hn hsrc (by simpa using hfit) h1 ?_
    exact h _ (show _ = _ by simpa [splice] using setRow_heap w g _ _ t _ hg) (grown_setRow hb _)
theorem step_copy_row {P : Program} {ops : Array Oper} {o : Oper} {a : Act} {w : World} {K : Act → World → Prop} {Q : Exit → Act → World → Prop} {E : Prop} (hgd : o.guard = none) (d s : Operand) (dT sT : TypeId)
    (ho : o.op = .call { callee := .builtin .copy, args := #[d, s], argTypes := #[dT, sT] }) (elem : TypeId) (hu : P.underlying dT = some (.slice elem)) (hsz : (P.info? elem).map (·.size) = some 1)
    (dp sp : Option Addr) (dLen dCap sLen sCap : Nat) (hd : a.eval d = .slice dp dLen dCap) (hs : a.eval s = .slice sp sLen sCap)
    (g off : Nat) (cur : List Value) (t : TypeId) (hg : w.heap[g]? = some (.cells cur.toArray t (0, 0))) (cs : List Value) (hn : cs.length = Nat.min sLen dLen)
    (hpos : 0 < cs.length → dp = some ⟨g, off, none⟩ ∧ ∃ ad, sp = some ad ∧ ∀ j v, cs[j]? = some v → w.cell? (ad.add j) = some v)
    (hfit : off + cs.length ≤ cur.length) (h1 : ∀ v ∈ cs, v.oneCell' = true) (w0 : World) (hb : w0.grownBy w (some g))
    (h : ∀ w', Hid (w'.heap[g]? = some (.cells (splice cur off cs).toArray t (0, 0))) → w0.grownBy w' (some g) → K (a.put o.dst (goInt cs.length)) w') :
    if Region.wanted o (yielded ops a.tmps) = true then Oper.wp P o a w K Q else E := by
  have hw : Region.wanted o (yielded ops a.tmps) = true := by simp [Region.wanted, hgd]
  rw [if_pos hw]
  by_cases h0 : cs.length = 0
  · obtain rfl : cs = [] := List.eq_nil_of_length_eq_zero h0
    have hrun := run_copy_none (P := P) w dT sT o.type elem dp sp dLen dCap sLen sCap hu hsz (by simpa using hn.symm)
    unfold Oper.wp
    simp [execOp, ho, resolve, invoke, builtin, hd, hs, hrun, Result.andThen]
    exact h w (show _ = _ by simpa [splice] using hg) hb
  · obtain ⟨rfl, ad, rfl, hsrc⟩ := hpos (by omega)
    have hrun := run_copy_row (P := P) w dT sT o.type elem g off dLen dCap ad sLen sCap cur.toArray t cs hu hsz hg hn hsrc (by simpa using hfit) h1
    unfold Oper.wp
    simp [execOp, ho, resolve, invoke, builtin, hd, hs, hrun, Result.andThen]
    exact h _ (show _ = _ by simpa [splice] using setRow_heap w g _ _ t _ hg) (grown_setRow hb _)
end Go.Proofs.Kv
namespace Go.Proofs.Kv
open Go Go.RowKit

theorem own_cut {B e size n g cap i : Nat} {w : World} {xs : List Value} (h : w.ownsRow B e size (.slice (some ⟨g, 0, none⟩) n cap) n xs) (hi : i ≤ n) :
    w.ownsRow B e size (.slice (some ⟨g, 0, none⟩) i cap) i (xs.take (i * size)) := by
  have hle : i * size ≤ n * size := Nat.mul_le_mul_right _ hi
  refine ⟨by rw [List.length_take, h.1]; omega, ?_⟩
  rcases h.2 with ⟨h', _⟩ | ⟨g', cap', cur, h', hb, hg, hnc, hcm, hcs, htake⟩
  · simp at h'
  · injection h' with q1 q2 q3
    injection q1 with q1
    injection q1 with q1
    subst q1; subst q3
    refine .inr ⟨g, cap, cur, rfl, hb, hg, by omega, hcm, hcs, ?_⟩
    rw [← htake, List.take_take, Nat.min_eq_left hle]
theorem own_setCells_at {B e size n g cap : Nat} : ∀ (vs : List Value) (o : Nat) {w : World} {xs : List Value}, w.ownsRow B e size (.slice (some ⟨g, 0, none⟩) n cap) n xs → o + vs.length ≤ xs.length →
    (w.setCells g o vs).ownsRow B e size (.slice (some ⟨g, 0, none⟩) n cap) n (xs.take o ++ vs ++ xs.drop (o + vs.length)) ∧ w.grownBy (w.setCells g o vs) (some g)
  | [], o, w, xs, h, _ => ⟨by simpa [World.setCells] using h, World.grownBy.refl w _⟩
  | v :: vs, o, w, xs, h, hl => by
    obtain ⟨h1, h2⟩ := h.stored o v
    rw [List.length_cons] at hl
    obtain ⟨h3, h4⟩ := own_setCells_at vs (o + 1) h1 (by simp; omega)
    refine ⟨?_, h2.trans h4⟩
    have e : (xs.set o v).take (o + 1) ++ vs ++ (xs.set o v).drop (o + 1 + vs.length) = xs.take o ++ v :: vs ++ xs.drop (o + (v :: vs).length) := by
      have e1 : (xs.set o v).take (o + 1) = xs.take o ++ [v] := by
        rw [Kv.take_snoc _ v o (by simp; omega), List.take_set, List.set_eq_of_length_le (by rw [List.length_take]; omega)]
        simp [List.getD, show o < xs.length by omega]
      have e2 : o + (v :: vs).length = o + 1 + vs.length := by rw [List.length_cons]; omega
      rw [e1, List.drop_set_of_lt (by omega), e2]
      simp
    rw [← e]; exact h3
theorem below_setCells {B : Nat} {a w : World} (h : Below B a w) {g : Nat} (hg : B ≤ g) : ∀ (vs : List Value) (o : Nat), Below B a (w.setCells g o vs)
  | [], _ => h
  | v :: vs, o => below_setCells (h.setCell (p := ⟨g, o, none⟩) hg v) hg vs (o + 1)
theorem src_ints {P : Program} {t e : TypeId} (ht : P.underlying t = some (.slice e)) {w : World} {A : Option Addr} {m c : Nat} {vs : List Int} (h : IntsAt w A m c vs) : Src P 1 t (.slice A m c) m (vs.map (Value.int .i64)) w := by
  rcases A with _ | x
  · have hm : m = 0 := by
      rcases Nat.eq_zero_or_pos m with h0 | h0
      · exact h0
      · obtain ⟨_, _, h1, _⟩ := h.cells 0 h0; cases h1
    subst hm
    rw [List.eq_nil_of_length_eq_zero h.len]
    exact Src.ofNil w ht c
  · exact Src.ofSlice w ht x m c _ (by simp [h.len]) h.cellsIn (fun v hv => by obtain ⟨y, _, rfl⟩ := List.mem_map.1 hv; rfl)
end Go.Proofs.Kv
namespace Go.Proofs.YtebbmhlkdfmmcaaGreat
open Go.RowKit Go.Proofs.Kv

set_option maxRecDepth 100000 in
theorem clone_calls (a : Option Addr) (n c : Nat) (l : List Int) (w : World) (h : IntsAt w a n c l) (hs : n ≤ 100000) :
    Calls Tryz.prog 59 #[.slice a n c] w fun e w' => ∃ v, e = .returned v ∧ Made 3 w w' v l := by
  obtain ⟨i0, hi0, hz0, hz1, hz2⟩ := info_parts Tryz.infoInt
  cases a with
  | none =>
    have hn : n = 0 := by
      rcases Nat.eq_zero_or_pos n with h0 | h0
      · exact h0
      · obtain ⟨_, _, h1, _⟩ := h.cells 0 h0; cases h1
    subst hn
    have Hl : Hid (l = []) := hid_ (List.eq_nil_of_length_eq_zero h.len)
    have heq : ∀ W, (binOp .eql 23 (.slice none 0 c) (.slice none 0 0)).run Tryz.prog W = .ok (.bool true) W := fun W => Lib.run_eql_slice_nil W _ _ none 0 c 0 0 Tryz.underlying23
    go_enter Tryz.func59, Tryz.ntmps59
    go_wp2
    go_ret
    exact ⟨_, rfl, by rw [Hl.out]; exact Made.none_ _ (Below.refl _ _)⟩
  | some x =>
    have heq : ∀ W, (binOp .eql 23 (.slice (some x) n c) (.slice none 0 0)).run Tryz.prog W = .ok (.bool false) W := fun W => Lib.run_eql_slice_nil W _ _ (some x) n c 0 0 Tryz.underlying23
    have hown : (w.alloc (.cells #[] 3)).ownsRow w.heap.size 3 1 (.slice (some ⟨w.heap.size, 0, none⟩) 0 0) 0 (([] : List Int).map (Value.int .i64)) := World.ownsRow_made w #[] 0 (Nat.le_refl _) (by omega) rfl
    have hI := h.below ((Below.refl _ w).alloc (Nat.le_refl _) (.cells #[] 3)) (Nat.le_refl _)
    have hlen : Hid (l.length = n) := hid_ h.len
    go_enter Tryz.func59, Tryz.ntmps59
    go_wp2_with (at_builtin; refine wpList_append_ints _ rfl (.tmp 5) (.tmp 6) _ rfl w.heap.size 3 i0 Tryz.underlying23 hi0 hz0 hz1 hz2 _ _ _ rfl hown _ _ _ _ rfl hI (by omega) (by simp) ?_; intro v' w1 hown1 hg1 hat1)
    go_ret
    refine ⟨_, rfl, ⟨?_, ((Below.refl _ w).alloc (Nat.le_refl _) (.cells #[] 3)).grown hg1 (by simp) fun k hk => ?_⟩⟩
    · rw [Nat.zero_add, List.nil_append] at hown1
      rw [hlen.out]; exact hown1
    · have : some w.heap.size = some k := hk
      injection this with this
      omega

end Go.Proofs.YtebbmhlkdfmmcaaGreat
namespace Go.Proofs.YtebbmhlkdfmmcaaGreat
open Go.RowKit Go.Proofs.Kv

/-! ### slices.Insert into an own row -/
theorem Tryz.sizeInt : ∀ w, (Go.sizeOf 3).run Tryz.prog w = .ok 1 w := fun w => by kernel_rfl
theorem Tryz.oneInt : (Tryz.prog.info? 3).map (·.size) = some 1 := by kernel_rfl
theorem ints_one (l : List Int) : ∀ v ∈ l.map (Value.int .i64), v.oneCell' = true := by
  intro v hv
  obtain ⟨x, _, rfl⟩ := List.mem_map.1 hv
  rfl
theorem overlaps_own {w : World} {a b : Addr} {la ca lb cb kA kB : Nat} {tA tB : TypeId} (hne : a.block ≠ b.block)
    (hsa : w.shape? a.block = some (tA, kA)) (hsb : w.shape? b.block = some (tB, kB)) (hkA : kA ≠ 0) (hkB : kB ≠ 0)
    (hf : (w.frozen? a = false ∧ w.frozen? { block := a.block, off := kA } = false) ∨ (w.frozen? b = false ∧ w.frozen? { block := b.block, off := kB } = false)) :
    (callFunc 123 #[.slice (some a) la ca, .slice (some b) lb cb]).run Tryz.prog w = .ok (.value (.bool false)) w := by
  rw [run_callFunc_extern Tryz.func123 (by kernel_rfl) (by kernel_rfl) (by kernel_rfl) (e := Extern.SlicesOverlaps.overlaps #[23, 23] #[4]) (by kernel_rfl),
    run_overlaps_own w 23 4 3 Tryz.underlying23 1 Tryz.sizeInt a b la ca lb cb hne tA tB kA kB hsa hsb hkA hkB hf]
  rfl
/-- what is returned is a row of the call's own (from block B on) that holds the numbers l; of all that was there, but the block row, nothing has turned -/
def OwnPost (B n : Nat) (l : List Int) (row : Option Nat) (w : World) (e : Ending) (w' : World) : Prop := ∃ v', e = .returned v' ∧ w'.ownsRow B 3 1 v' n (l.map (Value.int .i64)) ∧ w.grownBy w' row ∧ (v'.ownBlock = row ∨ ∃ g, v'.ownBlock = some g ∧ w.heap.size ≤ g)
/-- l with vs in the place of what stood from i to j -/
def putL (l : List Int) (i j : Nat) (vs : List Int) : List Int := l.take i ++ vs ++ l.drop j
theorem ints_shape {w : World} {b off n c : Nat} {l : List Int} (h : IntsAt w (some ⟨b, off, none⟩) n c l) (h0 : 0 < n) : ∃ T k, w.shape? b = some (T, k) ∧ k ≠ 0 := by
  obtain ⟨b', off', e, hb, hc⟩ := h.cells 0 h0
  injection e with e; injection e with e1 e2; subst e1; subst e2
  unfold World.cell? at hc
  unfold World.shape?
  split at hc
  · rename_i cs T fr hg
    simp only [hg]
    simp at hc
    refine ⟨T, cs.size, rfl, ?_⟩
    intro e
    rw [Array.getElem?_eq_none (by omega)] at hc
    cases hc
  · cases hc
set_option maxRecDepth 100000 in
set_option maxHeartbeats 2000000 in
theorem insert_calls {B n i m c : Nat} {v : Value} {l : List Int} {w : World} {A : Option Addr} {vs : List Int} (hown : w.ownsRow B 3 1 v n (l.map (Value.int .i64))) (hB : B ≤ w.heap.size) (hi : i ≤ n)
    (hv : IntsAt w A m c vs) (hne : 0 < m → ∀ b off, A = some ⟨b, off, none⟩ → b < B) (hs : n + m ≤ 100000) :
    Calls Tryz.prog 122 #[v, .int .i64 i, .slice A m c] w fun e w' => OwnPost B (n + m) (putL l i i vs) v.ownBlock w e w' := by
  obtain ⟨i0, hi0, hz0, hz1, hz2⟩ := info_parts Tryz.infoInt
  have hl : l.length = n := by simpa using hown.1
  by_cases hm : m = 0
  · subst hm
    have Hf : Hid (putL l i i vs = l) := hid_ (by rw [putL, List.eq_nil_of_length_eq_zero hv.len, List.append_nil, List.take_append_drop])
    have Hown : Hid (w.ownsRow B 3 1 v (n + 0) ((putL l i i vs).map (Value.int .i64))) := hid_ (by rw [Hf.out]; exact hown)
    rcases own_open hown with ⟨rfl, rfl, h0⟩ | ⟨g, cap, cur, rfl, hg1, hg2, hg3, hcl, hnc, hcm, hct⟩
    · obtain rfl : i = 0 := by omega
      clear hown
      go_enter Tryz.func122, Tryz.ntmps122
      go_wp2
      go_ret
      exact ⟨_, rfl, Hown.out, grown_refl _ _, .inl rfl⟩
    · clear hown hg3 hct
      by_cases hci : cap = i
      all_goals
        try subst hci
        go_enter Tryz.func122, Tryz.ntmps122
        go_wp2
        go_ret
        exact ⟨_, rfl, Hown.out, grown_refl _ _, .inl rfl⟩
  · have hmz : ((m : Int) == 0) = false := by simp; omega
    have hm0 : 0 < m := by omega
    clear hm
    by_cases hin : i = n
    · subst hin
      have Hf : Hid (putL l i i vs = l ++ vs) := hid_ (by rw [putL, List.take_of_length_le (by omega), List.drop_of_length_le (by omega), List.append_nil])
      have Hown := hid_ hown
      have hin' : ((i : Int) == (i : Int)) = true := by simp
      rcases own_open hown with ⟨rfl, rfl, h0⟩ | ⟨g, cap, cur, rfl, hg1, hg2, hg3, hcl, hnc, hcm, hct⟩
      · clear hown
        go_enter Tryz.func122, Tryz.ntmps122
        go_wp2_with (at_builtin; refine wpList_append_ints _ rfl (.tmp 23) (.tmp 24) _ rfl B 3 i0 Tryz.underlying23 hi0 hz0 hz1 hz2 _ _ _ rfl Hown.out _ _ _ _ rfl hv (by omega) hB ?_; intro v' w1 hown1 hg1 hat1)
        go_ret
        exact ⟨_, rfl, by rw [← Hf.out] at hown1; exact hown1, hg1, hat1.imp id fun h => ⟨_, h, Nat.le_refl _⟩⟩
      · clear hown hg3 hct
        go_enter Tryz.func122, Tryz.ntmps122
        go_wp2_with (at_builtin; refine wpList_append_ints _ rfl (.tmp 23) (.tmp 24) _ rfl B 3 i0 Tryz.underlying23 hi0 hz0 hz1 hz2 _ _ _ rfl Hown.out _ _ _ _ rfl hv (by omega) hB ?_; intro v' w1 hown1 hg1 hat1)
        all_goals
          go_ret
          exact ⟨_, rfl, by rw [← Hf.out] at hown1; exact hown1, hg1, hat1.imp id fun h => ⟨_, h, Nat.le_refl _⟩⟩
    · have hin2 : ((i : Int) == (n : Int)) = false := by simp; omega
      have hilt : i < n := by omega
      clear hin
      rcases own_open hown with ⟨rfl, rfl, h0⟩ | ⟨g, cap, cur, rfl, hg1, hg2, hg3, hcl, hnc, hcm, hct⟩
      · omega
      · have Hx := hid_ hct
        have hX : ((l.drop i).map (Value.int .i64)).length = n - i := by rw [List.length_map, List.length_drop]; omega
        obtain ⟨X, hXe⟩ : ∃ X, X = (l.drop i).map (Value.int .i64) := ⟨_, rfl⟩
        obtain ⟨V, hVe⟩ : ∃ V, V = vs.map (Value.int .i64) := ⟨_, rfl⟩
        have hV : V.length = m := by rw [hVe, List.length_map, hv.len]
        have hVc : ∀ w', Below B w w' → ∃ ad, A = some ad ∧ ∀ j u, V[j]? = some u → w'.cell? (ad.add j) = some u := fun w' hw' => by
          obtain ⟨b, off, rfl, hb, _⟩ := hv.cells 0 hm0
          refine ⟨_, rfl, ?_⟩
          rw [hVe]
          have hlt := hne hm0 b off rfl
          exact (hv.keep fun b' off' e => by injection e with e; injection e with e1 _; subst e1; exact hw'.block _ hlt).cellsIn
        have hcurX : ∀ w' : World, w'.heap[g]? = some (.cells cur.toArray 3 (0, 0)) → ∀ j u, X[j]? = some u → w'.cell? ((⟨g, i, none⟩ : Addr).add j) = some u := fun w' hw' j u hj => by
          rw [add_at, row_cell hw', ← hj, hXe, List.map_drop, ← Hx.out, List.getElem?_drop, List.getElem?_take, if_pos]
          have : j < X.length := by
            rcases Nat.lt_or_ge j X.length with h | h
            · exact h
            · rw [List.getElem?_eq_none h] at hj; cases hj
          rw [hXe, hX] at this; omega
        have hX' : X.length = n - i := by rw [hXe]; exact hX
        have hX1 : ∀ v ∈ X, v.oneCell' = true := by rw [hXe]; exact ints_one _
        have hV1 : ∀ v ∈ V, v.oneCell' = true := by rw [hVe]; exact ints_one _
        have HR : Hid (cur.take i ++ V ++ X = (putL l i i vs).map (Value.int .i64)) := hid_ (by
          rw [putL, List.map_append, List.map_append, ← hVe, ← hXe]
          congr 2
          rw [List.map_take, ← Hx.out, List.take_take, Nat.min_eq_left hi])
        have HXe := hid_ hXe; have HVe := hid_ hVe
        clear hXe hVe hX hct
        have hw1 : IntKind.i64.wrap ((n : Int) + (m : Int)) = (n : Int) + m := IntWalk.i64_in _ (by omega)
        have hw2 : IntKind.i64.wrap ((i : Int) + (m : Int)) = (i : Int) + m := IntWalk.i64_in _ (by omega)
        have hw3 : ((i : Int) + (m : Int)).toNat = i + m := by omega
        have hw4 : ((n : Int) + (m : Int)).toNat = n + m := by omega
        have hw5 : (0 : Int) ≤ (i : Int) + m := by omega
        by_cases hcap : cap < n + m
        · obtain ⟨k, hk⟩ : ∃ k, n + m = i + k := ⟨n + m - i, by omega⟩
          have hold : (Builtin.firstCells i0.size i (.slice (some ⟨g, 0, none⟩) i cap)).run Tryz.prog w.drew = .ok (cur.take i).toArray w.drew := by
            rw [hz1]
            refine run_firstCells_some w.drew 1 i ⟨g, 0, none⟩ i cap (cur.take i) (by rw [List.length_take]; omega) (fun j v hj => ?_)
            rw [add_at, Nat.zero_add]
            have := row_cell (w := w) hg3 j
            rw [List.getElem?_take] at hj
            split at hj
            · exact this.trans hj
            · cases hj
          have hrz : ∀ ty, (Builtin.append_ #[23, 3] ty #[.slice (some ⟨g, 0, none⟩) i cap, .int .i64 ((n : Int) + (m : Int) - (i : Int))]).run Tryz.prog w =
              .ok (.slice (some ⟨w.heap.size, 0, none⟩) (n + m) (grownCap w (n + m) cap 3)) (w.drew.alloc (.cells ((cur.take i).toArray ++ Builtin.zeroCells (Value.int .i64 0).cells k ++ Builtin.zeroCells (Value.int .i64 0).cells (grownCap w (n + m) cap 3 - (n + m))) 3)) := fun ty => by
            have h := Lib.run_append_grow_zeros w 23 3 ty 3 i0 _ .i64 .i64 Tryz.underlying23 Tryz.underlying3 hi0 hz0 (some ⟨g, 0, none⟩) i cap (cur.take i) hold k (by omega) (by omega) (by omega) (by omega) (by rw [hz2]; omega) (by rw [hz2, ← hk]; exact growslice_fits hcap (by omega))
            rw [← hk] at h
            rw [show (n : Int) + (m : Int) - (i : Int) = (k : Int) by omega]
            exact h
          have hGn : n + m ≤ grownCap w (n + m) cap 3 := grownCap_ge w _ _ _
          have hG63 : grownCap w (n + m) cap 3 ≤ 9223372036854775807 := by
            have := grownCap_le_maxLen w (n + m) cap 3 (by unfold maxLen; omega)
            unfold maxLen at this
            omega
          generalize grownCap w (n + m) cap 3 = G at hrz hGn hG63
          obtain ⟨ROW, hROW⟩ : ∃ ROW : List Value, ROW.toArray = (cur.take i).toArray ++ Builtin.zeroCells (Value.int .i64 0).cells k ++ Builtin.zeroCells (Value.int .i64 0).cells (G - (n + m)) := ⟨_, Array.toArray_toList⟩
          have HRl : Hid (ROW.length = G ∧ ROW.take i = cur.take i) := hid_ (by
            have h1 : ROW = cur.take i ++ ((Builtin.zeroCells (Value.int .i64 0).cells k).toList ++ (Builtin.zeroCells (Value.int .i64 0).cells (G - (n + m))).toList) := by
              have := congrArg Array.toList hROW
              simpa using this
            have h2 : (cur.take i).length = i := by rw [List.length_take]; omega
            refine ⟨?_, by rw [h1, List.take_left' h2]⟩
            rw [h1, List.length_append, h2, List.length_append]
            simp [Builtin.zeroCells, Value.cells]
            omega)
          rw [← hROW] at hrz
          obtain ⟨W1, hW1⟩ : ∃ W1, W1 = w.drew.alloc (.cells ROW.toArray 3) := ⟨_, rfl⟩
          rw [← hW1] at hrz
          have HW1 : Hid (W1.heap[w.heap.size]? = some (.cells ROW.toArray 3 (0, 0)) ∧ Below w.heap.size w W1) := hid_ (by
            rw [hW1]
            refine ⟨?_, ?_⟩
            · show (w.heap.push _)[w.heap.size]? = _
              simp
            · exact (Below.drew (Below.refl _ w)).alloc (Nat.le_refl _) _)
          have hXw : ∀ w', Below w.heap.size w w' → ∀ j u, X[j]? = some u → w'.cell? ((⟨g, i, none⟩ : Addr).add j) = some u := fun w' hw' => hcurX w' (by rw [hw'.block g hg2]; exact hg3)
          have hVw : ∀ w', Below w.heap.size w w' → ∃ ad, A = some ad ∧ ∀ j u, V[j]? = some u → w'.cell? (ad.add j) = some u := fun w' hw' => hVc w' (hw'.mono hB)
          have hc1 : ¬ cap = i := by omega
          have hc2 : ¬ G = i + m := by omega
          have hc3 : decide ((cap : Int) < (n : Int) + m) = true := by simp; omega
          have hc4 : ¬ G = i := by omega
          have hc5 : (i : Int) + m ≤ (n : Int) + m := by omega
          have hc6 : (i : Int) ≤ (n : Int) + m := by omega
          have hc7 : (i : Int) ≤ (n : Int) := by omega
          have hw6 : IntKind.i64.wrap ((n : Int) + (m : Int) - i) = (n : Int) + m - i := IntWalk.i64_in _ (by omega)
          have HX := hid_ hX'
          have HV := hid_ hV
          have Hmin2 : Hid (V.length = Nat.min m (n + m - i)) := hid_ (by rw [HV.out]; simp only [Nat.min_def]; split <;> omega)
          have Hfit2 : Hid (i + V.length ≤ ROW.length) := hid_ (by rw [HRl.out.1, HV.out]; omega)
          have Hl2 : Hid ((splice ROW i V).length = G) := hid_ (by rw [length_splice _ _ _ Hfit2.out, HRl.out.1])
          have Hmin : Hid (X.length = Nat.min (n - i) (n + m - (i + m))) := hid_ (by rw [HX.out]; simp only [Nat.min_def]; split <;> omega)
          have Hfit : Hid (i + m + X.length ≤ (splice ROW i V).length) := hid_ (by rw [HX.out, Hl2.out]; omega)
          have hVw1 := hVw W1 HW1.out.2
          have HXw := hid_ hXw
          have Hk := hid_ hk
          have HW := hid_ hW1
          clear hVw hXw hold hROW hcurX hVc hX' hV hcap hin2 hk hW1
          go_enter Tryz.func122, Tryz.ntmps122
          go_wp2_with (first
            | (at_builtin; refine Lib.wpList_append_run _ rfl (.tmp 34) (.tmp 39) _ _ rfl _ _ rfl rfl _ _ (hrz _) ?_)
            | (refine wpList_copy_splice rfl (.tmp 43) (.tmp 44) 23 23 rfl 3 Tryz.underlying23 Tryz.oneInt _ _ _ _ _ _ rfl rfl w.heap.size i ROW 3 HW1.out.1 V Hmin2.out (fun _ => ⟨rfl, hVw1⟩) Hfit2.out hV1 w.heap.size w HW1.out.2 (Nat.le_refl _) ?_; intro w2 hh2 hb2))
          have hXd := HXw.out w2.drew (Below.drew hb2)
          have Hd : Hid (Below w.heap.size w w2.drew) := hid_ (Below.drew hb2)
          go_region_law (refine step_copy_splice rfl (.tmp 50) (.tmp 53) 23 23 rfl 3 Tryz.underlying23 Tryz.oneInt (some ⟨w.heap.size, i + m, none⟩) (some ⟨g, i, none⟩) (n + m - (i + m)) (G - (i + m)) (n - i) (cap - i) (by simp [Act.eval, Act.put]) (by simp [Act.eval, Act.put]) w.heap.size (i + m) (splice ROW i V) 3 hh2.out X Hmin.out (fun _ => ⟨rfl, _, rfl, hXd⟩) Hfit.out hX1 w.heap.size w Hd.out (Nat.le_refl _) ?_; intro w3 hh3 hb3)
          go_wp2
          go_ret
          refine ⟨_, rfl, own_close hB hh3.out (by rw [length_splice _ _ _ Hfit.out, Hl2.out]) hGn hG63 ?_, grown_of_below hb3 _, .inr ⟨_, rfl, Nat.le_refl _⟩⟩
          rw [← HR.out, ← HRl.out.2, show n + m = i + m + (n - i) by omega]
          exact splice_in' ROW X V HX.out HV.out (by rw [HRl.out.1]; omega)
        · have hc1 : ¬ cap = i := by omega
          have hc2 : ¬ cap = i + m := by omega
          have hc3 : decide ((cap : Int) < (n : Int) + m) = false := by simp; omega
          have hc4 : ((n : Int) + m) ≤ (cap : Int) := by omega
          have hc5 : (i : Int) + m ≤ (n : Int) + m := by omega
          have hc6 : (i : Int) ≤ (n : Int) + m := by omega
          have hov : ∀ lb cb, (callFunc 123 #[.slice A m c, .slice (some ⟨g, i + m, none⟩) lb cb]).run Tryz.prog w = .ok (.value (.bool false)) w := fun lb cb => by
            obtain ⟨b, off, rfl, hb, _⟩ := hv.cells 0 hm0
            obtain ⟨T, k, hsh, hk0⟩ := ints_shape hv hm0
            have hlt := hne hm0 b off rfl
            exact overlaps_own (a := ⟨b, off, none⟩) (b := ⟨g, i + m, none⟩) (by show b ≠ g; omega) hsh (row_shape hg3) hk0 (by rw [hcl]; omega) (.inr ⟨row_free hg3 _, row_free hg3 _⟩)
          clear hcap hin2
          go_enter Tryz.func122, Tryz.ntmps122
          go_wp2
          have HX := hid_ hX'
          have Hmin : Hid (X.length = Nat.min (n + m - i) (n + m - (i + m))) := hid_ (by rw [HX.out]; simp only [Nat.min_def]; split <;> omega)
          have Hfit : Hid (i + m + X.length ≤ cur.length) := hid_ (by rw [HX.out]; omega)
          have Hd : Hid (w.grownBy w.drew (some g)) := hid_ (grown_drew (grown_refl _ _))
          have HV := hid_ hV
          go_region_law (refine step_copy_row rfl (.tmp 73) (.tmp 76) 23 23 rfl 3 Tryz.underlying23 Tryz.oneInt (some ⟨g, i + m, none⟩) (some ⟨g, i, none⟩) (n + m - (i + m)) (cap - (i + m)) (n + m - i) (cap - i) (by simp [Act.eval, Act.put]) (by simp [Act.eval, Act.put]) g (i + m) cur 3 hg3 X Hmin.out (fun _ => ⟨rfl, _, rfl, hcurX _ hg3⟩) Hfit.out hX1 w Hd.out ?_; intro w2 hh2 hb2)
          have Hl2 : Hid ((splice cur (i + m) X).length = cap) := hid_ (by rw [length_splice _ _ _ Hfit.out, hcl])
          have Hmin2 : Hid (V.length = Nat.min m (n + m - i)) := hid_ (by rw [HV.out]; simp only [Nat.min_def]; split <;> omega)
          have Hfit2 : Hid (i + V.length ≤ (splice cur (i + m) X).length) := hid_ (by rw [Hl2.out, HV.out]; omega)
          have hVw := hVc w2 (below_of_grown hb2 hB hg1)
          go_wp2_with (refine wpList_copy_row rfl (.tmp 80) (.tmp 81) 23 23 rfl 3 Tryz.underlying23 Tryz.oneInt _ _ _ _ _ _ rfl rfl g i (splice cur (i + m) X) 3 hh2.out V Hmin2.out (fun _ => ⟨rfl, hVw⟩) Hfit2.out hV1 w hb2 ?_; intro w3 hh3 hb3)
          go_ret
          refine ⟨_, rfl, own_close hg1 hh3.out (by rw [length_splice _ _ _ Hfit2.out, Hl2.out]) (by omega) hcm ?_, hb3, .inl rfl⟩
          rw [← HR.out]
          exact splice_in cur X V HX.out HV.out hi (by omega)
end Go.Proofs.YtebbmhlkdfmmcaaGreat
namespace Go.Proofs.YtebbmhlkdfmmcaaGreat
open Go.RowKit Go.Proofs.Kv

/-! ### slices.Replace in an own row -/
theorem Tryz.zeroInt : ∀ w, (zeroValue 3).run Tryz.prog w = .ok (.int .i64 0) w := fun w => by kernel_rfl
/-- what is known of an own row, of what is put in and of what stands behind -/
structure RepAt (w : World) (B g cap i j r m : Nat) (A : Option Addr) (c : Nat) (cur X V : List Value) (l vs : List Int) : Prop where
  hg1 : B ≤ g
  hg2 : g < w.heap.size
  hg3 : w.heap[g]? = some (.cells cur.toArray 3 (0, 0))
  hcl : cur.length = cap
  hnc : j + r ≤ cap
  hcm : cap ≤ 9223372036854775807
  hij : i < j
  hs : j + r + m ≤ 100000
  hB : B ≤ w.heap.size
  hX : X.length = r
  hV : V.length = m
  hX1 : ∀ v ∈ X, v.oneCell' = true
  hV1 : ∀ v ∈ V, v.oneCell' = true
  hXc : ∀ w' : World, w'.heap[g]? = some (.cells cur.toArray 3 (0, 0)) → ∀ k u, X[k]? = some u → w'.cell? ((⟨g, j, none⟩ : Addr).add k) = some u
  hVc : ∀ w', Below B w w' → 0 < m → ∃ ad, A = some ad ∧ ∀ k u, V[k]? = some u → w'.cell? (ad.add k) = some u
  hR : cur.take i ++ V ++ X = (putL l i j vs).map (Value.int .i64)
  hv : IntsAt w A m c vs
  hne : 0 < m → ∀ b off, A = some ⟨b, off, none⟩ → b < B
  hVe : V = vs.map (Value.int .i64)
theorem repAt {B i j r m c g cap : Nat} {cur : List Value} {l : List Int} {w : World} {A : Option Addr} {vs : List Int}
    (hg1 : B ≤ g) (hg2 : g < w.heap.size) (hg3 : w.heap[g]? = some (.cells cur.toArray 3 (0, 0))) (hcl : cur.length = cap) (hnc : j + r ≤ cap) (hcm : cap ≤ 9223372036854775807) (hct : cur.take (j + r) = l.map (Value.int .i64))
    (hB : B ≤ w.heap.size) (hij : i < j) (hv : IntsAt w A m c vs) (hne : 0 < m → ∀ b off, A = some ⟨b, off, none⟩ → b < B) (hs : j + r + m ≤ 100000) :
    ∃ X V, RepAt w B g cap i j r m A c cur X V l vs := by
  have hl : l.length = j + r := by have := congrArg List.length hct; simp at this; omega
  have hX : ((l.drop j).map (Value.int .i64)).length = r := by rw [List.length_map, List.length_drop]; omega
  have hV : (vs.map (Value.int .i64)).length = m := by rw [List.length_map, hv.len]
  refine ⟨(l.drop j).map (Value.int .i64), vs.map (Value.int .i64), ⟨hg1, hg2, hg3, hcl, hnc, hcm, hij, hs, hB, hX, hV, ints_one _, ints_one _, ?_, ?_, ?_, hv, hne, rfl⟩⟩
  · intro w' hw' k u hk
    have hkl : k < r := by
      rcases Nat.lt_or_ge k r with h | h
      · exact h
      · rw [List.getElem?_eq_none (by omega)] at hk; cases hk
    rw [add_at, row_cell hw', ← hk, List.map_drop, ← hct, List.getElem?_drop, List.getElem?_take, if_pos (by omega)]
  · intro w' hw' hm0
    obtain ⟨b, off, rfl, hb, _⟩ := hv.cells 0 hm0
    have hlt := hne hm0 b off rfl
    exact ⟨_, rfl, (hv.keep fun b' off' e => by injection e with e; injection e with e1 _; subst e1; exact hw'.block _ hlt).cellsIn⟩
  · rw [putL, List.map_append, List.map_append]
    congr 2
    rw [List.map_take, ← hct, List.take_take, Nat.min_eq_left (by omega)]

set_option maxRecDepth 100000 in
set_option maxHeartbeats 2000000 in
/-- what is put in comes to the end -/
theorem replaceA_calls {B i j m c g cap : Nat} {cur X V : List Value} {l vs : List Int} {w : World} {A : Option Addr} (H : RepAt w B g cap i j 0 m A c cur X V l vs) :
    Calls Tryz.prog 117 #[.slice (some ⟨g, 0, none⟩) j cap, .int .i64 i, .int .i64 j, .slice A m c] w fun e w' => OwnPost B (i + m) (putL l i j vs) (some g) w e w' := by
  obtain ⟨i0, hi0, hz0, hz1, hz2⟩ := info_parts Tryz.infoInt
  have HH := hid_ H
  obtain ⟨hg1, hg2, hg3, hcl, hnc, hcm, hij, hs, hB, hX, hV, hX1, hV1, hXc, hVc, hR, hv, hne, hVe⟩ := H
  have hij0 : ((i : Int) == (j : Int)) = false := by simp; omega
  have hij1 : (i : Int) ≤ (j : Int) := by omega
  have hij2 : (j : Int) ≤ (cap : Int) := by omega
  have hij3 : (i : Int) ≤ (cap : Int) := by omega
  have hci : ¬ cap = i := by omega
  have hR' : Hid (cur.take i ++ V = (putL l i j vs).map (Value.int .i64)) := hid_ (by
    have := hR
    rwa [List.eq_nil_of_length_eq_zero hX, List.append_nil] at this)
  by_cases hlt : i + m < j
  · have hroom : ∀ ty, (Builtin.append_ #[23, 23] ty #[.slice (some ⟨g, 0, none⟩) i cap, .slice A m c]).run Tryz.prog w = .ok (.slice (some ⟨g, 0, none⟩) (i + m) cap) (w.setCells g i V) := fun ty => by
      have h := run_append_room_src (P := Tryz.prog) (w := w) 23 23 ty 3 i0 Tryz.underlying23 hi0 g 0 i cap (.slice A m c) m (vs.map (Value.int .i64)) (by rw [hz1]; exact src_ints Tryz.underlying23 hv) (by omega)
        (fun k hk => by rw [hz1, Nat.zero_add, Nat.mul_one, row_cell hg3, List.getElem?_eq_getElem (by rw [← hVe, hV] at hk; omega)]; rfl) (fun k hk => row_free hg3 _)
      rw [hz1, Nat.zero_add, Nat.mul_one, ← hVe] at h
      exact h
    have hownN := own_close (n := j) (xs := cur.take j) hg1 hg3 hcl (by omega) hcm rfl
    obtain ⟨hown1, -⟩ := own_setCells_at V i hownN (by rw [List.length_take, hV]; omega)
    obtain ⟨W1, hW1⟩ : ∃ W1, W1 = w.setCells g i V := ⟨_, rfl⟩
    have hbel1 : w.grownBy W1 (some g) := by rw [hW1]; exact grown_setCells _ _ (grown_refl _ _)
    rw [← hW1] at hroom hown1
    have hclear : ∀ ty, (Builtin.clear_ #[23] ty #[.slice (some ⟨g, i + m, none⟩) (j - (i + m)) (cap - (i + m))]).run Tryz.prog W1 = .ok (.tuple #[]) (W1.setCells g (i + m) (List.replicate (j - (i + m)) (.int .i64 0))) := fun ty =>
      Lib.run_clear_slice W1 _ _ ty _ Tryz.underlying23 Tryz.zeroInt rfl rfl g (i + m) (j - (i + m)) (cap - (i + m)) (by omega)
        (fun k hk => by
          rw [hown1.cellAt (i + m + k) (by omega), List.getElem?_eq_getElem (by have := hown1.1; omega)]; rfl) (fun k _ => hown1.frozenAt _)
    have Hfin : Hid ((W1.setCells g (i + m) (List.replicate (j - (i + m)) (.int .i64 0))).ownsRow B 3 1 (.slice (some ⟨g, 0, none⟩) (i + m) cap) (i + m) ((putL l i j vs).map (Value.int .i64)) ∧ w.grownBy (W1.setCells g (i + m) (List.replicate (j - (i + m)) (.int .i64 0))) (some g)) := hid_ (by
      refine ⟨?_, grown_setCells _ _ hbel1⟩
      have hlen := hown1.1
      obtain ⟨h1, -⟩ := own_setCells_at (List.replicate (j - (i + m)) (.int .i64 0)) (i + m) hown1 (by rw [List.length_replicate]; omega)
      have h2 := own_cut h1 (show i + m ≤ j by omega)
      have e : ∀ (Q Z : List Value), Q.length = j → (Q.take (i + m) ++ Z ++ Q.drop (i + m + Z.length)).take ((i + m) * 1) = Q.take (i + m) := fun Q Z hQ => by
        rw [List.append_assoc, Nat.mul_one, List.take_left' (by rw [List.length_take]; omega)]
      rw [e _ _ (by rw [hlen, Nat.mul_one])] at h2
      rw [← hR'.out]
      have e2 : ((cur.take j).take i ++ V ++ (cur.take j).drop (i + V.length)).take (i + m) = cur.take i ++ V := by
        rw [List.take_left' (by rw [List.length_append, List.length_take, List.length_take]; omega), List.take_take, Nat.min_eq_left (by omega)]
      rw [e2] at h2
      exact h2)
    have hlt1 : decide (((i + m : Nat) : Int) < (j : Int)) = true := by simp; omega
    have hlt2 : decide ((i : Int) + m < (j : Int)) = true := by simp; omega
    have hlt3 : (i : Int) + m ≤ (j : Int) := by omega
    have hlt4 : i + m < j := hlt
    have hcim : ¬ cap = i + m := by omega
    have hw0 : (0 : Int) ≤ (i : Int) + m := by omega
    have hw1 : ((i : Int) + m).toNat = i + m := by omega
    have hroom := hroom
    have Hown1 := hid_ hown1
    have HW := hid_ hW1
    clear hown1 hownN hW1 hbel1 hR hXc hVc hv hVe hX hV hg3 HH
    go_enter Tryz.func117, Tryz.ntmps117
    go_wp2_with (at_builtin; refine Lib.wpList_append_run _ rfl (.tmp 32) (.tmp 33) _ _ rfl _ _ rfl rfl _ _ (hroom _) ?_)
    go_ret
    exact ⟨_, rfl, Hfin.out.1, Hfin.out.2, .inl rfl⟩
  · have hownN := own_close (n := i) (xs := (l.take i).map (Value.int .i64)) hg1 hg3 hcl (by omega) hcm (by
      have h := congrArg (List.take i) hR'.out
      rw [List.take_left' (by rw [List.length_take]; omega)] at h
      rw [h, ← List.map_take, putL, List.append_assoc, List.take_append_of_le_length]
      · rw [List.take_take, Nat.min_self]
      · rw [List.length_take]
        have h1 := congrArg List.length hR'.out
        rw [List.length_append, List.length_take, List.length_map, putL, List.length_append, List.length_append, List.length_take, List.length_drop, hV, hv.len] at h1
        omega)
    have Hown := hid_ hownN
    have Hput : Hid (l.take i ++ vs = putL l i j vs) := hid_ (by
      have h1 := congrArg List.length hR'.out
      rw [List.length_append, List.length_take, List.length_map, putL, List.length_append, List.length_append, List.length_take, List.length_drop, hV, hv.len] at h1
      rw [putL, List.drop_of_length_le (by omega), List.append_nil])
    have hlt1 : decide (((i + m : Nat) : Int) < (j : Int)) = false := by simp; omega
    have hlt2 : decide ((i : Int) + m < (j : Int)) = false := by simp; omega
    have hlt4 : ¬ i + m < j := hlt
    clear hownN hR hXc hVc hVe hX hV hg3 HH
    go_enter Tryz.func117, Tryz.ntmps117
    go_wp2_with (at_builtin; refine wpList_append_ints _ rfl (.tmp 32) (.tmp 33) _ rfl B 3 i0 Tryz.underlying23 hi0 hz0 hz1 hz2 _ _ _ rfl Hown.out _ _ _ _ rfl hv (by omega) hB ?_; intro v' w1 hown1 hg1' hat1; obtain ⟨a9, c9, rfl, -⟩ := IntsAt.own hown1)
    go_ret
    rw [Hput.out] at hown1
    exact ⟨_, rfl, hown1, hg1', hat1.imp id fun h => ⟨_, h, Nat.le_refl _⟩⟩

set_option maxRecDepth 100000 in
set_option maxHeartbeats 2000000 in
/-- there is room, and what is put in is no longer than what goes -/
theorem replaceC_calls {B i j r m c g cap : Nat} {cur X V : List Value} {l vs : List Int} {w : World} {A : Option Addr} (H : RepAt w B g cap i j r m A c cur X V l vs) (hr : 0 < r) (hroom : i + m ≤ j) :
    Calls Tryz.prog 117 #[.slice (some ⟨g, 0, none⟩) (j + r) cap, .int .i64 i, .int .i64 j, .slice A m c] w fun e w' => OwnPost B (i + m + r) (putL l i j vs) (some g) w e w' := by
  have HH := hid_ H
  obtain ⟨hg1, hg2, hg3, hcl, hnc, hcm, hij, hs, hB, hX, hV, hX1, hV1, hXc, hVc, hR, hv, hne, hVe⟩ := H
  have hij0 : ((i : Int) == (j : Int)) = false := by simp; omega
  have hij1 : (i : Int) ≤ (j : Int) := by omega
  have hij2 : (j : Int) ≤ (cap : Int) := by omega
  have hij3 : (i : Int) ≤ (cap : Int) := by omega
  have hij4 : (j : Int) ≤ ((j + r : Nat) : Int) := by omega
  have hij5 : (j : Int) ≤ (j : Int) + r := by omega
  have hjn : ((j : Int) == ((j + r : Nat) : Int)) = false := by simp; omega
  have hjn2 : ((j : Int) == (j : Int) + r) = false := by simp; omega
  have hci : ¬ cap = i := by omega
  have hcj : ¬ cap = j := by omega
  have hsub : j + r - j = r := by omega
  have hw1 : IntKind.i64.wrap ((i : Int) + (m : Int)) = (i : Int) + m := IntWalk.i64_in _ (by omega)
  have hw2 : IntKind.i64.wrap ((i : Int) + (m : Int) + (r : Int)) = (i : Int) + m + r := IntWalk.i64_in _ (by omega)
  have hw3 : ((i : Int) + (m : Int)).toNat = i + m := by omega
  have hw4 : ((i : Int) + (m : Int) + r).toNat = i + m + r := by omega
  have hw5 : (0 : Int) ≤ (i : Int) + m := by omega
  have hw6 : (0 : Int) ≤ (i : Int) + m + r := by omega
  have hw7 : (i : Int) + m ≤ (i : Int) + m + r := by omega
  have hw8 : (i : Int) ≤ (i : Int) + m + r := by omega
  have hcc : decide ((cap : Int) < (i : Int) + m + r) = false := by simp; omega
  have hc1 : (i : Int) + m + r ≤ (cap : Int) := by omega
  have hc2 : (i : Int) + m ≤ (j : Int) := by omega
  have hcim : ¬ cap = i + m := by omega
  have HX := hid_ hX
  have HV := hid_ hV
  have Hmin2 : Hid (V.length = Nat.min m (i + m + r - i)) := hid_ (by rw [HV.out]; simp only [Nat.min_def]; split <;> omega)
  have Hfit2 : Hid (i + V.length ≤ cur.length) := hid_ (by rw [hcl, HV.out]; omega)
  have Hl2 : Hid ((splice cur i V).length = cap) := hid_ (by rw [length_splice _ _ _ Hfit2.out, hcl])
  have Hmin : Hid (X.length = Nat.min r (i + m + r - (i + m))) := hid_ (by rw [HX.out]; simp only [Nat.min_def]; split <;> omega)
  have Hfit : Hid (i + m + X.length ≤ (splice cur i V).length) := hid_ (by rw [HX.out, Hl2.out]; omega)
  have Hl3 : Hid ((splice (splice cur i V) (i + m) X).length = cap) := hid_ (by rw [length_splice _ _ _ Hfit.out, Hl2.out])
  have Hsp : Hid ((splice (splice cur i V) (i + m) X).take (i + m + r) = (putL l i j vs).map (Value.int .i64)) := hid_ (by
    rw [← hR]
    exact splice_in' cur X V HX.out HV.out (by omega))
  have HVc := hid_ (fun h0 => hVc w (Below.refl _ _) h0)
  have HXs : Hid (∀ w' : World, w'.heap[g]? = some (.cells (splice cur i V).toArray 3 (0, 0)) → ∀ k u, X[k]? = some u → w'.cell? ((⟨g, j, none⟩ : Addr).add k) = some u) := hid_ (by
    intro w' hw' k u hk
    have h1 := hXc w hg3 k u hk
    rw [add_at, row_cell hg3] at h1
    rw [add_at, row_cell hw', ← h1, splice]
    rw [← List.append_assoc, List.getElem?_append_right (by rw [List.length_append, List.length_take]; omega), List.getElem?_drop]
    congr 1
    rw [List.length_append, List.length_take, HV.out]
    omega)
  clear hXc hVc hR hv hVe hX hV HH hne
  by_cases htot : i + m = j
  · subst htot
    have hlt0 : i + m + r - (i + m + r) = 0 := by omega
    have hce : ∀ W a c', (Builtin.clear_ #[23] 0 #[.slice (some a) 0 c']).run Tryz.prog W = .ok (.tuple #[]) W := fun W a c' => by simp [Builtin.clear_, run_underlying Tryz.underlying23]
    by_cases hct : cap = i + m + r
    · subst hct
      have hr0 : ¬ r = 0 := by omega
      go_enter Tryz.func117, Tryz.ntmps117
      go_wp2
      go_quiet (fail)
      go_wp2_with (refine wpList_copy_row rfl (.tmp 95) (.tmp 96) 23 23 rfl 3 Tryz.underlying23 Tryz.oneInt _ _ _ _ _ _ rfl rfl g i cur 3 hg3 V Hmin2.out (fun h0 => ⟨rfl, HVc.out (by rw [← HV.out]; exact h0)⟩) Hfit2.out hV1 w (grown_drewN (grown_refl _ _) _) ?_; intro w2 hh2 hb2)
      have hXd := HXs.out w2.drew hh2.out
      have Hd : Hid (w.grownBy w2.drew (some g)) := hid_ (grown_drew hb2)
      go_region_law (refine step_copy_row rfl (.tmp 103) (.tmp 106) 23 23 rfl 3 Tryz.underlying23 Tryz.oneInt (some ⟨g, i + m, none⟩) (some ⟨g, i + m, none⟩) (i + m + r - (i + m)) ((i + m + r) - (i + m)) r ((i + m + r) - (i + m)) (by simp [Act.eval, Act.put]) (by simp [Act.eval, Act.put]) g (i + m) (splice cur i V) 3 hh2.out X Hmin.out (fun _ => ⟨rfl, _, rfl, hXd⟩) Hfit.out hX1 w Hd.out ?_; intro w3 hh3 hb3)
      go_wp2
      go_ret
      exact ⟨_, rfl, own_close hg1 hh3.out Hl3.out hnc hcm Hsp.out, hb3, .inl rfl⟩
    ·
      go_enter Tryz.func117, Tryz.ntmps117
      go_wp2
      go_quiet (fail)
      go_wp2_with (refine wpList_copy_row rfl (.tmp 95) (.tmp 96) 23 23 rfl 3 Tryz.underlying23 Tryz.oneInt _ _ _ _ _ _ rfl rfl g i cur 3 hg3 V Hmin2.out (fun h0 => ⟨rfl, HVc.out (by rw [← HV.out]; exact h0)⟩) Hfit2.out hV1 w (grown_drewN (grown_refl _ _) _) ?_; intro w2 hh2 hb2)
      have hXd := HXs.out w2.drew hh2.out
      have Hd : Hid (w.grownBy w2.drew (some g)) := hid_ (grown_drew hb2)
      go_region_law (refine step_copy_row rfl (.tmp 103) (.tmp 106) 23 23 rfl 3 Tryz.underlying23 Tryz.oneInt (some ⟨g, i + m, none⟩) (some ⟨g, i + m, none⟩) (i + m + r - (i + m)) (cap - (i + m)) r (cap - (i + m)) (by simp [Act.eval, Act.put]) (by simp [Act.eval, Act.put]) g (i + m) (splice cur i V) 3 hh2.out X Hmin.out (fun _ => ⟨rfl, _, rfl, hXd⟩) Hfit.out hX1 w Hd.out ?_; intro w3 hh3 hb3)
      go_wp2
      go_ret
      exact ⟨_, rfl, own_close hg1 hh3.out Hl3.out hnc hcm Hsp.out, hb3, .inl rfl⟩
  · have hct : ¬ cap = i + m + r := by omega
    have hk1 : i + m + r ≤ j + r := by omega
    have hk2 : (i : Int) + m + r ≤ ((j + r : Nat) : Int) := by omega
    have hk3 : (i : Int) + m + r ≤ (j : Int) + r := by omega
    have hk4 : 0 < j + r - (i + m + r) := by omega
    have hk5 : (i : Int) + m ≤ (j : Int) := by omega
    go_enter Tryz.func117, Tryz.ntmps117
    go_wp2
    go_quiet (fail)
    go_wp2_with (refine wpList_copy_row rfl (.tmp 95) (.tmp 96) 23 23 rfl 3 Tryz.underlying23 Tryz.oneInt _ _ _ _ _ _ rfl rfl g i cur 3 hg3 V Hmin2.out (fun h0 => ⟨rfl, HVc.out (by rw [← HV.out]; exact h0)⟩) Hfit2.out hV1 w (grown_drewN (grown_refl _ _) _) ?_; intro w2 hh2 hb2)
    have hXd := HXs.out w2.drew hh2.out
    have Hd : Hid (w.grownBy w2.drew (some g)) := hid_ (grown_drew hb2)
    go_region_law (refine step_copy_row rfl (.tmp 103) (.tmp 106) 23 23 rfl 3 Tryz.underlying23 Tryz.oneInt (some ⟨g, i + m, none⟩) (some ⟨g, j, none⟩) (i + m + r - (i + m)) (cap - (i + m)) r (cap - (j)) (by simp [Act.eval, Act.put]) (by simp [Act.eval, Act.put]) g (i + m) (splice cur i V) 3 hh2.out X Hmin.out (fun _ => ⟨rfl, _, rfl, hXd⟩) Hfit.out hX1 w Hd.out ?_; intro w3 hh3 hb3)
    have hownN := own_close (n := j + r) hg1 hh3.out Hl3.out hnc hcm rfl
    have hclear : ∀ ty, (Builtin.clear_ #[23] ty #[.slice (some ⟨g, i + m + r, none⟩) (j + r - (i + m + r)) (cap - (i + m + r))]).run Tryz.prog w3 = .ok (.tuple #[]) (w3.setCells g (i + m + r) (List.replicate (j + r - (i + m + r)) (.int .i64 0))) := fun ty =>
      Lib.run_clear_slice w3 _ _ ty _ Tryz.underlying23 Tryz.zeroInt rfl rfl g (i + m + r) (j + r - (i + m + r)) (cap - (i + m + r)) hk4
        (fun k hk => by
          rw [hownN.cellAt (i + m + r + k) (by omega), List.getElem?_eq_getElem (by have := hownN.1; omega)]; rfl) (fun k _ => hownN.frozenAt _)
    have Hfin : Hid ((w3.setCells g (i + m + r) (List.replicate (j + r - (i + m + r)) (.int .i64 0))).ownsRow B 3 1 (.slice (some ⟨g, 0, none⟩) (i + m + r) cap) (i + m + r) ((putL l i j vs).map (Value.int .i64)) ∧ w.grownBy (w3.setCells g (i + m + r) (List.replicate (j + r - (i + m + r)) (.int .i64 0))) (some g)) := hid_ (by
      refine ⟨?_, grown_setCells _ _ hb3⟩
      have hlen := hownN.1
      obtain ⟨h1, -⟩ := own_setCells_at (List.replicate (j + r - (i + m + r)) (.int .i64 0)) (i + m + r) hownN (by rw [List.length_replicate]; omega)
      have h2 := own_cut h1 (show i + m + r ≤ j + r by omega)
      have e : ∀ (Q Z : List Value), Q.length = j + r → (Q.take (i + m + r) ++ Z ++ Q.drop (i + m + r + Z.length)).take ((i + m + r) * 1) = Q.take (i + m + r) := fun Q Z hQ => by
        rw [List.append_assoc, Nat.mul_one, List.take_left' (by rw [List.length_take]; omega)]
      rw [e _ _ (by rw [hlen, Nat.mul_one]), List.take_take, Nat.min_eq_left (by omega), Hsp.out] at h2
      exact h2)
    have HownN := hid_ hownN; clear hownN
    go_wp2
    go_ret
    exact ⟨_, rfl, Hfin.out.1, Hfin.out.2, .inl rfl⟩
end Go.Proofs.YtebbmhlkdfmmcaaGreat
namespace Go.Proofs.YtebbmhlkdfmmcaaGreat
open Go.RowKit Go.Proofs.Kv

set_option maxRecDepth 100000 in
set_option maxHeartbeats 2000000 in
/-- there is room, and what is put in is longer than what goes -/
theorem replaceD_calls {B i j r m c g cap : Nat} {cur X V : List Value} {l vs : List Int} {w : World} {A : Option Addr} (H : RepAt w B g cap i j r m A c cur X V l vs) (hr : 0 < r) (hlong : j < i + m) (htot : i + m + r ≤ cap) :
    Calls Tryz.prog 117 #[.slice (some ⟨g, 0, none⟩) (j + r) cap, .int .i64 i, .int .i64 j, .slice A m c] w fun e w' => OwnPost B (i + m + r) (putL l i j vs) (some g) w e w' := by
  have HH := hid_ H
  obtain ⟨hg1, hg2, hg3, hcl, hnc, hcm, hij, hs, hB, hX, hV, hX1, hV1, hXc, hVc, hR, hv, hne, hVe⟩ := H
  have hij0 : ((i : Int) == (j : Int)) = false := by simp; omega
  have hij1 : (i : Int) ≤ (j : Int) := by omega
  have hij2 : (j : Int) ≤ (cap : Int) := by omega
  have hij3 : (i : Int) ≤ (cap : Int) := by omega
  have hij4 : (j : Int) ≤ ((j + r : Nat) : Int) := by omega
  have hij5 : (j : Int) ≤ (j : Int) + r := by omega
  have hjn : ((j : Int) == ((j + r : Nat) : Int)) = false := by simp; omega
  have hjn2 : ((j : Int) == (j : Int) + r) = false := by simp; omega
  have hci : ¬ cap = i := by omega
  have hcj : ¬ cap = j := by omega
  have hsub : j + r - j = r := by omega
  have hw1 : IntKind.i64.wrap ((i : Int) + (m : Int)) = (i : Int) + m := IntWalk.i64_in _ (by omega)
  have hw2 : IntKind.i64.wrap ((i : Int) + (m : Int) + (r : Int)) = (i : Int) + m + r := IntWalk.i64_in _ (by omega)
  have hw3 : ((i : Int) + (m : Int)).toNat = i + m := by omega
  have hw4 : ((i : Int) + (m : Int) + r).toNat = i + m + r := by omega
  have hw5 : (0 : Int) ≤ (i : Int) + m := by omega
  have hw6 : (0 : Int) ≤ (i : Int) + m + r := by omega
  have hw7 : (i : Int) + m ≤ (i : Int) + m + r := by omega
  have hw8 : (i : Int) ≤ (i : Int) + m + r := by omega
  have hcc : decide ((cap : Int) < (i : Int) + m + r) = false := by simp; omega
  have hc1 : (i : Int) + m + r ≤ (cap : Int) := by omega
  have hc2 : decide ((i : Int) + m ≤ (j : Int)) = false := by simp; omega
  have hcim : ¬ cap = i + m := by omega
  have hm0 : 0 < m := by omega
  have hov : ∀ la ca, (callFunc 123 #[.slice (some ⟨g, i + m, none⟩) la ca, .slice A m c]).run Tryz.prog w = .ok (.value (.bool false)) w := fun la ca => by
    obtain ⟨b, off, rfl, hb, _⟩ := hv.cells 0 hm0
    obtain ⟨T, k, hsh, hk0⟩ := ints_shape hv hm0
    have hlt := hne hm0 b off rfl
    exact overlaps_own (a := ⟨g, i + m, none⟩) (b := ⟨b, off, none⟩) (by show g ≠ b; omega) (row_shape hg3) hsh (by rw [hcl]; omega) hk0 (.inl ⟨row_free hg3 _, row_free hg3 _⟩)
  have hovd : ∀ q la ca, (callFunc 123 #[.slice (some ⟨g, i + m, none⟩) la ca, .slice A m c]).run Tryz.prog (w.drewN q) = .ok (.value (.bool false)) (w.drewN q) := fun q la ca => by
    obtain ⟨b, off, rfl, hb, _⟩ := hv.cells 0 hm0
    obtain ⟨T, k, hsh, hk0⟩ := ints_shape hv hm0
    have hlt := hne hm0 b off rfl
    exact overlaps_own (w := w.drewN q) (a := ⟨g, i + m, none⟩) (b := ⟨b, off, none⟩) (by show g ≠ b; omega) (row_shape (w := w.drewN q) hg3) hsh (by rw [hcl]; omega) hk0 (.inl ⟨row_free (w := w.drewN q) hg3 _, row_free (w := w.drewN q) hg3 _⟩)
  have HX := hid_ hX
  have HV := hid_ hV
  have Hmin : Hid (X.length = Nat.min r (i + m + r - (i + m))) := hid_ (by rw [HX.out]; simp only [Nat.min_def]; split <;> omega)
  have Hfit : Hid (i + m + X.length ≤ cur.length) := hid_ (by rw [HX.out, hcl]; omega)
  have Hl2 : Hid ((splice cur (i + m) X).length = cap) := hid_ (by rw [length_splice _ _ _ Hfit.out, hcl])
  have Hmin2 : Hid (V.length = Nat.min m (i + m + r - i)) := hid_ (by rw [HV.out]; simp only [Nat.min_def]; split <;> omega)
  have Hfit2 : Hid (i + V.length ≤ (splice cur (i + m) X).length) := hid_ (by rw [Hl2.out, HV.out]; omega)
  have Hl3 : Hid ((splice (splice cur (i + m) X) i V).length = cap) := hid_ (by rw [length_splice _ _ _ Hfit2.out, Hl2.out])
  have Hsp : Hid ((splice (splice cur (i + m) X) i V).take (i + m + r) = (putL l i j vs).map (Value.int .i64)) := hid_ (by
    rw [← hR]
    have := splice_in cur X V (i := i) (m := m) (n := i + r) (by rw [HX.out]; omega) HV.out (by omega) (by omega)
    rw [show i + r + m = i + m + r by omega] at this
    exact this)
  have HVc := hid_ hVc
  have HXc := hid_ hXc
  have Hov := hid_ hov
  have Hovd := hid_ hovd
  clear hXc hVc hR hv hVe hX hV HH hne hov hovd
  go_enter Tryz.func117, Tryz.ntmps117
  go_wp2
  go_quiet (fail)
  have hov1 := Hovd.out nq
  go_wp2
  have hXd := HXc.out ((w.drewN nq).drew) hg3
  have Hd : Hid (w.grownBy ((w.drewN nq).drew) (some g)) := hid_ (grown_drew (grown_drewN (grown_refl _ _) _))
  go_region_law (refine step_copy_row rfl (.tmp 126) (.tmp 129) 23 23 rfl 3 Tryz.underlying23 Tryz.oneInt (some ⟨g, i + m, none⟩) (some ⟨g, j, none⟩) (i + m + r - (i + m)) (cap - (i + m)) r (cap - j) (by simp [Act.eval, Act.put]) (by simp [Act.eval, Act.put]) g (i + m) cur 3 hg3 X Hmin.out (fun _ => ⟨rfl, _, rfl, hXd⟩) Hfit.out hX1 w Hd.out ?_; intro w2 hh2 hb2)
  have hVw := HVc.out w2 (below_of_grown hb2 hB hg1) hm0
  go_wp2_with (refine wpList_copy_row rfl (.tmp 133) (.tmp 134) 23 23 rfl 3 Tryz.underlying23 Tryz.oneInt _ _ _ _ _ _ rfl rfl g i (splice cur (i + m) X) 3 hh2.out V Hmin2.out (fun _ => ⟨rfl, hVw⟩) Hfit2.out hV1 w hb2 ?_; intro w3 hh3 hb3)
  go_ret
  exact ⟨_, rfl, own_close hg1 hh3.out Hl3.out htot hcm Hsp.out, hb3, .inl rfl⟩

set_option maxRecDepth 100000 in
set_option maxHeartbeats 2000000 in
/-- there is no room -/
theorem replaceB_calls {B i j r m c g cap : Nat} {cur X V : List Value} {l vs : List Int} {w : World} {A : Option Addr} (H : RepAt w B g cap i j r m A c cur X V l vs) (hr : 0 < r) (htot : cap < i + m + r) :
    Calls Tryz.prog 117 #[.slice (some ⟨g, 0, none⟩) (j + r) cap, .int .i64 i, .int .i64 j, .slice A m c] w fun e w' => OwnPost B (i + m + r) (putL l i j vs) (some g) w e w' := by
  obtain ⟨i0, hi0, hz0, hz1, hz2⟩ := info_parts Tryz.infoInt
  have HH := hid_ H
  obtain ⟨hg1, hg2, hg3, hcl, hnc, hcm, hij, hs, hB, hX, hV, hX1, hV1, hXc, hVc, hR, hv, hne, hVe⟩ := H
  have hij0 : ((i : Int) == (j : Int)) = false := by simp; omega
  have hij1 : (i : Int) ≤ (j : Int) := by omega
  have hij2 : (j : Int) ≤ (cap : Int) := by omega
  have hij3 : (i : Int) ≤ (cap : Int) := by omega
  have hij4 : (j : Int) ≤ ((j + r : Nat) : Int) := by omega
  have hij5 : (j : Int) ≤ (j : Int) + r := by omega
  have hjn : ((j : Int) == ((j + r : Nat) : Int)) = false := by simp; omega
  have hjn2 : ((j : Int) == (j : Int) + r) = false := by simp; omega
  have hci : ¬ cap = i := by omega
  have hcj : ¬ cap = j := by omega
  have hsub : j + r - j = r := by omega
  have hw1 : IntKind.i64.wrap ((i : Int) + (m : Int)) = (i : Int) + m := IntWalk.i64_in _ (by omega)
  have hw2 : IntKind.i64.wrap ((i : Int) + (m : Int) + (r : Int)) = (i : Int) + m + r := IntWalk.i64_in _ (by omega)
  have hw3 : ((i : Int) + (m : Int)).toNat = i + m := by omega
  have hw4 : ((i : Int) + (m : Int) + r).toNat = i + m + r := by omega
  have hw5 : (0 : Int) ≤ (i : Int) + m := by omega
  have hw6 : (0 : Int) ≤ (i : Int) + m + r := by omega
  have hw7 : (i : Int) + m ≤ (i : Int) + m + r := by omega
  have hw8 : (i : Int) ≤ (i : Int) + m + r := by omega
  have hcc : decide ((cap : Int) < (i : Int) + m + r) = true := by simp; omega
  have hm0 : 0 < m := by omega
  have hold : ∀ q, (Builtin.firstCells i0.size i (.slice (some ⟨g, 0, none⟩) i cap)).run Tryz.prog (w.drewN q).drew = .ok (cur.take i).toArray (w.drewN q).drew := fun q => by
    rw [hz1]
    refine run_firstCells_some (w.drewN q).drew 1 i ⟨g, 0, none⟩ i cap (cur.take i) (by rw [List.length_take]; omega) (fun k v hk => ?_)
    rw [add_at, Nat.zero_add]
    have := row_cell (w := (w.drewN q).drew) hg3 k
    rw [List.getElem?_take] at hk
    split at hk
    · exact this.trans hk
    · cases hk
  have hrz : ∀ q ty, ∃ G, ∃ ROW : List Value, (Builtin.append_ #[23, 3] ty #[.slice (some ⟨g, 0, none⟩) i cap, .int .i64 ((i : Int) + (m : Int) + (r : Int) - (i : Int))]).run Tryz.prog (w.drewN q) =
      .ok (.slice (some ⟨w.heap.size, 0, none⟩) (i + m + r) G) ((w.drewN q).drew.alloc (.cells ROW.toArray 3)) ∧ ROW.length = G ∧ ROW.take i = cur.take i ∧ i + m + r ≤ G ∧ G ≤ 9223372036854775807 := fun q ty => by
    have h := Lib.run_append_grow_zeros (w.drewN q) 23 3 ty 3 i0 _ .i64 .i64 Tryz.underlying23 Tryz.underlying3 hi0 hz0 (some ⟨g, 0, none⟩) i cap (cur.take i) (hold q) (m + r) (by omega) (by omega) (by omega) (by omega) (by rw [hz2]; omega) (by rw [hz2]; exact growslice_fits (by omega) (by omega))
    have hGn : i + (m + r) ≤ grownCap (w.drewN q) (i + (m + r)) cap 3 := grownCap_ge _ _ _ _
    have hG63 : grownCap (w.drewN q) (i + (m + r)) cap 3 ≤ 9223372036854775807 := by
      have := grownCap_le_maxLen (w.drewN q) (i + (m + r)) cap 3 (by unfold maxLen; omega)
      unfold maxLen at this
      omega
    rw [← Nat.add_assoc] at h hGn hG63
    rw [show (i : Int) + (m : Int) + (r : Int) - (i : Int) = ((m + r : Nat) : Int) by omega]
    refine ⟨_, ((cur.take i).toArray ++ Builtin.zeroCells (Value.int .i64 0).cells (m + r) ++ Builtin.zeroCells (Value.int .i64 0).cells (grownCap (w.drewN q) (i + m + r) cap 3 - (i + m + r))).toList, ?_, ?_, ?_, hGn, hG63⟩
    · rw [Array.toArray_toList]; exact h
    · simp [Builtin.zeroCells, Value.cells]; omega
    · have h2 : (cur.take i).length = i := by rw [List.length_take]; omega
      simp only [Array.toList_append, List.append_assoc]
      rw [List.take_left' h2]
  have HX := hid_ hX
  have HV := hid_ hV
  have Hmin2 : Hid (V.length = Nat.min m (i + m + r - i)) := hid_ (by rw [HV.out]; simp only [Nat.min_def]; split <;> omega)
  have Hmin : Hid (X.length = Nat.min r (i + m + r - (i + m))) := hid_ (by rw [HX.out]; simp only [Nat.min_def]; split <;> omega)
  have hXw : ∀ w', Below w.heap.size w w' → ∀ k u, X[k]? = some u → w'.cell? ((⟨g, j, none⟩ : Addr).add k) = some u := fun w' hw' => hXc w' (by rw [hw'.block g hg2]; exact hg3)
  have hVw : ∀ w', Below w.heap.size w w' → ∃ ad, A = some ad ∧ ∀ k u, V[k]? = some u → w'.cell? (ad.add k) = some u := fun w' hw' => hVc w' (hw'.mono hB) hm0
  have HXw := hid_ hXw
  have HVw := hid_ hVw
  have HR := hid_ hR
  have Hrz := hid_ hrz
  have hw9 : IntKind.i64.wrap ((i : Int) + (m : Int) + (r : Int) - (i : Int)) = (i : Int) + m + r - i := IntWalk.i64_in _ (by omega)
  clear hXc hVc hR hv hVe hX hV HH hne hXw hVw hold hrz
  go_enter Tryz.func117, Tryz.ntmps117
  go_wp2
  go_quiet (fail)
  obtain ⟨G, ROW, hrun, hRl, hRt, hGn, hG63⟩ := Hrz.out nq 3
  obtain ⟨W1, hW1⟩ : ∃ W1, W1 = (w.drewN nq).drew.alloc (.cells ROW.toArray 3) := ⟨_, rfl⟩
  rw [← hW1] at hrun
  have HW1 : Hid (W1.heap[w.heap.size]? = some (.cells ROW.toArray 3 (0, 0)) ∧ Below w.heap.size w W1) := hid_ (by
    rw [hW1]
    refine ⟨?_, ?_⟩
    · show (w.heap.push _)[w.heap.size]? = _
      simp
    · exact (Below.drew (below_drewN (Below.refl _ w) _)).alloc (Nat.le_refl _) _)
  have hc2 : ¬ G = i + m := by omega
  have hc4 : ¬ G = i := by omega
  have HRl := hid_ hRl
  have HRt := hid_ hRt
  have Hfit2 : Hid (i + V.length ≤ ROW.length) := hid_ (by rw [HRl.out, HV.out]; omega)
  have Hl2 : Hid ((splice ROW i V).length = G) := hid_ (by rw [length_splice _ _ _ Hfit2.out, HRl.out])
  have Hfit : Hid (i + m + X.length ≤ (splice ROW i V).length) := hid_ (by rw [HX.out, Hl2.out]; omega)
  have hVw1 := HVw.out W1 HW1.out.2
  have HWe := hid_ hW1
  clear hW1 hRl hRt
  go_wp2_with (first
    | (at_builtin; refine Lib.wpList_append_run _ rfl (.tmp 63) (.tmp 66) _ _ rfl _ _ rfl rfl _ _ hrun ?_)
    | (refine wpList_copy_splice rfl (.tmp 70) (.tmp 71) 23 23 rfl 3 Tryz.underlying23 Tryz.oneInt _ _ _ _ _ _ rfl rfl w.heap.size i ROW 3 HW1.out.1 V Hmin2.out (fun _ => ⟨rfl, hVw1⟩) Hfit2.out hV1 w.heap.size w HW1.out.2 (Nat.le_refl _) ?_; intro w2 hh2 hb2))
  have hXd := HXw.out w2.drew (Below.drew hb2)
  have Hd : Hid (Below w.heap.size w w2.drew) := hid_ (Below.drew hb2)
  go_region_law (refine step_copy_splice rfl (.tmp 78) (.tmp 81) 23 23 rfl 3 Tryz.underlying23 Tryz.oneInt (some ⟨w.heap.size, i + m, none⟩) (some ⟨g, j, none⟩) (i + m + r - (i + m)) (G - (i + m)) r (cap - j) (by simp [Act.eval, Act.put]) (by simp [Act.eval, Act.put]) w.heap.size (i + m) (splice ROW i V) 3 hh2.out X Hmin.out (fun _ => ⟨rfl, _, rfl, hXd⟩) Hfit.out hX1 w.heap.size w Hd.out (Nat.le_refl _) ?_; intro w3 hh3 hb3)
  go_wp2
  go_ret
  refine ⟨_, rfl, own_close hB hh3.out (by rw [length_splice _ _ _ Hfit.out, Hl2.out]) hGn hG63 ?_, grown_of_below hb3 _, .inr ⟨_, rfl, Nat.le_refl _⟩⟩
  rw [← HR.out, ← HRt.out]
  exact splice_in' ROW X V HX.out HV.out (by rw [HRl.out]; omega)

theorem OwnPost.at_ {B n n' : Nat} {l l' : List Int} {row : Option Nat} {w w' : World} {e : Ending} (h : OwnPost B n l row w e w') (hn : n = n') (hl : l = l') : OwnPost B n' l' row w e w' := by subst hn; subst hl; exact h
set_option maxRecDepth 100000 in
/-- slices.Replace of what stands from i to j in an own row -/
theorem replace_calls {B n i j m c : Nat} {v : Value} {l : List Int} {w : World} {A : Option Addr} {vs : List Int} (hown : w.ownsRow B 3 1 v n (l.map (Value.int .i64))) (hB : B ≤ w.heap.size) (hij : i ≤ j) (hj : j ≤ n)
    (hv : IntsAt w A m c vs) (hne : 0 < m → ∀ b off, A = some ⟨b, off, none⟩ → b < B) (hs : n + m ≤ 100000) :
    Calls Tryz.prog 117 #[v, .int .i64 i, .int .i64 j, .slice A m c] w fun e w' => OwnPost B (n - (j - i) + m) (putL l i j vs) v.ownBlock w e w' := by
  by_cases he : i = j
  · subst he
    have Hin := hid_ (insert_calls hown hB hj hv hne hs)
    have hii : ((i : Int) == (i : Int)) = true := by simp
    rcases own_open hown with ⟨rfl, rfl, h0⟩ | ⟨g, cap, cur, rfl, hg1, hg2, hg3, hcl, hnc, hcm, hct⟩
    · obtain rfl : i = 0 := by omega
      clear hown
      go_enter Tryz.func117, Tryz.ntmps117
      go_wp2_with (go_at_call 122; refine (Hin.out).mono ?_; rintro e w' ⟨v', rfl, hw'⟩)
      go_ret
      exact OwnPost.at_ ⟨_, rfl, hw'⟩ (by omega) rfl
    · have hic : (i : Int) ≤ (cap : Int) := by omega
      clear hown hg3 hct
      by_cases hci : cap = i
      all_goals
        try subst hci
        go_enter Tryz.func117, Tryz.ntmps117
        go_wp2_with (go_at_call 122; refine (Hin.out).mono ?_; rintro e w' ⟨v', rfl, hw'⟩)
        go_ret
        exact OwnPost.at_ ⟨_, rfl, hw'⟩ (by omega) rfl
  · rcases own_open hown with ⟨rfl, rfl, h0⟩ | ⟨g, cap, cur, rfl, hg1, hg2, hg3, hcl, hnc, hcm, hct⟩
    · omega
    · obtain ⟨r, rfl⟩ : ∃ r, n = j + r := ⟨n - j, by omega⟩
      obtain ⟨X, V, H⟩ := repAt (i := i) hg1 hg2 hg3 hcl hnc hcm hct hB (by omega) hv hne (by omega)
      by_cases hr : r = 0
      · subst hr
        exact (replaceA_calls H).mono fun e w' h => h.at_ (by omega) rfl
      · by_cases htot : cap < i + m + r
        · exact (replaceB_calls H (by omega) htot).mono fun e w' h => h.at_ (by omega) rfl
        · by_cases hle : i + m ≤ j
          · exact (replaceC_calls H (by omega) hle).mono fun e w' h => h.at_ (by omega) rfl
          · exact (replaceD_calls H (by omega) (by omega) (by omega)).mono fun e w' h => h.at_ (by omega) rfl
end Go.Proofs.YtebbmhlkdfmmcaaGreat
namespace Go.Proofs.YtebbmhlkdfmmcaaGreat
open Go.RowKit Go.Proofs.Kv

/-! ### slices.Reverse of a row of the call's own -/
def revAt (l : List Int) (n k i : Nat) : Int := if i < k ∨ n - 1 - k < i then l.getD (n - 1 - i) 0 else l.getD i 0
theorem below_drew1 {B : Nat} {w w' : World} (h : Below B w w') : Below B w w'.drew := Below.drew h
theorem heap_drew (w : World) : w.drew.heap = w.heap := rfl
set_option maxRecDepth 100000 in
set_option maxHeartbeats 4000000 in
theorem reverse_calls (B n c : Nat) (a : Option Addr) (l : List Int) (w : World) (h : w.ownsRow B 3 1 (.slice a n c) n (l.map (Value.int .i64))) (hB : B ≤ w.heap.size) (hn : n ≤ 1000) :
    Calls Tryz.prog 128 #[.slice a n c] w fun e w' => e = .returned (.tuple #[]) ∧ w'.ownsRow B 3 1 (.slice a n c) n (l.reverse.map (Value.int .i64)) ∧ Below B w w' := by
  have hl : l.length = n := by have := h.1; simpa using this
  by_cases h0 : n = 0
  · subst h0
    have e0 : l = [] := List.eq_nil_of_length_eq_zero hl
    subst e0
    have Hh := hid_ h; clear h
    go_enter Tryz.func128, Tryz.ntmps128
    go_wp2
    go_loopw [2, 3] (fun i j wr => i = .int .i64 0 ∧ j = .int .i64 (-1) ∧ wr = w) (fun i _ _ => 0)
    case atStart => exact ⟨rfl, rfl, rfl⟩
    case round =>
      obtain ⟨rfl, rfl, rfl⟩ := hrel
      go_wp2
      go_end0
      exact ⟨rfl, Hh.out, Below.refl _ _⟩
  · obtain ⟨g, cur0, rfl, hg, hcur, hsz, htk⟩ : ∃ g cur, a = some ⟨g, 0, none⟩ ∧ B ≤ g ∧ w.heap[g]? = some (.cells cur 3 (0, 0)) ∧ cur.size = c ∧ cur.toList.take n = l.map (Value.int .i64) := by
      rcases h.2 with ⟨_, h2⟩ | ⟨g, cap, cur, h1, h2, h3, h4, _, h6, h7⟩
      · exact absurd h2 h0
      · injection h1 with h1 _ h5
        subst h1; subst h5
        exact ⟨g, cur, rfl, h2, h3, by omega, by simpa using h7⟩
    have hcap : n ≤ c ∧ c ≤ maxLen := by
      rcases h.2 with ⟨h1, _⟩ | ⟨_, cap, _, h1, _, _, h4, h5, _, _⟩
      · injection h1 with h1; cases h1
      · injection h1 with _ _ h1; subst h1; exact ⟨h4, h5⟩
    have hstart : ∀ i, i < n → cur0[i]? = some (.int .i64 (revAt l n 0 i)) := by
      intro i hi
      have h1 : (cur0.toList.take n)[i]? = (l.map (Value.int .i64))[i]? := by rw [htk]
      rw [List.getElem?_take_of_lt hi, Array.getElem?_toList, List.getElem?_map, List.getElem?_eq_getElem (by omega)] at h1
      rw [h1, revAt, if_neg (by omega), List.getD, List.getElem?_eq_getElem (by omega)]
      rfl
    have Hl := hid_ hl
    clear h htk
    go_enter Tryz.func128, Tryz.ntmps128
    go_wp2
    go_loopw [2, 3] (fun i j wr => ∃ (k : Nat) (cur : Array Value), k ≤ n / 2 ∧ i = .int .i64 k ∧ j = .int .i64 ((n : Int) - 1 - k) ∧ wr.heap[g]? = some (.cells cur 3 (0, 0)) ∧ cur.size = c ∧ (∀ i, i < n → cur[i]? = some (.int .i64 (revAt l n k i))) ∧ Below B w wr) (fun i _ _ => n - (intOf i).toNat)
    case atStart => exact ⟨0, cur0, Nat.zero_le _, rfl, by simp, hcur, hsz, hstart, Below.refl _ _⟩
    case round =>
      clear hcur hsz hstart cur0
      obtain ⟨k, cur, hk, rfl, rfl, hcur, hsz, hall, hbel⟩ := hrel
      have Hall := hid_ hall; clear hall
      have Hcur := hid_ hcur; clear hcur
      by_cases hlt : (k : Int) < (n : Int) - 1 - k
      · have hj0 : (0 : Int) ≤ (n : Int) - 1 - k := by omega
        have hjm : (n : Int) - 1 - k < n := by omega
        obtain ⟨j, hj⟩ : ∃ j : Nat, (n : Int) - 1 - k = j := ⟨n - 1 - k, by omega⟩
        have Hj := hid_ hj
        rw [hj] at hlt hj0 hjm ⊢
        clear hj
        have hkj : k < j := by omega
        have hkn : (k : Int) < (n : Int) := by omega
        have hc1 : wr.cell? ⟨g, k, none⟩ = some (.int .i64 (l.getD k 0)) := by rw [Go.Joins.cell_of_block Hcur.out, Hall.out k (by omega), revAt, if_neg (by have := Hj.out; omega)]
        have hc2 : wr.cell? ⟨g, j, none⟩ = some (.int .i64 (l.getD j 0)) := by rw [Go.Joins.cell_of_block Hcur.out, Hall.out j (by omega), revAt, if_neg (by have := Hj.out; omega)]
        have hf1 : wr.frozen? ⟨g, k, none⟩ = false := Go.Joins.unfrozen_of_block Hcur.out k
        have hf2 : wr.frozen? ⟨g, j, none⟩ = false := Go.Joins.unfrozen_of_block Hcur.out j
        generalize hx : l.getD k 0 = x at hc1
        generalize hy : l.getD j 0 = y at hc2
        have Hx := hid_ hx; clear hx
        have Hy := hid_ hy; clear hy
        go_wp2
        go_region
        have Hcur2 : Hid ((((wr.setCell ⟨g, k, none⟩ (.int .i64 y)).setCell ⟨g, j, none⟩ (.int .i64 x)).drew).heap[g]? = some (.cells ((cur.setIfInBounds k (.int .i64 y)).setIfInBounds j (.int .i64 x)) 3 (0, 0))) := hid_ (by
          rw [heap_drew]; exact Go.Joins.block_setCell (Go.Joins.block_setCell Hcur.out _) _)
        have Hbel2 : Hid (Below B w (((wr.setCell ⟨g, k, none⟩ (.int .i64 y)).setCell ⟨g, j, none⟩ (.int .i64 x)).drew)) := hid_ (Below.drew (Below.setCell (Below.setCell hbel hg _) hg _))
        go_wp2
        go_roundw
        case rel =>
          refine ⟨k + 1, _, by have := Hj.out; omega, by go_num, by have := Hj.out; congr 1; omega, Hcur2.out, by simpa using hsz, fun i hi => ?_, Hbel2.out⟩
          have hjn := Hj.out
          have hkc : k < cur.size := by have := hcap.1; omega
          have hjc : j < cur.size := by have := hcap.1; omega
          rw [Array.getElem?_setIfInBounds, Array.getElem?_setIfInBounds]
          by_cases e1 : j = i
          · subst e1
            rw [if_pos rfl, if_pos (by simpa using hjc), revAt, if_pos (by omega), ← Hx.out, show n - 1 - j = k by omega]
          · rw [if_neg e1]
            by_cases e2 : k = i
            · subst e2
              rw [if_pos rfl, if_pos hkc, revAt, if_pos (by omega), ← Hy.out, show n - 1 - k = j by omega]
            · rw [if_neg e2, Hall.out i hi, revAt, revAt]
              by_cases e3 : i < k ∨ n - 1 - k < i
              · rw [if_pos e3, if_pos (by omega)]
              · rw [if_neg e3, if_neg (by omega)]
        case measure => simp [intOf]; omega
      · go_wp2
        go_end0
        refine ⟨rfl, ⟨by simp [Hl.out], .inr ⟨g, c, cur, rfl, hg, Hcur.out, hcap.1, hcap.2, by omega, ?_⟩⟩, hbel⟩
        apply List.ext_getElem?
        intro i
        by_cases hi : i < n
        · rw [List.getElem?_take_of_lt (by omega), Array.getElem?_toList, Hall.out i hi, ← List.map_reverse, List.getElem?_map, List.getElem?_reverse (by rw [Hl.out]; exact hi), Hl.out, List.getElem?_eq_getElem (by rw [Hl.out]; omega)]
          simp only [Option.map_some, revAt]
          split
          · rw [List.getD, List.getElem?_eq_getElem (by rw [Hl.out]; omega)]; rfl
          · rw [List.getD, List.getElem?_eq_getElem (by rw [Hl.out]; omega)]
            have : n - 1 - i = i := by omega
            simp [this]
        · rw [List.getElem?_take_eq_none (by omega), List.getElem?_eq_none (by simp [Hl.out]; omega)]
end Go.Proofs.YtebbmhlkdfmmcaaGreat
