import Derived.Test.YtdnlpikfibdjoaaKa
import Derived.Laws.CopyOwn
import Derived.Lib.AppendZerosOnto
import Derived.Lib.SliceRun
import Derived.Laws.Externs
import Derived.OwnWalk
import Derived.Lib.SmallJoins
import Derived.Deep.OwnRows
import Derived.RegionTactic
import Derived.ChangeAlike
import Derived.BigRegion
namespace Go.Proofs.Kv
open Go Go.RowKit

theorem own_open {w : World} {B E n : Nat} {v : Value} {xs : List Value} (h : w.ownsRow B E 1 v n xs) :
    (v = .slice none 0 0 ∧ n = 0 ∧ xs = []) ∨ ∃ g cap, ∃ cur : List Value, v = .slice (some ⟨g, 0, none⟩) n cap ∧ B ≤ g ∧ g < w.heap.size ∧ w.heap[g]? = some (.cells cur.toArray E (0, 0)) ∧ cur.length = cap ∧ n ≤ cap ∧ cap ≤ 9223372036854775807 ∧ cur.take n = xs := by
  obtain ⟨h1, h2⟩ := h
  rcases h2 with ⟨rfl, rfl⟩ | ⟨g, cap, cur, rfl, hb, hg, hn, hm, hs, ht⟩
  · exact .inl ⟨rfl, rfl, List.eq_nil_of_length_eq_zero (by simpa using h1)⟩
  · refine .inr ⟨g, cap, cur.toList, rfl, hb, (Array.getElem?_eq_some_iff.1 hg).1, by simpa using hg, by simpa using hs, hn, by unfold maxLen at hm; omega, by simpa using ht⟩
theorem own_close {w : World} {B E n g cap : Nat} {cur xs : List Value} (hb : B ≤ g) (hg : w.heap[g]? = some (.cells cur.toArray E (0, 0))) (hc : cur.length = cap) (hn : n ≤ cap) (hm : cap ≤ 9223372036854775807) (ht : cur.take n = xs) :
    w.ownsRow B E 1 (.slice (some ⟨g, 0, none⟩) n cap) n xs :=
  ⟨by rw [← ht, List.length_take]; omega, .inr ⟨g, cap, cur.toArray, rfl, hb, hg, hn, by unfold maxLen; omega, by simpa using hc, by simpa using ht⟩⟩
theorem row_cell {w : World} {E g : Nat} {cur : List Value} (hg : w.heap[g]? = some (.cells cur.toArray E (0, 0))) (j : Nat) : w.cell? ⟨g, j, none⟩ = cur[j]? := by
  unfold World.cell?
  simp only [hg]
  simp
theorem row_free {w : World} {E g : Nat} {cs : Array Value} (hg : w.heap[g]? = some (.cells cs E (0, 0))) (j : Nat) : w.frozen? ⟨g, j, none⟩ = false := by
  unfold World.frozen?
  simp only [hg]
  simp
theorem row_shape {w : World} {E g : Nat} {cur : List Value} (hg : w.heap[g]? = some (.cells cur.toArray E (0, 0))) : w.shape? g = some (E, cur.length) := by
  unfold World.shape?
  simp only [hg]
  simp
theorem add_at (g o j : Nat) : (⟨g, o, none⟩ : Addr).add j = ⟨g, o + j, none⟩ := by unfold Addr.add; split <;> simp_all
theorem splice_take {α : Type} (L : List α) {o i : Nat} (X : List α) (h : i ≤ o) (hl : o ≤ L.length) : (splice L o X).take i = L.take i := by
  unfold splice
  rw [List.take_append_of_le_length (by rw [List.length_take]; omega), List.take_take, Nat.min_eq_left h]
theorem splice_drop {α : Type} (L : List α) {o : Nat} (X : List α) (hl : o ≤ L.length) : (splice L o X).drop o = X ++ L.drop (o + X.length) := by
  unfold splice
  rw [List.drop_left' (by rw [List.length_take]; omega)]
/-- first what stood behind goes to its place, then what is put in -/
theorem splice_in {α : Type} (cur X vs : List α) {i m n : Nat} (hX : X.length = n - i) (hv : vs.length = m) (hi : i ≤ n) (hl : n + m ≤ cur.length) :
    (splice (splice cur (i + m) X) i vs).take (n + m) = cur.take i ++ vs ++ X := by
  have e : splice (splice cur (i + m) X) i vs = (cur.take i ++ vs ++ X) ++ cur.drop (i + m + X.length) := by
    rw [splice, hv, splice_take _ _ (by omega) (by omega), splice_drop _ _ (by omega)]
    simp only [List.append_assoc]
  rw [e, List.take_left' (by simp only [List.length_append, List.length_take]; omega)]
/-- first what is put in, then what stood behind -/
theorem splice_in' {α : Type} (cur X vs : List α) {i m k : Nat} (hX : X.length = k) (hv : vs.length = m) (hl : i + m + k ≤ cur.length) :
    (splice (splice cur i vs) (i + m) X).take (i + m + k) = cur.take i ++ vs ++ X := by
  have e : splice (splice cur i vs) (i + m) X = (cur.take i ++ vs ++ X) ++ (splice cur i vs).drop (i + m + X.length) := by
    rw [splice]
    have : (splice cur i vs).take (i + m) = cur.take i ++ vs := by
      rw [splice, ← List.append_assoc, List.take_left' (by simp only [List.length_append, List.length_take]; omega)]
    rw [this]
    simp only [List.append_assoc]
  rw [e, List.take_left' (by simp only [List.length_append, List.length_take]; omega)]
/-- slices.overlaps of two slices in two blocks that hold cells, of which one is a row of the call's own -/
theorem run_overlaps_own {P : Program} (w : World) (tS tR e : TypeId) (ht : P.underlying tS = some (.slice e)) (size : Nat) (hz : ∀ w, (Go.sizeOf e).run P w = .ok size w)
    (a b : Addr) (la ca lb cb : Nat) (hne : a.block ≠ b.block) (tA tB : TypeId) (kA kB : Nat)
    (hsa : w.shape? a.block = some (tA, kA)) (hsb : w.shape? b.block = some (tB, kB)) (hkA : kA ≠ 0) (hkB : kB ≠ 0)
    (hf : (w.frozen? a = false ∧ w.frozen? { block := a.block, off := kA } = false) ∨ (w.frozen? b = false ∧ w.frozen? { block := b.block, off := kB } = false)) :
    (Extern.SlicesOverlaps.overlaps #[tS, tS] #[tR] #[.slice (some a) la ca, .slice (some b) lb cb]).run P w = .ok (.bool false) w := by
  have hnb : (a.block != b.block) = true := by simpa using hne
  have hnb' : (a.block == b.block) = false := by simpa using hne
  change Sem.run P (α := Value) (do
    let some t := (#[tS, tS] : Array TypeId)[0]? | stuck "slices.overlaps: no parameter types"
    let .slice elem ← underlying t | stuck "slices.overlaps: slice type expected"
    let size ← sizeOf elem
    match (some a : Option Addr), (some b : Option Addr) with
    | some a, some b =>
      if la = 0 ∨ lb = 0 ∨ size = 0 then pure (Value.bool false)
      else if a.block != b.block && (← frozen a) && (← frozen b) then unsupported .addressObserved
      else do
        if a.block != b.block then do
          noView a; noView b
          if ← mayBeOne a b then return Value.bool ((← choose (.extern "sameAddr.stringBytes" 2)) == 1)
        pure (Value.bool (a.block == b.block && a.off < b.off + lb * size && b.off < a.off + la * size))
    | _, _ => pure (Value.bool false)) w = _
  by_cases h0 : la = 0 ∨ lb = 0 ∨ size = 0
  · simp [run_underlying ht, hz, h0]
  · cases kA with
    | zero => exact absurd rfl hkA
    | succ kA =>
      cases kB with
      | zero => exact absurd rfl hkB
      | succ kB =>
        rcases hf with ⟨h1, h2⟩ | ⟨h1, h2⟩
        · cases hb : w.frozen? b <;> cases hb2 : w.frozen? { block := b.block, off := kB + 1 } <;>
            simp [run_underlying ht, hz, h0, hnb, hnb', frozen, noView, viewAt, mayBeOne, stringish, shape, Sem.run, hsa, hsb, h1, h2, hb, hb2]
        · cases hb : w.frozen? a <;> cases hb2 : w.frozen? { block := a.block, off := kA + 1 } <;>
            simp [run_underlying ht, hz, h0, hnb, hnb', frozen, noView, viewAt, mayBeOne, stringish, shape, Sem.run, hsa, hsb, h1, h2, hb, hb2]
theorem grown_refl (w : World) (row : Option Nat) : w.grownBy w row := ⟨rfl, rfl, rfl, Nat.le_refl _, fun _ _ _ => rfl⟩
theorem grown_drewN {w0 w : World} {row : Option Nat} (h : w0.grownBy w row) (q : Nat) : w0.grownBy (w.drewN q) row := ⟨h.os, h.tape, h.output, h.size, h.block⟩
theorem grown_drew {w0 w : World} {row : Option Nat} (h : w0.grownBy w row) : w0.grownBy w.drew row := ⟨h.os, h.tape, h.output, h.size, h.block⟩
theorem grown_setRow {w0 w : World} {g : Nat} (h : w0.grownBy w (some g)) (cs : Array Value) : w0.grownBy (w.setRow g cs) (some g) :=
  ⟨h.os, h.tape, h.output, by simpa [World.setRow] using h.size, fun k hk hne => by rw [setRow_other w g k cs (fun e => hne (by rw [e]))]; exact h.block k hk hne⟩
theorem grown_setCells {w0 : World} {g : Nat} : ∀ (vs : List Value) (o : Nat) {w : World}, w0.grownBy w (some g) → w0.grownBy (w.setCells g o vs) (some g)
  | [], _, _, h => h
  | v :: vs, o, w, h => grown_setCells vs (o + 1) ⟨h.os, h.tape, h.output, by simpa [World.setCell] using h.size, fun k hk hne => by rw [Below.heap_setCell _ _ _ _ (fun e => hne (by rw [e]))]; exact h.block k hk hne⟩
theorem grown_of_below {w w' : World} (h : Below w.heap.size w w') (row : Option Nat) : w.grownBy w' row := ⟨h.os, h.tape, h.output, h.size, fun k hk _ => h.block k hk⟩
theorem below_of_grown {w w' : World} {g B : Nat} (h : w.grownBy w' (some g)) (hB : B ≤ w.heap.size) (hg : B ≤ g) : Below B w w' :=
  ⟨h.os, h.tape, h.output, h.size, fun k hk => h.block k (by omega) (fun e => by injection e with e; omega)⟩
/-- copy into a row that is known whole; of all else that was there nothing turns -/
theorem wpList_copy_row {P : Program} {w : World} {ops : Array Oper} {rest : List Oper} {o : Oper} {a : Act} {Q : Exit → Act → World → Prop} (hgd : o.guard = none) (d s : Operand) (dT sT : TypeId)
    (ho : o.op = .call { callee := .builtin .copy, args := #[d, s], argTypes := #[dT, sT] }) (elem : TypeId) (hu : P.underlying dT = some (.slice elem)) (hsz : (P.info? elem).map (·.size) = some 1)
    (dp sp : Option Addr) (dLen dCap sLen sCap : Nat) (hd : a.eval d = .slice dp dLen dCap) (hs : a.eval s = .slice sp sLen sCap)
    (g off : Nat) (cur : List Value) (t : TypeId) (hg : w.heap[g]? = some (.cells cur.toArray t (0, 0))) (cs : List Value) (hn : cs.length = Nat.min sLen dLen)
    (hpos : 0 < cs.length → dp = some ⟨g, off, none⟩ ∧ ∃ ad, sp = some ad ∧ ∀ j v, cs[j]? = some v → w.cell? (ad.add j) = some v)
    (hfit : off + cs.length ≤ cur.length) (h1 : ∀ v ∈ cs, v.oneCell' = true) (w0 : World) (hb : w0.grownBy w (some g))
    (h : ∀ w', Hid (w'.heap[g]? = some (.cells (splice cur off cs).toArray t (0, 0))) → w0.grownBy w' (some g) → wpList P ops Q rest (a.put o.dst (goInt cs.length)) w') :
    wpList P ops Q (o :: rest) a w := by
  by_cases h0 : cs.length = 0
  · obtain rfl : cs = [] := List.eq_nil_of_length_eq_zero h0
    refine wpList_copy_nothing hgd d s dT sT ho elem hu hsz dp sp dLen dCap sLen sCap hd hs (by simpa using hn.symm) ?_
    exact h w (show _ = _ by simpa [splice] using hg) hb
  · obtain ⟨rfl, ad, rfl, hsrc⟩ := hpos (by omega)
    refine wpList_copy_own hgd d s dT sT ho elem hu hsz g off dLen dCap ad sLen sCap hd hs cur.toArray t hg cs hn hsrc (by simpa using hfit) h1 ?_
    exact h _ (show _ = _ by simpa [splice] using setRow_heap w g _ _ t _ hg) (grown_setRow hb _)
theorem step_copy_row {P : Program} {ops : Array Oper} {o : Oper} {a : Act} {w : World} {K : Act → World → Prop} {Q : Exit → Act → World → Prop} {E : Prop} (hgd : o.guard = none) (d s : Operand) (dT sT : TypeId)
    (ho : o.op = .call { callee := .builtin .copy, args := #[d, s], argTypes := #[dT, sT] }) (elem : TypeId) (hu : P.underlying dT = some (.slice elem)) (hsz : (P.info? elem).map (·.size) = some 1)
    (dp sp : Option Addr) (dLen dCap sLen sCap : Nat) (hd : a.eval d = .slice dp dLen dCap) (hs : a.eval s = .slice sp sLen sCap)
    (g off : Nat) (cur : List Value) (t : TypeId) (hg : w.heap[g]? = some (.cells cur.toArray t (0, 0))) (cs : List Value) (hn : cs.length = Nat.min sLen dLen)
    (hpos : 0 < cs.length → dp = some ⟨g, off, none⟩ ∧ ∃ ad, sp = some ad ∧ ∀ j v, cs[j]? = some v → w.cell? (ad.add j) = some v)
    (hfit : off + cs.length ≤ cur.length) (h1 : ∀ v ∈ cs, v.oneCell' = true) (w0 : World) (hb : w0.grownBy w (some g))
    (h : ∀ w', Hid (w'.heap[g]? = some (.cells (splice cur off cs).toArray t (0, 0))) → w0.grownBy w' (some g) → K (a.put o.dst (goInt cs.length)) w') :
    if Region.wanted o (yielded ops a.tmps) = true then Oper.wp P o a w K Q else E := by
  have hw : Region.wanted o (yielded ops a.tmps) = true := by simp [Region.wanted, hgd]
  rw [if_pos hw]
  by_cases h0 : cs.length = 0
  · obtain rfl : cs = [] := List.eq_nil_of_length_eq_zero h0
    have hrun := run_copy_none (P := P) w dT sT o.type elem dp sp dLen dCap sLen sCap hu hsz (by simpa using hn.symm)
    unfold Oper.wp
    simp [execOp, ho, resolve, invoke, builtin, hd, hs, hrun, Result.andThen]
    exact h w (show _ = _ by simpa [splice] using hg) hb
  · obtain ⟨rfl, ad, rfl, hsrc⟩ := hpos (by omega)
    have hrun := run_copy_row (P := P) w dT sT o.type elem g off dLen dCap ad sLen sCap cur.toArray t cs hu hsz hg hn hsrc (by simpa using hfit) h1
    unfold Oper.wp
    simp [execOp, ho, resolve, invoke, builtin, hd, hs, hrun, Result.andThen]
    exact h _ (show _ = _ by simpa [splice] using setRow_heap w g _ _ t _ hg) (grown_setRow hb _)
end Go.Proofs.Kv
namespace Go.Proofs.Kv
open Go Go.RowKit

theorem own_cut {B e size n g cap i : Nat} {w : World} {xs : List Value} (h : w.ownsRow B e size (.slice (some ⟨g, 0, none⟩) n cap) n xs) (hi : i ≤ n) :
    w.ownsRow B e size (.slice (some ⟨g, 0, none⟩) i cap) i (xs.take (i * size)) := by
  have hle : i * size ≤ n * size := Nat.mul_le_mul_right _ hi
  refine ⟨by rw [List.length_take, h.1]; omega, ?_⟩
  rcases h.2 with ⟨h', _⟩ | ⟨g', cap', cur, h', hb, hg, hnc, hcm, hcs, htake⟩
  · simp at h'
  · injection h' with q1 q2 q3
    injection q1 with q1
    injection q1 with q1
    subst q1; subst q3
    refine .inr ⟨g, cap, cur, rfl, hb, hg, by omega, hcm, hcs, ?_⟩
    rw [← htake, List.take_take, Nat.min_eq_left hle]
theorem own_setCells_at {B e size n g cap : Nat} : ∀ (vs : List Value) (o : Nat) {w : World} {xs : List Value}, w.ownsRow B e size (.slice (some ⟨g, 0, none⟩) n cap) n xs → o + vs.length ≤ xs.length →
    (w.setCells g o vs).ownsRow B e size (.slice (some ⟨g, 0, none⟩) n cap) n (xs.take o ++ vs ++ xs.drop (o + vs.length)) ∧ w.grownBy (w.setCells g o vs) (some g)
  | [], o, w, xs, h, _ => ⟨by simpa [World.setCells] using h, World.grownBy.refl w _⟩
  | v :: vs, o, w, xs, h, hl => by
    obtain ⟨h1, h2⟩ := h.stored o v
    rw [List.length_cons] at hl
    obtain ⟨h3, h4⟩ := own_setCells_at vs (o + 1) h1 (by simp; omega)
    refine ⟨?_, h2.trans h4⟩
    have e : (xs.set o v).take (o + 1) ++ vs ++ (xs.set o v).drop (o + 1 + vs.length) = xs.take o ++ v :: vs ++ xs.drop (o + (v :: vs).length) := by
      have e1 : (xs.set o v).take (o + 1) = xs.take o ++ [v] := by
        rw [Kv.take_snoc _ v o (by simp; omega), List.take_set, List.set_eq_of_length_le (by rw [List.length_take]; omega)]
        simp [List.getD, show o < xs.length by omega]
      have e2 : o + (v :: vs).length = o + 1 + vs.length := by rw [List.length_cons]; omega
      rw [e1, List.drop_set_of_lt (by omega), e2]
      simp
    rw [← e]; exact h3
theorem below_setCells {B : Nat} {a w : World} (h : Below B a w) {g : Nat} (hg : B ≤ g) : ∀ (vs : List Value) (o : Nat), Below B a (w.setCells g o vs)
  | [], _ => h
  | v :: vs, o => below_setCells (h.setCell (p := ⟨g, o, none⟩) hg v) hg vs (o + 1)
theorem src_ints {P : Program} {t e : TypeId} (ht : P.underlying t = some (.slice e)) {w : World} {A : Option Addr} {m c : Nat} {vs : List Int} (h : IntsAt w A m c vs) : Src P 1 t (.slice A m c) m (vs.map (Value.int .i64)) w := by
  rcases A with _ | x
  · have hm : m = 0 := by
      rcases Nat.eq_zero_or_pos m with h0 | h0
      · exact h0
      · obtain ⟨_, _, h1, _⟩ := h.cells 0 h0; cases h1
    subst hm
    rw [List.eq_nil_of_length_eq_zero h.len]
    exact Src.ofNil w ht c
  · exact Src.ofSlice w ht x m c _ (by simp [h.len]) h.cellsIn (fun v hv => by obtain ⟨y, _, rfl⟩ := List.mem_map.1 hv; rfl)
end Go.Proofs.Kv
namespace Go.Proofs.Ytdnlpikfibdjoaa
open Go.RowKit Go.Proofs.Kv

set_option maxRecDepth 100000 in
theorem clone_calls (a : Option Addr) (n c : Nat) (l : List Int) (w : World) (h : IntsAt w a n c l) (hs : n ≤ 100000) :
    Calls Try.prog 109 #[.slice a n c] w fun e w' => ∃ v, e = .returned v ∧ Made 3 w w' v l := by
  obtain ⟨i0, hi0, hz0, hz1, hz2⟩ := info_parts Try.infoInt
  cases a with
  | none =>
    have hn : n = 0 := by
      rcases Nat.eq_zero_or_pos n with h0 | h0
      · exact h0
      · obtain ⟨_, _, h1, _⟩ := h.cells 0 h0; cases h1
    subst hn
    have Hl : Hid (l = []) := hid_ (List.eq_nil_of_length_eq_zero h.len)
    have heq : ∀ W, (binOp .eql 22 (.slice none 0 c) (.slice none 0 0)).run Try.prog W = .ok (.bool true) W := fun W => Lib.run_eql_slice_nil W _ _ none 0 c 0 0 Try.underlying22
    go_enter Try.func109, Try.ntmps109
    go_wp2
    go_ret
    exact ⟨_, rfl, by rw [Hl.out]; exact Made.none_ _ (Below.refl _ _)⟩
  | some x =>
    have heq : ∀ W, (binOp .eql 22 (.slice (some x) n c) (.slice none 0 0)).run Try.prog W = .ok (.bool false) W := fun W => Lib.run_eql_slice_nil W _ _ (some x) n c 0 0 Try.underlying22
    have hown : (w.alloc (.cells #[] 3)).ownsRow w.heap.size 3 1 (.slice (some ⟨w.heap.size, 0, none⟩) 0 0) 0 (([] : List Int).map (Value.int .i64)) := World.ownsRow_made w #[] 0 (Nat.le_refl _) (by omega) rfl
    have hI := h.below ((Below.refl _ w).alloc (Nat.le_refl _) (.cells #[] 3)) (Nat.le_refl _)
    have hlen : Hid (l.length = n) := hid_ h.len
    go_enter Try.func109, Try.ntmps109
    go_wp2_with (at_builtin; refine wpList_append_ints _ rfl (.tmp 5) (.tmp 6) _ rfl w.heap.size 3 i0 Try.underlying22 hi0 hz0 hz1 hz2 _ _ _ rfl hown _ _ _ _ rfl hI (by omega) (by simp) ?_; intro v' w1 hown1 hg1 hat1)
    go_ret
    refine ⟨_, rfl, ⟨?_, ((Below.refl _ w).alloc (Nat.le_refl _) (.cells #[] 3)).grown hg1 (by simp) fun k hk => ?_⟩⟩
    · rw [Nat.zero_add, List.nil_append] at hown1
      rw [hlen.out]; exact hown1
    · have : some w.heap.size = some k := hk
      injection this with this
      omega

end Go.Proofs.Ytdnlpikfibdjoaa
namespace Go.Proofs.Ytdnlpikfibdjoaa
open Go.RowKit Go.Proofs.Kv

/-! ### slices.Insert into an own row -/
theorem Try.sizeInt : ∀ w, (Go.sizeOf 3).run Try.prog w = .ok 1 w := fun w => by kernel_rfl
theorem Try.oneInt : (Try.prog.info? 3).map (·.size) = some 1 := by kernel_rfl
theorem ints_one (l : List Int) : ∀ v ∈ l.map (Value.int .i64), v.oneCell' = true := by
  intro v hv
  obtain ⟨x, _, rfl⟩ := List.mem_map.1 hv
  rfl
/-- what is returned is a row of the call's own (from block B on) that holds the numbers l; of all that was there, but the block row, nothing has turned -/
def OwnPost (B n : Nat) (l : List Int) (row : Option Nat) (w : World) (e : Ending) (w' : World) : Prop := ∃ v', e = .returned v' ∧ w'.ownsRow B 3 1 v' n (l.map (Value.int .i64)) ∧ w.grownBy w' row ∧ (v'.ownBlock = row ∨ ∃ g, v'.ownBlock = some g ∧ w.heap.size ≤ g)
/-- l with vs in the place of what stood from i to j -/
def putL (l : List Int) (i j : Nat) (vs : List Int) : List Int := l.take i ++ vs ++ l.drop j
theorem ints_shape {w : World} {b off n c : Nat} {l : List Int} (h : IntsAt w (some ⟨b, off, none⟩) n c l) (h0 : 0 < n) : ∃ T k, w.shape? b = some (T, k) ∧ k ≠ 0 := by
  obtain ⟨b', off', e, hb, hc⟩ := h.cells 0 h0
  injection e with e; injection e with e1 e2; subst e1; subst e2
  unfold World.cell? at hc
  unfold World.shape?
  split at hc
  · rename_i cs T fr hg
    simp only [hg]
    simp at hc
    refine ⟨T, cs.size, rfl, ?_⟩
    intro e
    rw [Array.getElem?_eq_none (by omega)] at hc
    cases hc
  · cases hc
end Go.Proofs.Ytdnlpikfibdjoaa
namespace Go.Proofs.Ytdnlpikfibdjoaa
open Go.RowKit Go.Proofs.Kv

/-! ### slices.Replace in an own row -/
theorem Try.zeroInt : ∀ w, (zeroValue 3).run Try.prog w = .ok (.int .i64 0) w := fun w => by kernel_rfl
/-- what is known of an own row, of what is put in and of what stands behind -/
structure RepAt (w : World) (B g cap i j r m : Nat) (A : Option Addr) (c : Nat) (cur X V : List Value) (l vs : List Int) : Prop where
  hg1 : B ≤ g
  hg2 : g < w.heap.size
  hg3 : w.heap[g]? = some (.cells cur.toArray 3 (0, 0))
  hcl : cur.length = cap
  hnc : j + r ≤ cap
  hcm : cap ≤ 9223372036854775807
  hij : i < j
  hs : j + r + m ≤ 100000
  hB : B ≤ w.heap.size
  hX : X.length = r
  hV : V.length = m
  hX1 : ∀ v ∈ X, v.oneCell' = true
  hV1 : ∀ v ∈ V, v.oneCell' = true
  hXc : ∀ w' : World, w'.heap[g]? = some (.cells cur.toArray 3 (0, 0)) → ∀ k u, X[k]? = some u → w'.cell? ((⟨g, j, none⟩ : Addr).add k) = some u
  hVc : ∀ w', Below B w w' → 0 < m → ∃ ad, A = some ad ∧ ∀ k u, V[k]? = some u → w'.cell? (ad.add k) = some u
  hR : cur.take i ++ V ++ X = (putL l i j vs).map (Value.int .i64)
  hv : IntsAt w A m c vs
  hne : 0 < m → ∀ b off, A = some ⟨b, off, none⟩ → b < B
  hVe : V = vs.map (Value.int .i64)
theorem repAt {B i j r m c g cap : Nat} {cur : List Value} {l : List Int} {w : World} {A : Option Addr} {vs : List Int}
    (hg1 : B ≤ g) (hg2 : g < w.heap.size) (hg3 : w.heap[g]? = some (.cells cur.toArray 3 (0, 0))) (hcl : cur.length = cap) (hnc : j + r ≤ cap) (hcm : cap ≤ 9223372036854775807) (hct : cur.take (j + r) = l.map (Value.int .i64))
    (hB : B ≤ w.heap.size) (hij : i < j) (hv : IntsAt w A m c vs) (hne : 0 < m → ∀ b off, A = some ⟨b, off, none⟩ → b < B) (hs : j + r + m ≤ 100000) :
    ∃ X V, RepAt w B g cap i j r m A c cur X V l vs := by
  have hl : l.length = j + r := by have := congrArg List.length hct; simp at this; omega
  have hX : ((l.drop j).map (Value.int .i64)).length = r := by rw [List.length_map, List.length_drop]; omega
  have hV : (vs.map (Value.int .i64)).length = m := by rw [List.length_map, hv.len]
  refine ⟨(l.drop j).map (Value.int .i64), vs.map (Value.int .i64), ⟨hg1, hg2, hg3, hcl, hnc, hcm, hij, hs, hB, hX, hV, ints_one _, ints_one _, ?_, ?_, ?_, hv, hne, rfl⟩⟩
  · intro w' hw' k u hk
    have hkl : k < r := by
      rcases Nat.lt_or_ge k r with h | h
      · exact h
      · rw [List.getElem?_eq_none (by omega)] at hk; cases hk
    rw [add_at, row_cell hw', ← hk, List.map_drop, ← hct, List.getElem?_drop, List.getElem?_take, if_pos (by omega)]
  · intro w' hw' hm0
    obtain ⟨b, off, rfl, hb, _⟩ := hv.cells 0 hm0
    have hlt := hne hm0 b off rfl
    exact ⟨_, rfl, (hv.keep fun b' off' e => by injection e with e; injection e with e1 _; subst e1; exact hw'.block _ hlt).cellsIn⟩
  · rw [putL, List.map_append, List.map_append]
    congr 2
    rw [List.map_take, ← hct, List.take_take, Nat.min_eq_left (by omega)]

end Go.Proofs.Ytdnlpikfibdjoaa
namespace Go.Proofs.Ytdnlpikfibdjoaa
open Go.RowKit Go.Proofs.Kv

theorem OwnPost.at_ {B n n' : Nat} {l l' : List Int} {row : Option Nat} {w w' : World} {e : Ending} (h : OwnPost B n l row w e w') (hn : n = n') (hl : l = l') : OwnPost B n' l' row w e w' := by subst hn; subst hl; exact h
end Go.Proofs.Ytdnlpikfibdjoaa
namespace Go.Proofs.Ytdnlpikfibdjoaa
open Go.RowKit Go.Proofs.Kv

/-! ### slices.Reverse of a row of the call's own -/
def revAt (l : List Int) (n k i : Nat) : Int := if i < k ∨ n - 1 - k < i then l.getD (n - 1 - i) 0 else l.getD i 0
theorem below_drew1 {B : Nat} {w w' : World} (h : Below B w w') : Below B w w'.drew := Below.drew h
theorem heap_drew (w : World) : w.drew.heap = w.heap := rfl
end Go.Proofs.Ytdnlpikfibdjoaa
