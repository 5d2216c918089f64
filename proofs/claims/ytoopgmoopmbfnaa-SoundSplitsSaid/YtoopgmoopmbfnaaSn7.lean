import Derived.Test.YtoopgmoopmbfnaaSn6
import Derived.Laws.CopyOwn
import Derived.Lib.AppendZerosOnto
import Derived.Lib.SliceRun
import Derived.Laws.Externs
import Derived.OwnWalk
import Derived.Lib.SmallJoins
import Derived.Deep.OwnRows
import Derived.RegionTactic
import Derived.ChangeAlike
import Derived.BigRegion
import Derived.Test.YtoopgmoopmbfnaaSn5
namespace Go.Proofs.Kv
open Go Go.RowKit

theorem own_open {w : World} {B E n : Nat} {v : Value} {xs : List Value} (h : w.ownsRow B E 1 v n xs) :
    (v = .slice none 0 0 ∧ n = 0 ∧ xs = []) ∨ ∃ g cap, ∃ cur : List Value, v = .slice (some ⟨g, 0, none⟩) n cap ∧ B ≤ g ∧ g < w.heap.size ∧ w.heap[g]? = some (.cells cur.toArray E (0, 0)) ∧ cur.length = cap ∧ n ≤ cap ∧ cap ≤ 9223372036854775807 ∧ cur.take n = xs := by
  obtain ⟨h1, h2⟩ := h
  rcases h2 with ⟨rfl, rfl⟩ | ⟨g, cap, cur, rfl, hb, hg, hn, hm, hs, ht⟩
  · exact .inl ⟨rfl, rfl, List.eq_nil_of_length_eq_zero (by simpa using h1)⟩
  · refine .inr ⟨g, cap, cur.toList, rfl, hb, (Array.getElem?_eq_some_iff.1 hg).1, by simpa using hg, by simpa using hs, hn, by unfold maxLen at hm; omega, by simpa using ht⟩
theorem own_close {w : World} {B E n g cap : Nat} {cur xs : List Value} (hb : B ≤ g) (hg : w.heap[g]? = some (.cells cur.toArray E (0, 0))) (hc : cur.length = cap) (hn : n ≤ cap) (hm : cap ≤ 9223372036854775807) (ht : cur.take n = xs) :
    w.ownsRow B E 1 (.slice (some ⟨g, 0, none⟩) n cap) n xs :=
  ⟨by rw [← ht, List.length_take]; omega, .inr ⟨g, cap, cur.toArray, rfl, hb, hg, hn, by unfold maxLen; omega, by simpa using hc, by simpa using ht⟩⟩
theorem row_cell {w : World} {E g : Nat} {cur : List Value} (hg : w.heap[g]? = some (.cells cur.toArray E (0, 0))) (j : Nat) : w.cell? ⟨g, j, none⟩ = cur[j]? := by
  unfold World.cell?
  simp only [hg]
  simp
theorem row_free {w : World} {E g : Nat} {cs : Array Value} (hg : w.heap[g]? = some (.cells cs E (0, 0))) (j : Nat) : w.frozen? ⟨g, j, none⟩ = false := by
  unfold World.frozen?
  simp only [hg]
  simp
theorem row_shape {w : World} {E g : Nat} {cur : List Value} (hg : w.heap[g]? = some (.cells cur.toArray E (0, 0))) : w.shape? g = some (E, cur.length) := by
  unfold World.shape?
  simp only [hg]
  simp
theorem add_at (g o j : Nat) : (⟨g, o, none⟩ : Addr).add j = ⟨g, o + j, none⟩ := by unfold Addr.add; split <;> simp_all
theorem splice_take {α : Type} (L : List α) {o i : Nat} (X : List α) (h : i ≤ o) (hl : o ≤ L.length) : (splice L o X).take i = L.take i := by
  unfold splice
  rw [List.take_append_of_le_length (by rw [List.length_take]; omega), List.take_take, Nat.min_eq_left h]
theorem splice_drop {α : Type} (L : List α) {o : Nat} (X : List α) (hl : o ≤ L.length) : (splice L o X).drop o = X ++ L.drop (o + X.length) := by
  unfold splice
  rw [List.drop_left' (by rw [List.length_take]; omega)]
/-- first what stood behind goes to its place, then what is put in -/
theorem splice_in {α : Type} (cur X vs : List α) {i m n : Nat} (hX : X.length = n - i) (hv : vs.length = m) (hi : i ≤ n) (hl : n + m ≤ cur.length) :
    (splice (splice cur (i + m) X) i vs).take (n + m) = cur.take i ++ vs ++ X := by
  have e : splice (splice cur (i + m) X) i vs = (cur.take i ++ vs ++ X) ++ cur.drop (i + m + X.length) := by
    rw [splice, hv, splice_take _ _ (by omega) (by omega), splice_drop _ _ (by omega)]
    simp only [List.append_assoc]
  rw [e, List.take_left' (by simp only [List.length_append, List.length_take]; omega)]
/-- first what is put in, then what stood behind -/
theorem splice_in' {α : Type} (cur X vs : List α) {i m k : Nat} (hX : X.length = k) (hv : vs.length = m) (hl : i + m + k ≤ cur.length) :
    (splice (splice cur i vs) (i + m) X).take (i + m + k) = cur.take i ++ vs ++ X := by
  have e : splice (splice cur i vs) (i + m) X = (cur.take i ++ vs ++ X) ++ (splice cur i vs).drop (i + m + X.length) := by
    rw [splice]
    have : (splice cur i vs).take (i + m) = cur.take i ++ vs := by
      rw [splice, ← List.append_assoc, List.take_left' (by simp only [List.length_append, List.length_take]; omega)]
    rw [this]
    simp only [List.append_assoc]
  rw [e, List.take_left' (by simp only [List.length_append, List.length_take]; omega)]
/-- slices.overlaps of two slices in two blocks that hold cells, of which one is a row of the call's own -/
theorem run_overlaps_own {P : Program} (w : World) (tS tR e : TypeId) (ht : P.underlying tS = some (.slice e)) (size : Nat) (hz : ∀ w, (Go.sizeOf e).run P w = .ok size w)
    (a b : Addr) (la ca lb cb : Nat) (hne : a.block ≠ b.block) (tA tB : TypeId) (kA kB : Nat)
    (hsa : w.shape? a.block = some (tA, kA)) (hsb : w.shape? b.block = some (tB, kB)) (hkA : kA ≠ 0) (hkB : kB ≠ 0)
    (hf : (w.frozen? a = false ∧ w.frozen? { block := a.block, off := kA } = false) ∨ (w.frozen? b = false ∧ w.frozen? { block := b.block, off := kB } = false)) :
    (Extern.SlicesOverlaps.overlaps #[tS, tS] #[tR] #[.slice (some a) la ca, .slice (some b) lb cb]).run P w = .ok (.bool false) w := by
  have hnb : (a.block != b.block) = true := by simpa using hne
  have hnb' : (a.block == b.block) = false := by simpa using hne
  change Sem.run P (α := Value) (do
    let some t := (#[tS, tS] : Array TypeId)[0]? | stuck "slices.overlaps: no parameter types"
    let .slice elem ← underlying t | stuck "slices.overlaps: slice type expected"
    let size ← sizeOf elem
    match (some a : Option Addr), (some b : Option Addr) with
    | some a, some b =>
      if la = 0 ∨ lb = 0 ∨ size = 0 then pure (Value.bool false)
      else if a.block != b.block && (← frozen a) && (← frozen b) then unsupported .addressObserved
      else do
        if a.block != b.block then do
          noView a; noView b
          if ← mayBeOne a b then return Value.bool ((← choose (.extern "sameAddr.stringBytes" 2)) == 1)
        pure (Value.bool (a.block == b.block && a.off < b.off + lb * size && b.off < a.off + la * size))
    | _, _ => pure (Value.bool false)) w = _
  by_cases h0 : la = 0 ∨ lb = 0 ∨ size = 0
  · simp [run_underlying ht, hz, h0]
  · cases kA with
    | zero => exact absurd rfl hkA
    | succ kA =>
      cases kB with
      | zero => exact absurd rfl hkB
      | succ kB =>
        rcases hf with ⟨h1, h2⟩ | ⟨h1, h2⟩
        · cases hb : w.frozen? b <;> cases hb2 : w.frozen? { block := b.block, off := kB + 1 } <;>
            simp [run_underlying ht, hz, h0, hnb, hnb', frozen, noView, viewAt, mayBeOne, stringish, shape, Sem.run, hsa, hsb, h1, h2, hb, hb2]
        · cases hb : w.frozen? a <;> cases hb2 : w.frozen? { block := a.block, off := kA + 1 } <;>
            simp [run_underlying ht, hz, h0, hnb, hnb', frozen, noView, viewAt, mayBeOne, stringish, shape, Sem.run, hsa, hsb, h1, h2, hb, hb2]
theorem grown_refl (w : World) (row : Option Nat) : w.grownBy w row := ⟨rfl, rfl, rfl, Nat.le_refl _, fun _ _ _ => rfl⟩
theorem grown_drewN {w0 w : World} {row : Option Nat} (h : w0.grownBy w row) (q : Nat) : w0.grownBy (w.drewN q) row := ⟨h.os, h.tape, h.output, h.size, h.block⟩
theorem grown_drew {w0 w : World} {row : Option Nat} (h : w0.grownBy w row) : w0.grownBy w.drew row := ⟨h.os, h.tape, h.output, h.size, h.block⟩
theorem grown_setRow {w0 w : World} {g : Nat} (h : w0.grownBy w (some g)) (cs : Array Value) : w0.grownBy (w.setRow g cs) (some g) :=
  ⟨h.os, h.tape, h.output, by simpa [World.setRow] using h.size, fun k hk hne => by rw [setRow_other w g k cs (fun e => hne (by rw [e]))]; exact h.block k hk hne⟩
theorem grown_setCells {w0 : World} {g : Nat} : ∀ (vs : List Value) (o : Nat) {w : World}, w0.grownBy w (some g) → w0.grownBy (w.setCells g o vs) (some g)
  | [], _, _, h => h
  | v :: vs, o, w, h => grown_setCells vs (o + 1) ⟨h.os, h.tape, h.output, by simpa [World.setCell] using h.size, fun k hk hne => by rw [Below.heap_setCell _ _ _ _ (fun e => hne (by rw [e]))]; exact h.block k hk hne⟩
theorem grown_of_below {w w' : World} (h : Below w.heap.size w w') (row : Option Nat) : w.grownBy w' row := ⟨h.os, h.tape, h.output, h.size, fun k hk _ => h.block k hk⟩
theorem below_of_grown {w w' : World} {g B : Nat} (h : w.grownBy w' (some g)) (hB : B ≤ w.heap.size) (hg : B ≤ g) : Below B w w' :=
  ⟨h.os, h.tape, h.output, h.size, fun k hk => h.block k (by omega) (fun e => by injection e with e; omega)⟩
/-- copy into a row that is known whole; of all else that was there nothing turns -/
theorem wpList_copy_row {P : Program} {w : World} {ops : Array Oper} {rest : List Oper} {o : Oper} {a : Act} {Q : Exit → Act → World → Prop} (hgd : o.guard = none) (d s : Operand) (dT sT : TypeId)
    (ho : o.op = .call { callee := .builtin .copy, args := #[d, s], argTypes := #[dT, sT] }) (elem : TypeId) (hu : P.underlying dT = some (.slice elem)) (hsz : (P.info? elem).map (·.size) = some 1)
    (dp sp : Option Addr) (dLen dCap sLen sCap : Nat) (hd : a.eval d = .slice dp dLen dCap) (hs : a.eval s = .slice sp sLen sCap)
    (g off : Nat) (cur : List Value) (t : TypeId) (hg : w.heap[g]? = some (.cells cur.toArray t (0, 0))) (cs : List Value) (hn : cs.length = Nat.min sLen dLen)
    (hpos : 0 < cs.length → dp = some ⟨g, off, none⟩ ∧ ∃ ad, sp = some ad ∧ ∀ j v, cs[j]? = some v → w.cell? (ad.add j) = some v)
    (hfit : off + cs.length ≤ cur.length) (h1 : ∀ v ∈ cs, v.oneCell' = true) (w0 : World) (hb : w0.grownBy w (some g))
    (h : ∀ w', Hid (w'.heap[g]? = some (.cells (splice cur off cs).toArray t (0, 0))) → w0.grownBy w' (some g) → wpList P ops Q rest (a.put o.dst (goInt cs.length)) w') :
    wpList P ops Q (o :: rest) a w := by
  by_cases h0 : cs.length = 0
  · obtain rfl : cs = [] := List.eq_nil_of_length_eq_zero h0
    refine wpList_copy_nothing hgd d s dT sT ho elem hu hsz dp sp dLen dCap sLen sCap hd hs (by simpa using hn.symm) ?_
    exact h w (show _ = _ by simpa [splice] using hg) hb
  · obtain ⟨rfl, ad, rfl, hsrc⟩ := hpos (by omega)
    refine wpList_copy_own hgd d s dT sT ho elem hu hsz g off dLen dCap ad sLen sCap hd hs cur.toArray t hg cs hn hsrc (by simpa using hfit) h1 ?_
    exact h _ (show _ = _ by simpa [splice] using setRow_heap w g _ _ t _ hg) (grown_setRow hb _)
theorem step_copy_row {P : Program} {ops : Array Oper} {o : Oper} {a : Act} {w : World} {K : Act → World → Prop} {Q : Exit → Act → World → Prop} {E : Prop} (hgd : o.guard = none) (d s : Operand) (dT sT : TypeId)
    (ho : o.op = .call { callee := .builtin .copy, args := #[d, s], argTypes := #[dT, sT] }) (elem : TypeId) (hu : P.underlying dT = some (.slice elem)) (hsz : (P.info? elem).map (·.size) = some 1)
    (dp sp : Option Addr) (dLen dCap sLen sCap : Nat) (hd : a.eval d = .slice dp dLen dCap) (hs : a.eval s = .slice sp sLen sCap)
    (g off : Nat) (cur : List Value) (t : TypeId) (hg : w.heap[g]? = some (.cells cur.toArray t (0, 0))) (cs : List Value) (hn : cs.length = Nat.min sLen dLen)
    (hpos : 0 < cs.length → dp = some ⟨g, off, none⟩ ∧ ∃ ad, sp = some ad ∧ ∀ j v, cs[j]? = some v → w.cell? (ad.add j) = some v)
    (hfit : off + cs.length ≤ cur.length) (h1 : ∀ v ∈ cs, v.oneCell' = true) (w0 : World) (hb : w0.grownBy w (some g))
    (h : ∀ w', Hid (w'.heap[g]? = some (.cells (splice cur off cs).toArray t (0, 0))) → w0.grownBy w' (some g) → K (a.put o.dst (goInt cs.length)) w') :
    if Region.wanted o (yielded ops a.tmps) = true then Oper.wp P o a w K Q else E := by
  have hw : Region.wanted o (yielded ops a.tmps) = true := by simp [Region.wanted, hgd]
  rw [if_pos hw]
  by_cases h0 : cs.length = 0
  · obtain rfl : cs = [] := List.eq_nil_of_length_eq_zero h0
    have hrun := run_copy_none (P := P) w dT sT o.type elem dp sp dLen dCap sLen sCap hu hsz (by simpa using hn.symm)
    unfold Oper.wp
    simp [execOp, ho, resolve, invoke, builtin, hd, hs, hrun, Result.andThen]
    exact h w (show _ = _ by simpa [splice] using hg) hb
  · obtain ⟨rfl, ad, rfl, hsrc⟩ := hpos (by omega)
    have hrun := run_copy_row (P := P) w dT sT o.type elem g off dLen dCap ad sLen sCap cur.toArray t cs hu hsz hg hn hsrc (by simpa using hfit) h1
    unfold Oper.wp
    simp [execOp, ho, resolve, invoke, builtin, hd, hs, hrun, Result.andThen]
    exact h _ (show _ = _ by simpa [splice] using setRow_heap w g _ _ t _ hg) (grown_setRow hb _)
end Go.Proofs.Kv
namespace Go.Proofs.Ytoopgmoopmbfnaa
open Go.RowKit Go.Proofs.Kv

/-! ### slices.Insert into an own row -/
theorem Try.sizeInt : ∀ w, (Go.sizeOf 3).run Try.prog w = .ok 1 w := fun w => by kernel_rfl
theorem Try.oneInt : (Try.prog.info? 3).map (·.size) = some 1 := by kernel_rfl
theorem ints_one (l : List Int) : ∀ v ∈ l.map (Value.int .i64), v.oneCell' = true := by
  intro v hv
  obtain ⟨x, _, rfl⟩ := List.mem_map.1 hv
  rfl
theorem overlaps_own {w : World} {a b : Addr} {la ca lb cb kA kB : Nat} {tA tB : TypeId} (hne : a.block ≠ b.block)
    (hsa : w.shape? a.block = some (tA, kA)) (hsb : w.shape? b.block = some (tB, kB)) (hkA : kA ≠ 0) (hkB : kB ≠ 0)
    (hf : (w.frozen? a = false ∧ w.frozen? { block := a.block, off := kA } = false) ∨ (w.frozen? b = false ∧ w.frozen? { block := b.block, off := kB } = false)) :
    (callFunc 111 #[.slice (some a) la ca, .slice (some b) lb cb]).run Try.prog w = .ok (.value (.bool false)) w := by
  rw [run_callFunc_extern Try.func111 (by kernel_rfl) (by kernel_rfl) (by kernel_rfl) (e := Extern.SlicesOverlaps.overlaps #[23, 23] #[4]) (by kernel_rfl),
    run_overlaps_own w 23 4 3 Try.underlying23 1 Try.sizeInt a b la ca lb cb hne tA tB kA kB hsa hsb hkA hkB hf]
  rfl
/-- what is returned is a row of the call's own (from block B on) that holds the numbers l; of all that was there, but the block row, nothing has turned -/
def OwnPost (B n : Nat) (l : List Int) (row : Option Nat) (w : World) (e : Ending) (w' : World) : Prop := ∃ v', e = .returned v' ∧ w'.ownsRow B 3 1 v' n (l.map (Value.int .i64)) ∧ w.grownBy w' row ∧ (v'.ownBlock = row ∨ ∃ g, v'.ownBlock = some g ∧ w.heap.size ≤ g)
/-- l with vs in the place of what stood from i to j -/
def putL (l : List Int) (i j : Nat) (vs : List Int) : List Int := l.take i ++ vs ++ l.drop j
theorem ints_shape {w : World} {b off n c : Nat} {l : List Int} (h : IntsAt w (some ⟨b, off, none⟩) n c l) (h0 : 0 < n) : ∃ T k, w.shape? b = some (T, k) ∧ k ≠ 0 := by
  obtain ⟨b', off', e, hb, hc⟩ := h.cells 0 h0
  injection e with e; injection e with e1 e2; subst e1; subst e2
  unfold World.cell? at hc
  unfold World.shape?
  split at hc
  · rename_i cs T fr hg
    simp only [hg]
    simp at hc
    refine ⟨T, cs.size, rfl, ?_⟩
    intro e
    rw [Array.getElem?_eq_none (by omega)] at hc
    cases hc
  · cases hc
set_option maxRecDepth 100000 in
set_option maxHeartbeats 2000000 in
theorem insertInts_calls {B n i m c : Nat} {v : Value} {l : List Int} {w : World} {A : Option Addr} {vs : List Int} (hown : w.ownsRow B 3 1 v n (l.map (Value.int .i64))) (hB : B ≤ w.heap.size) (hi : i ≤ n)
    (hv : IntsAt w A m c vs) (hne : 0 < m → ∀ b off, A = some ⟨b, off, none⟩ → v.ownBlock ≠ some b) (hs : n + m ≤ 100000) :
    Calls Try.prog 71 #[v, .int .i64 i, .slice A m c] w fun e w' => OwnPost B (n + m) (putL l i i vs) v.ownBlock w e w' := by
  obtain ⟨i0, hi0, hz0, hz1, hz2⟩ := info_parts Try.infoInt
  have hl : l.length = n := by simpa using hown.1
  by_cases hm : m = 0
  · subst hm
    have Hf : Hid (putL l i i vs = l) := hid_ (by rw [putL, List.eq_nil_of_length_eq_zero hv.len, List.append_nil, List.take_append_drop])
    have Hown : Hid (w.ownsRow B 3 1 v (n + 0) ((putL l i i vs).map (Value.int .i64))) := hid_ (by rw [Hf.out]; exact hown)
    rcases own_open hown with ⟨rfl, rfl, h0⟩ | ⟨g, cap, cur, rfl, hg1, hg2, hg3, hcl, hnc, hcm, hct⟩
    · obtain rfl : i = 0 := by omega
      clear hown
      go_enter Try.func71, Try.ntmps71
      go_wp2
      go_ret
      exact ⟨_, rfl, Hown.out, grown_refl _ _, .inl rfl⟩
    · clear hown hg3 hct
      by_cases hci : cap = i
      all_goals
        try subst hci
        go_enter Try.func71, Try.ntmps71
        go_wp2
        go_ret
        exact ⟨_, rfl, Hown.out, grown_refl _ _, .inl rfl⟩
  · have hmz : ((m : Int) == 0) = false := by simp; omega
    have hm0 : 0 < m := by omega
    clear hm
    by_cases hin : i = n
    · subst hin
      have Hf : Hid (putL l i i vs = l ++ vs) := hid_ (by rw [putL, List.take_of_length_le (by omega), List.drop_of_length_le (by omega), List.append_nil])
      have Hown := hid_ hown
      have hin' : ((i : Int) == (i : Int)) = true := by simp
      rcases own_open hown with ⟨rfl, rfl, h0⟩ | ⟨g, cap, cur, rfl, hg1, hg2, hg3, hcl, hnc, hcm, hct⟩
      · clear hown
        go_enter Try.func71, Try.ntmps71
        go_wp2_with (at_builtin; refine wpList_append_ints _ rfl (.tmp 23) (.tmp 24) _ rfl B 3 i0 Try.underlying23 hi0 hz0 hz1 hz2 _ _ _ rfl Hown.out _ _ _ _ rfl hv (by omega) hB ?_; intro v' w1 hown1 hg1 hat1)
        go_ret
        exact ⟨_, rfl, by rw [← Hf.out] at hown1; exact hown1, hg1, hat1.imp id fun h => ⟨_, h, Nat.le_refl _⟩⟩
      · clear hown hg3 hct
        go_enter Try.func71, Try.ntmps71
        go_wp2_with (at_builtin; refine wpList_append_ints _ rfl (.tmp 23) (.tmp 24) _ rfl B 3 i0 Try.underlying23 hi0 hz0 hz1 hz2 _ _ _ rfl Hown.out _ _ _ _ rfl hv (by omega) hB ?_; intro v' w1 hown1 hg1 hat1)
        all_goals
          go_ret
          exact ⟨_, rfl, by rw [← Hf.out] at hown1; exact hown1, hg1, hat1.imp id fun h => ⟨_, h, Nat.le_refl _⟩⟩
    · have hin2 : ((i : Int) == (n : Int)) = false := by simp; omega
      have hilt : i < n := by omega
      clear hin
      rcases own_open hown with ⟨rfl, rfl, h0⟩ | ⟨g, cap, cur, rfl, hg1, hg2, hg3, hcl, hnc, hcm, hct⟩
      · omega
      · have Hx := hid_ hct
        have hX : ((l.drop i).map (Value.int .i64)).length = n - i := by rw [List.length_map, List.length_drop]; omega
        obtain ⟨X, hXe⟩ : ∃ X, X = (l.drop i).map (Value.int .i64) := ⟨_, rfl⟩
        obtain ⟨V, hVe⟩ : ∃ V, V = vs.map (Value.int .i64) := ⟨_, rfl⟩
        have hV : V.length = m := by rw [hVe, List.length_map, hv.len]
        have hVc : ∀ w', w.grownBy w' (some g) → ∃ ad, A = some ad ∧ ∀ j u, V[j]? = some u → w'.cell? (ad.add j) = some u := fun w' hw' => by
          obtain ⟨b, off, rfl, hb, _⟩ := hv.cells 0 hm0
          refine ⟨_, rfl, ?_⟩
          rw [hVe]
          have hlt := hne hm0 b off rfl
          exact (hv.keep fun b' off' e => by injection e with e; injection e with e1 _; subst e1; exact hw'.block _ hb (fun e => hlt (show some g = some _ from e.symm))).cellsIn
        have hcurX : ∀ w' : World, w'.heap[g]? = some (.cells cur.toArray 3 (0, 0)) → ∀ j u, X[j]? = some u → w'.cell? ((⟨g, i, none⟩ : Addr).add j) = some u := fun w' hw' j u hj => by
          rw [add_at, row_cell hw', ← hj, hXe, List.map_drop, ← Hx.out, List.getElem?_drop, List.getElem?_take, if_pos]
          have : j < X.length := by
            rcases Nat.lt_or_ge j X.length with h | h
            · exact h
            · rw [List.getElem?_eq_none h] at hj; cases hj
          rw [hXe, hX] at this; omega
        have hX' : X.length = n - i := by rw [hXe]; exact hX
        have hX1 : ∀ v ∈ X, v.oneCell' = true := by rw [hXe]; exact ints_one _
        have hV1 : ∀ v ∈ V, v.oneCell' = true := by rw [hVe]; exact ints_one _
        have HR : Hid (cur.take i ++ V ++ X = (putL l i i vs).map (Value.int .i64)) := hid_ (by
          rw [putL, List.map_append, List.map_append, ← hVe, ← hXe]
          congr 2
          rw [List.map_take, ← Hx.out, List.take_take, Nat.min_eq_left hi])
        have HXe := hid_ hXe; have HVe := hid_ hVe
        clear hXe hVe hX hct
        have hw1 : IntKind.i64.wrap ((n : Int) + (m : Int)) = (n : Int) + m := IntWalk.i64_in _ (by omega)
        have hw2 : IntKind.i64.wrap ((i : Int) + (m : Int)) = (i : Int) + m := IntWalk.i64_in _ (by omega)
        have hw3 : ((i : Int) + (m : Int)).toNat = i + m := by omega
        have hw4 : ((n : Int) + (m : Int)).toNat = n + m := by omega
        have hw5 : (0 : Int) ≤ (i : Int) + m := by omega
        by_cases hcap : cap < n + m
        · obtain ⟨k, hk⟩ : ∃ k, n + m = i + k := ⟨n + m - i, by omega⟩
          have hold : (Builtin.firstCells i0.size i (.slice (some ⟨g, 0, none⟩) i cap)).run Try.prog w.drew = .ok (cur.take i).toArray w.drew := by
            rw [hz1]
            refine run_firstCells_some w.drew 1 i ⟨g, 0, none⟩ i cap (cur.take i) (by rw [List.length_take]; omega) (fun j v hj => ?_)
            rw [add_at, Nat.zero_add]
            have := row_cell (w := w) hg3 j
            rw [List.getElem?_take] at hj
            split at hj
            · exact this.trans hj
            · cases hj
          have hrz : ∀ ty, (Builtin.append_ #[23, 3] ty #[.slice (some ⟨g, 0, none⟩) i cap, .int .i64 ((n : Int) + (m : Int) - (i : Int))]).run Try.prog w =
              .ok (.slice (some ⟨w.heap.size, 0, none⟩) (n + m) (grownCap w (n + m) cap 3)) (w.drew.alloc (.cells ((cur.take i).toArray ++ Builtin.zeroCells (Value.int .i64 0).cells k ++ Builtin.zeroCells (Value.int .i64 0).cells (grownCap w (n + m) cap 3 - (n + m))) 3)) := fun ty => by
            have h := Lib.run_append_grow_zeros w 23 3 ty 3 i0 _ .i64 .i64 Try.underlying23 Try.underlying3 hi0 hz0 (some ⟨g, 0, none⟩) i cap (cur.take i) hold k (by omega) (by omega) (by omega) (by omega) (by rw [hz2]; omega) (by rw [hz2, ← hk]; exact growslice_fits hcap (by omega))
            rw [← hk] at h
            rw [show (n : Int) + (m : Int) - (i : Int) = (k : Int) by omega]
            exact h
          have hGn : n + m ≤ grownCap w (n + m) cap 3 := grownCap_ge w _ _ _
          have hG63 : grownCap w (n + m) cap 3 ≤ 9223372036854775807 := by
            have := grownCap_le_maxLen w (n + m) cap 3 (by unfold maxLen; omega)
            unfold maxLen at this
            omega
          generalize grownCap w (n + m) cap 3 = G at hrz hGn hG63
          obtain ⟨ROW, hROW⟩ : ∃ ROW : List Value, ROW.toArray = (cur.take i).toArray ++ Builtin.zeroCells (Value.int .i64 0).cells k ++ Builtin.zeroCells (Value.int .i64 0).cells (G - (n + m)) := ⟨_, Array.toArray_toList⟩
          have HRl : Hid (ROW.length = G ∧ ROW.take i = cur.take i) := hid_ (by
            have h1 : ROW = cur.take i ++ ((Builtin.zeroCells (Value.int .i64 0).cells k).toList ++ (Builtin.zeroCells (Value.int .i64 0).cells (G - (n + m))).toList) := by
              have := congrArg Array.toList hROW
              simpa using this
            have h2 : (cur.take i).length = i := by rw [List.length_take]; omega
            refine ⟨?_, by rw [h1, List.take_left' h2]⟩
            rw [h1, List.length_append, h2, List.length_append]
            simp [Builtin.zeroCells, Value.cells]
            omega)
          rw [← hROW] at hrz
          obtain ⟨W1, hW1⟩ : ∃ W1, W1 = w.drew.alloc (.cells ROW.toArray 3) := ⟨_, rfl⟩
          rw [← hW1] at hrz
          have HW1 : Hid (W1.heap[w.heap.size]? = some (.cells ROW.toArray 3 (0, 0)) ∧ Below w.heap.size w W1) := hid_ (by
            rw [hW1]
            refine ⟨?_, ?_⟩
            · show (w.heap.push _)[w.heap.size]? = _
              simp
            · exact (Below.drew (Below.refl _ w)).alloc (Nat.le_refl _) _)
          have hXw : ∀ w', Below w.heap.size w w' → ∀ j u, X[j]? = some u → w'.cell? ((⟨g, i, none⟩ : Addr).add j) = some u := fun w' hw' => hcurX w' (by rw [hw'.block g hg2]; exact hg3)
          have hVw : ∀ w', Below w.heap.size w w' → ∃ ad, A = some ad ∧ ∀ j u, V[j]? = some u → w'.cell? (ad.add j) = some u := fun w' hw' => hVc w' (grown_of_below hw' _)
          have hc1 : ¬ cap = i := by omega
          have hc2 : ¬ G = i + m := by omega
          have hc3 : decide ((cap : Int) < (n : Int) + m) = true := by simp; omega
          have hc4 : ¬ G = i := by omega
          have hc5 : (i : Int) + m ≤ (n : Int) + m := by omega
          have hc6 : (i : Int) ≤ (n : Int) + m := by omega
          have hc7 : (i : Int) ≤ (n : Int) := by omega
          have hw6 : IntKind.i64.wrap ((n : Int) + (m : Int) - i) = (n : Int) + m - i := IntWalk.i64_in _ (by omega)
          have HX := hid_ hX'
          have HV := hid_ hV
          have Hmin2 : Hid (V.length = Nat.min m (n + m - i)) := hid_ (by rw [HV.out]; simp only [Nat.min_def]; split <;> omega)
          have Hfit2 : Hid (i + V.length ≤ ROW.length) := hid_ (by rw [HRl.out.1, HV.out]; omega)
          have Hl2 : Hid ((splice ROW i V).length = G) := hid_ (by rw [length_splice _ _ _ Hfit2.out, HRl.out.1])
          have Hmin : Hid (X.length = Nat.min (n - i) (n + m - (i + m))) := hid_ (by rw [HX.out]; simp only [Nat.min_def]; split <;> omega)
          have Hfit : Hid (i + m + X.length ≤ (splice ROW i V).length) := hid_ (by rw [HX.out, Hl2.out]; omega)
          have hVw1 := hVw W1 HW1.out.2
          have HXw := hid_ hXw
          have Hk := hid_ hk
          have HW := hid_ hW1
          clear hVw hXw hold hROW hcurX hVc hX' hV hcap hin2 hk hW1
          go_enter Try.func71, Try.ntmps71
          go_wp2_with (first
            | (at_builtin; refine Lib.wpList_append_run _ rfl (.tmp 34) (.tmp 39) _ _ rfl _ _ rfl rfl _ _ (hrz _) ?_)
            | (refine wpList_copy_splice rfl (.tmp 43) (.tmp 44) 23 23 rfl 3 Try.underlying23 Try.oneInt _ _ _ _ _ _ rfl rfl w.heap.size i ROW 3 HW1.out.1 V Hmin2.out (fun _ => ⟨rfl, hVw1⟩) Hfit2.out hV1 w.heap.size w HW1.out.2 (Nat.le_refl _) ?_; intro w2 hh2 hb2))
          have hXd := HXw.out w2.drew (Below.drew hb2)
          have Hd : Hid (Below w.heap.size w w2.drew) := hid_ (Below.drew hb2)
          go_region_law (refine step_copy_splice rfl (.tmp 50) (.tmp 53) 23 23 rfl 3 Try.underlying23 Try.oneInt (some ⟨w.heap.size, i + m, none⟩) (some ⟨g, i, none⟩) (n + m - (i + m)) (G - (i + m)) (n - i) (cap - i) (by simp [Act.eval, Act.put]) (by simp [Act.eval, Act.put]) w.heap.size (i + m) (splice ROW i V) 3 hh2.out X Hmin.out (fun _ => ⟨rfl, _, rfl, hXd⟩) Hfit.out hX1 w.heap.size w Hd.out (Nat.le_refl _) ?_; intro w3 hh3 hb3)
          go_wp2
          go_ret
          refine ⟨_, rfl, own_close hB hh3.out (by rw [length_splice _ _ _ Hfit.out, Hl2.out]) hGn hG63 ?_, grown_of_below hb3 _, .inr ⟨_, rfl, Nat.le_refl _⟩⟩
          rw [← HR.out, ← HRl.out.2, show n + m = i + m + (n - i) by omega]
          exact splice_in' ROW X V HX.out HV.out (by rw [HRl.out.1]; omega)
        · have hc1 : ¬ cap = i := by omega
          have hc2 : ¬ cap = i + m := by omega
          have hc3 : decide ((cap : Int) < (n : Int) + m) = false := by simp; omega
          have hc4 : ((n : Int) + m) ≤ (cap : Int) := by omega
          have hc5 : (i : Int) + m ≤ (n : Int) + m := by omega
          have hc6 : (i : Int) ≤ (n : Int) + m := by omega
          have hov : ∀ lb cb, (callFunc 111 #[.slice A m c, .slice (some ⟨g, i + m, none⟩) lb cb]).run Try.prog w = .ok (.value (.bool false)) w := fun lb cb => by
            obtain ⟨b, off, rfl, hb, _⟩ := hv.cells 0 hm0
            obtain ⟨T, k, hsh, hk0⟩ := ints_shape hv hm0
            have hlt := hne hm0 b off rfl
            exact overlaps_own (a := ⟨b, off, none⟩) (b := ⟨g, i + m, none⟩) (by show b ≠ g; exact fun e => hlt (by subst e; rfl)) hsh (row_shape hg3) hk0 (by rw [hcl]; omega) (.inr ⟨row_free hg3 _, row_free hg3 _⟩)
          clear hcap hin2
          go_enter Try.func71, Try.ntmps71
          go_wp2
          have HX := hid_ hX'
          have Hmin : Hid (X.length = Nat.min (n + m - i) (n + m - (i + m))) := hid_ (by rw [HX.out]; simp only [Nat.min_def]; split <;> omega)
          have Hfit : Hid (i + m + X.length ≤ cur.length) := hid_ (by rw [HX.out]; omega)
          have Hd : Hid (w.grownBy w.drew (some g)) := hid_ (grown_drew (grown_refl _ _))
          have HV := hid_ hV
          go_region_law (refine step_copy_row rfl (.tmp 73) (.tmp 76) 23 23 rfl 3 Try.underlying23 Try.oneInt (some ⟨g, i + m, none⟩) (some ⟨g, i, none⟩) (n + m - (i + m)) (cap - (i + m)) (n + m - i) (cap - i) (by simp [Act.eval, Act.put]) (by simp [Act.eval, Act.put]) g (i + m) cur 3 hg3 X Hmin.out (fun _ => ⟨rfl, _, rfl, hcurX _ hg3⟩) Hfit.out hX1 w Hd.out ?_; intro w2 hh2 hb2)
          have Hl2 : Hid ((splice cur (i + m) X).length = cap) := hid_ (by rw [length_splice _ _ _ Hfit.out, hcl])
          have Hmin2 : Hid (V.length = Nat.min m (n + m - i)) := hid_ (by rw [HV.out]; simp only [Nat.min_def]; split <;> omega)
          have Hfit2 : Hid (i + V.length ≤ (splice cur (i + m) X).length) := hid_ (by rw [Hl2.out, HV.out]; omega)
          have hVw := hVc w2 hb2
          go_wp2_with (refine wpList_copy_row rfl (.tmp 80) (.tmp 81) 23 23 rfl 3 Try.underlying23 Try.oneInt _ _ _ _ _ _ rfl rfl g i (splice cur (i + m) X) 3 hh2.out V Hmin2.out (fun _ => ⟨rfl, hVw⟩) Hfit2.out hV1 w hb2 ?_; intro w3 hh3 hb3)
          go_ret
          refine ⟨_, rfl, own_close hg1 hh3.out (by rw [length_splice _ _ _ Hfit2.out, Hl2.out]) (by omega) hcm ?_, hb3, .inl rfl⟩
          rw [← HR.out]
          exact splice_in cur X V HX.out HV.out hi (by omega)
end Go.Proofs.Ytoopgmoopmbfnaa
namespace Go.Proofs.Ytoopgmoopmbfnaa
open Go.RowKit Go.Proofs.Kv Go.Proofs.Snd

/-! ### the program's Split -/
def splitErr (L : List (List Int)) (r p : Int) : Int :=
  if validT L = 0 then (if r < 0 ∨ (L.length : Int) ≤ r then 4 else if p < 1 ∨ ((L.getD r.toNat []).length : Int) ≤ p then 1 else if 6 ≤ L.length then 3 else 0) else validT L
theorem splitErr_ok {L : List (List Int)} {r p : Int} (h : splitErr L r p = 0) : validT L = 0 ∧ ∃ r' p' : Nat, r = r' ∧ p = p' ∧ r' < L.length ∧ 0 < p' ∧ p' < (L.getD r' []).length ∧ L.length < 6 := by
  unfold splitErr at h
  by_cases he : validT L = 0
  · rw [if_pos he] at h
    by_cases h1 : r < 0 ∨ (L.length : Int) ≤ r
    · rw [if_pos h1] at h; cases h
    · rw [if_neg h1] at h
      by_cases h2 : p < 1 ∨ ((L.getD r.toNat []).length : Int) ≤ p
      · rw [if_pos h2] at h; cases h
      · rw [if_neg h2] at h
        by_cases h3 : 6 ≤ L.length
        · rw [if_pos h3] at h; cases h
        · exact ⟨he, r.toNat, p.toNat, by omega, by omega, by omega, by omega, by omega, by omega⟩
  · rw [if_neg he] at h; exact absurd h he
/-- what the program's Split makes: the rows are parts of one block -/
def SplitPost (L : List (List Int)) (r p : Nat) (B : Nat) (v : Value) (w' : World) : Prop :=
  ∃ g cap, w'.ownsRow B 23 1 v (endsF 0 (splitL L r p)).length (cutV g 0 0 (endsF 0 (splitL L r p))) ∧ w'.ownsRow B 3 1 (.slice (some ⟨g, 0, none⟩) L.flatten.length cap) L.flatten.length (L.flatten.map (Value.int .i64)) ∧ v.ownBlock ≠ some g
theorem row_pos {L : List (List Int)} (hg : Good L) : 0 < L.flatten.length := by
  have hm : L.getD 0 [] ∈ L := by rw [List.getD, List.getElem?_eq_getElem (by have := hg.n1; omega), Option.getD_some]; exact List.getElem_mem _
  exact Nat.lt_of_lt_of_le (List.length_pos_iff.2 (hg.ne _ hm)) (List.sublist_flatten_of_mem hm).length_le
theorem ends_at {L : List (List Int)} {r : Nat} (h : r < L.length) : (endsF 0 L).getD r 0 = (L.take r).flatten.length + (L.getD r []).length := by
  rw [endsF_eq, List.getD, List.getElem?_map, List.getElem?_range h]
  show 0 + (L.take (r + 1)).flatten.length = _
  rw [flat_snoc L r h, List.length_append, Nat.zero_add]
set_option maxRecDepth 100000 in
theorem sndSplit_ok (a : Option Addr) (n c : Nat) (L : List (List Int)) (r p : Nat) (w : World) (h : ListsAt w a n c L) (he : splitErr L r p = 0) :
    Calls Try.prog 21 #[.slice a n c, .int .i64 r, .int .i64 p] w fun e w' => ∃ v, e = .returned (.tuple #[v, .int .i64 0]) ∧ SplitPost L r p w.heap.size v w' ∧ Below w.heap.size w w' := by
  have hval := sndValidate_calls a n c L w h
  have hlen := h.len
  obtain ⟨hv, r', p', e1, e2, hrl, hp0, hpl, h6⟩ := splitErr_ok he
  obtain rfl : r = r' := by omega
  obtain rfl : p = p' := by omega
  rw [hv] at hval
  have Hv := hid_ hval; clear hval
  have hg := good_of hv
  have hn6 : n < 6 := by omega
  have hrn : r < n := by omega
  have hpos := row_pos hg
  have hfl : L.flatten.length ≤ 6 := hg.flat
  have hl6 : (L.getD r []).length ≤ 6 := hg.row _ (by rw [List.getD, List.getElem?_eq_getElem hrl, Option.getD_some]; exact List.getElem_mem _)
  have hd := flat_take_le L r
  have HN : Hid (endsF 0 (splitL L r p) = (endsF 0 L).take r ++ (((L.take r).flatten.length + p) :: (endsF 0 L).drop r)) := hid_ (splitL_ends hrl (Nat.le_of_lt hpl))
  have Hasc : Hid (Asc L.flatten.length 0 (endsF 0 (splitL L r p))) := hid_ (asc_ends _ _ _ (good_split hg hrl h6 hp0 hpl).ne (by rw [splitL_flat hrl]; omega))
  have Hends : Hid (endsI L n = (endsF 0 L).map fun x : Nat => (x : Int)) := hid_ (by rw [endsI, ← hlen, endsN_eq])
  have hel : (endsF 0 L).length = n := by rw [endsF_len, hlen]
  have Hat := hid_ (ends_at hrl)
  have Hre := hid_ (fun W hW => rowEnds_calls a n c L W hW (by omega) (by omega))
  have Hcc := hid_ (fun W hW => concat_calls a n c L W hW (by omega))
  have HL := hid_ (fun W (hW : Below w.heap.size w W) => h.below hW (Nat.le_refl _))
  have HG := hid_ (splitL_len (p := p) hrl)
  have Hel2 := hid_ (endsF_len 0 (splitL L r p))
  have Hlen := hid_ hlen
  unfold SplitPost
  generalize hN : endsF 0 (splitL L r p) = N at *
  clear hN
  generalize L.flatten = FL at *
  obtain ⟨m, hm⟩ : ∃ m, FL.length = m := ⟨_, rfl⟩
  rw [hm] at hpos hfl Hasc hd ⊢
  have Hm := hid_ hm
  generalize (L.take r).flatten.length = d at *
  obtain ⟨l, hl⟩ : ∃ l, (L.getD r []).length = l := ⟨_, rfl⟩
  rw [hl] at hpl hl6 Hat
  have Hl := hid_ hl
  have hw1 : IntKind.i64.wrap (((d + l : Nat) : Int) - (l : Int)) = (d : Int) := by rw [IntWalk.i64_in _ (by omega)]; omega
  have hw2 : IntKind.i64.wrap ((d : Int) + (p : Int)) = ((d + p : Nat) : Int) := by rw [IntWalk.i64_in _ (by omega)]; omega
  have Hw1 := hid_ hw1
  have Hw2 := hid_ hw2
  have hpl' : ¬ (l : Int) ≤ (p : Int) := by omega
  have hp1 : ¬ (p : Int) < 1 := by omega
  have hn6' : ¬ (6 : Int) ≤ (n : Int) := by omega
  have hrn' : ¬ (n : Int) ≤ (r : Int) := by omega
  have Hel := hid_ hel
  clear hv hg h hlen he hrl h6 hm hl hw1 hw2 hel
  go_enter Try.func21, Try.ntmps21
  go_wp2_with fail
  refine Hv.out.mono ?_
  rintro e w1 ⟨rfl, hb1⟩
  obtain ⟨b, off, a1, n1, c1, rfl, hb, hcell, hrow⟩ := (HL.out w1 hb1).cells r hrn
  obtain rfl : n1 = l := by rw [← hrow.len]; exact Hl.out
  have hE := hid_ (Hre.out w1 (HL.out w1 hb1))
  go_wp2_with fail
  refine hE.out.mono ?_
  rintro e w2 ⟨v2, rfl, hm2⟩
  have hown2 := hm2.own
  rw [endsI_len, Hends.out] at hown2
  obtain ⟨ge, ce, rfl, q1, q2, q3, q4⟩ := own_form hown2 (by omega)
  have hec : w2.cell? ⟨ge, r, none⟩ = some (.int .i64 ((d + n1 : Nat) : Int)) := by
    rw [hown2.cellAt r (by omega), map_at (by rw [List.length_map, Hel.out]; exact hrn)]
    have : ((endsF 0 L).map fun x : Nat => (x : Int)).getD r 0 = (((endsF 0 L).getD r 0 : Nat) : Int) := by simp [List.getD, show r < (endsF 0 L).length by rw [Hel.out]; exact hrn]
    rw [this, Hat.out]
  have hcell2 := (hm2.bel.cell (p := ⟨b, off + r, none⟩) hb).trans hcell
  have Hb2 := hid_ (below_then hb1 hm2.bel)
  have HO2 := hid_ (own_base hown2 hb1.size)
  have hr0 : (0 : Int) ≤ (r : Int) := by omega
  have hr1 : (r : Int) < (n : Int) := by omega
  clear hown2 hm2 hE hrow hcell
  clear hb1
  go_wp2
  go_region
  all_goals
    have Hc3 := hid_ (Hcc.out w2.drew (HL.out _ (Below.drew Hb2.out)))
    go_wp2_with fail
    refine Hc3.out.mono ?_
    rintro e w3 ⟨v3, rfl, hm3⟩
    have hown3 := hm3.own
    rw [Hm.out] at hown3
    obtain ⟨g, cap, rfl, s1, s2, s3, s4⟩ := own_form hown3 hpos
    have hgs : w2.heap.size ≤ g := s3
    have hz3 : w2.heap.size ≤ w3.heap.size := hm3.bel.size
    have hBw : w.heap.size ≤ w2.heap.size := Hb2.out.size
    have HOE := hid_ ((own_below (w := w2.drew) HO2.out hm3.bel (Nat.le_refl _)).alloc (.cells #[.int .i64 ((d + p : Nat) : Int)] 3))
    have HOF := hid_ ((own_base hown3 hBw).alloc (.cells #[.int .i64 ((d + p : Nat) : Int)] 3))
    have Hb3 := hid_ ((below_then Hb2.out (show Below w2.heap.size w2 w3 from (Below.drew (Below.refl w2.heap.size w2)).trans hm3.bel)).alloc (o := .cells #[.int .i64 ((d + p : Nat) : Int)] 3) (Nat.le_trans hBw hz3))
    have Hins := hid_ (insertInts_calls (vs := [((d + p : Nat) : Int)]) HOE.out (le_alloc (Nat.le_trans hBw hz3)) (Nat.le_of_lt hrn) (IntsAt.one w3 _ 3) (fun _ b off e => by injection e with e; injection e with e _; subst e; simp [Value.ownBlock]; omega) (by omega))
    clear hm3 hown3 Hc3
    go_wp2_with fail
    refine Hins.out.mono ?_
    rintro e w4 ⟨v4, rfl, hown4, hg4, -⟩
    rw [putL] at hown4
    obtain ⟨a4, c4, rfl, hI4⟩ := IntsAt.own hown4
    have hput : (((endsF 0 L).map fun x : Nat => (x : Int)).take r ++ [((d + p : Nat) : Int)] ++ ((endsF 0 L).map fun x : Nat => (x : Int)).drop r) = N.map fun x : Nat => (x : Int) := by
      rw [HN.out, List.map_append, List.map_cons, List.map_take, List.map_drop, List.append_assoc]; rfl
    rw [hput] at hI4
    have hge : g ≠ ge := by omega
    have hOF4 := HOF.out.kept hg4 (.inr (by simp [Value.ownBlock]; exact hge))
    obtain ⟨aF, cF, eF, hIF⟩ := IntsAt.own hOF4
    injection eF with x1 x2 x3
    subst x1; subst x3
    have Hcut := hid_ (cut_calls g 0 _ _ _ _ _ _ _ w4 hIF hI4 Hasc.out (by omega))
    have Hb4 := hid_ (Hb3.out.grown hg4 (le_alloc (Nat.le_trans hBw hz3)) (fun k hk => by cases hk; exact (HOE.out.lt ge rfl).1))
    have HOF4 := hid_ hOF4
    have hgl := (hOF4.lt g rfl).2
    clear hown4 hI4 hput hOF4 hIF Hins hg4
    go_wp2_with fail
    refine Hcut.out.mono ?_
    rintro e w5 ⟨v5, rfl, hown5, hb5⟩
    have H5 := hid_ (own_base hown5 Hb4.out.size)
    have HF5 := hid_ (own_below HOF4.out hb5 (Nat.le_refl _))
    have Hne : Hid (v5.ownBlock ≠ some g) := hid_ (fun e => by have := (hown5.lt g e).1; omega)
    have Hb5 := hid_ (below_then Hb4.out hb5)
    clear hown5 hb5 Hcut
    go_wp2
    go_ret2
    exact ⟨v5, rfl, ⟨g, cap, H5.out, HF5.out, Hne.out⟩, Hb5.out⟩
set_option maxRecDepth 100000 in
theorem sndSplit_no (a : Option Addr) (n c : Nat) (L : List (List Int)) (r p : Int) (w : World) (h : ListsAt w a n c L) (he : splitErr L r p ≠ 0) :
    Calls Try.prog 21 #[.slice a n c, .int .i64 r, .int .i64 p] w fun e w' => e = .returned (.tuple #[.slice none 0 0, .int .i64 (splitErr L r p)]) ∧ Below w.heap.size w w' := by
  have hval := sndValidate_calls a n c L w h
  have hlen := h.len
  by_cases hv : validT L = 0
  · rw [hv] at hval
    have Hv := hid_ hval; clear hval
    have hg := good_of hv
    have hn6 : n ≤ 6 := by have := hg.n6; omega
    by_cases h1 : r < 0
    · have He : Hid (splitErr L r p = 4) := hid_ (by rw [splitErr, if_pos hv, if_pos (.inl h1)])
      clear he hv hg hlen h
      rw [He.out]
      go_enter Try.func21, Try.ntmps21
      go_wp2_with fail
      refine Hv.out.mono ?_
      rintro e w1 ⟨rfl, hb1⟩
      go_wp2
      go_ret2
      exact ⟨rfl, hb1⟩
    · by_cases h2 : (n : Int) ≤ r
      · have He : Hid (splitErr L r p = 4) := hid_ (by rw [splitErr, if_pos hv, if_pos (.inr (by omega))])
        clear he hv hg hlen h
        rw [He.out]
        go_enter Try.func21, Try.ntmps21
        go_wp2_with fail
        refine Hv.out.mono ?_
        rintro e w1 ⟨rfl, hb1⟩
        go_wp2
        go_ret2
        exact ⟨rfl, hb1⟩
      · obtain ⟨r', rfl⟩ := Int.eq_ofNat_of_zero_le (show 0 ≤ r by omega)
        have hrn : r' < n := by omega
        have HL := hid_ (fun W (hW : Below w.heap.size w W) => h.below hW (Nat.le_refl _))
        obtain ⟨l, hl⟩ : ∃ l, (L.getD r' []).length = l := ⟨_, rfl⟩
        have hl6 : l ≤ 6 := by rw [← hl]; exact hg.row _ (by rw [List.getD, List.getElem?_eq_getElem (by omega), Option.getD_some]; exact List.getElem_mem _)
        by_cases h3 : p < 1
        · have He : Hid (splitErr L r' p = 1) := hid_ (by rw [splitErr, if_pos hv, if_neg (by omega), if_pos (.inl h3)])
          clear he hv hg hlen h
          rw [He.out]
          go_enter Try.func21, Try.ntmps21
          go_wp2_with fail
          refine Hv.out.mono ?_
          rintro e w1 ⟨rfl, hb1⟩
          go_wp2
          go_ret2
          exact ⟨rfl, hb1⟩
        · by_cases h4 : (l : Int) ≤ p
          · have He : Hid (splitErr L r' p = 1) := hid_ (by rw [splitErr, if_pos hv, if_neg (by omega), if_pos (.inr (by show ((L.getD r' []).length : Int) ≤ p; rw [hl]; exact h4))])
            have Hl := hid_ hl
            clear he hv hg hlen h hl
            rw [He.out]
            go_enter Try.func21, Try.ntmps21
            go_wp2_with fail
            refine Hv.out.mono ?_
            rintro e w1 ⟨rfl, hb1⟩
            obtain ⟨b, off, a1, n1, c1, rfl, hb, hcell, hrow⟩ := (HL.out w1 hb1).cells r' hrn
            obtain rfl : n1 = l := by rw [← hrow.len]; exact Hl.out
            clear hrow
            go_wp2
            go_ret2
            exact ⟨rfl, hb1⟩
          · have He2 : splitErr L r' p = if 6 ≤ L.length then 3 else 0 := by rw [splitErr, if_pos hv, if_neg (by omega), if_neg (by show ¬ (p < 1 ∨ ((L.getD r' []).length : Int) ≤ p); rw [hl]; omega)]
            have h5 : n = 6 := by
              rw [He2] at he
              by_cases h6 : 6 ≤ L.length
              · omega
              · rw [if_neg h6] at he; exact absurd rfl he
            have He : Hid (splitErr L r' p = 3) := hid_ (by rw [He2, if_pos (by omega)])
            have Hl := hid_ hl
            clear he hv hg hlen h hl He2
            subst h5
            rw [He.out]
            go_enter Try.func21, Try.ntmps21
            go_wp2_with fail
            refine Hv.out.mono ?_
            rintro e w1 ⟨rfl, hb1⟩
            obtain ⟨b, off, a1, n1, c1, rfl, hb, hcell, hrow⟩ := (HL.out w1 hb1).cells r' hrn
            obtain rfl : n1 = l := by rw [← hrow.len]; exact Hl.out
            clear hrow
            go_wp2
            go_ret2
            exact ⟨rfl, hb1⟩
  · have He : Hid (splitErr L r p = validT L) := hid_ (if_neg hv)
    rw [He.out]
    clear he
    generalize validT L = er at hval hv
    have hq : (er != 0) = true := by simpa using hv
    have Hv := hid_ hval; clear hval hv hlen He
    go_enter Try.func21, Try.ntmps21
    go_wp2_with fail
    refine Hv.out.mono ?_
    rintro e w2 ⟨rfl, hb2⟩
    go_wp2
    go_ret2
    exact ⟨rfl, hb2⟩
end Go.Proofs.Ytoopgmoopmbfnaa
namespace Go.Proofs.Ytoopgmoopmbfnaa
open Go.RowKit Go.Proofs.Kv Go.Proofs.Snd
theorem below_alloc (w : World) (o : Obj) : Below w.heap.size w (w.alloc o) := (Below.refl _ w).alloc (Nat.le_refl _) o
/-- a slice of numbers in memory from block B on -/
structure IntsNew (B : Nat) (w : World) (a : Option Addr) (n c : Nat) (l : List Int) : Prop where
  at_ : IntsAt w a n c l
  hi : 0 < n → ∃ b off, a = some ⟨b, off, none⟩ ∧ B ≤ b
theorem IntsNew.b0 {B n c : Nat} {w w' : World} {a : Option Addr} {l : List Int} (h : IntsNew B w a n c l) (hc : Below w.heap.size w w') : IntsNew B w' a n c l := ⟨h.at_.below hc (Nat.le_refl _), h.hi⟩
theorem IntsNew.b1 {B n c : Nat} {w w' : World} {o : Obj} {a : Option Addr} {l : List Int} (h : IntsNew B w a n c l) (hc : Below (w.alloc o).heap.size (w.alloc o) w') : IntsNew B w' a n c l := (h.b0 (below_alloc w o)).b0 hc
theorem IntsNew.b2 {B n c : Nat} {w w' : World} {o o2 : Obj} {a : Option Addr} {l : List Int} (h : IntsNew B w a n c l) (hc : Below ((w.alloc o).alloc o2).heap.size ((w.alloc o).alloc o2) w') : IntsNew B w' a n c l := (h.b0 (below_alloc w o)).b1 hc
theorem IntsNew.base {B B' n c : Nat} {w : World} {a : Option Addr} {l : List Int} (h : IntsNew B w a n c l) (hB : B' ≤ B) : IntsNew B' w a n c l :=
  ⟨h.at_, fun hp => by obtain ⟨b, off, e, hb⟩ := h.hi hp; exact ⟨b, off, e, Nat.le_trans hB hb⟩⟩
theorem IntsNew.setCell {B n c : Nat} {w : World} {a : Option Addr} {l : List Int} (h : IntsNew B w a n c l) {b : Nat} (hb : b < B) (i : Nat) (u : Value) : IntsNew B (w.setCell ⟨b, i, none⟩ u) a n c l := by
  refine ⟨?_, h.hi⟩
  rcases Nat.eq_zero_or_pos n with rfl | hp
  · exact ⟨h.at_.len, h.at_.le, h.at_.small, fun i hi => absurd hi (by omega)⟩
  · obtain ⟨g, off, rfl, hg⟩ := h.hi hp
    refine h.at_.keep fun g' off' e => ?_
    injection e with e; injection e with e1 e2
    subst e1
    exact Below.heap_setCell w ⟨b, i, none⟩ u g (by show g ≠ b; omega)
theorem step_copy0 {ops : Array Oper} {o : Oper} {a : Act} {w : World} {K : Act → World → Prop} {Q : Exit → Act → World → Prop} {E : Prop} (hg : o.guard = none) (s x : Operand)
    (ho : o.op = .call { callee := .builtin .append, args := #[s, x], argTypes := #[23, 23] }) (gb : Nat) (hs : a.eval s = .slice (some ⟨gb, 0, none⟩) 0 0) (A : Option Addr) (m c : Nat) (ys : List Int) (hx : a.eval x = .slice A m c) (hr : IntsAt w A m c ys) (hm : m ≤ 1000)
    (hK : ∀ a' c' w', IntsNew w.heap.size w' a' m c' ys → Below w.heap.size w w' → K (a.put o.dst (.slice a' m c')) w') :
    if Region.wanted o (yielded ops a.tmps) = true then Oper.wp Try.prog o a w K Q else E := by
  obtain ⟨i0, hi0, hz0, hz1, hz2⟩ := info_parts Try.infoInt
  rcases Nat.eq_zero_or_pos m with rfl | hp
  · have hy : ys = [] := List.eq_nil_of_length_eq_zero hr.len
    subst hy
    have hw : Region.wanted o (yielded ops a.tmps) = true := by simp [Region.wanted, hg]
    rw [if_pos hw]
    have hrun : (Builtin.append_ #[23, 23] o.type #[.slice (some ⟨gb, 0, none⟩) 0 0, .slice A 0 c]).run Try.prog w = .ok (.slice (some ⟨gb, 0, none⟩) 0 0) w := by
      cases A with
      | none => simp [Builtin.append_, run_underlying Try.underlying23, sizeOf, typeInfo, hi0, Builtin.lenOf, Builtin.firstCells, storeCells]
      | some ad => exact run_append_room_cells (P := Try.prog) w 23 o.type 3 i0 Try.underlying23 hi0 gb 0 0 0 ad 0 c [] (by simp) (fun j u hu => by simp at hu) (fun u hu => by simp at hu) (by omega) (fun j hj => by simp at hj) (fun j hj => by simp at hj)
    unfold Oper.wp
    simp [execOp, ho, resolve, invoke, builtin, hs, hx, hrun, Result.andThen]
    exact hK _ _ w ⟨IntsAt.nil _ _ _ (by omega), fun h => absurd h (by omega)⟩ (Below.refl _ _)
  · obtain ⟨b, off, rfl, -, -⟩ := hr.cells 0 hp
    refine step_append_grows hg s x _ ho 3 i0 (.int .i64 0) 1 8 Try.underlying23 hi0 hz0 hz1 hz2 rfl (by omega) (some ⟨gb, 0, none⟩) 0 0 [] hs (fun h => by cases h) (by simp) (fun b hb j u hu => by simp at hu) ⟨b, off, none⟩ m c (ys.map (Value.int .i64)) hx (by simp [hr.len]) hr.cellsIn (ints_oneCell .i64 ys) (by omega) (by unfold maxLen; omega) (by omega) ?_
    intro v' w' hown hgr
    rw [Nat.zero_add, List.nil_append] at hown
    obtain ⟨a', c', rfl, hi⟩ := IntsAt.own hown
    refine hK a' c' w' ⟨hi, fun _ => ?_⟩ ((Below.refl _ w).grown hgr (Nat.le_refl _) (fun k hk => by cases hk))
    rcases hown.2 with ⟨h1, h2⟩ | ⟨g', cap, cur, h1, h2, h3⟩
    · injection h1 with _ h1 _; omega
    · injection h1 with h1 _ _
      subst h1
      exact ⟨g', 0, rfl, h2⟩

theorem lists_two {w : World} {a1 a2 : Option Addr} {n1 n2 c1 c2 : Nat} {l1 l2 : List Int} (E : TypeId) (h1 : IntsAt w a1 n1 c1 l1) (h2 : IntsAt w a2 n2 c2 l2) :
    ListsAt (w.alloc (.cells #[.slice a1 n1 c1, .slice a2 n2 c2] E)) (some ⟨w.heap.size, 0, none⟩) 2 2 [l1, l2] :=
  ⟨rfl, Nat.le_refl _, by omega, fun i hi => by
    match i, hi with
    | 0, _ => exact ⟨w.heap.size, 0, a1, n1, c1, rfl, by simp, by rw [World.cell?_alloc_at _ _ _ _ (by rfl)]; rfl, h1.below (below_alloc _ _) (Nat.le_refl _)⟩
    | 1, _ => exact ⟨w.heap.size, 0, a2, n2, c2, rfl, by simp, by rw [World.cell?_alloc_at _ _ _ _ (by rfl)]; rfl, h2.below (below_alloc _ _) (Nat.le_refl _)⟩⟩
theorem inner_two {w : World} {a1 a2 : Option Addr} {n1 n2 c1 c2 B : Nat} {l1 l2 : List Int} {E : TypeId} {v : Value} (h1 : IntsNew B w a1 n1 c1 l1) (h2 : IntsNew B w a2 n2 c2 l2) (hv : ∀ k, v.ownBlock = some k → k < B) :
    ∀ x i a n c, (some ⟨w.heap.size, 0, none⟩ : Option Addr) = some x → i < 2 → (w.alloc (.cells #[.slice a1 n1 c1, .slice a2 n2 c2] E)).cell? (x.add i) = some (.slice a n c) → ∀ b off, 0 < n → a = some ⟨b, off, none⟩ → v.ownBlock ≠ some b := by
  intro x i a n c hx hi hc b off hn ha e
  injection hx with hx
  subst hx
  match i, hi with
  | 0, _ =>
    have e0 : (⟨w.heap.size, 0, none⟩ : Addr).add 0 = ⟨w.heap.size, 0, none⟩ := rfl
    rw [e0, World.cell?_alloc_at _ _ _ _ (by rfl)] at hc
    simp at hc
    obtain ⟨rfl, rfl, rfl⟩ := hc
    obtain ⟨b', off', e', hb⟩ := h1.hi hn
    rw [ha] at e'; injection e' with e'; injection e' with e' _
    subst e'
    have := hv _ e; omega
  | 1, _ =>
    have e0 : (⟨w.heap.size, 0, none⟩ : Addr).add 1 = ⟨w.heap.size, 1, none⟩ := by unfold Addr.add; simp
    rw [e0, World.cell?_alloc_at _ _ _ _ (by rfl)] at hc
    simp at hc
    obtain ⟨rfl, rfl, rfl⟩ := hc
    obtain ⟨b', off', e', hb⟩ := h2.hi hn
    rw [ha] at e'; injection e' with e'; injection e' with e' _
    subst e'
    have := hv _ e; omega
/-- append of lists to an own row of lists, as one step of a region that draws its order -/
theorem step_append_lists {ops : Array Oper} {o : Oper} {a : Act} {w : World} {K : Act → World → Prop} {Q : Exit → Act → World → Prop} {E : Prop} (hg : o.guard = none) (s x : Operand)
    (ho : o.op = .call { callee := .builtin .append, args := #[s, x], argTypes := #[22, 22] }) (base : Nat) (v : Value) (L : List (List Int)) (hs : a.eval s = v) (hown : OwnL 23 w base v L)
    (A : Option Addr) (m c : Nat) (M : List (List Int)) (hx : a.eval x = .slice A m c) (hr : ListsAt w A m c M)
    (hin : ∀ x i a n c, A = some x → i < m → w.cell? (x.add i) = some (.slice a n c) → ∀ b off, 0 < n → a = some ⟨b, off, none⟩ → v.ownBlock ≠ some b)
    (hsm : L.length + m ≤ 1000000) (hbase : base ≤ w.heap.size)
    (hK : ∀ v' w', OwnL 23 w' base v' (L ++ M) → w.grownBy w' v.ownBlock → K (a.put o.dst v') w') :
    if Region.wanted o (yielded ops a.tmps) = true then Oper.wp Try.prog o a w K Q else E := by
  obtain ⟨i0, hi0, hz0, hz1, hz2⟩ := info_parts Try.infoInts
  have hw : Region.wanted o (yielded ops a.tmps) = true := by simp [Region.wanted, hg]
  rw [if_pos hw]
  obtain ⟨v', w', hrun, h2, h3, h4⟩ := run_append_lists (P := Try.prog) w base 22 o.type 23 i0 Try.underlying22 hi0 hz0 hz1 hz2 v L hown A m c M hr hin hsm hbase
  unfold Oper.wp
  simp [execOp, ho, resolve, invoke, builtin, hs, hx, hrun, Result.andThen]
  exact hK _ _ h2 h3

/-! ### the document's Split -/
def sp (L : List (List Int)) (r p k : Nat) : List (List Int) := if k ≤ r then L.take k else L.take r ++ ((L.getD r []).take p :: (L.getD r []).drop p :: (L.drop (r + 1)).take (k - (r + 1)))
theorem sp_push {L : List (List Int)} {r p k : Nat} (hk : k < L.length) (h : k ≠ r) : sp L r p (k + 1) = sp L r p k ++ [L.getD k []] := by
  unfold sp
  by_cases h1 : k < r
  · rw [if_pos (by omega), if_pos (by omega), Kv.take_snoc L [] k hk]
  · rw [if_neg (by omega), if_neg (by omega), show k + 1 - (r + 1) = k - (r + 1) + 1 by omega, Kv.take_snoc (L.drop (r + 1)) [] (k - (r + 1)) (by rw [List.length_drop]; omega)]
    have : (L.drop (r + 1)).getD (k - (r + 1)) [] = L.getD k [] := by
      simp only [List.getD, List.getElem?_drop]; rw [show r + 1 + (k - (r + 1)) = k by omega]
    rw [this]; simp
theorem sp_two (L : List (List Int)) (r p : Nat) : sp L r p (r + 1) = sp L r p r ++ [(L.getD r []).take p, (L.getD r []).drop p] := by
  unfold sp; rw [if_neg (by omega), if_pos (Nat.le_refl _), Nat.sub_self, List.take_zero]
theorem sp_all {L : List (List Int)} {r p : Nat} (h : r < L.length) : sp L r p L.length = splitL L r p := by
  unfold sp splitL
  rw [if_neg (by omega), List.take_of_length_le (l := L.drop (r + 1)) (by rw [List.length_drop]; omega)]
theorem sp_len (L : List (List Int)) (r p k : Nat) : (sp L r p k).length ≤ k + 2 := by
  unfold sp
  split
  · rw [List.length_take]; omega
  · rw [List.length_append, List.length_cons, List.length_cons, List.length_take, List.length_take]; omega
theorem sp_zero (L : List (List Int)) (r p : Nat) : sp L r p 0 = [] := by unfold sp; rw [if_pos (Nat.zero_le _)]; rfl
def splitRes (L : List (List Int)) (r p : Int) : List (List Int) := if splitErr L r p = 0 then splitL L r.toNat p.toNat else []
set_option maxRecDepth 100000 in
set_option maxHeartbeats 4000000 in
theorem refSplit_calls (a : Option Addr) (n c : Nat) (L : List (List Int)) (r p : Int) (w : World) (h : ListsAt w a n c L) (hs : L.flatten.length ≤ 100000) :
    Calls Try.prog 22 #[.slice a n c, .int .i64 r, .int .i64 p] w fun e w' => ∃ v, e = .returned (.tuple #[v, .int .i64 (splitErr L r p)]) ∧ MadeL 23 w w' v (splitRes L r p) := by
  have hval := refValidate_calls a n c L w h hs
  have hlen := h.len
  by_cases hv : validT L = 0
  · rw [hv] at hval
    have Hv := hid_ hval; clear hval
    have hg := good_of hv
    have hn6 : n ≤ 6 := by have := hg.n6; omega
    have hn1 : 1 ≤ n := by have := hg.n1; omega
    by_cases h1 : Within r 0 ((n : Int) - 1) = true
    · have hr' : 0 ≤ r ∧ r ≤ (n : Int) - 1 := by simpa [Within] using h1
      obtain ⟨r', rfl⟩ := Int.eq_ofNat_of_zero_le hr'.1
      have hrn : r' < n := by omega
      have HL := hid_ (fun W (hW : Below w.heap.size w W) => h.below hW (Nat.le_refl _))
      obtain ⟨l, hl⟩ : ∃ l, (L.getD r' []).length = l := ⟨_, rfl⟩
      have hl6 : l ≤ 6 := by rw [← hl]; exact hg.row _ (by rw [List.getD, List.getElem?_eq_getElem (by omega), Option.getD_some]; exact List.getElem_mem _)
      have H1 := hid_ h1
      by_cases h2 : Within p 1 ((l : Int) - 1) = true
      · have hp' : 1 ≤ p ∧ p ≤ (l : Int) - 1 := by simpa [Within] using h2
        obtain ⟨p', rfl⟩ := Int.eq_ofNat_of_zero_le (show 0 ≤ p by omega)
        have H2 := hid_ h2
        by_cases h6 : n = 6
        · have He : Hid (splitErr L r' p' = 3) := hid_ (by
            rw [splitErr, if_pos hv, if_neg (by omega), if_neg (by show ¬ ((p' : Int) < 1 ∨ ((L.getD r' []).length : Int) ≤ p'); omega), if_pos (by omega)])
          have Hf : Hid (splitRes L r' p' = []) := hid_ (by rw [splitRes, He.out]; rfl)
          have Hl := hid_ hl
          have hq6 : ((n : Int) == 6) = true := by simp; omega
          clear hv hg hlen h h1 h2 hr' hp' hl h6
          go_enter Try.func22, Try.ntmps22
          go_wp2_with fail
          refine Hv.out.mono ?_
          rintro e w1 ⟨rfl, hb1⟩
          obtain ⟨b, off, a1, n1, c1, rfl, hb, hcell, hrow⟩ := (HL.out w1 hb1).cells r' hrn
          obtain rfl : n1 = l := by rw [← hrow.len]; exact Hl.out
          clear hrow
          go_wp2_with (first
            | (go_at_call 72; with_reducible refine (within_as H1.out).mono ?_; rintro e w' ⟨rfl, rfl⟩)
            | (go_at_call 72; with_reducible refine (within_as H2.out).mono ?_; rintro e w' ⟨rfl, rfl⟩))
          go_ret2
          exact ⟨_, by rw [He.out]; rfl, by rw [Hf.out]; exact MadeL.none_ _ hb1⟩
        · have He : Hid (splitErr L r' p' = 0) := hid_ (by
            rw [splitErr, if_pos hv, if_neg (by omega), if_neg (by show ¬ ((p' : Int) < 1 ∨ ((L.getD r' []).length : Int) ≤ p'); omega), if_neg (by omega)])
          have Hf : Hid (splitRes L r' p' = sp L r' p' n) := hid_ (by rw [splitRes, He.out, ← hlen, sp_all (by omega)]; rfl)
          have Hl := hid_ hl
          have Hlen := hid_ hlen
          have Hrow := hid_ hg.row
          have hq6 : ((n : Int) == 6) = false := by simp; omega
          have hpl : p' < l := by omega
          have hp1 : 0 < p' := by omega
          clear hv hg hlen h h1 h2 hr' hp' hl h6
          obtain ⟨i0, hi0, hz0, hz1, hz2⟩ := info_parts Try.infoInt
          obtain ⟨i1, hi1, hz0', hz1', hz2'⟩ := info_parts Try.infoInts
          go_enter Try.func22, Try.ntmps22
          go_wp2_with fail
          refine Hv.out.mono ?_
          rintro e w1 ⟨rfl, hb1⟩
          obtain ⟨b, off, a1, n1, c1, rfl, hb, hcell, hrow⟩ := (HL.out w1 hb1).cells r' hrn
          obtain rfl : n1 = l := by rw [← hrow.len]; exact Hl.out
          have Hcr := hid_ (fun W (hW : Below w1.heap.size w1 W) => (hW.cell (p := ⟨b, off + r', none⟩) hb).trans hcell)
          have Hrr := hid_ (fun W (hW : Below w1.heap.size w1 W) => hrow.below hW (Nat.le_refl _))
          have hc9 := hrow.small
          have hnc := hrow.le
          have hlb : a1 ≠ none := by
            obtain ⟨_, _, e, _⟩ := hrow.cells 0 (by omega)
            rw [e]; simp
          clear hrow
          have Hb1 := hid_ hb1
          go_wp2_with (first
            | (go_at_call 72; with_reducible refine (within_as H1.out).mono ?_; rintro e w' ⟨rfl, rfl⟩)
            | (go_at_call 72; with_reducible refine (within_as H2.out).mono ?_; rintro e w' ⟨rfl, rfl⟩))
          clear hcell hb1
          go_loopw [9, 10] (fun v i wr => ∃ k : Nat, k ≤ n ∧ i = .int .i64 k ∧ OwnL 23 wr w1.heap.size v (sp L r' p' k) ∧ Below w1.heap.size w1 wr) (fun _ i _ => n - (intOf i).toNat)
          case atStart => exact ⟨0, Nat.zero_le _, rfl, by rw [sp_zero]; exact OwnL.nil _ _ _, Below.refl _ _⟩
          case round =>
            obtain ⟨k, hk, rfl, hO, hbel⟩ := hrel
            have hsz := hbel.size
            by_cases hlt : k < n
            · have hkl : k < L.length := by rw [Hlen.out]; exact hlt
              have hjl := sp_len L r' p' k
              have Hjl := hid_ hjl
              have HO := hid_ hO
              clear hO hjl
              by_cases hkr : k = r'
              · subst hkr
                have hcell := Hcr.out wr hbel
                have Htwo := hid_ (sp_two L k p')
                generalize L.getD k [] = y at *
                obtain ⟨xa, rfl⟩ : ∃ xa, a1 = some xa := Option.ne_none_iff_exists'.1 hlb
                have hIr := Hrr.out wr hbel
                obtain ⟨ba, oa, ea, -, -⟩ := hIr.cells 0 (by omega)
                injection ea with ea
                subst ea
                have HI1 : Hid (∀ W, Below wr.heap.size wr W → IntsAt W (some ⟨ba, oa, none⟩) p' c1 (y.take p')) := hid_ (fun W hW => (hIr.below hW (Nat.le_refl _)).take (Nat.le_of_lt hpl))
                have HI2 : Hid (∀ W, Below wr.heap.size wr W → IntsAt W (some ⟨ba, oa + p', none⟩) (n1 - p') (c1 - p') (y.drop p')) := hid_ (fun W hW => IntsAt_drop (hIr.below hW (Nat.le_refl _)) (Nat.le_of_lt hpl))
                have HQ : Hid (∀ W, Below w1.heap.size wr W → W.cell? ⟨b, off + k, none⟩ = some (.slice (some ⟨ba, oa, none⟩) n1 c1) ∧ Below w1.heap.size wr W) := hid_ (fun W hW => ⟨(hW.cell (p := ⟨b, off + k, none⟩) hb).trans hcell, hW⟩)
                have HOW := hid_ (fun W (hW : Below wr.heap.size wr W) => HO.out.below hW (Nat.le_refl _))
                have hvb := hid_ (fun k hk => (HO.out.lt k hk).2)
                have hBB : Below wr.heap.size wr wr := Below.refl _ _
                have hkk : ((k : Int) == (k : Int)) = true := by simp
                have hq1 : ¬ c1 = p' := by omega
                have hq2 : p' ≤ c1 := by omega
                have hq3 : p' ≤ n1 := by omega
                have hq4 : (0 : Int) ≤ (p' : Int) := by omega
                have hk0 : (0 : Int) ≤ (k : Int) := by omega
                have hkn : (k : Int) < (n : Int) := by omega
                have hpc : (p' : Int) ≤ (c1 : Int) := by omega
                have hpn : (p' : Int) ≤ (n1 : Int) := by omega
                have hB0 := hid_ hbel
                clear hIr hbel
                go_wp2_with fail
                go_region_held3 (fun W => W.cell? ⟨b, off + k, none⟩ = some (.slice (some ⟨ba, oa, none⟩) n1 c1) ∧ Below w1.heap.size wr W) ((refine HQ.out _ ?_; (first | assumption | (refine Below.mono ?_ hsz; (repeat (first | assumption | (with_reducible refine Below.alloc ?_ (by first | omega | (simp; done) | (simp; omega)) _) | (with_reducible refine Below.drew ?_)))))))
                  (first
                    | ((refine step_copy0 rfl (.tmp 44) (.tmp 50) rfl _ (by rfl) (some ⟨ba, oa, none⟩) (p') (c1) _ (by rfl) (HI1.out _ ?_) (by omega) ?_); (focus (repeat (first | assumption | (with_reducible refine Below.alloc ?_ (by first | omega | (simp; done) | (simp; omega)) _) | (with_reducible refine Below.drew ?_)))); intro x1 k1 w71 E1 hc1; have hB71 : Below wr.heap.size wr w71 := below_then (by (repeat (first | assumption | (with_reducible refine Below.alloc ?_ (by first | omega | (simp; done) | (simp; omega)) _) | (with_reducible refine Below.drew ?_)))) hc1; have E1 := IntsNew.base (B' := wr.heap.size) E1 (show Below wr.heap.size wr _ by (repeat (first | assumption | (with_reducible refine Below.alloc ?_ (by first | omega | (simp; done) | (simp; omega)) _) | (with_reducible refine Below.drew ?_)))).size; have hs71 := hB71.size; (first | (have E2 := E2.b0 hc1) | (have E2 := E2.b1 hc1) | skip))
                    | ((refine step_copy0 rfl (.tmp 52) (.tmp 58) rfl _ (by rfl) (some ⟨ba, oa + p', none⟩) (n1 - p') (c1 - p') _ (by rfl) (HI2.out _ ?_) (by omega) ?_); (focus (repeat (first | assumption | (with_reducible refine Below.alloc ?_ (by first | omega | (simp; done) | (simp; omega)) _) | (with_reducible refine Below.drew ?_)))); intro x2 k2 w72 E2 hc2; have hB72 : Below wr.heap.size wr w72 := below_then (by (repeat (first | assumption | (with_reducible refine Below.alloc ?_ (by first | omega | (simp; done) | (simp; omega)) _) | (with_reducible refine Below.drew ?_)))) hc2; have E2 := IntsNew.base (B' := wr.heap.size) E2 (show Below wr.heap.size wr _ by (repeat (first | assumption | (with_reducible refine Below.alloc ?_ (by first | omega | (simp; done) | (simp; omega)) _) | (with_reducible refine Below.drew ?_)))).size; have hs72 := hB72.size; (first | (have E1 := E1.b0 hc2) | (have E1 := E1.b1 hc2) | skip))
                    | ((refine step_append_lists rfl (.tmp 43) (.tmp 60) rfl w1.heap.size u9 _ (by rfl) (HOW.out _ ?_) _ 2 2 _ (by rfl) (lists_two 23 E1.at_ E2.at_) (inner_two E1 E2 hvb.out) (by have := Hjl.out; omega) (by first | omega | (simp; omega)) ?_); (focus (repeat (first | assumption | (with_reducible refine Below.alloc ?_ (by first | omega | (simp; done) | (simp; omega)) _) | (with_reducible refine Below.drew ?_)))); intro v3 w3 hO3 hg3; have hB73 : Below w1.heap.size wr w3 := Below.grown (Below.mono (show Below wr.heap.size wr _ by (repeat (first | assumption | (with_reducible refine Below.alloc ?_ (by first | omega | (simp; done) | (simp; omega)) _) | (with_reducible refine Below.drew ?_)))) hsz) hg3 (by first | omega | (simp; omega)) (fun k hk => (HO.out.lt k hk).1)))
                all_goals
                  have HO3 := hid_ hO3
                  have HB3 := hid_ (hB0.out.trans hB73)
                  clear hO3 hg3 hB73
                  go_wp2
                  exact ⟨⟨k + 1, by omega, by go_num, by rw [Htwo.out]; exact HO3.out, HB3.out⟩, by simp [intOf]; omega⟩
              · obtain ⟨b2, off2, a2, n2, c2, e2, hb2, hcell2, hrow2⟩ := (HL.out wr (Hb1.out.trans (hbel.mono Hb1.out.size))).cells k hlt
                injection e2 with e2; injection e2 with e2 e3
                subst e2; subst e3
                have hle : n2 ≤ 6 := by rw [← hrow2.len]; exact Hrow.out _ (by rw [List.getD, List.getElem?_eq_getElem hkl, Option.getD_some]; exact List.getElem_mem _)
                have Hpush := hid_ (sp_push (p := p') hkl hkr)
                have hown0 : (wr.alloc (.cells #[] 3)).ownsRow wr.heap.size 3 1 (.slice (some ⟨wr.heap.size, 0, none⟩) 0 0) 0 (([] : List Int).map (Value.int .i64)) := World.ownsRow_made wr #[] 0 (Nat.le_refl _) (by omega) rfl
                have hI := hrow2.below ((Below.refl _ wr).alloc (Nat.le_refl _) (.cells #[] 3)) (Nat.le_refl _)
                have hkk : ((k : Int) == (r' : Int)) = false := by simp; omega
                generalize L.getD k [] = y at *
                clear hrow2 hkr
                go_wp2_with (first
                  | (at_builtin; refine wpList_append_ints _ rfl (.tmp 63) (.tmp 67) _ rfl wr.heap.size 3 i0 Try.underlying23 hi0 hz0 hz1 hz2 _ _ _ rfl hown0 _ _ _ _ rfl hI (by omega) (by simp) ?_; intro v1 w2 hown2 hg2 hat2; have hb2 : Below wr.heap.size wr w2 := below_new hg2; rw [Nat.zero_add, List.nil_append] at hown2; obtain ⟨a3, c3, rfl, hI2⟩ := IntsAt.own hown2; have hO2 := HO.out.below hb2 (Nat.le_refl _); have hsz2 := hb2.size)
                  | (at_builtin; refine wpList_push_list _ rfl (.tmp 62) (.tmp 69) _ rfl w1.heap.size 23 i1 Try.underlying22 hi1 hz0' hz1' hz2' u9 _ rfl hO2 a3 n2 c3 y 23 rfl hI2 (fun b off hn ha e => by have h1 := (HO.out.lt b e).2; have h2 := (hown2.lt b (by rw [ha]; rfl)).1; omega) (by have := Hjl.out; omega) (by omega) ?_; intro v3 w3 hO3 hg3 hat3))
                have Hb3 : Hid (Below w1.heap.size w1 w3) := hid_ (belowL_app (hbel.trans (hb2.mono hsz)) (Nat.le_trans hsz hsz2) hO2 hg3)
                have HO3 := hid_ hO3
                clear hO3 hg3 hat3 hO2 hown2 hI2 hg2 hat2
                go_roundw
                case rel => exact ⟨k + 1, by omega, by go_num, by rw [Hpush.out]; exact HO3.out, Hb3.out⟩
                case measure => simp [intOf]; omega
            · obtain rfl : k = n := by omega
              have HO := hid_ (hO.base Hb1.out.size)
              have HB := hid_ (below_then Hb1.out hbel)
              clear hO hbel
              go_wp2
              go_ret2
              exact ⟨_, by rw [He.out]; rfl, by rw [Hf.out]; exact ⟨HO.out, HB.out⟩⟩
      · have h2' : Within p 1 ((l : Int) - 1) = false := by simpa using h2
        have He : Hid (splitErr L r' p = 1) := hid_ (by
          rw [splitErr, if_pos hv, if_neg (by omega), if_pos (by show p < 1 ∨ ((L.getD r' []).length : Int) ≤ p; simp [Within] at h2; omega)])
        have Hf : Hid (splitRes L r' p = []) := hid_ (by rw [splitRes, He.out]; rfl)
        have Hl := hid_ hl
        have H2 := hid_ h2'
        clear hv hg hlen h h1 h2 h2' hr' hl
        go_enter Try.func22, Try.ntmps22
        go_wp2_with fail
        refine Hv.out.mono ?_
        rintro e w1 ⟨rfl, hb1⟩
        obtain ⟨b, off, a1, n1, c1, rfl, hb, hcell, hrow⟩ := (HL.out w1 hb1).cells r' hrn
        obtain rfl : n1 = l := by rw [← hrow.len]; exact Hl.out
        clear hrow
        go_wp2_with (first
          | (go_at_call 72; with_reducible refine (within_as H1.out).mono ?_; rintro e w' ⟨rfl, rfl⟩)
          | (go_at_call 72; with_reducible refine (within_as H2.out).mono ?_; rintro e w' ⟨rfl, rfl⟩))
        go_ret2
        exact ⟨_, by rw [He.out]; rfl, by rw [Hf.out]; exact MadeL.none_ _ hb1⟩
    · have h1' : Within r 0 ((n : Int) - 1) = false := by simpa using h1
      have He : Hid (splitErr L r p = 4) := hid_ (by rw [splitErr, if_pos hv, if_pos (by simp [Within] at h1; omega)])
      have Hf : Hid (splitRes L r p = []) := hid_ (by rw [splitRes, He.out]; rfl)
      have H1 := hid_ h1'
      clear hv hg hlen h1 h1'
      go_enter Try.func22, Try.ntmps22
      go_wp2_with fail
      refine Hv.out.mono ?_
      rintro e w1 ⟨rfl, hb1⟩
      go_wp2_with (go_at_call 72; refine (within_as H1.out).mono ?_; rintro e w' ⟨rfl, rfl⟩)
      go_ret2
      exact ⟨_, by rw [He.out]; rfl, by rw [Hf.out]; exact MadeL.none_ _ hb1⟩
  · have He : Hid (splitErr L r p = validT L) := hid_ (if_neg hv)
    have Hf : Hid (splitRes L r p = []) := hid_ (by rw [splitRes, if_neg (by rw [He.out]; exact hv)])
    generalize validT L = er at hval hv He
    have hq : (er != 0) = true := by simpa using hv
    have Hv := hid_ hval; clear hval hv hlen
    go_enter Try.func22, Try.ntmps22
    go_wp2_with fail
    refine Hv.out.mono ?_
    rintro e w2 ⟨rfl, hb2⟩
    go_wp2
    go_ret2
    exact ⟨_, by rw [He.out]; rfl, by rw [Hf.out]; exact MadeL.none_ _ hb2⟩
end Go.Proofs.Ytoopgmoopmbfnaa
