import Derived.WalkKit
import Derived.WalkMore
import Derived.WalkSpells
import Derived.WalkLawsBesides
import Derived.Deep.QuietTactic
import Derived.BigQuiet
import Derived.IntWalk
import Derived.Maps.AppendAt
import Derived.Deep.AppendLies
import Derived.Deep.LoopGhost
import Derived.Deep.CutRange
import Derived.Deep.DeepCutAuto
import Derived.Deep.DeepMust
import Derived.Deep.DeepFit
import Derived.Outline
import Derived.OwnWalk
namespace Go.Proofs.Kv
open Go.RowKit

theorem hid_ {p : Prop} (h : p) : Hid p := h

/-- the slice value (a, n, c) reads as the numbers l -/
structure IntsAt (w : World) (a : Option Addr) (n c : Nat) (l : List Int) : Prop where
  len : l.length = n
  le : n ≤ c
  small : c ≤ 9223372036854775807
  cells : ∀ i, i < n → ∃ b off, a = some ⟨b, off, none⟩ ∧ b < w.heap.size ∧ w.cell? ⟨b, off + i, none⟩ = some (.int .i64 (l.getD i 0))

theorem IntsAt.nil (w : World) (a : Option Addr) (c : Nat) (hc : c ≤ 9223372036854775807) : IntsAt w a 0 c [] := ⟨rfl, by omega, hc, fun i h => absurd h (by omega)⟩

theorem IntsAt.keep {w w' : World} {a : Option Addr} {n c : Nat} {l : List Int} (h : IntsAt w a n c l)
    (hk : ∀ b off, a = some ⟨b, off, none⟩ → w'.heap[b]? = w.heap[b]?) : IntsAt w' a n c l :=
  ⟨h.len, h.le, h.small, fun i hi => by
    obtain ⟨b, off, ha, hb, hc⟩ := h.cells i hi
    have e := hk b off ha
    have hc' : w'.cell? ⟨b, off + i, none⟩ = some (.int .i64 (l.getD i 0)) := (World.cell?_of_block (w := w) (a := ⟨b, off + i, none⟩) e).trans hc
    exact ⟨b, off, ha, World.block_lt_of_cell? w' ⟨b, off + i, none⟩ hc', hc'⟩⟩

/-- what was there stays while only what lies from B on is turned -/
theorem IntsAt.below {w w' : World} {B : Nat} {a : Option Addr} {n c : Nat} {l : List Int} (h : IntsAt w a n c l) (hb : Below B w w') (hB : w.heap.size ≤ B) : IntsAt w' a n c l :=
  ⟨h.len, h.le, h.small, fun i hi => by
    obtain ⟨b, off, ha, hlt, hc⟩ := h.cells i hi
    exact ⟨b, off, ha, Nat.lt_of_lt_of_le hlt hb.size, (hb.cell (p := ⟨b, off + i, none⟩) (Nat.lt_of_lt_of_le hlt hB)).trans hc⟩⟩

theorem IntsAt.drewN {w : World} {a : Option Addr} {n c : Nat} {l : List Int} (h : IntsAt w a n c l) (q : Nat) : IntsAt (w.drewN q) a n c l := ⟨h.len, h.le, h.small, h.cells⟩

theorem below_drewN {B : Nat} {a w : World} (h : Below B a w) (n : Nat) : Below B a (w.drewN n) := ⟨h.os, h.tape, h.output, h.size, h.block⟩

theorem below_then {a b c : World} (h : Below a.heap.size a b) (k : Below b.heap.size b c) : Below a.heap.size a c := h.trans (k.mono h.size)

/-- a row of the call's own reads as its numbers -/
theorem IntsAt.own {w : World} {B E : Nat} {v : Value} {n : Nat} {l : List Int} (h : w.ownsRow B E 1 v n (l.map (Value.int .i64))) : ∃ a c, v = .slice a n c ∧ IntsAt w a n c l := by
  have hl : l.length = n := by have := h.1; simpa using this
  rcases h.2 with ⟨rfl, rfl⟩ | ⟨g, cap, cur, rfl, _, hg, hn, hm, hs, ht⟩
  · exact ⟨none, 0, rfl, hl, Nat.le_refl _, by omega, fun i hi => absurd hi (by omega)⟩
  · refine ⟨_, cap, rfl, hl, hn, by unfold maxLen at hm; omega, fun i hi => ⟨g, 0, rfl, (Array.getElem?_eq_some_iff.1 hg).1, ?_⟩⟩
    have hc := h.cells (g := g) rfl i (.int .i64 (l.getD i 0)) (by
      rw [List.getElem?_map, List.getElem?_eq_getElem (by omega)]
      simp [List.getD, List.getElem?_eq_getElem (show i < l.length by omega)])
    have : (⟨g, 0, none⟩ : Addr).add i = ⟨g, 0 + i, none⟩ := by unfold Addr.add; split <;> simp_all
    rwa [this] at hc

theorem IntsAt.cellsIn {w : World} {x : Addr} {n c : Nat} {l : List Int} (h : IntsAt w (some x) n c l) : ∀ j u, (l.map (Value.int .i64))[j]? = some u → w.cell? (x.add j) = some u := by
  intro j u hu
  have hj : j < l.length := by
    rcases Nat.lt_or_ge j l.length with h' | h'
    · exact h'
    · rw [List.getElem?_eq_none (by simpa using h')] at hu; cases hu
  obtain ⟨b, off, ha, _, hc⟩ := h.cells j (by rw [← h.len]; exact hj)
  injection ha with ha
  subst ha
  rw [List.getElem?_map, List.getElem?_eq_getElem hj] at hu
  simp at hu
  subst hu
  have : (⟨b, off, none⟩ : Addr).add j = ⟨b, off + j, none⟩ := by unfold Addr.add; split <;> simp_all
  rw [this, hc]
  simp [List.getD, List.getElem?_eq_getElem hj]

section
variable {P : Program} (w : World)
/-- append onto an own row, of a slice that reads as numbers, empty and nil too -/
theorem run_append_ints (base : Nat) (t ty e : TypeId) (i : TypeInfo) (ht : P.underlying t = some (.slice e)) (hi : P.info? e = some i) (hz : i.zero = some (.int .i64 0))
    (hsize : i.size = 1) (hby : i.bytes = 8) (v : Value) (n : Nat) (xs : List Int) (hown : w.ownsRow base e 1 v n (xs.map (Value.int .i64)))
    (A : Option Addr) (m c : Nat) (ys : List Int) (hr : IntsAt w A m c ys) (hs : n + m ≤ 1000000) (hbase : base ≤ w.heap.size) :
    ∃ v' w', (Builtin.append_ #[t, t] ty #[v, .slice A m c]).run P w = .ok v' w' ∧ w'.ownsRow base e 1 v' (n + m) ((xs ++ ys).map (Value.int .i64)) ∧ w.grownBy w' v.ownBlock ∧
      (v'.ownBlock = v.ownBlock ∨ v'.ownBlock = some w.heap.size) := by
  rcases A with _ | x
  · have hm : m = 0 := by
      rcases Nat.eq_zero_or_pos m with h0 | h0
      · exact h0
      · obtain ⟨_, _, h, _⟩ := hr.cells 0 h0; cases h
    subst hm
    have : ys = [] := List.eq_nil_of_length_eq_zero hr.len
    subst this
    refine ⟨v, w, ?_, by simpa using hown, World.grownBy.refl w _, .inl rfl⟩
    rcases hown.2 with ⟨rfl, rfl⟩ | ⟨g, cap, cur, rfl, _, _, hnc, _⟩
    · simp [Builtin.append_, run_underlying ht, sizeOf, typeInfo, hi, Builtin.lenOf, Builtin.firstCells]
    · simp [Builtin.append_, run_underlying ht, sizeOf, typeInfo, hi, Builtin.lenOf, Builtin.firstCells, hnc, storeCells]
  · obtain ⟨v', w', h1, h2, h3, _, h5⟩ := run_append_own_at (P := P) w base t ty e i (.int .i64 0) 1 8 ht hi hz hsize hby rfl (by omega) v n _ hown x m c (ys.map (Value.int .i64)) (by simp [hr.len]) hr.cellsIn
      (ints_oneCell .i64 ys) (by unfold maxLen; omega) (by omega) hbase
    exact ⟨v', w', h1, by rw [List.map_append]; exact h2, h3, h5⟩

theorem wpList_append_ints {ops : Array Oper} {rest : List Oper} {o : Oper} {a : Act} {Q : Exit → Act → World → Prop} (hgd : o.guard = none) (s x : Operand) (t : TypeId)
    (ho : o.op = .call { callee := .builtin .append, args := #[s, x], argTypes := #[t, t] })
    (base : Nat) (e : TypeId) (i : TypeInfo) (ht : P.underlying t = some (.slice e)) (hi : P.info? e = some i) (hz : i.zero = some (.int .i64 0)) (hsize : i.size = 1) (hby : i.bytes = 8)
    (v : Value) (n : Nat) (xs : List Int) (hs : a.eval s = v) (hown : w.ownsRow base e 1 v n (xs.map (Value.int .i64)))
    (A : Option Addr) (m c : Nat) (ys : List Int) (hx : a.eval x = .slice A m c) (hr : IntsAt w A m c ys) (hsm : n + m ≤ 1000000) (hbase : base ≤ w.heap.size)
    (h : ∀ v' w', w'.ownsRow base e 1 v' (n + m) ((xs ++ ys).map (Value.int .i64)) → w.grownBy w' v.ownBlock → (v'.ownBlock = v.ownBlock ∨ v'.ownBlock = some w.heap.size) → wpList P ops Q rest (a.put o.dst v') w') :
    wpList P ops Q (o :: rest) a w := by
  refine wpList_plain hgd fun K hK => ?_
  obtain ⟨v', w', hrun, h2, h3, h4⟩ := run_append_ints (P := P) w base t o.type e i ht hi hz hsize hby v n xs hown A m c ys hr hsm hbase
  unfold Oper.wp execOp
  simp only [ho, resolve, invoke, builtin, Sem.run_bind, Sem.run_pure, Result.andThen_ok, List.map_toArray, List.map_cons, List.map_nil, hs, hx, hrun]
  exact hK _ _ (h v' w' h2 h3 h4)
end

theorem IntsAt.one (w : World) (x : Int) (E : TypeId) : IntsAt (w.alloc (.cells #[.int .i64 x] E)) (some ⟨w.heap.size, 0, none⟩) 1 1 [x] :=
  ⟨rfl, Nat.le_refl _, by omega, fun i hi => ⟨w.heap.size, 0, rfl, by simp, by
    obtain rfl : i = 0 := by omega
    rw [World.cell?_alloc_at _ _ _ _ (by rfl)]; rfl⟩⟩

/-- the slice value (a, n, c) reads as the lists L -/
structure ListsAt (w : World) (a : Option Addr) (n c : Nat) (L : List (List Int)) : Prop where
  len : L.length = n
  le : n ≤ c
  small : c ≤ 9223372036854775807
  cells : ∀ i, i < n → ∃ b off a' n' c', a = some ⟨b, off, none⟩ ∧ b < w.heap.size ∧ w.cell? ⟨b, off + i, none⟩ = some (.slice a' n' c') ∧ IntsAt w a' n' c' (L.getD i [])

theorem ListsAt.nil (w : World) (a : Option Addr) (c : Nat) (hc : c ≤ 9223372036854775807) : ListsAt w a 0 c [] := ⟨rfl, by omega, hc, fun i h => absurd h (by omega)⟩

theorem ListsAt.below {w w' : World} {B : Nat} {a : Option Addr} {n c : Nat} {L : List (List Int)} (h : ListsAt w a n c L) (hb : Below B w w') (hB : w.heap.size ≤ B) : ListsAt w' a n c L :=
  ⟨h.len, h.le, h.small, fun i hi => by
    obtain ⟨b, off, a', n', c', ha, hlt, hc, hr⟩ := h.cells i hi
    exact ⟨b, off, a', n', c', ha, Nat.lt_of_lt_of_le hlt hb.size, (hb.cell (p := ⟨b, off + i, none⟩) (Nat.lt_of_lt_of_le hlt hB)).trans hc, hr.below hb hB⟩⟩

theorem ListsAt.drewN {w : World} {a : Option Addr} {n c : Nat} {L : List (List Int)} (h : ListsAt w a n c L) (q : Nat) : ListsAt (w.drewN q) a n c L :=
  ⟨h.len, h.le, h.small, fun i hi => by
    obtain ⟨b, off, a', n', c', ha, hlt, hc, hr⟩ := h.cells i hi
    exact ⟨b, off, a', n', c', ha, hlt, hc, hr.drewN q⟩⟩

theorem retB {b b' : Bool} (h : b' = b) : Ending.returned (.bool b) = .returned (.bool b') := by rw [h]
theorem retI {k : IntKind} {b b' : Int} (h : b' = b) : Ending.returned (.int k b) = .returned (.int k b') := by rw [h]
theorem getD_mem {l : List Int} {k : Nat} (h : k < l.length) : l.getD k 0 ∈ l := by simp [List.getD, List.getElem?_eq_getElem h]
theorem mem_getD {l : List Int} {x : Int} (h : x ∈ l) : ∃ k, k < l.length ∧ l.getD k 0 = x := by
  obtain ⟨i, hi, hx⟩ := List.mem_iff_getElem.1 h
  exact ⟨i, hi, by simp [List.getD, List.getElem?_eq_getElem hi, hx]⟩
theorem take_snoc {α : Type} (l : List α) (d : α) (k : Nat) (h : k < l.length) : l.take (k + 1) = l.take k ++ [l.getD k d] := by
  rw [List.take_succ_eq_append_getElem h]
  simp [List.getD, List.getElem?_eq_getElem h]
theorem lt_snoc {p : Nat → Prop} {k : Nat} (h : ∀ j, j < k → p j) (hk : p k) : ∀ j, j < k + 1 → p j := fun j hj => by
  rcases Nat.lt_succ_iff_lt_or_eq.1 hj with h1 | rfl
  · exact h j h1
  · exact hk
theorem ext_getD {l m : List Int} {n : Nat} (h1 : l.length = n) (h2 : m.length = n) (h : ∀ j, j < n → l.getD j 0 = m.getD j 0) : l = m := by
  refine List.ext_getElem (by omega) fun i h3 h4 => ?_
  have := h i (by omega)
  simpa [List.getD, List.getElem?_eq_getElem h3, List.getElem?_eq_getElem h4] using this

theorem le_alloc {B : Nat} {w : World} {o : Obj} (h : B ≤ w.heap.size) : B ≤ (w.alloc o).heap.size := by simp; omega
theorem size_alloc_one (w : World) (o : Obj) : (w.alloc o).heap.size = w.heap.size + 1 := by simp
theorem own_drewN {w : World} {B E size : Nat} {v : Value} {n : Nat} {xs : List Value} (h : w.ownsRow B E size v n xs) (q : Nat) : (w.drewN q).ownsRow B E size v n xs := h
theorem cell_app {w w1 : World} {B E size n : Nat} {v : Value} {xs : List Value} {o : Obj} (hown : w.ownsRow B E size v n xs) (hg : (w.alloc o).grownBy w1 v.ownBlock) {p : Addr} {u : Value} (hc : w.cell? p = some u) (hp : p.block < B) : w1.cell? p = some u :=
  hg.cell ((World.cell?_alloc_lt w o p (World.block_lt_of_cell? w p hc)).trans hc) fun e => by have := hown.lt _ e.symm; omega
theorem drewN2 (w : World) (a b : Nat) : (w.drewN a).drewN b = w.drewN (a + b) := by simp

/-- v is new memory that holds the numbers l; what was there stays -/
structure Made (E : TypeId) (w w' : World) (v : Value) (l : List Int) : Prop where
  own : w'.ownsRow w.heap.size E 1 v l.length (l.map (Value.int .i64))
  bel : Below w.heap.size w w'

theorem Made.at_ {E : TypeId} {w w' : World} {v : Value} {l : List Int} (h : Made E w w' v l) : ∃ a c, v = .slice a l.length c ∧ IntsAt w' a l.length c l := IntsAt.own h.own

theorem own_base {w : World} {B B' E size : Nat} {v : Value} {n : Nat} {xs : List Value} (h : w.ownsRow B' E size v n xs) (hB : B ≤ B') : w.ownsRow B E size v n xs :=
  ⟨h.1, h.2.imp id fun ⟨g, cap, cur, h1, h2, h3⟩ => ⟨g, cap, cur, h1, Nat.le_trans hB h2, h3⟩⟩
theorem own_below {w w' : World} {B B' E size : Nat} {v : Value} {n : Nat} {xs : List Value} (h : w.ownsRow B E size v n xs) (hb : Below B' w w') (hB : w.heap.size ≤ B') : w'.ownsRow B E size v n xs := by
  refine ⟨h.1, h.2.imp id ?_⟩
  rintro ⟨g, cap, cur, h1, h2, h3, h4⟩
  exact ⟨g, cap, cur, h1, h2, by rw [hb.block g (Nat.lt_of_lt_of_le (Array.getElem?_eq_some_iff.1 h3).1 hB)]; exact h3, h4⟩

theorem Made.after {E : TypeId} {w w1 w2 : World} {v : Value} {l : List Int} (hb : Below w.heap.size w w1) (h : Made E w1 w2 v l) : Made E w w2 v l :=
  ⟨own_base h.own hb.size, below_then hb h.bel⟩
theorem Made.none_ (E : TypeId) {w w' : World} (hb : Below w.heap.size w w') : Made E w w' (.slice none 0 0) [] := ⟨World.ownsRow_nil _ _ _ _, hb⟩
theorem IntsAt.take {w : World} {a : Option Addr} {n c : Nat} {l : List Int} (h : IntsAt w a n c l) {k : Nat} (hk : k ≤ n) : IntsAt w a k c (l.take k) :=
  ⟨by rw [List.length_take, h.len]; omega, Nat.le_trans hk h.le, h.small, fun i hi => by
    obtain ⟨b, off, ha, hb, hc⟩ := h.cells i (by omega)
    refine ⟨b, off, ha, hb, hc.trans ?_⟩
    simp [List.getD, hi]⟩
theorem flat_take_le (L : List (List Int)) (k : Nat) : (L.take k).flatten.length ≤ L.flatten.length := by
  have : L.flatten = (L.take k).flatten ++ (L.drop k).flatten := by rw [← List.flatten_append, List.take_append_drop]
  rw [this, List.length_append]; omega

/-- a pair of numbers as cells -/
def encN (x : Int × Int) : List Value := [.int .i64 x.1, .int .i64 x.2]
theorem encN_len (l : List (Int × Int)) : (l.flatMap encN).length = l.length * 2 := by
  induction l with
  | nil => rfl
  | cons x l ih => simp only [List.flatMap_cons, List.length_append, ih, List.length_cons]; simp [encN]; omega
theorem encN_one (l : List (Int × Int)) : ∀ u ∈ l.flatMap encN, u.oneCell' = true := by
  intro u hu
  obtain ⟨x, _, hx⟩ := List.mem_flatMap.1 hu
  simp [encN] at hx
  rcases hx with rfl | rfl <;> rfl
theorem encN_at (l : List (Int × Int)) (i : Nat) (h : i < l.length) : (l.flatMap encN)[i * 2]? = some (.int .i64 (l.getD i (0, 0)).1) ∧ (l.flatMap encN)[i * 2 + 1]? = some (.int .i64 (l.getD i (0, 0)).2) := by
  induction l generalizing i with
  | nil => exact absurd h (by simp)
  | cons x l ih =>
    cases i with
    | zero => exact ⟨rfl, rfl⟩
    | succ i =>
      have := ih i (by simpa using h)
      rw [List.flatMap_cons]
      have e1 : (i + 1) * 2 = i * 2 + 2 := by omega
      have e2 : (encN x).length = 2 := rfl
      refine ⟨?_, ?_⟩
      · rw [List.getElem?_append_right (by rw [e2]; omega), e2, e1, Nat.add_sub_cancel]
        simpa using this.1
      · rw [List.getElem?_append_right (by rw [e2]; omega), e2, show (i + 1) * 2 + 1 - 2 = i * 2 + 1 by omega]
        simpa using this.2

/-- the slice value (a, n, c) of pairs reads as l -/
structure PairsAt (w : World) (a : Option Addr) (n c : Nat) (l : List (Int × Int)) : Prop where
  len : l.length = n
  le : n ≤ c
  small : c ≤ 9223372036854775807
  cells : ∀ i, i < n → ∃ b off, a = some ⟨b, off, none⟩ ∧ b < w.heap.size ∧ w.cell? ⟨b, off + i * 2, none⟩ = some (.int .i64 (l.getD i (0, 0)).1) ∧ w.cell? ⟨b, off + i * 2 + 1, none⟩ = some (.int .i64 (l.getD i (0, 0)).2)

theorem PairsAt.below {w w' : World} {B : Nat} {a : Option Addr} {n c : Nat} {l : List (Int × Int)} (h : PairsAt w a n c l) (hb : Below B w w') (hB : w.heap.size ≤ B) : PairsAt w' a n c l :=
  ⟨h.len, h.le, h.small, fun i hi => by
    obtain ⟨b, off, ha, hlt, hc, hc'⟩ := h.cells i hi
    exact ⟨b, off, ha, Nat.lt_of_lt_of_le hlt hb.size, (hb.cell (p := ⟨b, off + i * 2, none⟩) (Nat.lt_of_lt_of_le hlt hB)).trans hc, (hb.cell (p := ⟨b, off + i * 2 + 1, none⟩) (Nat.lt_of_lt_of_le hlt hB)).trans hc'⟩⟩
theorem PairsAt.drewN {w : World} {a : Option Addr} {n c : Nat} {l : List (Int × Int)} (h : PairsAt w a n c l) (q : Nat) : PairsAt (w.drewN q) a n c l := ⟨h.len, h.le, h.small, h.cells⟩

theorem PairsAt.own {w : World} {B E : Nat} {v : Value} {n : Nat} {l : List (Int × Int)} (h : w.ownsRow B E 2 v n (l.flatMap encN)) : ∃ a c, v = .slice a n c ∧ PairsAt w a n c l := by
  have hl : l.length = n := by have := h.1; rw [encN_len] at this; omega
  rcases h.2 with ⟨rfl, rfl⟩ | ⟨g, cap, cur, rfl, _, hg, hn, hm, hs, ht⟩
  · exact ⟨none, 0, rfl, hl, Nat.le_refl _, by omega, fun i hi => absurd hi (by omega)⟩
  · refine ⟨_, cap, rfl, hl, hn, by unfold maxLen at hm; omega, fun i hi => ⟨g, 0, rfl, (Array.getElem?_eq_some_iff.1 hg).1, ?_, ?_⟩⟩
    · have hc := h.cells (g := g) rfl (i * 2) _ (encN_at l i (by omega)).1
      have : (⟨g, 0, none⟩ : Addr).add (i * 2) = ⟨g, 0 + i * 2, none⟩ := by unfold Addr.add; split <;> simp_all
      rwa [this] at hc
    · have hc := h.cells (g := g) rfl (i * 2 + 1) _ (encN_at l i (by omega)).2
      have : (⟨g, 0, none⟩ : Addr).add (i * 2 + 1) = ⟨g, 0 + i * 2 + 1, none⟩ := by unfold Addr.add; simp
      rwa [this] at hc

/-- v is new memory that holds the pairs l -/
structure MadeP (E : TypeId) (w w' : World) (v : Value) (l : List (Int × Int)) : Prop where
  own : w'.ownsRow w.heap.size E 2 v l.length (l.flatMap encN)
  bel : Below w.heap.size w w'
theorem MadeP.at_ {E : TypeId} {w w' : World} {v : Value} {l : List (Int × Int)} (h : MadeP E w w' v l) : ∃ a c, v = .slice a l.length c ∧ PairsAt w' a l.length c l := PairsAt.own h.own
theorem MadeP.after {E : TypeId} {w w1 w2 : World} {v : Value} {l : List (Int × Int)} (hb : Below w.heap.size w w1) (h : MadeP E w1 w2 v l) : MadeP E w w2 v l :=
  ⟨own_base h.own hb.size, below_then hb h.bel⟩
theorem MadeP.none_ (E : TypeId) {w w' : World} (hb : Below w.heap.size w w') : MadeP E w w' (.slice none 0 0) [] := ⟨World.ownsRow_nil _ _ _ _, hb⟩

section
variable {P : Program} (w : World)
/-- append of one pair, which lies in a new block -/
theorem wpList_append_pair {ops : Array Oper} {rest : List Oper} {o : Oper} {a : Act} {Q : Exit → Act → World → Prop} (hgd : o.guard = none) (s x : Operand) (t : TypeId)
    (ho : o.op = .call { callee := .builtin .append, args := #[s, x], argTypes := #[t, t] })
    (base : Nat) (e : TypeId) (i : TypeInfo) (ht : P.underlying t = some (.slice e)) (hi : P.info? e = some i) (hz : i.zero = some (.agg #[.int .i64 0, .int .i64 0])) (hsize : i.size = 2) (hby : i.bytes = 16)
    (v : Value) (n : Nat) (xs : List (Int × Int)) (hs : a.eval s = v) (hown : w.ownsRow base e 2 v n (xs.flatMap encN))
    (y z : Int) (E : TypeId) (hx : a.eval x = .slice (some ⟨w.heap.size, 0, none⟩) 1 1) (hsm : n + 1 ≤ 1000000) (hbase : base ≤ w.heap.size)
    (h : ∀ v' w', w'.ownsRow base e 2 v' (n + 1) ((xs ++ [(y, z)]).flatMap encN) → (w.alloc (.cells #[.int .i64 y, .int .i64 z] E)).grownBy w' v.ownBlock → wpList P ops Q rest (a.put o.dst v') w') :
    wpList P ops Q (o :: rest) a (w.alloc (.cells #[.int .i64 y, .int .i64 z] E)) := by
  refine wpList_append_own _ hgd s x t ho base e i (.agg #[.int .i64 0, .int .i64 0]) 2 16 ht hi hz hsize hby rfl (by omega) v n (xs.flatMap encN) hs (hown.alloc _) ⟨w.heap.size, 0, none⟩ 1 1 (encN (y, z)) hx rfl ?_
    (by intro u hu; simp [encN] at hu; rcases hu with rfl | rfl <;> rfl) (by unfold maxLen; omega) (by omega) (le_alloc hbase) fun v' w' h1 h2 _ => h v' w' (by rw [List.flatMap_append]; simpa using h1) h2
  intro j u hu
  have hj : j < 2 := by
    rcases Nat.lt_or_ge j 2 with h | h
    · exact h
    · rw [List.getElem?_eq_none (by simpa [encN] using h)] at hu; cases hu
  match j, hj with
  | 0, _ =>
    simp [encN] at hu; subst hu
    show (w.alloc _).cell? ⟨w.heap.size, 0, none⟩ = _
    rw [World.cell?_alloc_at _ _ _ _ (by rfl)]; rfl
  | 1, _ =>
    simp [encN] at hu; subst hu
    show (w.alloc _).cell? ⟨w.heap.size, 1, none⟩ = _
    rw [World.cell?_alloc_at _ _ _ _ (by rfl)]; rfl
end

theorem below_app {B : Nat} {w wr w1 : World} {o : Obj} {E size n : Nat} {v : Value} {xs : List Value} (h : Below B w wr) (hB : B ≤ wr.heap.size) (hown : wr.ownsRow B E size v n xs) (hg : (wr.alloc o).grownBy w1 v.ownBlock) : Below B w w1 :=
  (h.alloc hB o).grown hg (by simp; omega) fun k hk => (hown.lt k hk).1
theorem below_app0 {B : Nat} {w wr w1 : World} {E size n : Nat} {v : Value} {xs : List Value} (h : Below B w wr) (hB : B ≤ wr.heap.size) (hown : wr.ownsRow B E size v n xs) (hg : wr.grownBy w1 v.ownBlock) : Below B w w1 :=
  h.grown hg hB fun k hk => (hown.lt k hk).1

end Go.Proofs.Kv
