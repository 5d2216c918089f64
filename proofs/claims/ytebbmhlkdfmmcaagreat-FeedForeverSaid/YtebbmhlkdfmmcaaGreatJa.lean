import Derived.Test.YtebbmhlkdfmmcaaGreatJv
import Derived.Test.YtebbmhlkdfmmcaaGreatShelf
import Derived.Laws.StructEq
import Derived.Lib.AppendZerosOnto
import Derived.Lib.Walk
import Derived.Deep.OwnRows
import Derived.RegionTactic
import Derived.ChangeAlike
import Derived.BigRegion
import Derived.StillTailTactics
import Derived.Shelf.SlSortCmp.WholeK
import Derived.Shelf.SlSortCmp.NoneTotal
namespace Go.Proofs.Kv
open Go.RowKit

/-- the row of a list of lists that the call owns: v holds slices that read as L, none of which lies in the row itself -/
structure OwnL (E : TypeId) (w : World) (B : Nat) (v : Value) (L : List (List Int)) : Prop where
  has : ∃ vs, w.ownsRow B E 1 v L.length vs ∧ ∀ i, i < L.length → ∃ a n c, vs[i]? = some (.slice a n c) ∧ IntsAt w a n c (L.getD i []) ∧ ∀ b off, 0 < n → a = some ⟨b, off, none⟩ → v.ownBlock ≠ some b

theorem OwnL.nil (E : TypeId) (w : World) (B : Nat) : OwnL E w B (.slice none 0 0) [] := ⟨[], World.ownsRow_nil _ _ _ _, fun i h => absurd h (by simp)⟩
theorem OwnL.below {E : TypeId} {w w' : World} {B B' : Nat} {v : Value} {L : List (List Int)} (h : OwnL E w B v L) (hb : Below B' w w') (hB : w.heap.size ≤ B') : OwnL E w' B v L := by
  obtain ⟨vs, h1, h2⟩ := h.has
  refine ⟨vs, own_below h1 hb hB, fun i hi => ?_⟩
  obtain ⟨a, n, c, e, hr, hd⟩ := h2 i hi
  exact ⟨a, n, c, e, hr.below hb hB, hd⟩
theorem OwnL.drewN {E : TypeId} {w : World} {B : Nat} {v : Value} {L : List (List Int)} (h : OwnL E w B v L) (q : Nat) : OwnL E (w.drewN q) B v L := by
  obtain ⟨vs, h1, h2⟩ := h.has
  refine ⟨vs, h1, fun i hi => ?_⟩
  obtain ⟨a, n, c, e, hr, hd⟩ := h2 i hi
  exact ⟨a, n, c, e, hr.drewN q, hd⟩
theorem OwnL.alloc {E : TypeId} {w : World} {B : Nat} {v : Value} {L : List (List Int)} (h : OwnL E w B v L) (o : Obj) : OwnL E (w.alloc o) B v L :=
  h.below ((Below.refl w.heap.size w).alloc (Nat.le_refl _) o) (Nat.le_refl _)
theorem OwnL.base {E : TypeId} {w : World} {B B' : Nat} {v : Value} {L : List (List Int)} (h : OwnL E w B' v L) (hB : B ≤ B') : OwnL E w B v L := by
  obtain ⟨vs, h1, h2⟩ := h.has
  exact ⟨vs, own_base h1 hB, h2⟩
theorem OwnL.lt {E : TypeId} {w : World} {B : Nat} {v : Value} {L : List (List Int)} (h : OwnL E w B v L) : ∀ k, v.ownBlock = some k → B ≤ k ∧ k < w.heap.size := by
  obtain ⟨vs, h1, _⟩ := h.has
  exact h1.lt

theorem OwnL.at_ {E : TypeId} {w : World} {B : Nat} {v : Value} {L : List (List Int)} (h : OwnL E w B v L) : ∃ a c, v = .slice a L.length c ∧ ListsAt w a L.length c L := by
  obtain ⟨vs, h1, h2⟩ := h.has
  rcases h1.2 with ⟨rfl, h0⟩ | ⟨g, cap, cur, rfl, _, hg, hn, hm, hs, ht⟩
  · rw [h0]
    exact ⟨none, 0, rfl, h0, Nat.le_refl _, by omega, fun i hi => absurd hi (by omega)⟩
  · refine ⟨_, cap, rfl, rfl, hn, by unfold maxLen at hm; omega, fun i hi => ?_⟩
    obtain ⟨a, n, c, e, hr, _⟩ := h2 i hi
    have hc := h1.cells (g := g) rfl i _ e
    have : (⟨g, 0, none⟩ : Addr).add i = ⟨g, 0 + i, none⟩ := by unfold Addr.add; split <;> simp_all
    rw [this] at hc
    exact ⟨g, 0, a, n, c, rfl, (Array.getElem?_eq_some_iff.1 hg).1, hc, hr⟩

/-- the slices of a list of lists, one by one -/
theorem ListsAt.heads {w : World} {A : Option Addr} {m c : Nat} {M : List (List Int)} (h : ListsAt w A m c M) :
    ∃ vs : List Value, vs.length = m ∧ (∀ u ∈ vs, u.oneCell' = true) ∧ (∀ x, A = some x → ∀ j u, vs[j]? = some u → w.cell? (x.add j) = some u) ∧
      ∀ i, i < m → ∃ a n c, vs[i]? = some (.slice a n c) ∧ IntsAt w a n c (M.getD i []) := by
  have key : ∀ k, k ≤ m → ∃ vs : List Value, vs.length = k ∧ (∀ u ∈ vs, u.oneCell' = true) ∧ (∀ x, A = some x → ∀ j u, vs[j]? = some u → w.cell? (x.add j) = some u) ∧
      ∀ i, i < k → ∃ a n c, vs[i]? = some (.slice a n c) ∧ IntsAt w a n c (M.getD i []) := by
    intro k
    induction k with
    | zero => exact fun _ => ⟨[], rfl, by simp, by simp, fun i hi => absurd hi (by omega)⟩
    | succ k ih =>
      intro hk
      obtain ⟨vs, h1, h2, h3, h4⟩ := ih (by omega)
      obtain ⟨b, off, a, n, c', ha, hb, hc, hr⟩ := h.cells k (by omega)
      refine ⟨vs ++ [.slice a n c'], by simp [h1], ?_, ?_, ?_⟩
      · intro u hu
        rcases List.mem_append.1 hu with hu | hu
        · exact h2 u hu
        · rw [List.mem_singleton] at hu; subst hu; rfl
      · intro x hx j u hu
        rcases Nat.lt_or_ge j k with hj | hj
        · rw [List.getElem?_append_left (by omega)] at hu
          exact h3 x hx j u hu
        · rw [List.getElem?_append_right (by omega), h1] at hu
          have hj0 : j = k := by
            rcases Nat.lt_or_ge (j - k) 1 with h | h
            · omega
            · rw [List.getElem?_eq_none (by simpa using h)] at hu; cases hu
          subst hj0
          simp at hu
          subst hu
          rw [ha] at hx
          injection hx with hx
          subst hx
          have : (⟨b, off, none⟩ : Addr).add j = ⟨b, off + j, none⟩ := by unfold Addr.add; split <;> simp_all
          rw [this]; exact hc
      · intro i hi
        rcases Nat.lt_or_ge i k with hj | hj
        · obtain ⟨a', n', c'', e, hr'⟩ := h4 i hj
          exact ⟨a', n', c'', by rw [List.getElem?_append_left (by omega)]; exact e, hr'⟩
        · have : i = k := by omega
          subst this
          exact ⟨a, n, c', by rw [List.getElem?_append_right (by omega), h1]; simp, hr⟩
  exact key m (Nat.le_refl _)

/-- all inner slices of a list of lists lie below block B -/
def InnerBelow (w : World) (B : Nat) (A : Option Addr) (m : Nat) : Prop := ∀ x i a n c, A = some x → i < m → w.cell? (x.add i) = some (.slice a n c) → ∀ b off, 0 < n → a = some ⟨b, off, none⟩ → b < B

theorem getD_app {L M : List (List Int)} {i : Nat} : (L ++ M).getD i [] = if i < L.length then L.getD i [] else M.getD (i - L.length) [] := by
  split
  · rename_i h; simp [List.getD, List.getElem?_append_left h]
  · rename_i h; simp [List.getD, List.getElem?_append_right (Nat.le_of_not_lt h)]

section
variable {P : Program} (w : World)
/-- append of slices that were there, or that were made apart from the row -/
theorem run_append_lists (base : Nat) (t ty e : TypeId) (i : TypeInfo) (ht : P.underlying t = some (.slice e)) (hi : P.info? e = some i) (hz : i.zero = some (.slice none 0 0))
    (hsize : i.size = 1) (hby : i.bytes = 24) (v : Value) (L : List (List Int)) (hown : OwnL e w base v L)
    (A : Option Addr) (m c : Nat) (M : List (List Int)) (hr : ListsAt w A m c M) (hin : ∀ x i a n c, A = some x → i < m → w.cell? (x.add i) = some (.slice a n c) → ∀ b off, 0 < n → a = some ⟨b, off, none⟩ → v.ownBlock ≠ some b)
    (hs : L.length + m ≤ 1000000) (hbase : base ≤ w.heap.size) :
    ∃ v' w', (Builtin.append_ #[t, t] ty #[v, .slice A m c]).run P w = .ok v' w' ∧ OwnL e w' base v' (L ++ M) ∧ w.grownBy w' v.ownBlock ∧ (v'.ownBlock = v.ownBlock ∨ v'.ownBlock = some w.heap.size) := by
  obtain ⟨vs, h1, h2⟩ := hown.has
  rcases A with _ | x
  · have hm : m = 0 := by
      rcases Nat.eq_zero_or_pos m with h0 | h0
      · exact h0
      · obtain ⟨_, _, _, _, _, h, _⟩ := hr.cells 0 h0; cases h
    subst hm
    have : M = [] := List.eq_nil_of_length_eq_zero hr.len
    subst this
    refine ⟨v, w, ?_, by simpa using hown, World.grownBy.refl w _, .inl rfl⟩
    rcases h1.2 with ⟨rfl, h0⟩ | ⟨g, cap, cur, rfl, _, _, hnc, _⟩
    · simp [Builtin.append_, run_underlying ht, sizeOf, typeInfo, hi, Builtin.lenOf, Builtin.firstCells]
    · simp [Builtin.append_, run_underlying ht, sizeOf, typeInfo, hi, Builtin.lenOf, Builtin.firstCells, hnc, storeCells]
  · obtain ⟨us, g1, g2, g3, g4⟩ := hr.heads
    obtain ⟨v', w', k1, k2, k3, _, k5⟩ := run_append_own_at (P := P) w base t ty e i (.slice none 0 0) 1 24 ht hi hz hsize hby rfl (by omega) v _ _ h1 x m c us (by simp [g1]) (g3 x rfl) g2
      (by unfold maxLen; omega) (by omega) hbase
    refine ⟨v', w', k1, ⟨vs ++ us, by rw [List.length_append, hr.len]; exact k2, fun i hi => ?_⟩, k3, k5⟩
    have hvl : vs.length = L.length := by have := h1.1; omega
    have key : ∀ a n c l, IntsAt w a n c l → (∀ b off, 0 < n → a = some ⟨b, off, none⟩ → v.ownBlock ≠ some b) → IntsAt w' a n c l ∧ ∀ b off, 0 < n → a = some ⟨b, off, none⟩ → v'.ownBlock ≠ some b := by
      intro a n c l hI hd
      have hblk : ∀ b off, 0 < n → a = some ⟨b, off, none⟩ → b < w.heap.size := by
        intro b off hn ha
        obtain ⟨b', off', ha', hb, _⟩ := hI.cells 0 hn
        rw [ha] at ha'; injection ha' with ha'; injection ha' with e1 e2; omega
      refine ⟨⟨hI.len, hI.le, hI.small, fun i hi => ?_⟩, fun b off hn ha => ?_⟩
      · obtain ⟨b, off, ha, hb, hc⟩ := hI.cells i hi
        exact ⟨b, off, ha, Nat.lt_of_lt_of_le hb k3.size, k3.cell (a := ⟨b, off + i, none⟩) hc (fun e => hd b off (by omega) ha e.symm)⟩
      · rcases k5 with e | e
        · rw [e]; exact hd b off hn ha
        · rw [e]; intro h; injection h with h; have := hblk b off hn ha; omega
    rw [List.length_append, hr.len] at hi
    rw [getD_app]
    by_cases hil : i < L.length
    · rw [if_pos hil]
      obtain ⟨a, n, c, e, hI, hd⟩ := h2 i hil
      obtain ⟨q1, q2⟩ := key a n c _ hI hd
      exact ⟨a, n, c, by rw [List.getElem?_append_left (by omega)]; exact e, q1, q2⟩
    · rw [if_neg hil]
      obtain ⟨a, n, c, e, hI⟩ := g4 (i - L.length) (by omega)
      obtain ⟨q1, q2⟩ := key a n c _ hI (fun b off hn ha => hin x (i - L.length) a n c rfl (by omega) (g3 x rfl _ _ e) b off hn ha)
      exact ⟨a, n, c, by rw [List.getElem?_append_right (by omega), hvl]; exact e, q1, q2⟩

theorem wpList_append_lists {ops : Array Oper} {rest : List Oper} {o : Oper} {a : Act} {Q : Exit → Act → World → Prop} (hgd : o.guard = none) (s x : Operand) (t : TypeId)
    (ho : o.op = .call { callee := .builtin .append, args := #[s, x], argTypes := #[t, t] })
    (base : Nat) (e : TypeId) (i : TypeInfo) (ht : P.underlying t = some (.slice e)) (hi : P.info? e = some i) (hz : i.zero = some (.slice none 0 0)) (hsize : i.size = 1) (hby : i.bytes = 24)
    (v : Value) (L : List (List Int)) (hs : a.eval s = v) (hown : OwnL e w base v L)
    (A : Option Addr) (m c : Nat) (M : List (List Int)) (hx : a.eval x = .slice A m c) (hr : ListsAt w A m c M)
    (hin : ∀ x i a n c, A = some x → i < m → w.cell? (x.add i) = some (.slice a n c) → ∀ b off, 0 < n → a = some ⟨b, off, none⟩ → v.ownBlock ≠ some b)
    (hsm : L.length + m ≤ 1000000) (hbase : base ≤ w.heap.size)
    (h : ∀ v' w', OwnL e w' base v' (L ++ M) → w.grownBy w' v.ownBlock → (v'.ownBlock = v.ownBlock ∨ v'.ownBlock = some w.heap.size) → wpList P ops Q rest (a.put o.dst v') w') :
    wpList P ops Q (o :: rest) a w := by
  refine wpList_plain hgd fun K hK => ?_
  obtain ⟨v', w', hrun, h2, h3, h4⟩ := run_append_lists (P := P) w base t o.type e i ht hi hz hsize hby v L hown A m c M hr hin hsm hbase
  unfold Oper.wp execOp
  simp only [ho, resolve, invoke, builtin, Sem.run_bind, Sem.run_pure, Result.andThen_ok, List.map_toArray, List.map_cons, List.map_nil, hs, hx, hrun]
  exact hK _ _ (h v' w' h2 h3 h4)

/-- append of one slice, which lies in a new block of one cell -/
theorem wpList_push_list {ops : Array Oper} {rest : List Oper} {o : Oper} {a : Act} {Q : Exit → Act → World → Prop} (hgd : o.guard = none) (s x : Operand) (t : TypeId)
    (ho : o.op = .call { callee := .builtin .append, args := #[s, x], argTypes := #[t, t] })
    (base : Nat) (e : TypeId) (i : TypeInfo) (ht : P.underlying t = some (.slice e)) (hi : P.info? e = some i) (hz : i.zero = some (.slice none 0 0)) (hsize : i.size = 1) (hby : i.bytes = 24)
    (v : Value) (L : List (List Int)) (hs : a.eval s = v) (hown : OwnL e w base v L)
    (A : Option Addr) (m c : Nat) (l : List Int) (E : TypeId) (hx : a.eval x = .slice (some ⟨w.heap.size, 0, none⟩) 1 1) (hr : IntsAt w A m c l) (hin : ∀ b off, 0 < m → A = some ⟨b, off, none⟩ → v.ownBlock ≠ some b)
    (hsm : L.length + 1 ≤ 1000000) (hbase : base ≤ w.heap.size)
    (h : ∀ v' w', OwnL e w' base v' (L ++ [l]) → (w.alloc (.cells #[.slice A m c] E)).grownBy w' v.ownBlock → (v'.ownBlock = v.ownBlock ∨ v'.ownBlock = some (w.heap.size + 1)) → wpList P ops Q rest (a.put o.dst v') w') :
    wpList P ops Q (o :: rest) a (w.alloc (.cells #[.slice A m c] E)) := by
  have hcell : (w.alloc (.cells #[.slice A m c] E)).cell? ⟨w.heap.size, 0 + 0, none⟩ = some (.slice A m c) := by rw [World.cell?_alloc_at _ _ _ _ (by rfl)]; rfl
  have hL : ListsAt (w.alloc (.cells #[.slice A m c] E)) (some ⟨w.heap.size, 0, none⟩) 1 1 [l] :=
    ⟨rfl, Nat.le_refl _, by omega, fun i hi => ⟨w.heap.size, 0, A, m, c, rfl, by simp, by
      obtain rfl : i = 0 := by omega
      exact hcell, by
      obtain rfl : i = 0 := by omega
      exact hr.below ((Below.refl w.heap.size w).alloc (Nat.le_refl _) _) (Nat.le_refl _)⟩⟩
  refine wpList_append_lists _ hgd s x t ho base e i ht hi hz hsize hby v L hs (hown.alloc _) _ 1 1 [l] hx hL ?_ hsm (le_alloc hbase) fun v' w' h1 h2 h3 => h v' w' h1 h2 (by simpa using h3)
  intro y j a' n' c' hy hj hc b off hn ha
  injection hy with hy
  subst hy
  obtain rfl : j = 0 := by omega
  have : (⟨w.heap.size, 0, none⟩ : Addr).add 0 = ⟨w.heap.size, 0 + 0, none⟩ := rfl
  rw [this, hcell] at hc
  injection hc with hc
  injection hc with q1 q2 q3
  subst q1; subst q2
  exact hin b off hn ha
end

theorem belowL_app {B : Nat} {w wr w1 : World} {o : Obj} {E : Nat} {v : Value} {L : List (List Int)} (h : Below B w wr) (hB : B ≤ wr.heap.size) (hown : OwnL E wr B v L) (hg : (wr.alloc o).grownBy w1 v.ownBlock) : Below B w w1 :=
  (h.alloc hB o).grown hg (by simp; omega) fun k hk => (hown.lt k hk).1
theorem belowL_app0 {B : Nat} {w wr w1 : World} {E : Nat} {v : Value} {L : List (List Int)} (h : Below B w wr) (hB : B ≤ wr.heap.size) (hown : OwnL E wr B v L) (hg : wr.grownBy w1 v.ownBlock) : Below B w w1 :=
  h.grown hg hB fun k hk => (hown.lt k hk).1

/-- v is new memory that holds the lists L -/
structure MadeL (E : TypeId) (w w' : World) (v : Value) (L : List (List Int)) : Prop where
  own : OwnL E w' w.heap.size v L
  bel : Below w.heap.size w w'
theorem MadeL.after {E : TypeId} {w w1 w2 : World} {v : Value} {L : List (List Int)} (hb : Below w.heap.size w w1) (h : MadeL E w1 w2 v L) : MadeL E w w2 v L := ⟨h.own.base hb.size, below_then hb h.bel⟩
theorem MadeL.none_ (E : TypeId) {w w' : World} (hb : Below w.heap.size w w') : MadeL E w w' (.slice none 0 0) [] := ⟨OwnL.nil _ _ _, hb⟩
theorem ListsAt.take {w : World} {a : Option Addr} {n c : Nat} {L : List (List Int)} (h : ListsAt w a n c L) {k : Nat} (hk : k ≤ n) : ListsAt w a k c (L.take k) :=
  ⟨by rw [List.length_take, h.len]; omega, Nat.le_trans hk h.le, h.small, fun i hi => by
    obtain ⟨b, off, a', n', c', ha, hb, hc, hr⟩ := h.cells i (by omega)
    refine ⟨b, off, a', n', c', ha, hb, hc, ?_⟩
    have : (L.take k).getD i [] = L.getD i [] := by simp [List.getD, hi]
    rw [this]; exact hr⟩
theorem ListsAt.drop {w : World} {b off : Nat} {n c : Nat} {L : List (List Int)} (h : ListsAt w (some ⟨b, off, none⟩) n c L) {k : Nat} (hk : k ≤ n) : ListsAt w (some ⟨b, off + k, none⟩) (n - k) (c - k) (L.drop k) :=
  ⟨by rw [List.length_drop, h.len], by have := h.le; omega, by have := h.small; omega, fun i hi => by
    obtain ⟨b', off', a', n', c', ha, hb, hc, hr⟩ := h.cells (k + i) (by omega)
    injection ha with ha; injection ha with e1 e2
    subst e1; subst e2
    refine ⟨b, off + k, a', n', c', rfl, hb, by rw [Nat.add_assoc]; exact hc, ?_⟩
    have : (L.drop k).getD i [] = L.getD (k + i) [] := by simp [List.getD]
    rw [this]; exact hr⟩
theorem ListsAt.inner {w w2 : World} {B : Nat} {a : Option Addr} {n c : Nat} {L : List (List Int)} (h : ListsAt w a n c L) (hb : Below B w w2) (hB : w.heap.size ≤ B) {v : Value} (hv : ∀ k, v.ownBlock = some k → w.heap.size ≤ k) :
    ∀ x i a' n' c', a = some x → i < n → w2.cell? (x.add i) = some (.slice a' n' c') → ∀ b off, 0 < n' → a' = some ⟨b, off, none⟩ → v.ownBlock ≠ some b := by
  intro x i a' n' c' hx hi hc b off hn ha e
  obtain ⟨b0, off0, a0, n0, c0, ha0, hb0, hc0, hr0⟩ := h.cells i hi
  rw [hx] at ha0
  injection ha0 with ha0
  subst ha0
  have e1 : (⟨b0, off0, none⟩ : Addr).add i = ⟨b0, off0 + i, none⟩ := by unfold Addr.add; split <;> simp_all
  rw [e1] at hc
  have e2 := (hb.cell (p := ⟨b0, off0 + i, none⟩) (Nat.lt_of_lt_of_le hb0 hB)).symm.trans hc
  rw [hc0] at e2
  injection e2 with e2
  injection e2 with q1 q2 q3
  subst q1; subst q2
  obtain ⟨b1, off1, ha1, hb1, _⟩ := hr0.cells 0 hn
  rw [ha] at ha1
  injection ha1 with ha1
  injection ha1 with s1 s2
  have := hv b e
  omega

end Go.Proofs.Kv
namespace Go.Proofs.Kv
open Go.RowKit
theorem MadeL.at_ {E : TypeId} {w w' : World} {v : Value} {L : List (List Int)} (h : MadeL E w w' v L) : ∃ a c, v = .slice a L.length c ∧ ListsAt w' a L.length c L := h.own.at_
theorem cell_below {w w' : World} {p : Addr} {v : Value} (h : w.cell? p = some v) (hb : Below w.heap.size w w') : w'.cell? p = some v := (hb.cell (World.block_lt_of_cell? w p h)).trans h
theorem PairsAt.one (w : World) (x y : Int) (E : TypeId) : PairsAt (w.alloc (.cells #[.int .i64 x, .int .i64 y] E)) (some ⟨w.heap.size, 0, none⟩) 1 1 [(x, y)] :=
  ⟨rfl, Nat.le_refl _, by omega, fun i hi => ⟨w.heap.size, 0, rfl, by simp, by
    obtain rfl : i = 0 := by omega
    rw [World.cell?_alloc_at _ _ _ _ (by rfl)]; rfl, by
    obtain rfl : i = 0 := by omega
    rw [World.cell?_alloc_at _ _ _ _ (by rfl)]; rfl⟩⟩
end Go.Proofs.Kv
namespace Go.Proofs.YtebbmhlkdfmmcaaGreat
open Go.RowKit Go.Proofs.Kv
attribute [local go_sem] Oper.semAt_some
/-! ### SameLists -/
def SameL (L M : List (List Int)) : Bool := decide (L = M)
theorem ext_getDL {l m : List (List Int)} {n : Nat} (h1 : l.length = n) (h2 : m.length = n) (h : ∀ j, j < n → l.getD j [] = m.getD j []) : l = m := by
  refine List.ext_getElem (by omega) fun i h3 h4 => ?_
  have := h i (by omega)
  simpa [List.getD, List.getElem?_eq_getElem h3, List.getElem?_eq_getElem h4] using this

set_option maxRecDepth 100000 in
theorem sameL_calls (a : Option Addr) (n c : Nat) (L : List (List Int)) (a' : Option Addr) (n' c' : Nat) (M : List (List Int)) (w : World) (h : ListsAt w a n c L) (h' : ListsAt w a' n' c' M) :
    Calls Tryz.prog 12 #[.slice a n c, .slice a' n' c'] w fun e w' => e = .returned (.bool (SameL L M)) ∧ ∃ q, w' = w.drewN q := by
  have hn : n ≤ 9223372036854775807 := Nat.le_trans h.le h.small
  by_cases hnn : n = n'
  · subst hnn
    have hb1 : ((n : Int) != (n : Int)) = false := by simp
    go_enter Tryz.func12, Tryz.ntmps12
    go_wp2
    go_loopw [5] (fun i wr => ∃ k q : Nat, k ≤ n ∧ i = .int .i64 k ∧ wr = w.drewN q ∧ ∀ j, j < k → L.getD j [] = M.getD j []) (fun i _ => n - (intOf i).toNat)
    case atStart => exact ⟨0, 0, Nat.zero_le _, rfl, rfl, fun _ h => absurd h (by omega)⟩
    case round =>
      obtain ⟨k, q, hk, rfl, hq, hall⟩ := hrel
      have hI : ListsAt wr a n c L := by rw [hq]; exact h.drewN q
      have hI' : ListsAt wr a' n c' M := by rw [hq]; exact h'.drewN q
      have Hq := hid_ hq; clear hq
      have Hall := hid_ hall; clear hall
      by_cases hlt : k < n
      · obtain ⟨b, off, a1, n1, c1, rfl, hb, hcell, hrow⟩ := hI.cells k hlt
        obtain ⟨b', off', a2, n2, c2, rfl, hb', hcell', hrow'⟩ := hI'.cells k hlt
        generalize hy : L.getD k [] = y at hrow
        have Hy := hid_ hy; clear hy
        generalize hy' : M.getD k [] = y' at hrow'
        have Hy' := hid_ hy'; clear hy'
        cases hs : Same y y' with
        | true =>
          have He : Hid (y = y') := hid_ (by simpa [Same] using hs)
          go_wp2
          go_quiet ((go_at_call 25; exact quiet_more (same_calls _ _ _ _ _ _ _ _ _ (hrow.drewN _) (hrow'.drewN _))))
          go_wp2
          go_roundw
          case rel => exact ⟨k + 1, _, by omega, by go_num, by rw [Hq.out, drewN2], lt_snoc Hall.out (by rw [Hy.out, Hy'.out]; exact He.out)⟩
          case measure => simp [intOf]; omega
        | false =>
          have Hf : Hid (SameL L M = false) := hid_ (decide_eq_false fun e => by
            have : y = y' := by rw [← Hy.out, ← Hy'.out, e]
            simp [Same, this] at hs)
          go_wp2
          go_quiet ((go_at_call 25; exact quiet_more (same_calls _ _ _ _ _ _ _ _ _ (hrow.drewN _) (hrow'.drewN _))))
          go_wp2
          go_ret
          exact ⟨retB Hf.out, _, by rw [Hq.out, drewN2]⟩
      · have Hf : Hid (SameL L M = true) := hid_ (decide_eq_true (ext_getDL h.len h'.len fun j hj => Hall.out j (by omega)))
        go_wp2
        go_ret
        exact ⟨retB Hf.out, _, Hq.out⟩
  · have hb1 : ((n : Int) != (n' : Int)) = true := by simp; omega
    have Hf : Hid (SameL L M = false) := hid_ (decide_eq_false fun e => hnn (by rw [← h.len, ← h'.len, e]))
    have Hn := hid_ hnn; clear hnn
    go_enter Tryz.func12, Tryz.ntmps12
    go_wp2
    go_ret
    exact ⟨retB Hf.out, 0, rfl⟩

end Go.Proofs.YtebbmhlkdfmmcaaGreat
namespace Go.Proofs.YtebbmhlkdfmmcaaGreat
open Go.RowKit Go.Proofs.Kv
attribute [local go_sem] Oper.semAt_some
/-! ### Before -/
def beforeL : List Int → List Int → Bool
  | [], [] => false
  | [], _ :: _ => true
  | _ :: _, [] => false
  | x :: l, y :: m => if x = y then beforeL l m else decide (x < y)
theorem before_at {k : Nat} : ∀ {l m : List Int}, k < l.length → k < m.length → (∀ j, j < k → l.getD j 0 = m.getD j 0) → l.getD k 0 ≠ m.getD k 0 → beforeL l m = decide (l.getD k 0 < m.getD k 0) := by
  induction k with
  | zero =>
    intro l m h1 h2 _ hne
    match l, m, h1, h2 with
    | x :: l, y :: m, _, _ => simp [List.getD] at hne ⊢; simp [beforeL, hne]
  | succ k ih =>
    intro l m h1 h2 h hne
    match l, m, h1, h2 with
    | x :: l, y :: m, h1, h2 =>
      have h0 := h 0 (by omega)
      simp [List.getD] at h0
      subst h0
      have := ih (l := l) (m := m) (by simpa using h1) (by simpa using h2) (fun j hj => by simpa [List.getD] using h (j + 1) (by omega)) (by simpa [List.getD] using hne)
      rw [beforeL, if_pos rfl, this]
      rfl
theorem before_end : ∀ {l m : List Int}, (∀ j, j < l.length → j < m.length → l.getD j 0 = m.getD j 0) → beforeL l m = decide (l.length < m.length)
  | [], [], _ => rfl
  | [], _ :: _, _ => by simp [beforeL]
  | _ :: _, [], _ => by simp [beforeL]
  | x :: l, y :: m, h => by
    have h0 := h 0 (by simp) (by simp)
    simp [List.getD] at h0
    subst h0
    rw [beforeL, if_pos rfl, before_end (l := l) (m := m) fun j h1 h2 => by simpa [List.getD] using h (j + 1) (by simpa using h1) (by simpa using h2)]
    simp

set_option maxRecDepth 100000 in
theorem before_calls (a : Option Addr) (n c : Nat) (l : List Int) (a' : Option Addr) (n' c' : Nat) (l' : List Int) (w : World) (h : IntsAt w a n c l) (h' : IntsAt w a' n' c' l') :
    Calls Tryz.prog 68 #[.slice a n c, .slice a' n' c'] w fun e w' => e = .returned (.bool (beforeL l l')) ∧ ∃ q, w' = w.drewN q := by
  have hn : n ≤ 9223372036854775807 := Nat.le_trans h.le h.small
  go_enter Tryz.func68, Tryz.ntmps68
  go_wp2
  go_loopw [5] (fun i wr => ∃ k q : Nat, k ≤ n ∧ k ≤ n' ∧ i = .int .i64 k ∧ wr = w.drewN q ∧ ∀ j, j < k → l.getD j 0 = l'.getD j 0) (fun i _ => n - (intOf i).toNat)
  case atStart => exact ⟨0, 0, Nat.zero_le _, Nat.zero_le _, rfl, rfl, fun _ h => absurd h (by omega)⟩
  case round =>
    obtain ⟨k, q, hk, hk', rfl, hq, hall⟩ := hrel
    have hI : IntsAt wr a n c l := by rw [hq]; exact h.drewN q
    have hI' : IntsAt wr a' n' c' l' := by rw [hq]; exact h'.drewN q
    have Hq := hid_ hq; clear hq
    have Hall := hid_ hall; clear hall
    by_cases hlt : k < n
    · by_cases hlt' : k < n'
      · obtain ⟨b, off, rfl, hb, hcell⟩ := hI.cells k hlt
        obtain ⟨b', off', rfl, hb', hcell'⟩ := hI'.cells k hlt'
        have Hat := hid_ (before_at (l := l) (m := l') (k := k) (by rw [hI.len]; exact hlt) (by rw [hI'.len]; exact hlt') Hall.out)
        generalize hy : l.getD k 0 = y at hcell Hat
        have Hy := hid_ hy; clear hy
        generalize hy' : l'.getD k 0 = y' at hcell' Hat
        have Hy' := hid_ hy'; clear hy'
        by_cases he : y = y'
        · have hb1 : (y != y') = false := by simpa using he
          have He := hid_ he; clear he
          go_wp2
          go_quiet (fail)
          go_wp2
          go_roundw
          case rel => exact ⟨k + 1, _, by omega, by omega, by go_num, by rw [Hq.out, drewN2], lt_snoc Hall.out (by rw [Hy.out, Hy'.out]; exact He.out)⟩
          case measure => simp [intOf]; omega
        · have hb1 : (y != y') = true := by simpa using he
          have Hf := hid_ (Hat.out he)
          have He := hid_ he; clear he
          go_wp2
          go_quiet (fail)
          go_wp2
          go_quiet (fail)
          go_wp2
          go_ret
          exact ⟨retB Hf.out, _, by rw [Hq.out]; simp; rfl⟩
      · have Hf : Hid (beforeL l l' = decide (n < n')) := hid_ (by rw [before_end fun j h1 h2 => Hall.out j (by rw [hI'.len] at h2; omega), hI.len, hI'.len])
        go_wp2
        go_ret
        exact ⟨retB Hf.out, _, Hq.out⟩
    · have Hf : Hid (beforeL l l' = decide (n < n')) := hid_ (by rw [before_end fun j h1 h2 => Hall.out j (by rw [hI.len] at h1; omega), hI.len, hI'.len])
      go_wp2
      go_ret
      exact ⟨retB Hf.out, _, Hq.out⟩
end Go.Proofs.YtebbmhlkdfmmcaaGreat
namespace Go.Proofs.YtebbmhlkdfmmcaaGreat
open Go.RowKit Go.Proofs.Kv
attribute [local go_sem] Oper.semAt_some
theorem Tryz.infoInts : (Tryz.prog.info? 23).map (fun i => (i.zero, i.size, i.bytes)) = some (some (.slice none 0 0), 1, 24) := by kernel_rfl
/-! ### Insert -/
def insAt (L : List (List Int)) (x : List Int) : Nat := (L.takeWhile fun y => beforeL y x).length
def insertL (L : List (List Int)) (x : List Int) : List (List Int) := if insAt L x < L.length ∧ L.getD (insAt L x) [] = x then L else (L.take (insAt L x) ++ [x]) ++ L.drop (insAt L x)
theorem insertL_le (L : List (List Int)) (x : List Int) : (insertL L x).length ≤ L.length + 1 := by
  unfold insertL
  split
  · omega
  · simp only [List.length_append, List.length_take, List.length_drop, List.length_singleton]; omega
theorem insAt_eq {L : List (List Int)} {x : List Int} {k : Nat} (hk : k ≤ L.length) (h : ∀ j, j < k → beforeL (L.getD j []) x = true) (hs : k < L.length → beforeL (L.getD k []) x = false) : insAt L x = k := by
  unfold insAt
  induction L generalizing k with
  | nil => simp at hk; simp [hk]
  | cons y L ih =>
    cases k with
    | zero =>
      have := hs (by simp)
      simp [List.getD] at this
      rw [List.takeWhile_cons, this]; rfl
    | succ k =>
      have h0 := h 0 (by omega)
      simp [List.getD] at h0
      rw [List.takeWhile_cons, h0]
      simp only [if_true, List.length_cons, Nat.add_right_cancel_iff]
      exact ih (by simpa using hk) (fun j hj => by simpa [List.getD] using h (j + 1) (by omega)) (fun hlt => by simpa [List.getD] using hs (by simpa using hlt))

set_option maxRecDepth 100000 in
set_option maxHeartbeats 400000 in
theorem insertL_calls (v : Value) (L : List (List Int)) (a' : Option Addr) (n' c' : Nat) (x : List Int) (w : World) (h : OwnL 23 w 0 v L) (h' : IntsAt w a' n' c' x) (hs : L.length ≤ 10000) :
    Calls Tryz.prog 51 #[v, .slice a' n' c'] w fun e w' => ∃ v', e = .returned v' ∧ OwnL 23 w' 0 v' (insertL L x) ∧ Below w.heap.size w w' := by
  obtain ⟨i0, hi0, hz0, hz1, hz2⟩ := info_parts Tryz.infoInts
  have hx' : ∀ v : Value, (∀ k, v.ownBlock = some k → w.heap.size ≤ k) → ∀ b off, 0 < n' → a' = some ⟨b, off, none⟩ → v.ownBlock ≠ some b := by
    intro v hv b off hn ha e
    obtain ⟨b1, off1, ha1, hb1, _⟩ := h'.cells 0 hn
    rw [ha] at ha1
    injection ha1 with ha1
    injection ha1 with s1 s2
    have := hv b e
    omega
  have Hx' := hid_ hx'; clear hx'
  obtain ⟨vs, hown, hvs⟩ := h.has
  rcases hown.2 with ⟨rfl, h0⟩ | ⟨g, cap, cur, rfl, _, hg, hnc, hm, _⟩
  · have hL : L = [] := List.eq_nil_of_length_eq_zero h0
    subst hL
    have Hres : Hid (insertL [] x = [x]) := hid_ rfl
    clear hown hvs h0
    go_enter Tryz.func51, Tryz.ntmps51
    go_wp2
    go_loop [5] (fun i => i = .int .i64 0) (fun _ => 0)
    case atStart => rfl
    case round =>
      subst hrel
      go_wp2_with (first
        | (at_builtin; refine wpList_append_lists _ rfl (.tmp 43) (.tmp 46) _ rfl w.heap.size 23 i0 Tryz.underlying27 hi0 hz0 hz1 hz2 v1 ([] ++ [x]) rfl hown1 none 0 0 [] rfl (ListsAt.nil _ _ _ (by omega)) (by intro y; simp) (by simp) (hb1.size) ?_; intro v2 w2 hown2 hg2 hat2)
        | (at_builtin; refine wpList_push_list _ rfl (.tmp 39) (.tmp 41) _ rfl w.heap.size 23 i0 Tryz.underlying27 hi0 hz0 hz1 hz2 (.slice none 0 0) [] rfl (OwnL.nil _ _ _) _ _ _ x _ rfl h' (by simp [Value.ownBlock]) (by simp) (Nat.le_refl _) ?_; intro v1 w1 hown1 hg1 hat1; have hb1 : Below w.heap.size w w1 := belowL_app (Below.refl _ _) (Nat.le_refl _) (OwnL.nil 23 _ _) hg1))
      go_ret
      exact ⟨v2, rfl, by rw [Hres.out]; exact hown2.base (Nat.zero_le _), belowL_app0 hb1 hb1.size hown1 hg2⟩
  · have hA : ListsAt w (some ⟨g, 0, none⟩) L.length cap L := by
      obtain ⟨a1, c1, e, hA⟩ := h.at_
      injection e with e1 e2 e3
      subst e1; subst e3; exact hA
    have hn : L.length ≤ 9223372036854775807 := Nat.le_trans hA.le hA.small
    clear hown hvs
    generalize hLn : L.length = n at hA hs hnc h hn
    have HLn := hid_ hLn; clear hLn
    go_enter Tryz.func51, Tryz.ntmps51
    go_wp2
    go_loopw [5] (fun i wr => ∃ k q : Nat, k ≤ n ∧ i = .int .i64 k ∧ wr = w.drewN q ∧ ∀ j, j < k → beforeL (L.getD j []) x = true) (fun i _ => n - (intOf i).toNat)
    case atStart => exact ⟨0, 0, Nat.zero_le _, rfl, rfl, fun _ h => absurd h (by omega)⟩
    case round =>
      obtain ⟨k, q, hk, rfl, hq, hall⟩ := hrel
      have Hq := hid_ hq; clear hq
      have hI : ListsAt wr (some ⟨g, 0, none⟩) n cap L := by rw [Hq.out]; exact hA.drewN q
      have hI' : IntsAt wr a' n' c' x := by rw [Hq.out]; exact h'.drewN q
      have Hall := hid_ hall; clear hall
      have Hbw : Hid (Below w.heap.size w wr) := hid_ (by rw [Hq.out]; exact below_drewN (Below.refl _ _) q)
      have hO : OwnL 23 wr 0 (.slice (some ⟨g, 0, none⟩) n cap) L := by rw [Hq.out]; exact h.drewN q
      have HO := hid_ hO; clear hO
      have hszw : wr.heap.size = w.heap.size := by rw [Hq.out]; rfl
      have Hsz := hid_ hszw; clear hszw
      -- what is done once the place is found
      by_cases hlt : k < n
      · obtain ⟨b, off, a1, n1, c1, e, hb, hcell, hrow⟩ := hI.cells k hlt
        injection e with e; injection e with e1 e2
        subst e1; subst e2
        simp only [Nat.zero_add] at hcell
        generalize hy : L.getD k [] = y at hrow
        have Hy := hid_ hy; clear hy
        cases hbf : beforeL y x with
        | true =>
          go_wp2_with (go_at_call 68; refine (before_calls _ _ _ _ _ _ _ _ _ hrow hI').mono ?_; rintro e w' ⟨rfl, q', rfl⟩)
          go_roundw
          case rel => exact ⟨k + 1, _, by omega, by go_num, by rw [Hq.out, drewN2], lt_snoc Hall.out (by rw [Hy.out]; exact hbf)⟩
          case measure => simp [intOf]; omega
        | false =>
          have Hat : Hid (insAt L x = k) := hid_ (insAt_eq (by rw [HLn.out]; omega) Hall.out fun _ => by rw [Hy.out]; exact hbf)
          cases hsm : Same y x with
          | true =>
            have Hres : Hid (insertL L x = L) := hid_ (by
              rw [insertL, Hat.out, if_pos]
              exact ⟨by rw [HLn.out]; exact hlt, by rw [Hy.out]; simpa [Same] using hsm⟩)
            go_wp2_with (first
        | (go_at_call 68; refine (before_calls _ _ _ _ _ _ _ _ _ hrow hI').mono ?_; rintro e w' ⟨rfl, q', rfl⟩)
              | (go_at_call 25; refine (same_calls _ _ _ _ _ _ _ _ _ (hrow.drewN _) (hI'.drewN _)).mono ?_; rintro e w' ⟨rfl, q'', rfl⟩))
            go_ret
            exact ⟨_, rfl, by rw [Hres.out]; exact HO.out.drewN _, below_drewN Hbw.out _⟩
          | false =>
            have Hres : Hid (insertL L x = (L.take k ++ [x]) ++ L.drop k) := hid_ (by
              rw [insertL, Hat.out, if_neg]
              intro hh
              have : y = x := by rw [← Hy.out]; exact hh.2
              simp [Same, this] at hsm)
            have htk := ListsAt.take hA (k := k) (by omega)
            have hdk := ListsAt.drop hA (k := k) (by omega)
            simp only [Nat.zero_add] at hdk
            have hck : ¬ cap = k := by omega
            have hlen : (L.take k).length = k := by rw [List.length_take, HLn.out]; omega
            have Hlen := hid_ hlen; clear hlen
            generalize L.take k = T at htk Hres Hlen
            generalize L.drop k = D at hdk Hres
            have hT1 : ([] ++ T).length + 1 ≤ 1000000 := by have := Hlen.out; simp; omega
            have hT2 : (([] ++ T) ++ [x]).length + (n - k) ≤ 1000000 := by have := Hlen.out; simp; omega
            have hT0 : ([] : List (List Int)).length + k ≤ 1000000 := by simp; omega
            go_wp2_with (first
              | (go_at_call 68; refine (before_calls _ _ _ _ _ _ _ _ _ hrow hI').mono ?_; rintro e w' ⟨rfl, q', rfl⟩)
              | (go_at_call 25; refine (same_calls _ _ _ _ _ _ _ _ _ (hrow.drewN _) (hI'.drewN _)).mono ?_; rintro e w' ⟨rfl, q'', rfl⟩
                 have hb0 : Below w.heap.size w (wr.drewN (q' + q'')) := below_drewN Hbw.out _)
              | (at_builtin; refine wpList_append_lists _ rfl (.tmp 34) (.tmp 37) _ rfl w.heap.size 23 i0 Tryz.underlying27 hi0 hz0 hz1 hz2 (.slice none 0 0) [] rfl (OwnL.nil _ _ _) _ _ _ T rfl (htk.below hb0 (Nat.le_refl _)) (htk.inner hb0 (Nat.le_refl _) (by simp [Value.ownBlock])) hT0 hb0.size ?_; intro v1 w1 hown1 hg1 hat1
                 have hb1 : Below w.heap.size w w1 := belowL_app0 hb0 hb0.size (OwnL.nil 23 _ _) hg1)
              | (at_builtin; refine wpList_push_list _ rfl (.tmp 39) (.tmp 41) _ rfl w.heap.size 23 i0 Tryz.underlying27 hi0 hz0 hz1 hz2 v1 ([] ++ T) rfl hown1 _ _ _ x _ rfl (h'.below hb1 (Nat.le_refl _)) (Hx'.out v1 fun j hj => (hown1.lt j hj).1) hT1 hb1.size ?_; intro v2 w2 hown2 hg2 hat2
                 have hb2 : Below w.heap.size w w2 := belowL_app hb1 hb1.size hown1 hg2)
              | (at_builtin; refine wpList_append_lists _ rfl (.tmp 43) (.tmp 46) _ rfl w.heap.size 23 i0 Tryz.underlying27 hi0 hz0 hz1 hz2 v2 (([] ++ T) ++ [x]) rfl hown2 _ _ _ D rfl (hdk.below hb2 (Nat.le_refl _)) (hdk.inner hb2 (Nat.le_refl _) fun j hj => (hown2.lt j hj).1) hT2 hb2.size ?_; intro v3 w3 hown3 hg3 hat3
                 have hb3 : Below w.heap.size w w3 := belowL_app0 hb2 hb2.size hown2 hg3))
            go_ret
            exact ⟨v3, rfl, by rw [Hres.out]; exact hown3.base (Nat.zero_le _), hb3⟩
      · obtain rfl : k = n := by omega
        have Hat : Hid (insAt L x = k) := hid_ (insAt_eq (by rw [HLn.out]; omega) Hall.out fun hh => by rw [HLn.out] at hh; omega)
        have Hres : Hid (insertL L x = (L ++ [x]) ++ []) := hid_ (by
          rw [insertL, Hat.out, if_neg (by rw [HLn.out]; omega), List.take_of_length_le (by rw [HLn.out]; omega), List.drop_of_length_le (by rw [HLn.out]; omega)])
        have hT1 : ([] ++ L).length + 1 ≤ 1000000 := by have := HLn.out; simp; omega
        have hT2 : (([] ++ L) ++ [x]).length + 0 ≤ 1000000 := by have := HLn.out; simp; omega
        have hT0 : ([] : List (List Int)).length + k ≤ 1000000 := by simp; omega
        have hb0 := Hbw.out
        by_cases hck : cap = k
        · subst hck
          have hdk : ∀ W, ListsAt W (some ⟨g, 0, none⟩) 0 0 [] := fun W => ListsAt.nil _ _ _ (by omega)
          go_wp2_with (first
            | (at_builtin; refine wpList_append_lists _ rfl (.tmp 34) (.tmp 37) _ rfl w.heap.size 23 i0 Tryz.underlying27 hi0 hz0 hz1 hz2 (.slice none 0 0) [] rfl (OwnL.nil _ _ _) _ _ _ L rfl (hA.below hb0 (Nat.le_refl _)) (hA.inner hb0 (Nat.le_refl _) (by simp [Value.ownBlock])) hT0 hb0.size ?_; intro v1 w1 hown1 hg1 hat1
               have hb1 : Below w.heap.size w w1 := belowL_app0 hb0 hb0.size (OwnL.nil 23 _ _) hg1)
            | (at_builtin; refine wpList_push_list _ rfl (.tmp 39) (.tmp 41) _ rfl w.heap.size 23 i0 Tryz.underlying27 hi0 hz0 hz1 hz2 v1 ([] ++ L) rfl hown1 _ _ _ x _ rfl (h'.below hb1 (Nat.le_refl _)) (Hx'.out v1 fun j hj => (hown1.lt j hj).1) hT1 hb1.size ?_; intro v2 w2 hown2 hg2 hat2
               have hb2 : Below w.heap.size w w2 := belowL_app hb1 hb1.size hown1 hg2)
            | (at_builtin; refine wpList_append_lists _ rfl (.tmp 43) (.tmp 46) _ rfl w.heap.size 23 i0 Tryz.underlying27 hi0 hz0 hz1 hz2 v2 (([] ++ L) ++ [x]) rfl hown2 _ _ _ [] rfl (hdk _) (by intro _ i _ _ _ _ hi; exact absurd hi (by omega)) hT2 hb2.size ?_; intro v3 w3 hown3 hg3 hat3
               have hb3 : Below w.heap.size w w3 := belowL_app0 hb2 hb2.size hown2 hg3))
          go_ret
          exact ⟨v3, rfl, by rw [Hres.out]; exact hown3.base (Nat.zero_le _), hb3⟩
        · have hdk : ∀ W, ListsAt W (some ⟨g, k, none⟩) 0 (cap - k) [] := fun W => ListsAt.nil _ _ _ (by have := hA.small; omega)
          go_wp2_with (first
            | (at_builtin; refine wpList_append_lists _ rfl (.tmp 34) (.tmp 37) _ rfl w.heap.size 23 i0 Tryz.underlying27 hi0 hz0 hz1 hz2 (.slice none 0 0) [] rfl (OwnL.nil _ _ _) _ _ _ L rfl (hA.below hb0 (Nat.le_refl _)) (hA.inner hb0 (Nat.le_refl _) (by simp [Value.ownBlock])) hT0 hb0.size ?_; intro v1 w1 hown1 hg1 hat1
               have hb1 : Below w.heap.size w w1 := belowL_app0 hb0 hb0.size (OwnL.nil 23 _ _) hg1)
            | (at_builtin; refine wpList_push_list _ rfl (.tmp 39) (.tmp 41) _ rfl w.heap.size 23 i0 Tryz.underlying27 hi0 hz0 hz1 hz2 v1 ([] ++ L) rfl hown1 _ _ _ x _ rfl (h'.below hb1 (Nat.le_refl _)) (Hx'.out v1 fun j hj => (hown1.lt j hj).1) hT1 hb1.size ?_; intro v2 w2 hown2 hg2 hat2
               have hb2 : Below w.heap.size w w2 := belowL_app hb1 hb1.size hown1 hg2)
            | (at_builtin; refine wpList_append_lists _ rfl (.tmp 43) (.tmp 46) _ rfl w.heap.size 23 i0 Tryz.underlying27 hi0 hz0 hz1 hz2 v2 (([] ++ L) ++ [x]) rfl hown2 _ _ _ [] rfl (hdk _) (by intro _ i _ _ _ _ hi; exact absurd hi (by omega)) hT2 hb2.size ?_; intro v3 w3 hown3 hg3 hat3
               have hb3 : Below w.heap.size w w3 := belowL_app0 hb2 hb2.size hown2 hg3))
          go_ret
          exact ⟨v3, rfl, by rw [Hres.out]; exact hown3.base (Nat.zero_le _), hb3⟩
end Go.Proofs.YtebbmhlkdfmmcaaGreat
namespace Go.Proofs.YtebbmhlkdfmmcaaGreat
open Go.RowKit Go.Proofs.Kv
attribute [local go_sem] Oper.semAt_some
/-! ### cmp.Compare, cmp.Or, slices.Compare -/
def cmpI (x y : Int) : Int := if x < y then -1 else if y < x then 1 else 0
theorem cmpI_calls (x y : Int) (w : World) :
    Calls Tryz.prog 54 #[.int .i64 x, .int .i64 y] w fun e w' => e = .returned (.int .i64 (cmpI x y)) ∧ w = w' := by
  have Hnan : ∀ z, Hid (Calls Tryz.prog 79 #[.int .i64 z] w fun e w' => e = .returned (.bool false) ∧ w' = w) := fun z => hid_ (Tryz.cmp_isNaN_int2 z w)
  by_cases h1 : x < y
  · have Hf : Hid (cmpI x y = -1) := hid_ (if_pos h1)
    go_enter Tryz.func54, Tryz.ntmps54
    go_wp2_with (go_at_call 79; refine (Hnan _).out.mono ?_; rintro e w' ⟨rfl, rfl⟩)
    go_ret
    exact ⟨retI Hf.out, rfl⟩
  · by_cases h2 : y < x
    · have Hf : Hid (cmpI x y = 1) := hid_ (by rw [cmpI, if_neg h1, if_pos h2])
      go_enter Tryz.func54, Tryz.ntmps54
      go_wp2_with (go_at_call 79; refine (Hnan _).out.mono ?_; rintro e w' ⟨rfl, rfl⟩)
      go_ret
      exact ⟨retI Hf.out, rfl⟩
    · have Hf : Hid (cmpI x y = 0) := hid_ (by rw [cmpI, if_neg h1, if_neg h2])
      go_enter Tryz.func54, Tryz.ntmps54
      go_wp2_with (go_at_call 79; refine (Hnan _).out.mono ?_; rintro e w' ⟨rfl, rfl⟩)
      go_ret
      exact ⟨retI Hf.out, rfl⟩

def orI : List Int → Int
  | [] => 0
  | x :: l => if x = 0 then orI l else x
theorem orI_hit : ∀ {l : List Int} {k : Nat}, (∀ j, j < k → l.getD j 0 = 0) → k < l.length → l.getD k 0 ≠ 0 → orI l = l.getD k 0
  | x :: l, 0, _, _, h => by simp [List.getD] at h; simp [orI, h, List.getD]
  | x :: l, k + 1, h, hk, hh => by
    have h0 : x = 0 := by simpa [List.getD] using h 0 (by omega)
    rw [orI, if_pos h0]
    have := orI_hit (l := l) (k := k) (fun j hj => by simpa [List.getD] using h (j + 1) (by omega)) (by simpa using hk) (by simpa [List.getD] using hh)
    simpa [List.getD] using this
theorem orI_miss : ∀ {l : List Int}, (∀ j, j < l.length → l.getD j 0 = 0) → orI l = 0
  | [], _ => rfl
  | x :: l, h => by
    have h0 : x = 0 := by simpa [List.getD] using h 0 (by simp)
    rw [orI, if_pos h0]
    exact orI_miss fun j hj => by simpa [List.getD] using h (j + 1) (by simpa using hj)
/-- the order of lists -/
def cmpL : List Int → List Int → Int
  | [], [] => 0
  | [], _ :: _ => -1
  | _ :: _, [] => 1
  | x :: l, y :: m => if cmpI x y = 0 then cmpL l m else cmpI x y
theorem cmpL_at : ∀ {l m : List Int} {k : Nat}, (∀ j, j < k → cmpI (l.getD j 0) (m.getD j 0) = 0) → k ≤ l.length → k ≤ m.length → cmpL l m = cmpL (l.drop k) (m.drop k)
  | l, m, 0, _, _, _ => rfl
  | x :: l, y :: m, k + 1, h, h1, h2 => by
    have h0 : cmpI x y = 0 := by simpa [List.getD] using h 0 (by omega)
    rw [cmpL, if_pos h0, List.drop_succ_cons, List.drop_succ_cons]
    exact cmpL_at (fun j hj => by simpa [List.getD] using h (j + 1) (by omega)) (by simpa using h1) (by simpa using h2)
theorem drop_cons_getD {l : List Int} {k : Nat} (h : k < l.length) : l.drop k = l.getD k 0 :: l.drop (k + 1) := by
  rw [List.drop_eq_getElem_cons h]; simp [List.getD, List.getElem?_eq_getElem h]
set_option maxRecDepth 100000 in
theorem cmpL_calls (a : Option Addr) (n c : Nat) (l : List Int) (a' : Option Addr) (n' c' : Nat) (m : List Int) (w : World) (h : IntsAt w a n c l) (h' : IntsAt w a' n' c' m) :
    Calls Tryz.prog 33 #[.slice a n c, .slice a' n' c'] w fun e w' => e = .returned (.int .i64 (cmpL l m)) ∧ w = w' := by
  have hn : n ≤ 9223372036854775807 := Nat.le_trans h.le h.small
  have hn' : n' ≤ 9223372036854775807 := Nat.le_trans h'.le h'.small
  have hlen := hid_ h.len
  have hlen' := hid_ h'.len
  go_enter Tryz.func33, Tryz.ntmps33
  go_wp2
  go_loop [11] (fun i => ∃ k : Nat, k ≤ n ∧ k ≤ n' ∧ i = .int .i64 k ∧ ∀ j, j < k → cmpI (l.getD j 0) (m.getD j 0) = 0) (fun i => n - (intOf i).toNat)
  case atStart => exact ⟨0, Nat.zero_le _, Nat.zero_le _, rfl, fun _ h => absurd h (by omega)⟩
  case round =>
    obtain ⟨k, hk, hk', rfl, hall⟩ := hrel
    have Hall := hid_ hall; clear hall
    have Hat : Hid (cmpL l m = cmpL (l.drop k) (m.drop k)) := hid_ (cmpL_at Hall.out (by rw [hlen.out]; exact hk) (by rw [hlen'.out]; exact hk'))
    by_cases hlt : k < n
    · obtain ⟨b, off, rfl, hb, hcell⟩ := h.cells k hlt
      have hl : k < l.length := by rw [hlen.out]; exact hlt
      generalize hr : l.getD k 0 = r at hcell
      have Hr := hid_ hr; clear hr
      by_cases hlt' : k < n'
      · obtain ⟨b', off', rfl, hb', hcell'⟩ := h'.cells k hlt'
        have hl' : k < m.length := by rw [hlen'.out]; exact hlt'
        generalize hr' : m.getD k 0 = r' at hcell'
        have Hr' := hid_ hr'; clear hr'
        have hc := cmpI_calls r r' w
        by_cases hq : cmpI r r' = 0
        · have Hq := hid_ hq
          rw [hq] at hc
          have Hc := hid_ hc; clear hc hq
          go_wp2_with (go_at_call 54; refine Hc.out.mono ?_; rintro e w' ⟨rfl, rfl⟩)
          go_round
          case rel => exact ⟨k + 1, by omega, by omega, by go_num, lt_snoc Hall.out (by rw [Hr.out, Hr'.out, Hq.out])⟩
          case measure => simp [intOf]; omega
        · have Hf : Hid (cmpL l m = cmpI r r') := hid_ (by rw [Hat.out, drop_cons_getD hl, drop_cons_getD hl', Hr.out, Hr'.out, cmpL, if_neg hq])
          generalize cmpI r r' = z at hc hq Hf
          have hqe : (z != 0) = true := by simpa using hq
          have Hc := hid_ hc; clear hc hq
          go_wp2_with (go_at_call 54; refine Hc.out.mono ?_; rintro e w' ⟨rfl, rfl⟩)
          go_ret
          exact ⟨retI Hf.out, rfl⟩
      · have Hf : Hid (cmpL l m = 1) := hid_ (by rw [Hat.out, drop_cons_getD hl, List.drop_of_length_le (l := m) (by rw [hlen'.out]; omega)]; rfl)
        go_wp2
        go_ret
        exact ⟨retI Hf.out, rfl⟩
    · have hnk : l.drop k = [] := List.drop_of_length_le (by rw [hlen.out]; omega)
      by_cases hlt' : n < n'
      · have Hf : Hid (cmpL l m = -1) := hid_ (by rw [Hat.out, hnk, drop_cons_getD (l := m) (by rw [hlen'.out]; omega)]; rfl)
        go_wp2
        go_ret
        exact ⟨retI Hf.out, rfl⟩
      · have Hf : Hid (cmpL l m = 0) := hid_ (by rw [Hat.out, hnk, List.drop_of_length_le (l := m) (by rw [hlen'.out]; omega)]; rfl)
        go_wp2
        go_ret
        exact ⟨retI Hf.out, rfl⟩
end Go.Proofs.YtebbmhlkdfmmcaaGreat
namespace Go.Proofs.YtebbmhlkdfmmcaaGreat
open Go.RowKit Go.Proofs.Kv Go.Sort Go.Shelf Go.Proofs
attribute [local go_sem] Oper.semAt_some
/-! ### a row of the call's own, sorted in place -/
theorem holds_flat {w : World} {g n : Nat} {cur : Array Value} {e : TypeId} {xs : List Value} (hb : w.heap[g]? = some (.cells cur e (0, 0))) (hl : xs.length = n) (ht : cur.toList.take n = xs) : Holds id w g 0 xs.toArray := by
  intro j hj
  have hj' : j < xs.length := by simpa using hj
  refine ⟨?_, by simp [World.frozen?, hb]⟩
  have h1 : (cur.toList.take n)[j]? = xs[j]? := by rw [ht]
  rw [List.getElem?_take_of_lt (by omega)] at h1
  simp only [World.cell?, hb, Nat.zero_add]
  simp only [Option.isSome_none, Bool.false_eq_true, if_false]
  rw [← Array.getElem?_toList, h1]
  simp [hj']
theorem heap_flat {w : World} {g m : Nat} {os : Array Obj} {cur : Array Value} {e : TypeId} {fr : Nat × Nat} (d : Array Value) (hb : w.heap[g]? = some (.cells cur e fr)) :
    (grow (putRow id (Sort.ahead w m) g 0 d) os).heap[g]? = some (.cells (putCells id 0 d cur) e fr) := by
  have hg : g < w.heap.size := (Array.getElem?_eq_some_iff.1 hb).1
  rw [heap_grow_old _ _ (by simpa using hg)]
  simp [putRow, mapBlock, Sort.ahead, Array.getElem?_modify, hb, onCells]
theorem grownBy_flat {w : World} {g m : Nat} {os : Array Obj} (d : Array Value) : w.grownBy (grow (putRow id (Sort.ahead w m) g 0 d) os) (some g) := by
  refine ⟨rfl, rfl, rfl, by simp, fun k hk hne => ?_⟩
  rw [heap_grow_old _ _ (by simpa using hk)]
  have : g ≠ k := fun e => hne (by rw [e])
  simp [putRow, mapBlock, Sort.ahead, Array.getElem?_modify, this]
theorem take_flat (cur : Array Value) (ts : List Value) (h : ts.length ≤ cur.size) : (putCells id 0 ts.toArray cur).toList.take ts.length = ts := by
  apply List.ext_getElem?
  intro j
  by_cases hj : j < ts.length
  · rw [List.getElem?_take_of_lt hj, Array.getElem?_toList]
    simp [putCells, hj, show j < cur.size by omega]
  · rw [List.getElem?_take_eq_none (by omega), List.getElem?_eq_none (by omega)]
/-- what a sort asks of a row of the call's own, and what it leaves of it -/
theorem own_flat {w : World} {B E size n : Nat} {v : Value} {xs : List Value} (hown : w.ownsRow B E size v n xs) (h0 : 0 < n) (hB : B ≤ w.heap.size) :
    ∃ g cap, v = .slice (some ⟨g, 0, none⟩) n cap ∧ g < w.heap.size ∧ Holds id w g 0 xs.toArray ∧
      ∀ m os (ys : List Value), ys.length = xs.length → (grow (putRow id (Sort.ahead w m) g 0 ys.toArray) os).ownsRow B E size v n ys ∧ Below B w (grow (putRow id (Sort.ahead w m) g 0 ys.toArray) os) := by
  rcases hown.2 with ⟨rfl, rfl⟩ | ⟨g, cap, cur, rfl, hbase, hb, h1, h2, h3, h4⟩
  · omega
  · have hxl : xs.length = n * size := hown.1
    refine ⟨g, cap, rfl, (Array.getElem?_eq_some_iff.1 hb).1, holds_flat hb hxl h4, fun m os ys hl => ⟨⟨by rw [hl]; exact hxl, .inr ⟨g, cap, _, rfl, hbase, heap_flat _ hb, h1, h2, by simp [putCells, h3], ?_⟩⟩, ?_⟩⟩
    · rw [← hxl, ← hl]
      refine take_flat cur ys ?_
      rw [hl, hxl, h3]
      exact Nat.mul_le_mul_right _ h1
    · exact (Below.refl _ _).grown (grownBy_flat _) hB fun r e => by cases e; exact hbase

end Go.Proofs.YtebbmhlkdfmmcaaGreat
namespace Go.Proofs.YtebbmhlkdfmmcaaGreat
open Go.RowKit Go.Proofs.Kv Go.Sort Go.Shelf Go.Proofs
attribute [local go_sem] Oper.semAt_some
/-! ### the order of lists -/
theorem cmpI_cases (x y : Int) : (x < y ∧ cmpI x y = -1) ∨ (y < x ∧ cmpI x y = 1) ∨ (x = y ∧ cmpI x y = 0) := by
  unfold cmpI
  by_cases h1 : x < y
  · exact .inl ⟨h1, if_pos h1⟩
  · by_cases h2 : y < x
    · exact .inr (.inl ⟨h2, by rw [if_neg h1, if_pos h2]⟩)
    · exact .inr (.inr ⟨by omega, by rw [if_neg h1, if_neg h2]⟩)
theorem cmpL_self : ∀ l : List Int, cmpL l l = 0
  | [] => rfl
  | x :: l => by
    rw [cmpL]
    rcases cmpI_cases x x with ⟨h, _⟩ | ⟨h, _⟩ | ⟨_, h⟩
    · omega
    · omega
    · rw [if_pos h]; exact cmpL_self l
theorem cmpL_eq : ∀ {l m : List Int}, cmpL l m = 0 → l = m
  | [], [], _ => rfl
  | [], _ :: _, h => by simp [cmpL] at h
  | _ :: _, [], h => by simp [cmpL] at h
  | x :: l, y :: m, h => by
    rw [cmpL] at h
    rcases cmpI_cases x y with ⟨_, h1⟩ | ⟨_, h1⟩ | ⟨h0, h1⟩
    · rw [h1] at h; simp at h
    · rw [h1] at h; simp at h
    · rw [if_pos h1] at h; rw [h0, cmpL_eq h]
theorem cmpL_neg : ∀ l m : List Int, cmpL m l = - cmpL l m
  | [], [] => rfl
  | [], _ :: _ => rfl
  | _ :: _, [] => rfl
  | x :: l, y :: m => by
    rw [cmpL, cmpL]
    have ih := cmpL_neg l m
    rcases cmpI_cases x y with ⟨h0, h1⟩ | ⟨h0, h1⟩ | ⟨h0, h1⟩
    · rcases cmpI_cases y x with ⟨g0, g1⟩ | ⟨g0, g1⟩ | ⟨g0, g1⟩
      · omega
      · rw [h1, g1]; rfl
      · omega
    · rcases cmpI_cases y x with ⟨g0, g1⟩ | ⟨g0, g1⟩ | ⟨g0, g1⟩
      · rw [h1, g1]; rfl
      · omega
      · omega
    · rcases cmpI_cases y x with ⟨g0, g1⟩ | ⟨g0, g1⟩ | ⟨g0, g1⟩
      · omega
      · omega
      · rw [if_pos h1, if_pos g1]; exact ih
theorem cmpL_trans : ∀ {l m p : List Int}, cmpL l m < 0 → cmpL m p < 0 → cmpL l p < 0
  | [], [], _, h, _ => by simp [cmpL] at h
  | [], _ :: _, [], _, h => by simp [cmpL] at h
  | [], _ :: _, _ :: _, _, _ => by simp [cmpL]
  | _ :: _, [], _, h, _ => by simp [cmpL] at h
  | _ :: _, _ :: _, [], _, h => by simp [cmpL] at h
  | x :: l, y :: m, z :: p, h, k => by
    rw [cmpL] at h k ⊢
    rcases cmpI_cases x y with ⟨h0, h1⟩ | ⟨h0, h1⟩ | ⟨h0, h1⟩
    · rcases cmpI_cases y z with ⟨g0, g1⟩ | ⟨g0, g1⟩ | ⟨g0, g1⟩
      · rcases cmpI_cases x z with ⟨f0, f1⟩ | ⟨f0, f1⟩ | ⟨f0, f1⟩
        · rw [f1]; simp
        · omega
        · omega
      · rw [g1] at k; simp at k
      · rcases cmpI_cases x z with ⟨f0, f1⟩ | ⟨f0, f1⟩ | ⟨f0, f1⟩
        · rw [f1]; simp
        · omega
        · omega
    · rw [h1] at h; simp at h
    · subst h0
      rw [if_pos h1] at h
      rcases cmpI_cases x z with ⟨g0, g1⟩ | ⟨g0, g1⟩ | ⟨g0, g1⟩
      · rw [g1]; simp
      · rw [g1] at k; simp at k
      · rw [if_pos g1] at k ⊢; exact cmpL_trans h k
def ltL (x y : List Int) : Bool := decide (cmpL x y < 0)
def leL (x y : List Int) : Bool := !(ltL y x)
theorem swoL : SWO ltL where
  irrefl x := by simp [ltL, cmpL_self]
  trans x y z h1 h2 := by simp only [ltL, decide_eq_true_eq] at *; exact cmpL_trans h1 h2
  ntrans x y z h1 h2 := by
    simp only [ltL, decide_eq_false_iff_not] at *
    intro h3
    rcases Int.lt_trichotomy (cmpL x y) 0 with h | h | h
    · exact h1 h
    · rw [cmpL_eq h] at h3; exact h2 h3
    · rcases Int.lt_trichotomy (cmpL y z) 0 with g | g | g
      · exact h2 g
      · rw [← cmpL_eq g] at h3; omega
      · have a1 : cmpL y x < 0 := by rw [cmpL_neg]; omega
        have a2 : cmpL z y < 0 := by rw [cmpL_neg]; omega
        have := cmpL_trans a2 a1
        rw [cmpL_neg] at this; omega
theorem ltL_anti : ∀ x y, ltL x y = false → ltL y x = false → x = y := by
  intro x y h1 h2
  simp only [ltL, decide_eq_false_iff_not] at h1 h2
  rw [cmpL_neg x y] at h2
  exact cmpL_eq (by omega)

/-! ### slices.SortFunc of lists -/
theorem ints_grown {w w' : World} {g : Nat} {a : Option Addr} {n c : Nat} {l : List Int} (hg : w.grownBy w' (some g)) (h : IntsAt w a n c l) (hd : ∀ b off, 0 < n → a = some ⟨b, off, none⟩ → b ≠ g) : IntsAt w' a n c l :=
  ⟨h.len, h.le, h.small, fun i hi => by
    obtain ⟨b, off, ha, hb, hc⟩ := h.cells i hi
    exact ⟨b, off, ha, Nat.lt_of_lt_of_le hb hg.size, hg.cell hc fun e => hd b off (by omega) ha (by injection e)⟩⟩
theorem putRow_map {α : Type} [Inhabited α] (enc : α → Value) (w : World) (blk : Nat) (d : Array α) : putRow enc w blk 0 d = putRow id w blk 0 (d.map enc) := by
  unfold putRow
  congr 1
  funext c
  unfold putCells
  congr 1
  funext k x
  simp only [Array.size_map]
  by_cases h : 0 ≤ k ∧ k < 0 + d.size
  · rw [if_pos h, if_pos h]
    have hk : k - 0 < d.size := by omega
    rw [getElem!_pos d _ hk, getElem!_pos (d.map enc) _ (by simpa using hk)]
    simp
  · rw [if_neg h, if_neg h]
theorem holds_map {α : Type} [Inhabited α] {enc : α → Value} {w : World} {blk : Nat} {d : Array α} (h : Holds id w blk 0 (d.map enc)) : Holds enc w blk 0 d := fun j hj => by
  have := h j (by simpa using hj)
  rw [getElem!_pos (d.map enc) _ (by simpa using hj)] at this
  rw [getElem!_pos d _ hj]
  simpa using this

def cfI (L : List (List Int)) (i j : Nat) : Int := cmpL (L.getD i []) (L.getD j [])
theorem ltI (L : List (List Int)) (i j : Nat) : ltOf (cfI L) i j = ltL (L.getD i []) (L.getD j []) := rfl
theorem swoI (L : List (List Int)) : SWO (ltOf (cfI L)) where
  irrefl _ := swoL.irrefl _
  trans _ _ _ h1 h2 := swoL.trans _ _ _ h1 h2
  ntrans _ _ _ h1 h2 := swoL.ntrans _ _ _ h1 h2
/-- a sorted permutation of the places gives the sorted list -/
theorem sorted_places {L : List (List Int)} {d' : Array Nat} (hp : PermIn 0 L.length (List.range L.length).toArray d') (hs : SortedIn (ltOf (cfI L)) 0 L.length d') :
    d'.size = L.length ∧ (∀ i, i < L.length → d'[i]! < L.length) ∧ d'.toList.map (fun i => L.getD i []) = L.mergeSort leL := by
  obtain ⟨hsz, _, hperm⟩ := hp
  have hsz' : d'.size = L.length := by simpa using hsz
  have e1 : d'.extract 0 L.length = d' := by rw [← hsz']; exact Array.extract_size
  have e2 : ((List.range L.length).toArray.extract 0 L.length) = (List.range L.length).toArray := by
    have h : (List.range L.length).toArray.size = L.length := by simp
    have := Array.extract_size (xs := (List.range L.length).toArray)
    rwa [h] at this
  rw [e1, e2] at hperm
  have hmem : ∀ i, i < L.length → d'[i]! < L.length := fun i hi => by
    have hi' : i < d'.size := by omega
    rw [getElem!_pos d' i hi']
    have : d'[i] ∈ d'.toList := by simp
    have := (hperm.mem_iff).1 this
    simpa using this
  refine ⟨hsz', hmem, ?_⟩
  have hmap : (List.range L.length).map (fun i => L.getD i []) = L := by
    apply List.ext_getElem (by simp)
    intro i h1 h2
    simp [List.getD, List.getElem?_eq_getElem h2]
  have hpm : (d'.toList.map fun i => L.getD i []).Perm L := by
    have := hperm.map (fun i => L.getD i [])
    rwa [hmap] at this
  refine List.Perm.eq_of_pairwise (le := fun x y => leL x y = true) ?_ ?_ ?_ (hpm.trans (List.mergeSort_perm _ _).symm)
  · intro a b _ _ h1 h2
    simp only [leL, Bool.not_eq_true'] at h1 h2
    exact ltL_anti a b h2 h1
  · rw [List.pairwise_iff_getElem]
    intro i j hi hj hij
    have hi' : i < d'.size := by simpa using hi
    have hj' : j < d'.size := by simpa using hj
    have := hs i j (Nat.zero_le _) hij (by omega)
    rw [getElem!_pos d' j hj', getElem!_pos d' i hi', ltI] at this
    simp only [leL, List.getElem_map, Array.getElem_toList, Bool.not_eq_true']
    exact this
  · refine List.pairwise_mergeSort ?_ ?_ _
    · intro a b c h1 h2
      simp only [leL, Bool.not_eq_true'] at h1 h2 ⊢
      exact swoL.ntrans c b a h2 h1
    · intro a b
      cases h : ltL b a with
      | false => simp [leL, h]
      | true =>
        cases h' : ltL a b with
        | false => simp [leL, h, h']
        | true =>
          have := swoL.trans _ _ _ h h'
          rw [swoL.irrefl] at this; cases this

set_option maxHeartbeats 1000000 in
theorem sortLists_calls {B E : Nat} {v : Value} {L : List (List Int)} {w : World} (hown : OwnL E w B v L) (h0 : 0 < L.length) (hs : L.length ≤ 1000000) (hB : B ≤ w.heap.size) :
    Calls Tryz.prog 32 #[v, .func (.func 33) #[] #[]] w fun e w' => e = .returned (.tuple #[]) ∧ OwnL E w' B v (L.mergeSort leL) ∧ Below B w w' := by
  obtain ⟨vs, hrow, hin⟩ := hown.has
  have hvl : vs.length = L.length := by have := hrow.1; simpa using this
  obtain ⟨g, cap, rfl, hlt, hH, hafter⟩ := own_flat hrow h0 hB
  let enc : Nat → Value := fun i => vs.getD i (.slice none 0 0)
  have henc : ∀ i, ∃ a n c, enc i = .slice a n c ∧ IntsAt w a n c (L.getD i []) ∧ ∀ b off, 0 < n → a = some ⟨b, off, none⟩ → b ≠ g := by
    intro i
    rcases Nat.lt_or_ge i L.length with hi | hi
    · obtain ⟨a, n, c, e, hr, hd⟩ := hin i hi
      exact ⟨a, n, c, by simp [enc, List.getD, e], hr, fun b off hn ha hb => hd b off hn ha (by rw [hb]; rfl)⟩
    · refine ⟨none, 0, 0, by simp [enc, List.getD, List.getElem?_eq_none (show vs.length ≤ i by omega)], ?_, fun b off hn => absurd hn (by omega)⟩
      rw [List.getD, List.getElem?_eq_none hi]
      exact IntsAt.nil _ _ _ (by omega)
  have hd0 : (List.range L.length).toArray.map enc = vs.toArray := by
    apply Array.ext (by simp [hvl])
    intro i h1 h2
    simp at h1 h2
    simp [enc, List.getD, List.getElem?_eq_getElem h2]
  have hone : OneCell enc := fun i => by
    obtain ⟨a, n, c, e, _, _⟩ := henc i
    rw [e]; rfl
  have eg : ∀ args w, (callFunc 33 args).run Tryz.prog w = .ok (.enter 33 args) w := enters_of Tryz.func33 (by kernel_rfl) rfl
  have hgrow : ∀ m os (dk : Array Nat), w.grownBy (sortWorld enc w g 0 m dk os) (some g) := fun m os dk => by
    unfold sortWorld
    rw [putRow_map]
    exact grownBy_flat _
  have hcon := Tryz.slices_SortFunc enc hone (cfI L) (swoI L) 33 #[] g 0 cap (List.range L.length).toArray w eg
    (fun m os dk _ x y => by
      obtain ⟨a, n, c, e, hr, hd⟩ := henc x
      obtain ⟨a', n', c', e', hr', hd'⟩ := henc y
      rw [e, e']
      exact (cmpL_calls a n c _ a' n' c' _ _ (ints_grown (hgrow m os dk) hr hd) (ints_grown (hgrow m os dk) hr' hd')).mono fun _ _ h => ⟨h.1, 0, #[], h.2.symm⟩)
    (holds_map (by rw [hd0]; exact hH)) hlt (by simp; omega)
  rw [show (List.range L.length).toArray.size = L.length by simp] at hcon
  refine hcon.mono ?_
  rintro e w' ⟨rfl, d', k, os, hp, hso, rfl⟩
  obtain ⟨hsz, hm, hres⟩ := sorted_places hp hso
  have hlen : (L.mergeSort leL).length = L.length := by simp
  have hw : sortWorld enc w g 0 k d' os = Go.Sort.grow (putRow id (Sort.ahead w k) g 0 (d'.toList.map enc).toArray) os := by
    unfold sortWorld
    rw [putRow_map]
    congr 2
    apply Array.ext (by simp)
    intro i h1 h2
    simp
  obtain ⟨ho, hb⟩ := hafter k os (d'.toList.map enc) (by simp [hsz, hvl])
  rw [← hw] at ho hb
  refine ⟨rfl, ⟨d'.toList.map enc, by rw [hlen]; exact ho, fun i hi => ?_⟩, hb⟩
  rw [hlen] at hi
  obtain ⟨a, n, c, e, hr, hd⟩ := henc d'[i]!
  have hi' : i < d'.size := by omega
  refine ⟨a, n, c, ?_, ?_, fun b off hn ha hbb => hd b off hn ha (by simpa [Value.ownBlock] using hbb.symm)⟩
  · rw [List.getElem?_map, Array.getElem?_toList, Array.getElem?_eq_getElem hi', Option.map_some, ← e, getElem!_pos d' i hi']
  · have : (L.mergeSort leL).getD i [] = L.getD d'[i]! [] := by
      rw [← hres, getElem!_pos d' i hi', List.getD, List.getElem?_map, Array.getElem?_toList, Array.getElem?_eq_getElem hi']; rfl
    rw [this]
    exact ints_grown (hgrow k os d') hr hd
end Go.Proofs.YtebbmhlkdfmmcaaGreat
