import Derived.Test.YtoopgmoopmbfnaaKit
import Derived.Test.YtoopgmoopmbfnaaRf1
import Derived.Laws.StructEq
namespace Go.Proofs.Kv
open Go.RowKit

/-- the row of a list of lists that the call owns: v holds slices that read as L, none of which lies in the row itself -/
structure OwnL (E : TypeId) (w : World) (B : Nat) (v : Value) (L : List (List Int)) : Prop where
  has : ∃ vs, w.ownsRow B E 1 v L.length vs ∧ ∀ i, i < L.length → ∃ a n c, vs[i]? = some (.slice a n c) ∧ IntsAt w a n c (L.getD i []) ∧ ∀ b off, 0 < n → a = some ⟨b, off, none⟩ → v.ownBlock ≠ some b

theorem OwnL.nil (E : TypeId) (w : World) (B : Nat) : OwnL E w B (.slice none 0 0) [] := ⟨[], World.ownsRow_nil _ _ _ _, fun i h => absurd h (by simp)⟩
theorem OwnL.below {E : TypeId} {w w' : World} {B B' : Nat} {v : Value} {L : List (List Int)} (h : OwnL E w B v L) (hb : Below B' w w') (hB : w.heap.size ≤ B') : OwnL E w' B v L := by
  obtain ⟨vs, h1, h2⟩ := h.has
  refine ⟨vs, own_below h1 hb hB, fun i hi => ?_⟩
  obtain ⟨a, n, c, e, hr, hd⟩ := h2 i hi
  exact ⟨a, n, c, e, hr.below hb hB, hd⟩
theorem OwnL.drewN {E : TypeId} {w : World} {B : Nat} {v : Value} {L : List (List Int)} (h : OwnL E w B v L) (q : Nat) : OwnL E (w.drewN q) B v L := by
  obtain ⟨vs, h1, h2⟩ := h.has
  refine ⟨vs, h1, fun i hi => ?_⟩
  obtain ⟨a, n, c, e, hr, hd⟩ := h2 i hi
  exact ⟨a, n, c, e, hr.drewN q, hd⟩
theorem OwnL.alloc {E : TypeId} {w : World} {B : Nat} {v : Value} {L : List (List Int)} (h : OwnL E w B v L) (o : Obj) : OwnL E (w.alloc o) B v L :=
  h.below ((Below.refl w.heap.size w).alloc (Nat.le_refl _) o) (Nat.le_refl _)
theorem OwnL.base {E : TypeId} {w : World} {B B' : Nat} {v : Value} {L : List (List Int)} (h : OwnL E w B' v L) (hB : B ≤ B') : OwnL E w B v L := by
  obtain ⟨vs, h1, h2⟩ := h.has
  exact ⟨vs, own_base h1 hB, h2⟩
theorem OwnL.lt {E : TypeId} {w : World} {B : Nat} {v : Value} {L : List (List Int)} (h : OwnL E w B v L) : ∀ k, v.ownBlock = some k → B ≤ k ∧ k < w.heap.size := by
  obtain ⟨vs, h1, _⟩ := h.has
  exact h1.lt

theorem OwnL.at_ {E : TypeId} {w : World} {B : Nat} {v : Value} {L : List (List Int)} (h : OwnL E w B v L) : ∃ a c, v = .slice a L.length c ∧ ListsAt w a L.length c L := by
  obtain ⟨vs, h1, h2⟩ := h.has
  rcases h1.2 with ⟨rfl, h0⟩ | ⟨g, cap, cur, rfl, _, hg, hn, hm, hs, ht⟩
  · rw [h0]
    exact ⟨none, 0, rfl, h0, Nat.le_refl _, by omega, fun i hi => absurd hi (by omega)⟩
  · refine ⟨_, cap, rfl, rfl, hn, by unfold maxLen at hm; omega, fun i hi => ?_⟩
    obtain ⟨a, n, c, e, hr, _⟩ := h2 i hi
    have hc := h1.cells (g := g) rfl i _ e
    have : (⟨g, 0, none⟩ : Addr).add i = ⟨g, 0 + i, none⟩ := by unfold Addr.add; split <;> simp_all
    rw [this] at hc
    exact ⟨g, 0, a, n, c, rfl, (Array.getElem?_eq_some_iff.1 hg).1, hc, hr⟩

/-- the slices of a list of lists, one by one -/
theorem ListsAt.heads {w : World} {A : Option Addr} {m c : Nat} {M : List (List Int)} (h : ListsAt w A m c M) :
    ∃ vs : List Value, vs.length = m ∧ (∀ u ∈ vs, u.oneCell' = true) ∧ (∀ x, A = some x → ∀ j u, vs[j]? = some u → w.cell? (x.add j) = some u) ∧
      ∀ i, i < m → ∃ a n c, vs[i]? = some (.slice a n c) ∧ IntsAt w a n c (M.getD i []) := by
  have key : ∀ k, k ≤ m → ∃ vs : List Value, vs.length = k ∧ (∀ u ∈ vs, u.oneCell' = true) ∧ (∀ x, A = some x → ∀ j u, vs[j]? = some u → w.cell? (x.add j) = some u) ∧
      ∀ i, i < k → ∃ a n c, vs[i]? = some (.slice a n c) ∧ IntsAt w a n c (M.getD i []) := by
    intro k
    induction k with
    | zero => exact fun _ => ⟨[], rfl, by simp, by simp, fun i hi => absurd hi (by omega)⟩
    | succ k ih =>
      intro hk
      obtain ⟨vs, h1, h2, h3, h4⟩ := ih (by omega)
      obtain ⟨b, off, a, n, c', ha, hb, hc, hr⟩ := h.cells k (by omega)
      refine ⟨vs ++ [.slice a n c'], by simp [h1], ?_, ?_, ?_⟩
      · intro u hu
        rcases List.mem_append.1 hu with hu | hu
        · exact h2 u hu
        · rw [List.mem_singleton] at hu; subst hu; rfl
      · intro x hx j u hu
        rcases Nat.lt_or_ge j k with hj | hj
        · rw [List.getElem?_append_left (by omega)] at hu
          exact h3 x hx j u hu
        · rw [List.getElem?_append_right (by omega), h1] at hu
          have hj0 : j = k := by
            rcases Nat.lt_or_ge (j - k) 1 with h | h
            · omega
            · rw [List.getElem?_eq_none (by simpa using h)] at hu; cases hu
          subst hj0
          simp at hu
          subst hu
          rw [ha] at hx
          injection hx with hx
          subst hx
          have : (⟨b, off, none⟩ : Addr).add j = ⟨b, off + j, none⟩ := by unfold Addr.add; split <;> simp_all
          rw [this]; exact hc
      · intro i hi
        rcases Nat.lt_or_ge i k with hj | hj
        · obtain ⟨a', n', c'', e, hr'⟩ := h4 i hj
          exact ⟨a', n', c'', by rw [List.getElem?_append_left (by omega)]; exact e, hr'⟩
        · have : i = k := by omega
          subst this
          exact ⟨a, n, c', by rw [List.getElem?_append_right (by omega), h1]; simp, hr⟩
  exact key m (Nat.le_refl _)

/-- all inner slices of a list of lists lie below block B -/
def InnerBelow (w : World) (B : Nat) (A : Option Addr) (m : Nat) : Prop := ∀ x i a n c, A = some x → i < m → w.cell? (x.add i) = some (.slice a n c) → ∀ b off, 0 < n → a = some ⟨b, off, none⟩ → b < B

theorem getD_app {L M : List (List Int)} {i : Nat} : (L ++ M).getD i [] = if i < L.length then L.getD i [] else M.getD (i - L.length) [] := by
  split
  · rename_i h; simp [List.getD, List.getElem?_append_left h]
  · rename_i h; simp [List.getD, List.getElem?_append_right (Nat.le_of_not_lt h)]

section
variable {P : Program} (w : World)
/-- append of slices that were there, or that were made apart from the row -/
theorem run_append_lists (base : Nat) (t ty e : TypeId) (i : TypeInfo) (ht : P.underlying t = some (.slice e)) (hi : P.info? e = some i) (hz : i.zero = some (.slice none 0 0))
    (hsize : i.size = 1) (hby : i.bytes = 24) (v : Value) (L : List (List Int)) (hown : OwnL e w base v L)
    (A : Option Addr) (m c : Nat) (M : List (List Int)) (hr : ListsAt w A m c M) (hin : ∀ x i a n c, A = some x → i < m → w.cell? (x.add i) = some (.slice a n c) → ∀ b off, 0 < n → a = some ⟨b, off, none⟩ → v.ownBlock ≠ some b)
    (hs : L.length + m ≤ 1000000) (hbase : base ≤ w.heap.size) :
    ∃ v' w', (Builtin.append_ #[t, t] ty #[v, .slice A m c]).run P w = .ok v' w' ∧ OwnL e w' base v' (L ++ M) ∧ w.grownBy w' v.ownBlock ∧ (v'.ownBlock = v.ownBlock ∨ v'.ownBlock = some w.heap.size) := by
  obtain ⟨vs, h1, h2⟩ := hown.has
  rcases A with _ | x
  · have hm : m = 0 := by
      rcases Nat.eq_zero_or_pos m with h0 | h0
      · exact h0
      · obtain ⟨_, _, _, _, _, h, _⟩ := hr.cells 0 h0; cases h
    subst hm
    have : M = [] := List.eq_nil_of_length_eq_zero hr.len
    subst this
    refine ⟨v, w, ?_, by simpa using hown, World.grownBy.refl w _, .inl rfl⟩
    rcases h1.2 with ⟨rfl, h0⟩ | ⟨g, cap, cur, rfl, _, _, hnc, _⟩
    · simp [Builtin.append_, run_underlying ht, sizeOf, typeInfo, hi, Builtin.lenOf, Builtin.firstCells]
    · simp [Builtin.append_, run_underlying ht, sizeOf, typeInfo, hi, Builtin.lenOf, Builtin.firstCells, hnc, storeCells]
  · obtain ⟨us, g1, g2, g3, g4⟩ := hr.heads
    obtain ⟨v', w', k1, k2, k3, _, k5⟩ := run_append_own_at (P := P) w base t ty e i (.slice none 0 0) 1 24 ht hi hz hsize hby rfl (by omega) v _ _ h1 x m c us (by simp [g1]) (g3 x rfl) g2
      (by unfold maxLen; omega) (by omega) hbase
    refine ⟨v', w', k1, ⟨vs ++ us, by rw [List.length_append, hr.len]; exact k2, fun i hi => ?_⟩, k3, k5⟩
    have hvl : vs.length = L.length := by have := h1.1; omega
    have key : ∀ a n c l, IntsAt w a n c l → (∀ b off, 0 < n → a = some ⟨b, off, none⟩ → v.ownBlock ≠ some b) → IntsAt w' a n c l ∧ ∀ b off, 0 < n → a = some ⟨b, off, none⟩ → v'.ownBlock ≠ some b := by
      intro a n c l hI hd
      have hblk : ∀ b off, 0 < n → a = some ⟨b, off, none⟩ → b < w.heap.size := by
        intro b off hn ha
        obtain ⟨b', off', ha', hb, _⟩ := hI.cells 0 hn
        rw [ha] at ha'; injection ha' with ha'; injection ha' with e1 e2; omega
      refine ⟨⟨hI.len, hI.le, hI.small, fun i hi => ?_⟩, fun b off hn ha => ?_⟩
      · obtain ⟨b, off, ha, hb, hc⟩ := hI.cells i hi
        exact ⟨b, off, ha, Nat.lt_of_lt_of_le hb k3.size, k3.cell (a := ⟨b, off + i, none⟩) hc (fun e => hd b off (by omega) ha e.symm)⟩
      · rcases k5 with e | e
        · rw [e]; exact hd b off hn ha
        · rw [e]; intro h; injection h with h; have := hblk b off hn ha; omega
    rw [List.length_append, hr.len] at hi
    rw [getD_app]
    by_cases hil : i < L.length
    · rw [if_pos hil]
      obtain ⟨a, n, c, e, hI, hd⟩ := h2 i hil
      obtain ⟨q1, q2⟩ := key a n c _ hI hd
      exact ⟨a, n, c, by rw [List.getElem?_append_left (by omega)]; exact e, q1, q2⟩
    · rw [if_neg hil]
      obtain ⟨a, n, c, e, hI⟩ := g4 (i - L.length) (by omega)
      obtain ⟨q1, q2⟩ := key a n c _ hI (fun b off hn ha => hin x (i - L.length) a n c rfl (by omega) (g3 x rfl _ _ e) b off hn ha)
      exact ⟨a, n, c, by rw [List.getElem?_append_right (by omega), hvl]; exact e, q1, q2⟩

theorem wpList_append_lists {ops : Array Oper} {rest : List Oper} {o : Oper} {a : Act} {Q : Exit → Act → World → Prop} (hgd : o.guard = none) (s x : Operand) (t : TypeId)
    (ho : o.op = .call { callee := .builtin .append, args := #[s, x], argTypes := #[t, t] })
    (base : Nat) (e : TypeId) (i : TypeInfo) (ht : P.underlying t = some (.slice e)) (hi : P.info? e = some i) (hz : i.zero = some (.slice none 0 0)) (hsize : i.size = 1) (hby : i.bytes = 24)
    (v : Value) (L : List (List Int)) (hs : a.eval s = v) (hown : OwnL e w base v L)
    (A : Option Addr) (m c : Nat) (M : List (List Int)) (hx : a.eval x = .slice A m c) (hr : ListsAt w A m c M)
    (hin : ∀ x i a n c, A = some x → i < m → w.cell? (x.add i) = some (.slice a n c) → ∀ b off, 0 < n → a = some ⟨b, off, none⟩ → v.ownBlock ≠ some b)
    (hsm : L.length + m ≤ 1000000) (hbase : base ≤ w.heap.size)
    (h : ∀ v' w', OwnL e w' base v' (L ++ M) → w.grownBy w' v.ownBlock → (v'.ownBlock = v.ownBlock ∨ v'.ownBlock = some w.heap.size) → wpList P ops Q rest (a.put o.dst v') w') :
    wpList P ops Q (o :: rest) a w := by
  refine wpList_plain hgd fun K hK => ?_
  obtain ⟨v', w', hrun, h2, h3, h4⟩ := run_append_lists (P := P) w base t o.type e i ht hi hz hsize hby v L hown A m c M hr hin hsm hbase
  unfold Oper.wp execOp
  simp only [ho, resolve, invoke, builtin, Sem.run_bind, Sem.run_pure, Result.andThen_ok, List.map_toArray, List.map_cons, List.map_nil, hs, hx, hrun]
  exact hK _ _ (h v' w' h2 h3 h4)

/-- append of one slice, which lies in a new block of one cell -/
theorem wpList_push_list {ops : Array Oper} {rest : List Oper} {o : Oper} {a : Act} {Q : Exit → Act → World → Prop} (hgd : o.guard = none) (s x : Operand) (t : TypeId)
    (ho : o.op = .call { callee := .builtin .append, args := #[s, x], argTypes := #[t, t] })
    (base : Nat) (e : TypeId) (i : TypeInfo) (ht : P.underlying t = some (.slice e)) (hi : P.info? e = some i) (hz : i.zero = some (.slice none 0 0)) (hsize : i.size = 1) (hby : i.bytes = 24)
    (v : Value) (L : List (List Int)) (hs : a.eval s = v) (hown : OwnL e w base v L)
    (A : Option Addr) (m c : Nat) (l : List Int) (E : TypeId) (hx : a.eval x = .slice (some ⟨w.heap.size, 0, none⟩) 1 1) (hr : IntsAt w A m c l) (hin : ∀ b off, 0 < m → A = some ⟨b, off, none⟩ → v.ownBlock ≠ some b)
    (hsm : L.length + 1 ≤ 1000000) (hbase : base ≤ w.heap.size)
    (h : ∀ v' w', OwnL e w' base v' (L ++ [l]) → (w.alloc (.cells #[.slice A m c] E)).grownBy w' v.ownBlock → (v'.ownBlock = v.ownBlock ∨ v'.ownBlock = some (w.heap.size + 1)) → wpList P ops Q rest (a.put o.dst v') w') :
    wpList P ops Q (o :: rest) a (w.alloc (.cells #[.slice A m c] E)) := by
  have hcell : (w.alloc (.cells #[.slice A m c] E)).cell? ⟨w.heap.size, 0 + 0, none⟩ = some (.slice A m c) := by rw [World.cell?_alloc_at _ _ _ _ (by rfl)]; rfl
  have hL : ListsAt (w.alloc (.cells #[.slice A m c] E)) (some ⟨w.heap.size, 0, none⟩) 1 1 [l] :=
    ⟨rfl, Nat.le_refl _, by omega, fun i hi => ⟨w.heap.size, 0, A, m, c, rfl, by simp, by
      obtain rfl : i = 0 := by omega
      exact hcell, by
      obtain rfl : i = 0 := by omega
      exact hr.below ((Below.refl w.heap.size w).alloc (Nat.le_refl _) _) (Nat.le_refl _)⟩⟩
  refine wpList_append_lists _ hgd s x t ho base e i ht hi hz hsize hby v L hs (hown.alloc _) _ 1 1 [l] hx hL ?_ hsm (le_alloc hbase) fun v' w' h1 h2 h3 => h v' w' h1 h2 (by simpa using h3)
  intro y j a' n' c' hy hj hc b off hn ha
  injection hy with hy
  subst hy
  obtain rfl : j = 0 := by omega
  have : (⟨w.heap.size, 0, none⟩ : Addr).add 0 = ⟨w.heap.size, 0 + 0, none⟩ := rfl
  rw [this, hcell] at hc
  injection hc with hc
  injection hc with q1 q2 q3
  subst q1; subst q2
  exact hin b off hn ha
end

theorem belowL_app {B : Nat} {w wr w1 : World} {o : Obj} {E : Nat} {v : Value} {L : List (List Int)} (h : Below B w wr) (hB : B ≤ wr.heap.size) (hown : OwnL E wr B v L) (hg : (wr.alloc o).grownBy w1 v.ownBlock) : Below B w w1 :=
  (h.alloc hB o).grown hg (by simp; omega) fun k hk => (hown.lt k hk).1
theorem belowL_app0 {B : Nat} {w wr w1 : World} {E : Nat} {v : Value} {L : List (List Int)} (h : Below B w wr) (hB : B ≤ wr.heap.size) (hown : OwnL E wr B v L) (hg : wr.grownBy w1 v.ownBlock) : Below B w w1 :=
  h.grown hg hB fun k hk => (hown.lt k hk).1

/-- v is new memory that holds the lists L -/
structure MadeL (E : TypeId) (w w' : World) (v : Value) (L : List (List Int)) : Prop where
  own : OwnL E w' w.heap.size v L
  bel : Below w.heap.size w w'
theorem MadeL.after {E : TypeId} {w w1 w2 : World} {v : Value} {L : List (List Int)} (hb : Below w.heap.size w w1) (h : MadeL E w1 w2 v L) : MadeL E w w2 v L := ⟨h.own.base hb.size, below_then hb h.bel⟩
theorem MadeL.none_ (E : TypeId) {w w' : World} (hb : Below w.heap.size w w') : MadeL E w w' (.slice none 0 0) [] := ⟨OwnL.nil _ _ _, hb⟩
theorem ListsAt.take {w : World} {a : Option Addr} {n c : Nat} {L : List (List Int)} (h : ListsAt w a n c L) {k : Nat} (hk : k ≤ n) : ListsAt w a k c (L.take k) :=
  ⟨by rw [List.length_take, h.len]; omega, Nat.le_trans hk h.le, h.small, fun i hi => by
    obtain ⟨b, off, a', n', c', ha, hb, hc, hr⟩ := h.cells i (by omega)
    refine ⟨b, off, a', n', c', ha, hb, hc, ?_⟩
    have : (L.take k).getD i [] = L.getD i [] := by simp [List.getD, hi]
    rw [this]; exact hr⟩
theorem ListsAt.drop {w : World} {b off : Nat} {n c : Nat} {L : List (List Int)} (h : ListsAt w (some ⟨b, off, none⟩) n c L) {k : Nat} (hk : k ≤ n) : ListsAt w (some ⟨b, off + k, none⟩) (n - k) (c - k) (L.drop k) :=
  ⟨by rw [List.length_drop, h.len], by have := h.le; omega, by have := h.small; omega, fun i hi => by
    obtain ⟨b', off', a', n', c', ha, hb, hc, hr⟩ := h.cells (k + i) (by omega)
    injection ha with ha; injection ha with e1 e2
    subst e1; subst e2
    refine ⟨b, off + k, a', n', c', rfl, hb, by rw [Nat.add_assoc]; exact hc, ?_⟩
    have : (L.drop k).getD i [] = L.getD (k + i) [] := by simp [List.getD]
    rw [this]; exact hr⟩
theorem ListsAt.inner {w w2 : World} {B : Nat} {a : Option Addr} {n c : Nat} {L : List (List Int)} (h : ListsAt w a n c L) (hb : Below B w w2) (hB : w.heap.size ≤ B) {v : Value} (hv : ∀ k, v.ownBlock = some k → w.heap.size ≤ k) :
    ∀ x i a' n' c', a = some x → i < n → w2.cell? (x.add i) = some (.slice a' n' c') → ∀ b off, 0 < n' → a' = some ⟨b, off, none⟩ → v.ownBlock ≠ some b := by
  intro x i a' n' c' hx hi hc b off hn ha e
  obtain ⟨b0, off0, a0, n0, c0, ha0, hb0, hc0, hr0⟩ := h.cells i hi
  rw [hx] at ha0
  injection ha0 with ha0
  subst ha0
  have e1 : (⟨b0, off0, none⟩ : Addr).add i = ⟨b0, off0 + i, none⟩ := by unfold Addr.add; split <;> simp_all
  rw [e1] at hc
  have e2 := (hb.cell (p := ⟨b0, off0 + i, none⟩) (Nat.lt_of_lt_of_le hb0 hB)).symm.trans hc
  rw [hc0] at e2
  injection e2 with e2
  injection e2 with q1 q2 q3
  subst q1; subst q2
  obtain ⟨b1, off1, ha1, hb1, _⟩ := hr0.cells 0 hn
  rw [ha] at ha1
  injection ha1 with ha1
  injection ha1 with s1 s2
  have := hv b e
  omega

end Go.Proofs.Kv
namespace Go.Proofs.Kv
open Go.RowKit
theorem MadeL.at_ {E : TypeId} {w w' : World} {v : Value} {L : List (List Int)} (h : MadeL E w w' v L) : ∃ a c, v = .slice a L.length c ∧ ListsAt w' a L.length c L := h.own.at_
theorem cell_below {w w' : World} {p : Addr} {v : Value} (h : w.cell? p = some v) (hb : Below w.heap.size w w') : w'.cell? p = some v := (hb.cell (World.block_lt_of_cell? w p h)).trans h
theorem PairsAt.one (w : World) (x y : Int) (E : TypeId) : PairsAt (w.alloc (.cells #[.int .i64 x, .int .i64 y] E)) (some ⟨w.heap.size, 0, none⟩) 1 1 [(x, y)] :=
  ⟨rfl, Nat.le_refl _, by omega, fun i hi => ⟨w.heap.size, 0, rfl, by simp, by
    obtain rfl : i = 0 := by omega
    rw [World.cell?_alloc_at _ _ _ _ (by rfl)]; rfl, by
    obtain rfl : i = 0 := by omega
    rw [World.cell?_alloc_at _ _ _ _ (by rfl)]; rfl⟩⟩
end Go.Proofs.Kv
namespace Go.Proofs.Ytoopgmoopmbfnaa
open Go.RowKit Go.Proofs.Kv Go.Proofs.Snd

theorem eqName (x x' y y' : Int) (W : World) : (Op.equalIn 10000 71 (.agg #[.int .i64 x, .int .i64 y]) (.agg #[.int .i64 x', .int .i64 y'])).run Try.prog W = .ok (x == x' && y == y') W := by
  have u3 := Try.underlying3
  have a3 : ∀ w, (isAgg 3).run Try.prog w = .ok false w := fun w => by kernel_rfl
  have z3 : ∀ w, (sizeOf 3).run Try.prog w = .ok 1 w := fun w => by kernel_rfl
  have hS : Try.prog.underlying 71 = some (.struct (Try.prog.fieldsOf 71)) := by kernel_rfl
  have hp : Try.prog.stoodInHeld 71 = false := by kernel_rfl
  rw [show (10000 : Nat) = 9999 + 1 from rfl, run_equalIn_agg W 9999 71 _ _ hS hp]
  simp only [Program.fieldsOf, Try.underlying71]
  go_simp
  by_cases h1 : x = x' <;> by_cases h2 : y = y' <;> simp [h1, h2]
theorem neqName (x x' y y' : Int) (W : World) : (binOp .neq 71 (.agg #[.int .i64 x, .int .i64 y]) (.agg #[.int .i64 x', .int .i64 y'])).run Try.prog W = .ok (.bool (!(x == x' && y == y'))) W := by
  rw [run_neq_struct, eqName]; rfl

/-! ### SameNames -/
def SameN (l m : List (Int × Int)) : Bool := decide (l = m)
theorem ext_getDP {l m : List (Int × Int)} {n : Nat} (h1 : l.length = n) (h2 : m.length = n) (h : ∀ j, j < n → l.getD j (0, 0) = m.getD j (0, 0)) : l = m := by
  refine List.ext_getElem (by omega) fun i h3 h4 => ?_
  have := h i (by omega)
  simpa [List.getD, List.getElem?_eq_getElem h3, List.getElem?_eq_getElem h4] using this

/-! ### names -/
theorem Try.infoName : (Try.prog.info? 71).map (fun i => (i.zero, i.size, i.bytes)) = some (some (.agg #[.int .i64 0, .int .i64 0]), 2, 16) := by kernel_rfl
def partFor (r s : Int) (j : Nat) : List (Int × Int) := ((List.range j).filter fun i : Nat => decide (0 ≤ r) && decide (r ≤ (i : Int))).map fun i : Nat => (s, (i : Int))
def namesFor (L : List (List Int)) (s : Int) : List (Int × Int) := partFor (rowTo L s) s L.length
def namesTo (L : List (List Int)) (k : Nat) : List (Int × Int) := (six.take k).flatMap (namesFor L)
def namesR (L : List (List Int)) : List (Int × Int) := six.flatMap (namesFor L)
theorem partFor_le (r s : Int) (j : Nat) : (partFor r s j).length ≤ j := by
  unfold partFor
  rw [List.length_map]
  exact Nat.le_trans (List.length_filter_le _ _) (by simp)
theorem namesTo_le (L : List (List Int)) (k : Nat) (hk : k ≤ 6) : (namesTo L k).length ≤ k * L.length := by
  induction k with
  | zero => simp [namesTo]
  | succ k ih =>
    have := ih (by omega)
    rw [namesTo, six_take (by omega), List.flatMap_append, List.length_append, Nat.succ_mul]
    have h2 := partFor_le (rowTo L k) k L.length
    simp only [List.flatMap_cons, List.flatMap_nil, List.append_nil]
    unfold namesTo at this
    unfold namesFor at *
    omega
theorem partFor_start {r s : Int} {j : Nat} (h : (j : Int) ≤ r) : partFor r s j = [] := by
  unfold partFor
  rw [List.map_eq_nil_iff, List.filter_eq_nil_iff]
  intro i hi
  simp at hi ⊢
  omega
theorem partFor_no {r s : Int} {j : Nat} (h : r < 0) : partFor r s j = [] := by
  unfold partFor
  rw [List.map_eq_nil_iff, List.filter_eq_nil_iff]
  intro i hi
  simp
  omega
theorem partFor_snoc {r s : Int} {j : Nat} (h0 : 0 ≤ r) (h : r ≤ (j : Int)) : partFor r s (j + 1) = partFor r s j ++ [(s, (j : Int))] := by
  unfold partFor
  rw [List.range_succ, List.filter_append, List.map_append]
  simp [h0, h]
theorem namesTo_snoc (L : List (List Int)) {k : Nat} (hk : k < 6) : namesTo L (k + 1) = namesTo L k ++ namesFor L k := by
  rw [namesTo, six_take hk, List.flatMap_append]; simp [namesTo]
theorem rowTo_lt (L : List (List Int)) (x : Int) : rowTo L x < L.length ∧ -1 ≤ rowTo L x := by
  unfold rowTo; split <;> omega

set_option maxRecDepth 100000 in
theorem names_calls (a : Option Addr) (n c : Nat) (L : List (List Int)) (w : World) (h : ListsAt w a n c L) (hs : n ≤ 100) :
    Calls Try.prog 109 #[.slice a n c] w fun e w' => ∃ v, e = .returned v ∧ MadeP 71 w w' v (namesR L) := by
  obtain ⟨i0, hi0, hz0, hz1, hz2⟩ := info_parts Try.infoName
  have Hlen : Hid (L.length = n) := hid_ h.len
  go_enter Try.func109, Try.ntmps109
  go_wp2
  go_loopw [3, 4] (fun v i wr => ∃ k : Nat, k ≤ 6 ∧ i = .int .i64 k ∧ wr.ownsRow w.heap.size 71 2 v (namesTo L k).length ((namesTo L k).flatMap encN) ∧ Below w.heap.size w wr) (fun _ i _ => 6 - (intOf i).toNat)
  case atStart => exact ⟨0, by omega, rfl, World.ownsRow_nil _ _ _ _, Below.refl _ _⟩
  case round =>
    obtain ⟨k, hk, rfl, hown, hbel⟩ := hrel
    have hsz := hbel.size
    by_cases hlt : k < 6
    · have hI := h.below hbel (Nat.le_refl _)
      have hle := namesTo_le L k hk
      rw [h.len] at hle
      have Hnext := hid_ (namesTo_snoc L hlt)
      have Hle : Hid ((namesTo L k).length ≤ 600) := hid_ (by
        have : k * n ≤ 6 * 100 := Nat.mul_le_mul hk hs
        omega)
      clear hle
      generalize namesTo L k = cur at hown Hnext Hle
      have hrow := row_calls a n c L (k : Int) wr hI
      have hrl := rowTo_lt L k
      rw [h.len] at hrl
      have Hfor : Hid (namesFor L k = partFor (rowTo L k) k n) := hid_ (by rw [namesFor, h.len])
      generalize rowTo L k = r at hrow hrl Hfor
      obtain ⟨hr1, hr2⟩ := hrl
      have Hrow := hid_ hrow; clear hrow
      by_cases hr : 0 ≤ r
      · obtain ⟨r', rfl⟩ := Int.eq_ofNat_of_zero_le hr
        go_wp2_with (go_at_call 134; refine Hrow.out.mono ?_; rintro e w' ⟨rfl, rfl⟩)
        obtain ⟨wo, rfl⟩ : ∃ wo : World, wo = wr := ⟨_, rfl⟩
        go_loopw [3, 6] (fun v i wr => ∃ j : Nat, r' ≤ j ∧ j ≤ n ∧ i = .int .i64 j ∧ wr.ownsRow w.heap.size 71 2 v (cur ++ partFor r' k j).length ((cur ++ partFor r' k j).flatMap encN) ∧ Below w.heap.size w wr) (fun _ i _ => n - (intOf i).toNat)
        case atStart => exact ⟨r', by omega, by omega, rfl, by rw [partFor_start (by omega), List.append_nil]; exact hown, hbel⟩
        case round =>
          obtain ⟨j, hj0, hj, rfl, hown2, hbel2⟩ := hrel
          have hsz2 := hbel2.size
          by_cases hlt2 : j < n
          · have Hs := hid_ (partFor_snoc (r := (r' : Int)) (s := (k : Int)) (j := j) (by omega) (by omega))
            have hs1 : (cur ++ partFor r' k j).length + 1 ≤ 1000000 := by
              have h1 := partFor_le r' k j
              have h2 := Hle.out
              rw [List.length_append]; omega
            go_wp2_with (at_builtin; refine wpList_append_pair _ rfl (.tmp 23) (.tmp 27) _ rfl w.heap.size 71 i0 Try.underlying66 hi0 hz0 hz1 hz2 _ _ _ rfl hown2 _ _ _ rfl hs1 hsz2 ?_; intro v' w1 hown1 hg1)
            go_roundw
            case rel => exact ⟨j + 1, by omega, by omega, by go_num, by rw [Hs.out, ← List.append_assoc, List.length_append]; exact hown1, below_app hbel2 hsz2 hown2 hg1⟩
            case measure => simp [intOf]; omega
          · obtain rfl : j = n := by omega
            go_wp2
            go_roundw
            case rel => exact ⟨k + 1, by omega, by go_num, by rw [Hnext.out, Hfor.out]; exact hown2, hbel2⟩
            case measure => simp [intOf]; omega
      · go_wp2_with (go_at_call 134; refine Hrow.out.mono ?_; rintro e w' ⟨rfl, rfl⟩)
        go_roundw
        case rel => exact ⟨k + 1, by omega, by go_num, by rw [Hnext.out, Hfor.out, partFor_no (by omega), List.append_nil]; exact hown, hbel⟩
        case measure => simp [intOf]; omega
    · obtain rfl : k = 6 := by omega
      go_wp2
      go_ret
      exact ⟨_, rfl, hown, hbel⟩
end Go.Proofs.Ytoopgmoopmbfnaa
namespace Go.Proofs.Ytoopgmoopmbfnaa
open Go.RowKit Go.Proofs.Kv Go.Proofs.Snd

/-! ### stand -/
/-- what is left of a list from the first x on -/
def from_ (x : Int) (p : List Int) : List Int := p.dropWhile fun y => y != x
theorem from_in {x : Int} {p : List Int} (h : Has p x = true) (y : Int) : from_ x (p ++ [y]) = from_ x p ++ [y] := by
  have hm := Has_iff.1 h
  clear h
  induction p with
  | nil => simp at hm
  | cons z p ih =>
    unfold from_ at *
    rw [List.cons_append, List.dropWhile_cons, List.dropWhile_cons]
    by_cases hz : z = x
    · simp [hz]
    · have : x ∈ p := by rcases List.mem_cons.1 hm with e | h; exact absurd e.symm hz; exact h
      simp only [bne_iff_ne, ne_eq, hz, not_false_eq_true, if_true]
      exact ih this
theorem dw_all {q : Int → Bool} : ∀ (p : List Int), (∀ y ∈ p, q y = true) → p.dropWhile q = []
  | [], _ => rfl
  | y :: p, h => by rw [List.dropWhile_cons, if_pos (h y (by simp))]; exact dw_all p fun z hz => h z (by simp [hz])
theorem from_out {x : Int} {p : List Int} (h : Has p x = false) : from_ x p = [] := by
  refine dw_all p fun y hy => ?_
  rw [bne_iff_ne]
  rintro rfl
  rw [Has_iff.2 hy] at h; cases h
theorem Has_snoc (p : List Int) (x y : Int) : Has (p ++ [y]) x = (Has p x || (y == x)) := by
  rw [Bool.eq_iff_iff, Has_iff, Bool.or_eq_true, Has_iff, List.mem_append, List.mem_singleton, beq_iff_eq]
  exact or_congr Iff.rfl eq_comm
theorem from_yes {x y : Int} {p : List Int} (h : (Has p x || (y == x)) = true) : from_ x (p ++ [y]) = from_ x p ++ [y] := by
  cases hh : Has p x with
  | true => exact from_in hh y
  | false =>
    rw [hh, Bool.false_or, beq_iff_eq] at h
    subst h
    rw [from_out hh]
    unfold from_
    rw [List.dropWhile_append_of_pos]
    · simp
    · intro z hz
      rw [bne_iff_ne]
      rintro rfl
      rw [Has_iff.2 hz] at hh; cases hh
theorem from_no {x y : Int} {p : List Int} (h : (Has p x || (y == x)) = false) : from_ x (p ++ [y]) = from_ x p := by
  rw [from_out (p := p ++ [y]) (by rw [Has_snoc]; exact h), from_out]
  rw [Bool.or_eq_false_iff] at h; exact h.1
theorem from_le (x : Int) (p : List Int) : (from_ x p).length ≤ p.length := (List.dropWhile_sublist _).length_le

def standL (L : List (List Int)) (x y : Int) : List Int := sorted (from_ x (L.take (y.toNat + 1)).flatten)
/-- what has been seen before place j of row k -/
def seen (L : List (List Int)) (k j : Nat) : List Int := (L.take k).flatten ++ (L.getD k []).take j
theorem seen_snoc {L : List (List Int)} {k j : Nat} (h : j < (L.getD k []).length) : seen L k (j + 1) = seen L k j ++ [(L.getD k []).getD j 0] := by
  rw [seen, Kv.take_snoc _ 0 j h, ← List.append_assoc]; rfl
theorem seen_zero (L : List (List Int)) (k : Nat) : seen L k 0 = (L.take k).flatten := by simp [seen]
theorem seen_row {L : List (List Int)} {k n : Nat} (hk : k < L.length) (h : (L.getD k []).length = n) : seen L k n = seen L (k + 1) 0 := by
  rw [seen_zero, flat_snoc L k hk, seen, List.take_of_length_le (l := L.getD k []) (by omega)]
theorem seen_le {L : List (List Int)} {k j : Nat} (hk : k < L.length) : (seen L k j).length ≤ L.flatten.length := by
  have := flat_take_le L (k + 1)
  rw [flat_snoc L k hk, List.length_append] at this
  rw [seen, List.length_append, List.length_take]
  omega

set_option maxRecDepth 100000 in
set_option maxHeartbeats 400000 in
theorem stand_calls (a : Option Addr) (n c : Nat) (L : List (List Int)) (x y : Int) (w : World) (h : ListsAt w a n c L) (hs : L.flatten.length ≤ 100000) (hy0 : 0 ≤ y) (hyn : y < n) :
    Calls Try.prog 110 #[.slice a n c, .agg #[.int .i64 x, .int .i64 y]] w fun e w' => ∃ v, e = .returned v ∧ Made 3 w w' v (standL L x y) := by
  obtain ⟨i0, hi0, hz0, hz1, hz2⟩ := info_parts Try.infoInt
  have hn : n ≤ 9223372036854775807 := Nat.le_trans h.le h.small
  obtain ⟨r, rfl⟩ := Int.eq_ofNat_of_zero_le hy0
  have hrn : r < n := by omega
  have Hres : Hid (standL L x r = sorted (from_ x (seen L (r + 1) 0))) := hid_ (by rw [seen_zero, standL, Int.toNat_natCast])
  clear hy0 hyn
  go_enter Try.func110, Try.ntmps110
  go_wp2
  go_loopw [5, 6, 7] (fun v g i wr => ∃ k : Nat, k ≤ r + 1 ∧ i = .int .i64 k ∧ g = .bool (Has (seen L k 0) x) ∧ wr.ownsRow (w.heap.size + 1) 3 1 v (from_ x (seen L k 0)).length ((from_ x (seen L k 0)).map (Value.int .i64)) ∧
      wr.cell? ⟨w.heap.size, 0, none⟩ = some (.int .i64 x) ∧ wr.cell? ⟨w.heap.size, 1, none⟩ = some (.int .i64 r) ∧ Below (w.heap.size + 1) (w.alloc (.cells #[.int .i64 x, .int .i64 r] 71)) wr) (fun _ _ i _ => r + 1 - (intOf i).toNat)
  case atStart =>
    refine ⟨0, by omega, rfl, rfl, World.ownsRow_nil _ _ _ _, ?_, ?_, Below.refl _ _⟩
    · rw [World.cell?_alloc_at _ _ _ _ (by rfl)]; rfl
    · rw [World.cell?_alloc_at _ _ _ _ (by rfl)]; rfl
  case round =>
    obtain ⟨k, hk, rfl, rfl, hown, hbx, hby, hbel⟩ := hrel
    have hsz := hbel.size
    simp only [size_alloc_one] at hsz
    have hbel0 : Below w.heap.size w wr := ((Below.refl _ w).alloc (Nat.le_refl _) _).trans (hbel.mono (by omega))
    by_cases hlt : k ≤ r
    · have hI := h.below hbel0 (Nat.le_refl _)
      obtain ⟨b, off, a1, n1, c1, rfl, hb, hcell, hrow⟩ := hI.cells k (by omega)
      have hl : k < L.length := by rw [h.len]; omega
      have Hl := hid_ hl; clear hl
      have hn1 : n1 ≤ 9223372036854775807 := Nat.le_trans hrow.le hrow.small
      have hbb : b < w.heap.size := by
        obtain ⟨b', off', _, _, _, e, hb', _⟩ := h.cells k (by omega)
        injection e with e; injection e with e1 e2; subst e1; exact hb'
      clear hbel0
      go_wp2
      obtain ⟨wo, rfl⟩ : ∃ wo : World, wo = wr := ⟨_, rfl⟩
      go_loopw [5, 6, 8] (fun v g i wr => ∃ j : Nat, j ≤ n1 ∧ i = .int .i64 j ∧ g = .bool (Has (seen L k j) x) ∧ wr.ownsRow (w.heap.size + 1) 3 1 v (from_ x (seen L k j)).length ((from_ x (seen L k j)).map (Value.int .i64)) ∧
        wr.cell? ⟨w.heap.size, 0, none⟩ = some (.int .i64 x) ∧ wr.cell? ⟨w.heap.size, 1, none⟩ = some (.int .i64 r) ∧ Below (w.heap.size + 1) (w.alloc (.cells #[.int .i64 x, .int .i64 r] 71)) wr) (fun _ _ i _ => n1 - (intOf i).toNat)
      case atStart => exact ⟨0, by omega, rfl, rfl, hown, hbx, hby, hbel⟩
      case round =>
        obtain ⟨j, hj, rfl, rfl, hown2, hbx2, hby2, hbel2⟩ := hrel
        have hsz2 := hbel2.size
        simp only [size_alloc_one] at hsz2
        have hbel3 : Below w.heap.size w wr := ((Below.refl _ w).alloc (Nat.le_refl _) _).trans (hbel2.mono (by omega))
        have hI2 := h.below hbel3 (Nat.le_refl _)
        clear hbel3
        obtain ⟨b', off', a2, n2, c2, e1, hb', hcell2, hrow2⟩ := hI2.cells k (by omega)
        injection e1 with e1; injection e1 with e1 e2
        subst e1; subst e2
        have Hsame : Hid (a2 = a1 ∧ n2 = n1 ∧ c2 = c1) := hid_ (by
          obtain ⟨b'', off'', a3, n3, c3, e3, hb3, hcell3, hrow3⟩ := h.cells k (by omega)
          injection e3 with e3; injection e3 with e3 e4
          subst e3; subst e4
          have f1 := (hbel.cell (p := ⟨b, off + k, none⟩) (by show b < _; omega)).symm.trans hcell
          have f2 := (hbel2.cell (p := ⟨b, off + k, none⟩) (by show b < _; omega)).symm.trans hcell2
          rw [f1] at f2
          injection f2 with f2; injection f2 with g1 g2 g3
          exact ⟨g1.symm, g2.symm, g3.symm⟩)
        obtain ⟨rfl, rfl, rfl⟩ := Hsame.out
        clear Hsame
        by_cases hlt2 : j < n2
        · obtain ⟨b3, off3, rfl, hb3, hcell3⟩ := hrow2.cells j hlt2
          have Hsn : Hid (seen L k (j + 1) = seen L k j ++ [(L.getD k []).getD j 0]) := hid_ (seen_snoc (by rw [hrow2.len]; exact hlt2))
          generalize hz : (L.getD k []).getD j 0 = z at hcell3 Hsn
          clear hz
          have Hle : Hid ((from_ x (seen L k j)).length + 1 ≤ 1000000) := hid_ (by
            have h1 := from_le x (seen L k j)
            have h2 := seen_le (j := j) Hl.out
            omega)
          generalize hpp : seen L k j = p at hown2 Hsn Hle
          have Hpp := hid_ hpp; clear hpp
          cases hp : Has p x with
          | true =>
            have Hyes := hid_ (from_yes (x := x) (y := z) (p := p) (by rw [hp]; rfl))
            have Hh : Hid (Has (p ++ [z]) x = true) := hid_ (by rw [Has_snoc, hp]; rfl)
            clear hp
            go_wp2
            go_quiet (fail)
            go_wp2_with (at_builtin; refine wpList_append_ints _ rfl (.tmp 38) (.tmp 46) _ rfl (w.heap.size + 1) 3 i0 Try.underlying23 hi0 hz0 hz1 hz2 _ _ _ rfl ((own_drewN hown2 _).alloc _) _ _ _ _ rfl (IntsAt.one _ _ _) Hle.out (le_alloc (w := wr.drewN _) hsz2) ?_; intro v' w1 hown1 hg1 hat1)
            go_roundw
            case rel => exact ⟨j + 1, by omega, by go_num, by rw [Hsn.out, Hh.out], by rw [Hsn.out, Hyes.out, List.length_append]; exact hown1, cell_app (own_drewN hown2 _) hg1 hbx2 (by show w.heap.size < _; omega), cell_app (own_drewN hown2 _) hg1 hby2 (by show w.heap.size < _; omega), below_app (below_drewN hbel2 _) hsz2 (own_drewN hown2 _) hg1⟩
            case measure => simp [intOf]; omega
          | false =>
            cases hzx : (z == x) with
            | true =>
              have Hyes := hid_ (from_yes (x := x) (y := z) (p := p) (by rw [hp]; exact hzx))
              have Hh : Hid (Has (p ++ [z]) x = true) := hid_ (by rw [Has_snoc, hp]; exact hzx)
              clear hp
              go_wp2
              go_quiet (fail)
              go_wp2_with (at_builtin; refine wpList_append_ints _ rfl (.tmp 38) (.tmp 46) _ rfl (w.heap.size + 1) 3 i0 Try.underlying23 hi0 hz0 hz1 hz2 _ _ _ rfl ((own_drewN hown2 _).alloc _) _ _ _ _ rfl (IntsAt.one _ _ _) Hle.out (le_alloc (w := wr.drewN _) hsz2) ?_; intro v' w1 hown1 hg1 hat1)
              go_roundw
              case rel => exact ⟨j + 1, by omega, by go_num, by rw [Hsn.out, Hh.out], by rw [Hsn.out, Hyes.out, List.length_append]; exact hown1, cell_app (own_drewN hown2 _) hg1 hbx2 (by show w.heap.size < _; omega), cell_app (own_drewN hown2 _) hg1 hby2 (by show w.heap.size < _; omega), below_app (below_drewN hbel2 _) hsz2 (own_drewN hown2 _) hg1⟩
              case measure => simp [intOf]; omega
            | false =>
              have Hno := hid_ (from_no (x := x) (y := z) (p := p) (by rw [hp]; exact hzx))
              have Hh : Hid (Has (p ++ [z]) x = false) := hid_ (by rw [Has_snoc, hp]; exact hzx)
              clear hp
              go_wp2
              go_quiet (fail)
              go_wp2
              go_roundw
              case rel => exact ⟨j + 1, by omega, by go_num, by rw [Hsn.out, Hh.out], by rw [Hsn.out, Hno.out]; exact own_drewN hown2 _, hbx2, hby2, below_drewN hbel2 _⟩
              case measure => simp [intOf]; omega
        · obtain rfl : j = n2 := by omega
          have Hse := hid_ (seen_row Hl.out hrow2.len)
          rw [Hse.out] at hown2
          go_wp2
          go_roundw
          case rel => exact ⟨k + 1, by omega, by go_num, by rw [Hse.out], hown2, hbx2, hby2, hbel2⟩
          case measure => simp [intOf]; omega
    · obtain rfl : k = r + 1 := by omega
      obtain ⟨a4, c4, rfl, hI4⟩ := IntsAt.own hown
      generalize hpp : from_ x (seen L (r + 1) 0) = p at hI4
      have Hpp := hid_ hpp; clear hpp
      generalize hm : (from_ x (seen L (r + 1) 0)).length = m at hI4
      clear hm hown
      go_wp2_with (go_at_call 75; refine (sorted_calls _ _ _ _ _ hI4).mono ?_; rintro e w' ⟨v', rfl, hmade⟩)
      go_ret
      exact ⟨_, rfl, by rw [Hres.out, Hpp.out]; exact hmade.after hbel0⟩
end Go.Proofs.Ytoopgmoopmbfnaa
namespace Go.Proofs.Ytoopgmoopmbfnaa
open Go.RowKit Go.Proofs.Kv Go.Proofs.Snd

theorem validT_ok {L : List (List Int)} (h : validT L = 0) : (1 ≤ L.length ∧ L.length ≤ 6) ∧ L.all okRow = true ∧ L.flatten.Nodup := by
  unfold validT at h
  by_cases h1 : L.length = 0 ∨ 6 < L.length
  · rw [if_pos h1] at h; cases h
  · rw [if_neg h1] at h
    cases h2 : L.all okRow with
    | false => rw [h2] at h; simp at h
    | true =>
      rw [h2] at h
      cases h3 : dup L.flatten with
      | true => rw [h3] at h; simp at h
      | false => exact ⟨by omega, rfl, (dup_iff _).1 h3⟩

/-! ### Stand -/
def standErr (L : List (List Int)) (x y : Int) : Int := if validT L = 0 then (if rowTo L x < 0 then 4 else if Within y (rowTo L x) ((L.length : Int) - 1) then 0 else 4) else validT L
def standRes (L : List (List Int)) (x y : Int) : List Int := if standErr L x y = 0 then standL L x y else []
/-! ### Names -/
def namesRes (L : List (List Int)) : List (Int × Int) := if validT L = 0 then namesR L else []
/-! ### Sorted, IsOrder -/
theorem refSorted_calls (a : Option Addr) (n c : Nat) (l : List Int) (w : World) (h : IntsAt w a n c l) :
    Calls Try.prog 32 #[.slice a n c] w fun e w' => ∃ v, e = .returned v ∧ Made 3 w w' v (sorted l) := by
  go_enter Try.func32, Try.ntmps32
  go_wp2_with (go_at_call 75; refine (sorted_calls _ _ _ _ _ h).mono ?_; rintro e w2 ⟨v, rfl, hm⟩)
  go_ret
  exact ⟨v, rfl, hm⟩
theorem refIsOrder_calls (a : Option Addr) (n c : Nat) (l : List Int) (w : World) (h : IntsAt w a n c l) :
    Calls Try.prog 30 #[.slice a n c] w fun e w' => e = .returned (.bool (IsOrd l 6)) ∧ w = w' := by
  go_enter Try.func30, Try.ntmps30
  go_wp2_with (go_at_call 66; refine (isOrder_calls _ _ _ _ _ _ h).mono ?_; rintro e w' ⟨rfl, rfl⟩)
  go_ret
  exact ⟨rfl, rfl⟩
end Go.Proofs.Ytoopgmoopmbfnaa
namespace Go.Proofs.Ytoopgmoopmbfnaa
open Go.RowKit Go.Proofs.Kv Go.Proofs.Snd

/-! ### Before -/
def beforeL : List Int → List Int → Bool
  | [], [] => false
  | [], _ :: _ => true
  | _ :: _, [] => false
  | x :: l, y :: m => if x = y then beforeL l m else decide (x < y)
theorem before_at {k : Nat} : ∀ {l m : List Int}, k < l.length → k < m.length → (∀ j, j < k → l.getD j 0 = m.getD j 0) → l.getD k 0 ≠ m.getD k 0 → beforeL l m = decide (l.getD k 0 < m.getD k 0) := by
  induction k with
  | zero =>
    intro l m h1 h2 _ hne
    match l, m, h1, h2 with
    | x :: l, y :: m, _, _ => simp [List.getD] at hne ⊢; simp [beforeL, hne]
  | succ k ih =>
    intro l m h1 h2 h hne
    match l, m, h1, h2 with
    | x :: l, y :: m, h1, h2 =>
      have h0 := h 0 (by omega)
      simp [List.getD] at h0
      subst h0
      have := ih (l := l) (m := m) (by simpa using h1) (by simpa using h2) (fun j hj => by simpa [List.getD] using h (j + 1) (by omega)) (by simpa [List.getD] using hne)
      rw [beforeL, if_pos rfl, this]
      rfl
theorem before_end : ∀ {l m : List Int}, (∀ j, j < l.length → j < m.length → l.getD j 0 = m.getD j 0) → beforeL l m = decide (l.length < m.length)
  | [], [], _ => rfl
  | [], _ :: _, _ => by simp [beforeL]
  | _ :: _, [], _ => by simp [beforeL]
  | x :: l, y :: m, h => by
    have h0 := h 0 (by simp) (by simp)
    simp [List.getD] at h0
    subst h0
    rw [beforeL, if_pos rfl, before_end (l := l) (m := m) fun j h1 h2 => by simpa [List.getD] using h (j + 1) (by simpa using h1) (by simpa using h2)]
    simp

set_option maxRecDepth 100000 in
theorem before_calls (a : Option Addr) (n c : Nat) (l : List Int) (a' : Option Addr) (n' c' : Nat) (l' : List Int) (w : World) (h : IntsAt w a n c l) (h' : IntsAt w a' n' c' l') :
    Calls Try.prog 74 #[.slice a n c, .slice a' n' c'] w fun e w' => e = .returned (.bool (beforeL l l')) ∧ ∃ q, w' = w.drewN q := by
  have hn : n ≤ 9223372036854775807 := Nat.le_trans h.le h.small
  go_enter Try.func74, Try.ntmps74
  go_wp2
  go_loopw [5] (fun i wr => ∃ k q : Nat, k ≤ n ∧ k ≤ n' ∧ i = .int .i64 k ∧ wr = w.drewN q ∧ ∀ j, j < k → l.getD j 0 = l'.getD j 0) (fun i _ => n - (intOf i).toNat)
  case atStart => exact ⟨0, 0, Nat.zero_le _, Nat.zero_le _, rfl, rfl, fun _ h => absurd h (by omega)⟩
  case round =>
    obtain ⟨k, q, hk, hk', rfl, hq, hall⟩ := hrel
    have hI : IntsAt wr a n c l := by rw [hq]; exact h.drewN q
    have hI' : IntsAt wr a' n' c' l' := by rw [hq]; exact h'.drewN q
    have Hq := hid_ hq; clear hq
    have Hall := hid_ hall; clear hall
    by_cases hlt : k < n
    · by_cases hlt' : k < n'
      · obtain ⟨b, off, rfl, hb, hcell⟩ := hI.cells k hlt
        obtain ⟨b', off', rfl, hb', hcell'⟩ := hI'.cells k hlt'
        have Hat := hid_ (before_at (l := l) (m := l') (k := k) (by rw [hI.len]; exact hlt) (by rw [hI'.len]; exact hlt') Hall.out)
        generalize hy : l.getD k 0 = y at hcell Hat
        have Hy := hid_ hy; clear hy
        generalize hy' : l'.getD k 0 = y' at hcell' Hat
        have Hy' := hid_ hy'; clear hy'
        by_cases he : y = y'
        · have hb1 : (y != y') = false := by simpa using he
          have He := hid_ he; clear he
          go_wp2
          go_quiet (fail)
          go_wp2
          go_roundw
          case rel => exact ⟨k + 1, _, by omega, by omega, by go_num, by rw [Hq.out, drewN2], lt_snoc Hall.out (by rw [Hy.out, Hy'.out]; exact He.out)⟩
          case measure => simp [intOf]; omega
        · have hb1 : (y != y') = true := by simpa using he
          have Hf := hid_ (Hat.out he)
          have He := hid_ he; clear he
          go_wp2
          go_quiet (fail)
          go_wp2
          go_quiet (fail)
          go_wp2
          go_ret
          exact ⟨retB Hf.out, _, by rw [Hq.out]; simp; rfl⟩
      · have Hf : Hid (beforeL l l' = decide (n < n')) := hid_ (by rw [before_end fun j h1 h2 => Hall.out j (by rw [hI'.len] at h2; omega), hI.len, hI'.len])
        go_wp2
        go_ret
        exact ⟨retB Hf.out, _, Hq.out⟩
    · have Hf : Hid (beforeL l l' = decide (n < n')) := hid_ (by rw [before_end fun j h1 h2 => Hall.out j (by rw [hI.len] at h1; omega), hI.len, hI'.len])
      go_wp2
      go_ret
      exact ⟨retB Hf.out, _, Hq.out⟩
end Go.Proofs.Ytoopgmoopmbfnaa
namespace Go.Proofs.Ytoopgmoopmbfnaa
open Go.RowKit Go.Proofs.Kv Go.Proofs.Snd

theorem Try.infoInts : (Try.prog.info? 23).map (fun i => (i.zero, i.size, i.bytes)) = some (some (.slice none 0 0), 1, 24) := by kernel_rfl

/-! ### Insert -/
def insAt (L : List (List Int)) (x : List Int) : Nat := (L.takeWhile fun y => beforeL y x).length
def insertL (L : List (List Int)) (x : List Int) : List (List Int) := if insAt L x < L.length ∧ L.getD (insAt L x) [] = x then L else (L.take (insAt L x) ++ [x]) ++ L.drop (insAt L x)
theorem insertL_le (L : List (List Int)) (x : List Int) : (insertL L x).length ≤ L.length + 1 := by
  unfold insertL
  split
  · omega
  · simp only [List.length_append, List.length_take, List.length_drop, List.length_singleton]; omega
theorem insAt_eq {L : List (List Int)} {x : List Int} {k : Nat} (hk : k ≤ L.length) (h : ∀ j, j < k → beforeL (L.getD j []) x = true) (hs : k < L.length → beforeL (L.getD k []) x = false) : insAt L x = k := by
  unfold insAt
  induction L generalizing k with
  | nil => simp at hk; simp [hk]
  | cons y L ih =>
    cases k with
    | zero =>
      have := hs (by simp)
      simp [List.getD] at this
      rw [List.takeWhile_cons, this]; rfl
    | succ k =>
      have h0 := h 0 (by omega)
      simp [List.getD] at h0
      rw [List.takeWhile_cons, h0]
      simp only [if_true, List.length_cons, Nat.add_right_cancel_iff]
      exact ih (by simpa using hk) (fun j hj => by simpa [List.getD] using h (j + 1) (by omega)) (fun hlt => by simpa [List.getD] using hs (by simpa using hlt))

set_option maxRecDepth 100000 in
set_option maxHeartbeats 400000 in
theorem insert_calls (v : Value) (L : List (List Int)) (a' : Option Addr) (n' c' : Nat) (x : List Int) (w : World) (h : OwnL 23 w 0 v L) (h' : IntsAt w a' n' c' x) (hs : L.length ≤ 10000) :
    Calls Try.prog 31 #[v, .slice a' n' c'] w fun e w' => ∃ v', e = .returned v' ∧ OwnL 23 w' 0 v' (insertL L x) ∧ Below w.heap.size w w' := by
  obtain ⟨i0, hi0, hz0, hz1, hz2⟩ := info_parts Try.infoInts
  have hx' : ∀ v : Value, (∀ k, v.ownBlock = some k → w.heap.size ≤ k) → ∀ b off, 0 < n' → a' = some ⟨b, off, none⟩ → v.ownBlock ≠ some b := by
    intro v hv b off hn ha e
    obtain ⟨b1, off1, ha1, hb1, _⟩ := h'.cells 0 hn
    rw [ha] at ha1
    injection ha1 with ha1
    injection ha1 with s1 s2
    have := hv b e
    omega
  have Hx' := hid_ hx'; clear hx'
  obtain ⟨vs, hown, hvs⟩ := h.has
  rcases hown.2 with ⟨rfl, h0⟩ | ⟨g, cap, cur, rfl, _, hg, hnc, hm, _⟩
  · have hL : L = [] := List.eq_nil_of_length_eq_zero h0
    subst hL
    have Hres : Hid (insertL [] x = [x]) := hid_ rfl
    clear hown hvs h0
    go_enter Try.func31, Try.ntmps31
    go_wp2
    go_loop [5] (fun i => i = .int .i64 0) (fun _ => 0)
    case atStart => rfl
    case round =>
      subst hrel
      go_wp2_with (first
        | (at_builtin; refine wpList_append_lists _ rfl (.tmp 43) (.tmp 46) _ rfl w.heap.size 23 i0 Try.underlying22 hi0 hz0 hz1 hz2 v1 ([] ++ [x]) rfl hown1 none 0 0 [] rfl (ListsAt.nil _ _ _ (by omega)) (by intro y; simp) (by simp) (hb1.size) ?_; intro v2 w2 hown2 hg2 hat2)
        | (at_builtin; refine wpList_push_list _ rfl (.tmp 39) (.tmp 41) _ rfl w.heap.size 23 i0 Try.underlying22 hi0 hz0 hz1 hz2 (.slice none 0 0) [] rfl (OwnL.nil _ _ _) _ _ _ x _ rfl h' (by simp [Value.ownBlock]) (by simp) (Nat.le_refl _) ?_; intro v1 w1 hown1 hg1 hat1; have hb1 : Below w.heap.size w w1 := belowL_app (Below.refl _ _) (Nat.le_refl _) (OwnL.nil 23 _ _) hg1))
      go_ret
      exact ⟨v2, rfl, by rw [Hres.out]; exact hown2.base (Nat.zero_le _), belowL_app0 hb1 hb1.size hown1 hg2⟩
  · have hA : ListsAt w (some ⟨g, 0, none⟩) L.length cap L := by
      obtain ⟨a1, c1, e, hA⟩ := h.at_
      injection e with e1 e2 e3
      subst e1; subst e3; exact hA
    have hn : L.length ≤ 9223372036854775807 := Nat.le_trans hA.le hA.small
    clear hown hvs
    generalize hLn : L.length = n at hA hs hnc h hn
    have HLn := hid_ hLn; clear hLn
    go_enter Try.func31, Try.ntmps31
    go_wp2
    go_loopw [5] (fun i wr => ∃ k q : Nat, k ≤ n ∧ i = .int .i64 k ∧ wr = w.drewN q ∧ ∀ j, j < k → beforeL (L.getD j []) x = true) (fun i _ => n - (intOf i).toNat)
    case atStart => exact ⟨0, 0, Nat.zero_le _, rfl, rfl, fun _ h => absurd h (by omega)⟩
    case round =>
      obtain ⟨k, q, hk, rfl, hq, hall⟩ := hrel
      have Hq := hid_ hq; clear hq
      have hI : ListsAt wr (some ⟨g, 0, none⟩) n cap L := by rw [Hq.out]; exact hA.drewN q
      have hI' : IntsAt wr a' n' c' x := by rw [Hq.out]; exact h'.drewN q
      have Hall := hid_ hall; clear hall
      have Hbw : Hid (Below w.heap.size w wr) := hid_ (by rw [Hq.out]; exact below_drewN (Below.refl _ _) q)
      have hO : OwnL 23 wr 0 (.slice (some ⟨g, 0, none⟩) n cap) L := by rw [Hq.out]; exact h.drewN q
      have HO := hid_ hO; clear hO
      have hszw : wr.heap.size = w.heap.size := by rw [Hq.out]; rfl
      have Hsz := hid_ hszw; clear hszw
      -- what is done once the place is found
      by_cases hlt : k < n
      · obtain ⟨b, off, a1, n1, c1, e, hb, hcell, hrow⟩ := hI.cells k hlt
        injection e with e; injection e with e1 e2
        subst e1; subst e2
        simp only [Nat.zero_add] at hcell
        generalize hy : L.getD k [] = y at hrow
        have Hy := hid_ hy; clear hy
        cases hbf : beforeL y x with
        | true =>
          go_wp2_with (go_at_call 74; refine (before_calls _ _ _ _ _ _ _ _ _ hrow hI').mono ?_; rintro e w' ⟨rfl, q', rfl⟩)
          go_roundw
          case rel => exact ⟨k + 1, _, by omega, by go_num, by rw [Hq.out, drewN2], lt_snoc Hall.out (by rw [Hy.out]; exact hbf)⟩
          case measure => simp [intOf]; omega
        | false =>
          have Hat : Hid (insAt L x = k) := hid_ (insAt_eq (by rw [HLn.out]; omega) Hall.out fun _ => by rw [Hy.out]; exact hbf)
          cases hsm : Same y x with
          | true =>
            have Hres : Hid (insertL L x = L) := hid_ (by
              rw [insertL, Hat.out, if_pos]
              exact ⟨by rw [HLn.out]; exact hlt, by rw [Hy.out]; simpa [Same] using hsm⟩)
            go_wp2_with (first
        | (go_at_call 74; refine (before_calls _ _ _ _ _ _ _ _ _ hrow hI').mono ?_; rintro e w' ⟨rfl, q', rfl⟩)
              | (go_at_call 41; refine (same_calls _ _ _ _ _ _ _ _ _ (hrow.drewN _) (hI'.drewN _)).mono ?_; rintro e w' ⟨rfl, q'', rfl⟩))
            go_ret
            exact ⟨_, rfl, by rw [Hres.out]; exact HO.out.drewN _, below_drewN Hbw.out _⟩
          | false =>
            have Hres : Hid (insertL L x = (L.take k ++ [x]) ++ L.drop k) := hid_ (by
              rw [insertL, Hat.out, if_neg]
              intro hh
              have : y = x := by rw [← Hy.out]; exact hh.2
              simp [Same, this] at hsm)
            have htk := ListsAt.take hA (k := k) (by omega)
            have hdk := ListsAt.drop hA (k := k) (by omega)
            simp only [Nat.zero_add] at hdk
            have hck : ¬ cap = k := by omega
            have hlen : (L.take k).length = k := by rw [List.length_take, HLn.out]; omega
            have Hlen := hid_ hlen; clear hlen
            generalize L.take k = T at htk Hres Hlen
            generalize L.drop k = D at hdk Hres
            have hT1 : ([] ++ T).length + 1 ≤ 1000000 := by have := Hlen.out; simp; omega
            have hT2 : (([] ++ T) ++ [x]).length + (n - k) ≤ 1000000 := by have := Hlen.out; simp; omega
            have hT0 : ([] : List (List Int)).length + k ≤ 1000000 := by simp; omega
            go_wp2_with (first
              | (go_at_call 74; refine (before_calls _ _ _ _ _ _ _ _ _ hrow hI').mono ?_; rintro e w' ⟨rfl, q', rfl⟩)
              | (go_at_call 41; refine (same_calls _ _ _ _ _ _ _ _ _ (hrow.drewN _) (hI'.drewN _)).mono ?_; rintro e w' ⟨rfl, q'', rfl⟩
                 have hb0 : Below w.heap.size w (wr.drewN (q' + q'')) := below_drewN Hbw.out _)
              | (at_builtin; refine wpList_append_lists _ rfl (.tmp 34) (.tmp 37) _ rfl w.heap.size 23 i0 Try.underlying22 hi0 hz0 hz1 hz2 (.slice none 0 0) [] rfl (OwnL.nil _ _ _) _ _ _ T rfl (htk.below hb0 (Nat.le_refl _)) (htk.inner hb0 (Nat.le_refl _) (by simp [Value.ownBlock])) hT0 hb0.size ?_; intro v1 w1 hown1 hg1 hat1
                 have hb1 : Below w.heap.size w w1 := belowL_app0 hb0 hb0.size (OwnL.nil 23 _ _) hg1)
              | (at_builtin; refine wpList_push_list _ rfl (.tmp 39) (.tmp 41) _ rfl w.heap.size 23 i0 Try.underlying22 hi0 hz0 hz1 hz2 v1 ([] ++ T) rfl hown1 _ _ _ x _ rfl (h'.below hb1 (Nat.le_refl _)) (Hx'.out v1 fun j hj => (hown1.lt j hj).1) hT1 hb1.size ?_; intro v2 w2 hown2 hg2 hat2
                 have hb2 : Below w.heap.size w w2 := belowL_app hb1 hb1.size hown1 hg2)
              | (at_builtin; refine wpList_append_lists _ rfl (.tmp 43) (.tmp 46) _ rfl w.heap.size 23 i0 Try.underlying22 hi0 hz0 hz1 hz2 v2 (([] ++ T) ++ [x]) rfl hown2 _ _ _ D rfl (hdk.below hb2 (Nat.le_refl _)) (hdk.inner hb2 (Nat.le_refl _) fun j hj => (hown2.lt j hj).1) hT2 hb2.size ?_; intro v3 w3 hown3 hg3 hat3
                 have hb3 : Below w.heap.size w w3 := belowL_app0 hb2 hb2.size hown2 hg3))
            go_ret
            exact ⟨v3, rfl, by rw [Hres.out]; exact hown3.base (Nat.zero_le _), hb3⟩
      · obtain rfl : k = n := by omega
        have Hat : Hid (insAt L x = k) := hid_ (insAt_eq (by rw [HLn.out]; omega) Hall.out fun hh => by rw [HLn.out] at hh; omega)
        have Hres : Hid (insertL L x = (L ++ [x]) ++ []) := hid_ (by
          rw [insertL, Hat.out, if_neg (by rw [HLn.out]; omega), List.take_of_length_le (by rw [HLn.out]; omega), List.drop_of_length_le (by rw [HLn.out]; omega)])
        have hT1 : ([] ++ L).length + 1 ≤ 1000000 := by have := HLn.out; simp; omega
        have hT2 : (([] ++ L) ++ [x]).length + 0 ≤ 1000000 := by have := HLn.out; simp; omega
        have hT0 : ([] : List (List Int)).length + k ≤ 1000000 := by simp; omega
        have hb0 := Hbw.out
        by_cases hck : cap = k
        · subst hck
          have hdk : ∀ W, ListsAt W (some ⟨g, 0, none⟩) 0 0 [] := fun W => ListsAt.nil _ _ _ (by omega)
          go_wp2_with (first
            | (at_builtin; refine wpList_append_lists _ rfl (.tmp 34) (.tmp 37) _ rfl w.heap.size 23 i0 Try.underlying22 hi0 hz0 hz1 hz2 (.slice none 0 0) [] rfl (OwnL.nil _ _ _) _ _ _ L rfl (hA.below hb0 (Nat.le_refl _)) (hA.inner hb0 (Nat.le_refl _) (by simp [Value.ownBlock])) hT0 hb0.size ?_; intro v1 w1 hown1 hg1 hat1
               have hb1 : Below w.heap.size w w1 := belowL_app0 hb0 hb0.size (OwnL.nil 23 _ _) hg1)
            | (at_builtin; refine wpList_push_list _ rfl (.tmp 39) (.tmp 41) _ rfl w.heap.size 23 i0 Try.underlying22 hi0 hz0 hz1 hz2 v1 ([] ++ L) rfl hown1 _ _ _ x _ rfl (h'.below hb1 (Nat.le_refl _)) (Hx'.out v1 fun j hj => (hown1.lt j hj).1) hT1 hb1.size ?_; intro v2 w2 hown2 hg2 hat2
               have hb2 : Below w.heap.size w w2 := belowL_app hb1 hb1.size hown1 hg2)
            | (at_builtin; refine wpList_append_lists _ rfl (.tmp 43) (.tmp 46) _ rfl w.heap.size 23 i0 Try.underlying22 hi0 hz0 hz1 hz2 v2 (([] ++ L) ++ [x]) rfl hown2 _ _ _ [] rfl (hdk _) (by intro _ i _ _ _ _ hi; exact absurd hi (by omega)) hT2 hb2.size ?_; intro v3 w3 hown3 hg3 hat3
               have hb3 : Below w.heap.size w w3 := belowL_app0 hb2 hb2.size hown2 hg3))
          go_ret
          exact ⟨v3, rfl, by rw [Hres.out]; exact hown3.base (Nat.zero_le _), hb3⟩
        · have hdk : ∀ W, ListsAt W (some ⟨g, k, none⟩) 0 (cap - k) [] := fun W => ListsAt.nil _ _ _ (by have := hA.small; omega)
          go_wp2_with (first
            | (at_builtin; refine wpList_append_lists _ rfl (.tmp 34) (.tmp 37) _ rfl w.heap.size 23 i0 Try.underlying22 hi0 hz0 hz1 hz2 (.slice none 0 0) [] rfl (OwnL.nil _ _ _) _ _ _ L rfl (hA.below hb0 (Nat.le_refl _)) (hA.inner hb0 (Nat.le_refl _) (by simp [Value.ownBlock])) hT0 hb0.size ?_; intro v1 w1 hown1 hg1 hat1
               have hb1 : Below w.heap.size w w1 := belowL_app0 hb0 hb0.size (OwnL.nil 23 _ _) hg1)
            | (at_builtin; refine wpList_push_list _ rfl (.tmp 39) (.tmp 41) _ rfl w.heap.size 23 i0 Try.underlying22 hi0 hz0 hz1 hz2 v1 ([] ++ L) rfl hown1 _ _ _ x _ rfl (h'.below hb1 (Nat.le_refl _)) (Hx'.out v1 fun j hj => (hown1.lt j hj).1) hT1 hb1.size ?_; intro v2 w2 hown2 hg2 hat2
               have hb2 : Below w.heap.size w w2 := belowL_app hb1 hb1.size hown1 hg2)
            | (at_builtin; refine wpList_append_lists _ rfl (.tmp 43) (.tmp 46) _ rfl w.heap.size 23 i0 Try.underlying22 hi0 hz0 hz1 hz2 v2 (([] ++ L) ++ [x]) rfl hown2 _ _ _ [] rfl (hdk _) (by intro _ i _ _ _ _ hi; exact absurd hi (by omega)) hT2 hb2.size ?_; intro v3 w3 hown3 hg3 hat3
               have hb3 : Below w.heap.size w w3 := belowL_app0 hb2 hb2.size hown2 hg3))
          go_ret
          exact ⟨v3, rfl, by rw [Hres.out]; exact hown3.base (Nat.zero_le _), hb3⟩
end Go.Proofs.Ytoopgmoopmbfnaa
