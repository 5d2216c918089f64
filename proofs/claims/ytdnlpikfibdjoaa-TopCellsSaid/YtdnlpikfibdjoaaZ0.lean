import Derived.Test.YtdnlpikfibdjoaaKa
import Derived.Test.YtdnlpikfibdjoaaRz
import Derived.Lib.Walk
import Derived.Deep.OwnRows
namespace Go.Proofs.Kv
open Go.RowKit

/-- the row of a list of lists that the call owns: v holds slices that read as L, none of which lies in the row itself -/
structure OwnL (E : TypeId) (w : World) (B : Nat) (v : Value) (L : List (List Int)) : Prop where
  has : ∃ vs, w.ownsRow B E 1 v L.length vs ∧ ∀ i, i < L.length → ∃ a n c, vs[i]? = some (.slice a n c) ∧ IntsAt w a n c (L.getD i []) ∧ ∀ b off, 0 < n → a = some ⟨b, off, none⟩ → v.ownBlock ≠ some b

theorem OwnL.nil (E : TypeId) (w : World) (B : Nat) : OwnL E w B (.slice none 0 0) [] := ⟨[], World.ownsRow_nil _ _ _ _, fun i h => absurd h (by simp)⟩
theorem OwnL.below {E : TypeId} {w w' : World} {B B' : Nat} {v : Value} {L : List (List Int)} (h : OwnL E w B v L) (hb : Below B' w w') (hB : w.heap.size ≤ B') : OwnL E w' B v L := by
  obtain ⟨vs, h1, h2⟩ := h.has
  refine ⟨vs, own_below h1 hb hB, fun i hi => ?_⟩
  obtain ⟨a, n, c, e, hr, hd⟩ := h2 i hi
  exact ⟨a, n, c, e, hr.below hb hB, hd⟩
theorem OwnL.drewN {E : TypeId} {w : World} {B : Nat} {v : Value} {L : List (List Int)} (h : OwnL E w B v L) (q : Nat) : OwnL E (w.drewN q) B v L := by
  obtain ⟨vs, h1, h2⟩ := h.has
  refine ⟨vs, h1, fun i hi => ?_⟩
  obtain ⟨a, n, c, e, hr, hd⟩ := h2 i hi
  exact ⟨a, n, c, e, hr.drewN q, hd⟩
theorem OwnL.alloc {E : TypeId} {w : World} {B : Nat} {v : Value} {L : List (List Int)} (h : OwnL E w B v L) (o : Obj) : OwnL E (w.alloc o) B v L :=
  h.below ((Below.refl w.heap.size w).alloc (Nat.le_refl _) o) (Nat.le_refl _)
theorem OwnL.base {E : TypeId} {w : World} {B B' : Nat} {v : Value} {L : List (List Int)} (h : OwnL E w B' v L) (hB : B ≤ B') : OwnL E w B v L := by
  obtain ⟨vs, h1, h2⟩ := h.has
  exact ⟨vs, own_base h1 hB, h2⟩
theorem OwnL.lt {E : TypeId} {w : World} {B : Nat} {v : Value} {L : List (List Int)} (h : OwnL E w B v L) : ∀ k, v.ownBlock = some k → B ≤ k ∧ k < w.heap.size := by
  obtain ⟨vs, h1, _⟩ := h.has
  exact h1.lt

theorem OwnL.at_ {E : TypeId} {w : World} {B : Nat} {v : Value} {L : List (List Int)} (h : OwnL E w B v L) : ∃ a c, v = .slice a L.length c ∧ ListsAt w a L.length c L := by
  obtain ⟨vs, h1, h2⟩ := h.has
  rcases h1.2 with ⟨rfl, h0⟩ | ⟨g, cap, cur, rfl, _, hg, hn, hm, hs, ht⟩
  · rw [h0]
    exact ⟨none, 0, rfl, h0, Nat.le_refl _, by omega, fun i hi => absurd hi (by omega)⟩
  · refine ⟨_, cap, rfl, rfl, hn, by unfold maxLen at hm; omega, fun i hi => ?_⟩
    obtain ⟨a, n, c, e, hr, _⟩ := h2 i hi
    have hc := h1.cells (g := g) rfl i _ e
    have : (⟨g, 0, none⟩ : Addr).add i = ⟨g, 0 + i, none⟩ := by unfold Addr.add; split <;> simp_all
    rw [this] at hc
    exact ⟨g, 0, a, n, c, rfl, (Array.getElem?_eq_some_iff.1 hg).1, hc, hr⟩

/-- the slices of a list of lists, one by one -/
theorem ListsAt.heads {w : World} {A : Option Addr} {m c : Nat} {M : List (List Int)} (h : ListsAt w A m c M) :
    ∃ vs : List Value, vs.length = m ∧ (∀ u ∈ vs, u.oneCell' = true) ∧ (∀ x, A = some x → ∀ j u, vs[j]? = some u → w.cell? (x.add j) = some u) ∧
      ∀ i, i < m → ∃ a n c, vs[i]? = some (.slice a n c) ∧ IntsAt w a n c (M.getD i []) := by
  have key : ∀ k, k ≤ m → ∃ vs : List Value, vs.length = k ∧ (∀ u ∈ vs, u.oneCell' = true) ∧ (∀ x, A = some x → ∀ j u, vs[j]? = some u → w.cell? (x.add j) = some u) ∧
      ∀ i, i < k → ∃ a n c, vs[i]? = some (.slice a n c) ∧ IntsAt w a n c (M.getD i []) := by
    intro k
    induction k with
    | zero => exact fun _ => ⟨[], rfl, by simp, by simp, fun i hi => absurd hi (by omega)⟩
    | succ k ih =>
      intro hk
      obtain ⟨vs, h1, h2, h3, h4⟩ := ih (by omega)
      obtain ⟨b, off, a, n, c', ha, hb, hc, hr⟩ := h.cells k (by omega)
      refine ⟨vs ++ [.slice a n c'], by simp [h1], ?_, ?_, ?_⟩
      · intro u hu
        rcases List.mem_append.1 hu with hu | hu
        · exact h2 u hu
        · rw [List.mem_singleton] at hu; subst hu; rfl
      · intro x hx j u hu
        rcases Nat.lt_or_ge j k with hj | hj
        · rw [List.getElem?_append_left (by omega)] at hu
          exact h3 x hx j u hu
        · rw [List.getElem?_append_right (by omega), h1] at hu
          have hj0 : j = k := by
            rcases Nat.lt_or_ge (j - k) 1 with h | h
            · omega
            · rw [List.getElem?_eq_none (by simpa using h)] at hu; cases hu
          subst hj0
          simp at hu
          subst hu
          rw [ha] at hx
          injection hx with hx
          subst hx
          have : (⟨b, off, none⟩ : Addr).add j = ⟨b, off + j, none⟩ := by unfold Addr.add; split <;> simp_all
          rw [this]; exact hc
      · intro i hi
        rcases Nat.lt_or_ge i k with hj | hj
        · obtain ⟨a', n', c'', e, hr'⟩ := h4 i hj
          exact ⟨a', n', c'', by rw [List.getElem?_append_left (by omega)]; exact e, hr'⟩
        · have : i = k := by omega
          subst this
          exact ⟨a, n, c', by rw [List.getElem?_append_right (by omega), h1]; simp, hr⟩
  exact key m (Nat.le_refl _)

/-- all inner slices of a list of lists lie below block B -/
def InnerBelow (w : World) (B : Nat) (A : Option Addr) (m : Nat) : Prop := ∀ x i a n c, A = some x → i < m → w.cell? (x.add i) = some (.slice a n c) → ∀ b off, 0 < n → a = some ⟨b, off, none⟩ → b < B

theorem getD_app {L M : List (List Int)} {i : Nat} : (L ++ M).getD i [] = if i < L.length then L.getD i [] else M.getD (i - L.length) [] := by
  split
  · rename_i h; simp [List.getD, List.getElem?_append_left h]
  · rename_i h; simp [List.getD, List.getElem?_append_right (Nat.le_of_not_lt h)]

section
variable {P : Program} (w : World)
/-- append of slices that were there, or that were made apart from the row -/
theorem run_append_lists (base : Nat) (t ty e : TypeId) (i : TypeInfo) (ht : P.underlying t = some (.slice e)) (hi : P.info? e = some i) (hz : i.zero = some (.slice none 0 0))
    (hsize : i.size = 1) (hby : i.bytes = 24) (v : Value) (L : List (List Int)) (hown : OwnL e w base v L)
    (A : Option Addr) (m c : Nat) (M : List (List Int)) (hr : ListsAt w A m c M) (hin : ∀ x i a n c, A = some x → i < m → w.cell? (x.add i) = some (.slice a n c) → ∀ b off, 0 < n → a = some ⟨b, off, none⟩ → v.ownBlock ≠ some b)
    (hs : L.length + m ≤ 1000000) (hbase : base ≤ w.heap.size) :
    ∃ v' w', (Builtin.append_ #[t, t] ty #[v, .slice A m c]).run P w = .ok v' w' ∧ OwnL e w' base v' (L ++ M) ∧ w.grownBy w' v.ownBlock ∧ (v'.ownBlock = v.ownBlock ∨ v'.ownBlock = some w.heap.size) := by
  obtain ⟨vs, h1, h2⟩ := hown.has
  rcases A with _ | x
  · have hm : m = 0 := by
      rcases Nat.eq_zero_or_pos m with h0 | h0
      · exact h0
      · obtain ⟨_, _, _, _, _, h, _⟩ := hr.cells 0 h0; cases h
    subst hm
    have : M = [] := List.eq_nil_of_length_eq_zero hr.len
    subst this
    refine ⟨v, w, ?_, by simpa using hown, World.grownBy.refl w _, .inl rfl⟩
    rcases h1.2 with ⟨rfl, h0⟩ | ⟨g, cap, cur, rfl, _, _, hnc, _⟩
    · simp [Builtin.append_, run_underlying ht, sizeOf, typeInfo, hi, Builtin.lenOf, Builtin.firstCells]
    · simp [Builtin.append_, run_underlying ht, sizeOf, typeInfo, hi, Builtin.lenOf, Builtin.firstCells, hnc, storeCells]
  · obtain ⟨us, g1, g2, g3, g4⟩ := hr.heads
    obtain ⟨v', w', k1, k2, k3, _, k5⟩ := run_append_own_at (P := P) w base t ty e i (.slice none 0 0) 1 24 ht hi hz hsize hby rfl (by omega) v _ _ h1 x m c us (by simp [g1]) (g3 x rfl) g2
      (by unfold maxLen; omega) (by omega) hbase
    refine ⟨v', w', k1, ⟨vs ++ us, by rw [List.length_append, hr.len]; exact k2, fun i hi => ?_⟩, k3, k5⟩
    have hvl : vs.length = L.length := by have := h1.1; omega
    have key : ∀ a n c l, IntsAt w a n c l → (∀ b off, 0 < n → a = some ⟨b, off, none⟩ → v.ownBlock ≠ some b) → IntsAt w' a n c l ∧ ∀ b off, 0 < n → a = some ⟨b, off, none⟩ → v'.ownBlock ≠ some b := by
      intro a n c l hI hd
      have hblk : ∀ b off, 0 < n → a = some ⟨b, off, none⟩ → b < w.heap.size := by
        intro b off hn ha
        obtain ⟨b', off', ha', hb, _⟩ := hI.cells 0 hn
        rw [ha] at ha'; injection ha' with ha'; injection ha' with e1 e2; omega
      refine ⟨⟨hI.len, hI.le, hI.small, fun i hi => ?_⟩, fun b off hn ha => ?_⟩
      · obtain ⟨b, off, ha, hb, hc⟩ := hI.cells i hi
        exact ⟨b, off, ha, Nat.lt_of_lt_of_le hb k3.size, k3.cell (a := ⟨b, off + i, none⟩) hc (fun e => hd b off (by omega) ha e.symm)⟩
      · rcases k5 with e | e
        · rw [e]; exact hd b off hn ha
        · rw [e]; intro h; injection h with h; have := hblk b off hn ha; omega
    rw [List.length_append, hr.len] at hi
    rw [getD_app]
    by_cases hil : i < L.length
    · rw [if_pos hil]
      obtain ⟨a, n, c, e, hI, hd⟩ := h2 i hil
      obtain ⟨q1, q2⟩ := key a n c _ hI hd
      exact ⟨a, n, c, by rw [List.getElem?_append_left (by omega)]; exact e, q1, q2⟩
    · rw [if_neg hil]
      obtain ⟨a, n, c, e, hI⟩ := g4 (i - L.length) (by omega)
      obtain ⟨q1, q2⟩ := key a n c _ hI (fun b off hn ha => hin x (i - L.length) a n c rfl (by omega) (g3 x rfl _ _ e) b off hn ha)
      exact ⟨a, n, c, by rw [List.getElem?_append_right (by omega), hvl]; exact e, q1, q2⟩

theorem wpList_append_lists {ops : Array Oper} {rest : List Oper} {o : Oper} {a : Act} {Q : Exit → Act → World → Prop} (hgd : o.guard = none) (s x : Operand) (t : TypeId)
    (ho : o.op = .call { callee := .builtin .append, args := #[s, x], argTypes := #[t, t] })
    (base : Nat) (e : TypeId) (i : TypeInfo) (ht : P.underlying t = some (.slice e)) (hi : P.info? e = some i) (hz : i.zero = some (.slice none 0 0)) (hsize : i.size = 1) (hby : i.bytes = 24)
    (v : Value) (L : List (List Int)) (hs : a.eval s = v) (hown : OwnL e w base v L)
    (A : Option Addr) (m c : Nat) (M : List (List Int)) (hx : a.eval x = .slice A m c) (hr : ListsAt w A m c M)
    (hin : ∀ x i a n c, A = some x → i < m → w.cell? (x.add i) = some (.slice a n c) → ∀ b off, 0 < n → a = some ⟨b, off, none⟩ → v.ownBlock ≠ some b)
    (hsm : L.length + m ≤ 1000000) (hbase : base ≤ w.heap.size)
    (h : ∀ v' w', OwnL e w' base v' (L ++ M) → w.grownBy w' v.ownBlock → (v'.ownBlock = v.ownBlock ∨ v'.ownBlock = some w.heap.size) → wpList P ops Q rest (a.put o.dst v') w') :
    wpList P ops Q (o :: rest) a w := by
  refine wpList_plain hgd fun K hK => ?_
  obtain ⟨v', w', hrun, h2, h3, h4⟩ := run_append_lists (P := P) w base t o.type e i ht hi hz hsize hby v L hown A m c M hr hin hsm hbase
  unfold Oper.wp execOp
  simp only [ho, resolve, invoke, builtin, Sem.run_bind, Sem.run_pure, Result.andThen_ok, List.map_toArray, List.map_cons, List.map_nil, hs, hx, hrun]
  exact hK _ _ (h v' w' h2 h3 h4)

/-- append of one slice, which lies in a new block of one cell -/
theorem wpList_push_list {ops : Array Oper} {rest : List Oper} {o : Oper} {a : Act} {Q : Exit → Act → World → Prop} (hgd : o.guard = none) (s x : Operand) (t : TypeId)
    (ho : o.op = .call { callee := .builtin .append, args := #[s, x], argTypes := #[t, t] })
    (base : Nat) (e : TypeId) (i : TypeInfo) (ht : P.underlying t = some (.slice e)) (hi : P.info? e = some i) (hz : i.zero = some (.slice none 0 0)) (hsize : i.size = 1) (hby : i.bytes = 24)
    (v : Value) (L : List (List Int)) (hs : a.eval s = v) (hown : OwnL e w base v L)
    (A : Option Addr) (m c : Nat) (l : List Int) (E : TypeId) (hx : a.eval x = .slice (some ⟨w.heap.size, 0, none⟩) 1 1) (hr : IntsAt w A m c l) (hin : ∀ b off, 0 < m → A = some ⟨b, off, none⟩ → v.ownBlock ≠ some b)
    (hsm : L.length + 1 ≤ 1000000) (hbase : base ≤ w.heap.size)
    (h : ∀ v' w', OwnL e w' base v' (L ++ [l]) → (w.alloc (.cells #[.slice A m c] E)).grownBy w' v.ownBlock → (v'.ownBlock = v.ownBlock ∨ v'.ownBlock = some (w.heap.size + 1)) → wpList P ops Q rest (a.put o.dst v') w') :
    wpList P ops Q (o :: rest) a (w.alloc (.cells #[.slice A m c] E)) := by
  have hcell : (w.alloc (.cells #[.slice A m c] E)).cell? ⟨w.heap.size, 0 + 0, none⟩ = some (.slice A m c) := by rw [World.cell?_alloc_at _ _ _ _ (by rfl)]; rfl
  have hL : ListsAt (w.alloc (.cells #[.slice A m c] E)) (some ⟨w.heap.size, 0, none⟩) 1 1 [l] :=
    ⟨rfl, Nat.le_refl _, by omega, fun i hi => ⟨w.heap.size, 0, A, m, c, rfl, by simp, by
      obtain rfl : i = 0 := by omega
      exact hcell, by
      obtain rfl : i = 0 := by omega
      exact hr.below ((Below.refl w.heap.size w).alloc (Nat.le_refl _) _) (Nat.le_refl _)⟩⟩
  refine wpList_append_lists _ hgd s x t ho base e i ht hi hz hsize hby v L hs (hown.alloc _) _ 1 1 [l] hx hL ?_ hsm (le_alloc hbase) fun v' w' h1 h2 h3 => h v' w' h1 h2 (by simpa using h3)
  intro y j a' n' c' hy hj hc b off hn ha
  injection hy with hy
  subst hy
  obtain rfl : j = 0 := by omega
  have : (⟨w.heap.size, 0, none⟩ : Addr).add 0 = ⟨w.heap.size, 0 + 0, none⟩ := rfl
  rw [this, hcell] at hc
  injection hc with hc
  injection hc with q1 q2 q3
  subst q1; subst q2
  exact hin b off hn ha
end

theorem belowL_app {B : Nat} {w wr w1 : World} {o : Obj} {E : Nat} {v : Value} {L : List (List Int)} (h : Below B w wr) (hB : B ≤ wr.heap.size) (hown : OwnL E wr B v L) (hg : (wr.alloc o).grownBy w1 v.ownBlock) : Below B w w1 :=
  (h.alloc hB o).grown hg (by simp; omega) fun k hk => (hown.lt k hk).1
theorem belowL_app0 {B : Nat} {w wr w1 : World} {E : Nat} {v : Value} {L : List (List Int)} (h : Below B w wr) (hB : B ≤ wr.heap.size) (hown : OwnL E wr B v L) (hg : wr.grownBy w1 v.ownBlock) : Below B w w1 :=
  h.grown hg hB fun k hk => (hown.lt k hk).1

/-- v is new memory that holds the lists L -/
structure MadeL (E : TypeId) (w w' : World) (v : Value) (L : List (List Int)) : Prop where
  own : OwnL E w' w.heap.size v L
  bel : Below w.heap.size w w'
theorem MadeL.after {E : TypeId} {w w1 w2 : World} {v : Value} {L : List (List Int)} (hb : Below w.heap.size w w1) (h : MadeL E w1 w2 v L) : MadeL E w w2 v L := ⟨h.own.base hb.size, below_then hb h.bel⟩
theorem MadeL.none_ (E : TypeId) {w w' : World} (hb : Below w.heap.size w w') : MadeL E w w' (.slice none 0 0) [] := ⟨OwnL.nil _ _ _, hb⟩
theorem ListsAt.take {w : World} {a : Option Addr} {n c : Nat} {L : List (List Int)} (h : ListsAt w a n c L) {k : Nat} (hk : k ≤ n) : ListsAt w a k c (L.take k) :=
  ⟨by rw [List.length_take, h.len]; omega, Nat.le_trans hk h.le, h.small, fun i hi => by
    obtain ⟨b, off, a', n', c', ha, hb, hc, hr⟩ := h.cells i (by omega)
    refine ⟨b, off, a', n', c', ha, hb, hc, ?_⟩
    have : (L.take k).getD i [] = L.getD i [] := by simp [List.getD, hi]
    rw [this]; exact hr⟩
theorem ListsAt.drop {w : World} {b off : Nat} {n c : Nat} {L : List (List Int)} (h : ListsAt w (some ⟨b, off, none⟩) n c L) {k : Nat} (hk : k ≤ n) : ListsAt w (some ⟨b, off + k, none⟩) (n - k) (c - k) (L.drop k) :=
  ⟨by rw [List.length_drop, h.len], by have := h.le; omega, by have := h.small; omega, fun i hi => by
    obtain ⟨b', off', a', n', c', ha, hb, hc, hr⟩ := h.cells (k + i) (by omega)
    injection ha with ha; injection ha with e1 e2
    subst e1; subst e2
    refine ⟨b, off + k, a', n', c', rfl, hb, by rw [Nat.add_assoc]; exact hc, ?_⟩
    have : (L.drop k).getD i [] = L.getD (k + i) [] := by simp [List.getD]
    rw [this]; exact hr⟩
theorem ListsAt.inner {w w2 : World} {B : Nat} {a : Option Addr} {n c : Nat} {L : List (List Int)} (h : ListsAt w a n c L) (hb : Below B w w2) (hB : w.heap.size ≤ B) {v : Value} (hv : ∀ k, v.ownBlock = some k → w.heap.size ≤ k) :
    ∀ x i a' n' c', a = some x → i < n → w2.cell? (x.add i) = some (.slice a' n' c') → ∀ b off, 0 < n' → a' = some ⟨b, off, none⟩ → v.ownBlock ≠ some b := by
  intro x i a' n' c' hx hi hc b off hn ha e
  obtain ⟨b0, off0, a0, n0, c0, ha0, hb0, hc0, hr0⟩ := h.cells i hi
  rw [hx] at ha0
  injection ha0 with ha0
  subst ha0
  have e1 : (⟨b0, off0, none⟩ : Addr).add i = ⟨b0, off0 + i, none⟩ := by unfold Addr.add; split <;> simp_all
  rw [e1] at hc
  have e2 := (hb.cell (p := ⟨b0, off0 + i, none⟩) (Nat.lt_of_lt_of_le hb0 hB)).symm.trans hc
  rw [hc0] at e2
  injection e2 with e2
  injection e2 with q1 q2 q3
  subst q1; subst q2
  obtain ⟨b1, off1, ha1, hb1, _⟩ := hr0.cells 0 hn
  rw [ha] at ha1
  injection ha1 with ha1
  injection ha1 with s1 s2
  have := hv b e
  omega

end Go.Proofs.Kv
namespace Go.Proofs.Kv
open Go.RowKit
theorem MadeL.at_ {E : TypeId} {w w' : World} {v : Value} {L : List (List Int)} (h : MadeL E w w' v L) : ∃ a c, v = .slice a L.length c ∧ ListsAt w' a L.length c L := h.own.at_
end Go.Proofs.Kv
namespace Go.Proofs.Ytdnlpikfibdjoaa
open Go.RowKit Go.Proofs.Kv
attribute [local go_sem] Oper.semAt_some
/-! ### SameLists -/
def SameL (L M : List (List Int)) : Bool := decide (L = M)
theorem ext_getDL {l m : List (List Int)} {n : Nat} (h1 : l.length = n) (h2 : m.length = n) (h : ∀ j, j < n → l.getD j [] = m.getD j []) : l = m := by
  refine List.ext_getElem (by omega) fun i h3 h4 => ?_
  have := h i (by omega)
  simpa [List.getD, List.getElem?_eq_getElem h3, List.getElem?_eq_getElem h4] using this

theorem Try.infoInts : (Try.prog.info? 22).map (fun i => (i.zero, i.size, i.bytes)) = some (some (.slice none 0 0), 1, 24) := by kernel_rfl
end Go.Proofs.Ytdnlpikfibdjoaa
