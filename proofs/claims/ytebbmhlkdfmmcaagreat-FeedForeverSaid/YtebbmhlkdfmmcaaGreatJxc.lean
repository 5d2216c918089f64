import Derived.Test.YtebbmhlkdfmmcaaGreatJxb
namespace Go.Proofs.Kv
open Go.RowKit

structure OwnLQ (Q : Nat → Prop) (E : TypeId) (w : World) (B : Nat) (v : Value) (L : List (List Int)) : Prop where
  has : ∃ vs, w.ownsRow B E 1 v L.length vs ∧ ∀ i, i < L.length → ∃ a n c, vs[i]? = some (.slice a n c) ∧ IntsAt w a n c (L.getD i []) ∧ ∀ b off, 0 < n → a = some ⟨b, off, none⟩ → v.ownBlock ≠ some b ∧ Q b

theorem OwnLQ.nil (Q : Nat → Prop) (E : TypeId) (w : World) (B : Nat) : OwnLQ Q E w B (.slice none 0 0) [] := ⟨[], World.ownsRow_nil _ _ _ _, fun i h => absurd h (by simp)⟩
theorem OwnLQ.below {Q : Nat → Prop} {E : TypeId} {w w' : World} {B B' : Nat} {v : Value} {L : List (List Int)} (h : OwnLQ Q E w B v L) (hb : Below B' w w') (hB : w.heap.size ≤ B') : OwnLQ Q E w' B v L := by
  obtain ⟨vs, h1, h2⟩ := h.has
  refine ⟨vs, own_below h1 hb hB, fun i hi => ?_⟩
  obtain ⟨a, n, c, e, hr, hd⟩ := h2 i hi
  exact ⟨a, n, c, e, hr.below hb hB, hd⟩
theorem OwnLQ.drewN {Q : Nat → Prop} {E : TypeId} {w : World} {B : Nat} {v : Value} {L : List (List Int)} (h : OwnLQ Q E w B v L) (q : Nat) : OwnLQ Q E (w.drewN q) B v L := by
  obtain ⟨vs, h1, h2⟩ := h.has
  refine ⟨vs, h1, fun i hi => ?_⟩
  obtain ⟨a, n, c, e, hr, hd⟩ := h2 i hi
  exact ⟨a, n, c, e, hr.drewN q, hd⟩
theorem OwnLQ.alloc {Q : Nat → Prop} {E : TypeId} {w : World} {B : Nat} {v : Value} {L : List (List Int)} (h : OwnLQ Q E w B v L) (o : Obj) : OwnLQ Q E (w.alloc o) B v L :=
  h.below ((Below.refl w.heap.size w).alloc (Nat.le_refl _) o) (Nat.le_refl _)
theorem OwnLQ.base {Q : Nat → Prop} {E : TypeId} {w : World} {B B' : Nat} {v : Value} {L : List (List Int)} (h : OwnLQ Q E w B' v L) (hB : B ≤ B') : OwnLQ Q E w B v L := by
  obtain ⟨vs, h1, h2⟩ := h.has
  exact ⟨vs, own_base h1 hB, h2⟩
theorem OwnLQ.lt {Q : Nat → Prop} {E : TypeId} {w : World} {B : Nat} {v : Value} {L : List (List Int)} (h : OwnLQ Q E w B v L) : ∀ k, v.ownBlock = some k → B ≤ k ∧ k < w.heap.size := by
  obtain ⟨vs, h1, _⟩ := h.has
  exact h1.lt

theorem OwnLQ.at_ {Q : Nat → Prop} {E : TypeId} {w : World} {B : Nat} {v : Value} {L : List (List Int)} (h : OwnLQ Q E w B v L) : ∃ a c, v = .slice a L.length c ∧ ListsAt w a L.length c L := by
  obtain ⟨vs, h1, h2⟩ := h.has
  rcases h1.2 with ⟨rfl, h0⟩ | ⟨g, cap, cur, rfl, _, hg, hn, hm, hs, ht⟩
  · rw [h0]
    exact ⟨none, 0, rfl, h0, Nat.le_refl _, by omega, fun i hi => absurd hi (by omega)⟩
  · refine ⟨_, cap, rfl, rfl, hn, by unfold maxLen at hm; omega, fun i hi => ?_⟩
    obtain ⟨a, n, c, e, hr, _⟩ := h2 i hi
    have hc := h1.cells (g := g) rfl i _ e
    have : (⟨g, 0, none⟩ : Addr).add i = ⟨g, 0 + i, none⟩ := by unfold Addr.add; split <;> simp_all
    rw [this] at hc
    exact ⟨g, 0, a, n, c, rfl, (Array.getElem?_eq_some_iff.1 hg).1, hc, hr⟩

section
variable {P : Program} {Q : Nat → Prop} (w : World)
/-- append of slices that were there, or that were made apart from the row -/
theorem run_append_listsQ (base : Nat) (t ty e : TypeId) (i : TypeInfo) (ht : P.underlying t = some (.slice e)) (hi : P.info? e = some i) (hz : i.zero = some (.slice none 0 0))
    (hsize : i.size = 1) (hby : i.bytes = 24) (v : Value) (L : List (List Int)) (hown : OwnLQ Q e w base v L)
    (A : Option Addr) (m c : Nat) (M : List (List Int)) (hr : ListsAt w A m c M) (hin : ∀ x i a n c, A = some x → i < m → w.cell? (x.add i) = some (.slice a n c) → ∀ b off, 0 < n → a = some ⟨b, off, none⟩ → v.ownBlock ≠ some b ∧ Q b)
    (hs : L.length + m ≤ 1000000) (hbase : base ≤ w.heap.size) :
    ∃ v' w', (Builtin.append_ #[t, t] ty #[v, .slice A m c]).run P w = .ok v' w' ∧ OwnLQ Q e w' base v' (L ++ M) ∧ w.grownBy w' v.ownBlock ∧ (v'.ownBlock = v.ownBlock ∨ v'.ownBlock = some w.heap.size) := by
  obtain ⟨vs, h1, h2⟩ := hown.has
  rcases A with _ | x
  · have hm : m = 0 := by
      rcases Nat.eq_zero_or_pos m with h0 | h0
      · exact h0
      · obtain ⟨_, _, _, _, _, h, _⟩ := hr.cells 0 h0; cases h
    subst hm
    have : M = [] := List.eq_nil_of_length_eq_zero hr.len
    subst this
    refine ⟨v, w, ?_, by simpa using hown, World.grownBy.refl w _, .inl rfl⟩
    rcases h1.2 with ⟨rfl, h0⟩ | ⟨g, cap, cur, rfl, _, _, hnc, _⟩
    · simp [Builtin.append_, run_underlying ht, sizeOf, typeInfo, hi, Builtin.lenOf, Builtin.firstCells]
    · simp [Builtin.append_, run_underlying ht, sizeOf, typeInfo, hi, Builtin.lenOf, Builtin.firstCells, hnc, storeCells]
  · obtain ⟨us, g1, g2, g3, g4⟩ := hr.heads
    obtain ⟨v', w', k1, k2, k3, _, k5⟩ := run_append_own_at (P := P) w base t ty e i (.slice none 0 0) 1 24 ht hi hz hsize hby rfl (by omega) v _ _ h1 x m c us (by simp [g1]) (g3 x rfl) g2
      (by unfold maxLen; omega) (by omega) hbase
    refine ⟨v', w', k1, ⟨vs ++ us, by rw [List.length_append, hr.len]; exact k2, fun i hi => ?_⟩, k3, k5⟩
    have hvl : vs.length = L.length := by have := h1.1; omega
    have key : ∀ a n c l, IntsAt w a n c l → (∀ b off, 0 < n → a = some ⟨b, off, none⟩ → v.ownBlock ≠ some b ∧ Q b) → IntsAt w' a n c l ∧ ∀ b off, 0 < n → a = some ⟨b, off, none⟩ → v'.ownBlock ≠ some b ∧ Q b := by
      intro a n c l hI hd
      have hblk : ∀ b off, 0 < n → a = some ⟨b, off, none⟩ → b < w.heap.size := by
        intro b off hn ha
        obtain ⟨b', off', ha', hb, _⟩ := hI.cells 0 hn
        rw [ha] at ha'; injection ha' with ha'; injection ha' with e1 e2; omega
      refine ⟨⟨hI.len, hI.le, hI.small, fun i hi => ?_⟩, fun b off hn ha => ?_⟩
      · obtain ⟨b, off, ha, hb, hc⟩ := hI.cells i hi
        exact ⟨b, off, ha, Nat.lt_of_lt_of_le hb k3.size, k3.cell (a := ⟨b, off + i, none⟩) hc (fun e => (hd b off (by omega) ha).1 e.symm)⟩
      · rcases k5 with e | e
        · rw [e]; exact hd b off hn ha
        · refine ⟨?_, (hd b off hn ha).2⟩; rw [e]; intro h; injection h with h; have := hblk b off hn ha; omega
    rw [List.length_append, hr.len] at hi
    rw [getD_app]
    by_cases hil : i < L.length
    · rw [if_pos hil]
      obtain ⟨a, n, c, e, hI, hd⟩ := h2 i hil
      obtain ⟨q1, q2⟩ := key a n c _ hI hd
      exact ⟨a, n, c, by rw [List.getElem?_append_left (by omega)]; exact e, q1, q2⟩
    · rw [if_neg hil]
      obtain ⟨a, n, c, e, hI⟩ := g4 (i - L.length) (by omega)
      obtain ⟨q1, q2⟩ := key a n c _ hI (fun b off hn ha => hin x (i - L.length) a n c rfl (by omega) (g3 x rfl _ _ e) b off hn ha)
      exact ⟨a, n, c, by rw [List.getElem?_append_right (by omega), hvl]; exact e, q1, q2⟩

theorem wpList_append_listsQ {ops : Array Oper} {rest : List Oper} {o : Oper} {a : Act} {Q1 : Exit → Act → World → Prop} (hgd : o.guard = none) (s x : Operand) (t : TypeId)
    (ho : o.op = .call { callee := .builtin .append, args := #[s, x], argTypes := #[t, t] })
    (base : Nat) (e : TypeId) (i : TypeInfo) (ht : P.underlying t = some (.slice e)) (hi : P.info? e = some i) (hz : i.zero = some (.slice none 0 0)) (hsize : i.size = 1) (hby : i.bytes = 24)
    (v : Value) (L : List (List Int)) (hs : a.eval s = v) (hown : OwnLQ Q e w base v L)
    (A : Option Addr) (m c : Nat) (M : List (List Int)) (hx : a.eval x = .slice A m c) (hr : ListsAt w A m c M)
    (hin : ∀ x i a n c, A = some x → i < m → w.cell? (x.add i) = some (.slice a n c) → ∀ b off, 0 < n → a = some ⟨b, off, none⟩ → v.ownBlock ≠ some b ∧ Q b)
    (hsm : L.length + m ≤ 1000000) (hbase : base ≤ w.heap.size)
    (h : ∀ v' w', OwnLQ Q e w' base v' (L ++ M) → w.grownBy w' v.ownBlock → (v'.ownBlock = v.ownBlock ∨ v'.ownBlock = some w.heap.size) → wpList P ops Q1 rest (a.put o.dst v') w') :
    wpList P ops Q1 (o :: rest) a w := by
  refine wpList_plain hgd fun K hK => ?_
  obtain ⟨v', w', hrun, h2, h3, h4⟩ := run_append_listsQ (P := P) w base t o.type e i ht hi hz hsize hby v L hown A m c M hr hin hsm hbase
  unfold Oper.wp execOp
  simp only [ho, resolve, invoke, builtin, Sem.run_bind, Sem.run_pure, Result.andThen_ok, List.map_toArray, List.map_cons, List.map_nil, hs, hx, hrun]
  exact hK _ _ (h v' w' h2 h3 h4)

/-- append of one slice, which lies in a new block of one cell -/
theorem wpList_push_listQ {ops : Array Oper} {rest : List Oper} {o : Oper} {a : Act} {Q1 : Exit → Act → World → Prop} (hgd : o.guard = none) (s x : Operand) (t : TypeId)
    (ho : o.op = .call { callee := .builtin .append, args := #[s, x], argTypes := #[t, t] })
    (base : Nat) (e : TypeId) (i : TypeInfo) (ht : P.underlying t = some (.slice e)) (hi : P.info? e = some i) (hz : i.zero = some (.slice none 0 0)) (hsize : i.size = 1) (hby : i.bytes = 24)
    (v : Value) (L : List (List Int)) (hs : a.eval s = v) (hown : OwnLQ Q e w base v L)
    (A : Option Addr) (m c : Nat) (l : List Int) (E : TypeId) (hx : a.eval x = .slice (some ⟨w.heap.size, 0, none⟩) 1 1) (hr : IntsAt w A m c l) (hin : ∀ b off, 0 < m → A = some ⟨b, off, none⟩ → v.ownBlock ≠ some b ∧ Q b)
    (hsm : L.length + 1 ≤ 1000000) (hbase : base ≤ w.heap.size)
    (h : ∀ v' w', OwnLQ Q e w' base v' (L ++ [l]) → (w.alloc (.cells #[.slice A m c] E)).grownBy w' v.ownBlock → (v'.ownBlock = v.ownBlock ∨ v'.ownBlock = some (w.heap.size + 1)) → wpList P ops Q1 rest (a.put o.dst v') w') :
    wpList P ops Q1 (o :: rest) a (w.alloc (.cells #[.slice A m c] E)) := by
  have hcell : (w.alloc (.cells #[.slice A m c] E)).cell? ⟨w.heap.size, 0 + 0, none⟩ = some (.slice A m c) := by rw [World.cell?_alloc_at _ _ _ _ (by rfl)]; rfl
  have hL : ListsAt (w.alloc (.cells #[.slice A m c] E)) (some ⟨w.heap.size, 0, none⟩) 1 1 [l] :=
    ⟨rfl, Nat.le_refl _, by omega, fun i hi => ⟨w.heap.size, 0, A, m, c, rfl, by simp, by
      obtain rfl : i = 0 := by omega
      exact hcell, by
      obtain rfl : i = 0 := by omega
      exact hr.below ((Below.refl w.heap.size w).alloc (Nat.le_refl _) _) (Nat.le_refl _)⟩⟩
  refine wpList_append_listsQ _ hgd s x t ho base e i ht hi hz hsize hby v L hs (hown.alloc _) _ 1 1 [l] hx hL ?_ hsm (le_alloc hbase) fun v' w' h1 h2 h3 => h v' w' h1 h2 (by simpa using h3)
  intro y j a' n' c' hy hj hc b off hn ha
  injection hy with hy
  subst hy
  obtain rfl : j = 0 := by omega
  have : (⟨w.heap.size, 0, none⟩ : Addr).add 0 = ⟨w.heap.size, 0 + 0, none⟩ := rfl
  rw [this, hcell] at hc
  injection hc with hc
  injection hc with q1 q2 q3
  subst q1; subst q2
  exact hin b off hn ha
end

theorem belowLQ_app {Q : Nat → Prop} {B : Nat} {w wr w1 : World} {o : Obj} {E : Nat} {v : Value} {L : List (List Int)} (h : Below B w wr) (hB : B ≤ wr.heap.size) (hown : OwnLQ Q E wr B v L) (hg : (wr.alloc o).grownBy w1 v.ownBlock) : Below B w w1 :=
  (h.alloc hB o).grown hg (by simp; omega) fun k hk => (hown.lt k hk).1
theorem belowLQ_app0 {Q : Nat → Prop} {B : Nat} {w wr w1 : World} {E : Nat} {v : Value} {L : List (List Int)} (h : Below B w wr) (hB : B ≤ wr.heap.size) (hown : OwnLQ Q E wr B v L) (hg : wr.grownBy w1 v.ownBlock) : Below B w w1 :=
  h.grown hg hB fun k hk => (hown.lt k hk).1


/-- where the words of a row lie -/
def InQ (Q : Nat → Prop) (w : World) (a : Option Addr) (n : Nat) : Prop := ∀ x i a' n' c', a = some x → i < n → w.cell? (x.add i) = some (.slice a' n' c') → ∀ b off, 0 < n' → a' = some ⟨b, off, none⟩ → Q b
theorem inQ_add (g k i : Nat) : (⟨g, k, none⟩ : Addr).add i = ⟨g, k + i, none⟩ := by unfold Addr.add; split <;> simp_all
theorem inQ0 {Q : Nat → Prop} {w : World} {g n k : Nat} (h : ∀ i a' n' c', i < n → w.cell? ⟨g, i, none⟩ = some (.slice a' n' c') → ∀ b off, 0 < n' → a' = some ⟨b, off, none⟩ → Q b) (hk : k ≤ n) : InQ Q w (some ⟨g, 0, none⟩) k := fun x i a' n' c' hx hi hc => by
  injection hx with hx; subst hx
  rw [inQ_add, Nat.zero_add] at hc
  exact h i a' n' c' (by omega) hc
theorem inQk {Q : Nat → Prop} {w : World} {g n k : Nat} (h : ∀ i a' n' c', i < n → w.cell? ⟨g, i, none⟩ = some (.slice a' n' c') → ∀ b off, 0 < n' → a' = some ⟨b, off, none⟩ → Q b) (hk : k ≤ n) : InQ Q w (some ⟨g, k, none⟩) (n - k) := fun x i a' n' c' hx hi hc => by
  injection hx with hx; subst hx
  rw [inQ_add] at hc
  exact h (k + i) a' n' c' (by omega) hc
theorem ListsAt.innerQ {Q : Nat → Prop} {w w2 : World} {B : Nat} {a : Option Addr} {n c : Nat} {L : List (List Int)} (h : ListsAt w a n c L) (hb : Below B w w2) (hB : w.heap.size ≤ B) {v : Value} (hv : ∀ k, v.ownBlock = some k → w.heap.size ≤ k) (hq : InQ Q w a n) :
    ∀ x i a' n' c', a = some x → i < n → w2.cell? (x.add i) = some (.slice a' n' c') → ∀ b off, 0 < n' → a' = some ⟨b, off, none⟩ → v.ownBlock ≠ some b ∧ Q b := fun x i a' n' c' hx hi hc b off hn ha => by
  refine ⟨h.inner hb hB hv x i a' n' c' hx hi hc b off hn ha, hq x i a' n' c' hx hi ?_ b off hn ha⟩
  obtain ⟨b0, off0, a0, n0, c0, ha0, hb0, _, _⟩ := h.cells i hi
  rw [hx] at ha0; injection ha0 with ha0; subst ha0
  rw [inQ_add] at hc ⊢
  exact (hb.cell (p := ⟨b0, off0 + i, none⟩) (Nat.lt_of_lt_of_le hb0 hB)).symm.trans hc
end Go.Proofs.Kv
namespace Go.Proofs.YtebbmhlkdfmmcaaGreat
open Go.RowKit Go.Proofs.Kv
attribute [local go_sem] Oper.semAt_some
set_option maxRecDepth 100000 in
set_option maxHeartbeats 400000 in
theorem insertQ_calls {Q : Nat → Prop} {Bb : Nat} (v : Value) (L : List (List Int)) (a' : Option Addr) (n' c' : Nat) (x : List Int) (w : World) (h : OwnLQ Q 23 w Bb v L) (h' : IntsAt w a' n' c' x) (hs : L.length ≤ 10000) (hxq : ∀ b off, 0 < n' → a' = some ⟨b, off, none⟩ → Q b) (hBb : Bb ≤ w.heap.size) :
    Calls Tryz.prog 51 #[v, .slice a' n' c'] w fun e w' => ∃ v', e = .returned v' ∧ OwnLQ Q 23 w' Bb v' (insertL L x) ∧ Below w.heap.size w w' := by
  obtain ⟨i0, hi0, hz0, hz1, hz2⟩ := info_parts Tryz.infoInts
  have hx' : ∀ v : Value, (∀ k, v.ownBlock = some k → w.heap.size ≤ k) → ∀ b off, 0 < n' → a' = some ⟨b, off, none⟩ → v.ownBlock ≠ some b ∧ Q b := by
    intro v hv b off hn ha
    refine ⟨fun e => ?_, hxq b off hn ha⟩
    obtain ⟨b1, off1, ha1, hb1, _⟩ := h'.cells 0 hn
    rw [ha] at ha1
    injection ha1 with ha1
    injection ha1 with s1 s2
    have := hv b e
    omega
  have Hx' := hid_ hx'; clear hx' hxq
  have HBb := hid_ hBb; clear hBb
  obtain ⟨vs, hown, hvs⟩ := h.has
  rcases hown.2 with ⟨rfl, h0⟩ | ⟨g, cap, cur, rfl, _, hg, hnc, hm, _⟩
  · have hL : L = [] := List.eq_nil_of_length_eq_zero h0
    subst hL
    have Hres : Hid (insertL [] x = [x]) := hid_ rfl
    clear hown hvs h0
    go_enter Tryz.func51, Tryz.ntmps51
    go_wp2
    go_loop [5] (fun i => i = .int .i64 0) (fun _ => 0)
    case atStart => rfl
    case round =>
      subst hrel
      go_wp2_with (first
        | (at_builtin; refine wpList_append_listsQ _ rfl (.tmp 43) (.tmp 46) _ rfl w.heap.size 23 i0 Tryz.underlying27 hi0 hz0 hz1 hz2 v1 ([] ++ [x]) rfl hown1 none 0 0 [] rfl (ListsAt.nil _ _ _ (by omega)) (by intro y; simp) (by simp) (hb1.size) ?_; intro v2 w2 hown2 hg2 hat2)
        | (at_builtin; refine wpList_push_listQ _ rfl (.tmp 39) (.tmp 41) _ rfl w.heap.size 23 i0 Tryz.underlying27 hi0 hz0 hz1 hz2 (.slice none 0 0) [] rfl (OwnLQ.nil _ _ _ _) _ _ _ x _ rfl h' (Hx'.out (.slice none 0 0) (by simp [Value.ownBlock])) (by simp) (Nat.le_refl _) ?_; intro v1 w1 hown1 hg1 hat1; have hb1 : Below w.heap.size w w1 := belowLQ_app (Below.refl _ _) (Nat.le_refl _) (OwnLQ.nil Q 23 _ _) hg1))
      go_ret
      exact ⟨v2, rfl, by rw [Hres.out]; exact hown2.base HBb.out, belowLQ_app0 hb1 hb1.size hown1 hg2⟩
  · have hA : ListsAt w (some ⟨g, 0, none⟩) L.length cap L := by
      obtain ⟨a1, c1, e, hA⟩ := h.at_
      injection e with e1 e2 e3
      subst e1; subst e3; exact hA
    have hn : L.length ≤ 9223372036854775807 := Nat.le_trans hA.le hA.small
    have HQ : Hid (∀ i a' n' c', i < L.length → w.cell? ⟨g, i, none⟩ = some (.slice a' n' c') → ∀ b off, 0 < n' → a' = some ⟨b, off, none⟩ → Q b) := hid_ (fun i a' n' c' hi hc b off hn ha => by
      obtain ⟨a2, n2, c2, e2, -, hd⟩ := hvs i hi
      have hc2 := hown.cells (g := g) rfl i _ e2
      rw [show (⟨g, 0, none⟩ : Addr).add i = ⟨g, 0 + i, none⟩ by unfold Addr.add; split <;> simp_all, Nat.zero_add, hc] at hc2
      injection hc2 with hc2; injection hc2 with q1 q2 q3
      subst q1; subst q2
      exact (hd b off hn ha).2)
    clear hown hvs
    generalize hLn : L.length = n at hA hs hnc h hn HQ
    have HLn := hid_ hLn; clear hLn
    go_enter Tryz.func51, Tryz.ntmps51
    go_wp2
    go_loopw [5] (fun i wr => ∃ k q : Nat, k ≤ n ∧ i = .int .i64 k ∧ wr = w.drewN q ∧ ∀ j, j < k → beforeL (L.getD j []) x = true) (fun i _ => n - (intOf i).toNat)
    case atStart => exact ⟨0, 0, Nat.zero_le _, rfl, rfl, fun _ h => absurd h (by omega)⟩
    case round =>
      obtain ⟨k, q, hk, rfl, hq, hall⟩ := hrel
      have Hq := hid_ hq; clear hq
      have hI : ListsAt wr (some ⟨g, 0, none⟩) n cap L := by rw [Hq.out]; exact hA.drewN q
      have hI' : IntsAt wr a' n' c' x := by rw [Hq.out]; exact h'.drewN q
      have Hall := hid_ hall; clear hall
      have Hbw : Hid (Below w.heap.size w wr) := hid_ (by rw [Hq.out]; exact below_drewN (Below.refl _ _) q)
      have hO : OwnLQ Q 23 wr Bb (.slice (some ⟨g, 0, none⟩) n cap) L := by rw [Hq.out]; exact h.drewN q
      have HO := hid_ hO; clear hO
      have hszw : wr.heap.size = w.heap.size := by rw [Hq.out]; rfl
      have Hsz := hid_ hszw; clear hszw
      -- what is done once the place is found
      by_cases hlt : k < n
      · obtain ⟨b, off, a1, n1, c1, e, hb, hcell, hrow⟩ := hI.cells k hlt
        injection e with e; injection e with e1 e2
        subst e1; subst e2
        simp only [Nat.zero_add] at hcell
        generalize hy : L.getD k [] = y at hrow
        have Hy := hid_ hy; clear hy
        cases hbf : beforeL y x with
        | true =>
          go_wp2_with (go_at_call 68; refine (before_calls _ _ _ _ _ _ _ _ _ hrow hI').mono ?_; rintro e w' ⟨rfl, q', rfl⟩)
          go_roundw
          case rel => exact ⟨k + 1, _, by omega, by go_num, by rw [Hq.out, drewN2], lt_snoc Hall.out (by rw [Hy.out]; exact hbf)⟩
          case measure => simp [intOf]; omega
        | false =>
          have Hat : Hid (insAt L x = k) := hid_ (insAt_eq (by rw [HLn.out]; omega) Hall.out fun _ => by rw [Hy.out]; exact hbf)
          cases hsm : Same y x with
          | true =>
            have Hres : Hid (insertL L x = L) := hid_ (by
              rw [insertL, Hat.out, if_pos]
              exact ⟨by rw [HLn.out]; exact hlt, by rw [Hy.out]; simpa [Same] using hsm⟩)
            go_wp2_with (first
        | (go_at_call 68; refine (before_calls _ _ _ _ _ _ _ _ _ hrow hI').mono ?_; rintro e w' ⟨rfl, q', rfl⟩)
              | (go_at_call 25; refine (same_calls _ _ _ _ _ _ _ _ _ (hrow.drewN _) (hI'.drewN _)).mono ?_; rintro e w' ⟨rfl, q'', rfl⟩))
            go_ret
            exact ⟨_, rfl, by rw [Hres.out]; exact HO.out.drewN _, below_drewN Hbw.out _⟩
          | false =>
            have Hres : Hid (insertL L x = (L.take k ++ [x]) ++ L.drop k) := hid_ (by
              rw [insertL, Hat.out, if_neg]
              intro hh
              have : y = x := by rw [← Hy.out]; exact hh.2
              simp [Same, this] at hsm)
            have htk := ListsAt.take hA (k := k) (by omega)
            have hdk := ListsAt.drop hA (k := k) (by omega)
            simp only [Nat.zero_add] at hdk
            have hck : ¬ cap = k := by omega
            have hlen : (L.take k).length = k := by rw [List.length_take, HLn.out]; omega
            have Hlen := hid_ hlen; clear hlen
            generalize L.take k = T at htk Hres Hlen
            generalize L.drop k = D at hdk Hres
            have hT1 : ([] ++ T).length + 1 ≤ 1000000 := by have := Hlen.out; simp; omega
            have hT2 : (([] ++ T) ++ [x]).length + (n - k) ≤ 1000000 := by have := Hlen.out; simp; omega
            have hT0 : ([] : List (List Int)).length + k ≤ 1000000 := by simp; omega
            go_wp2_with (first
              | (go_at_call 68; refine (before_calls _ _ _ _ _ _ _ _ _ hrow hI').mono ?_; rintro e w' ⟨rfl, q', rfl⟩)
              | (go_at_call 25; refine (same_calls _ _ _ _ _ _ _ _ _ (hrow.drewN _) (hI'.drewN _)).mono ?_; rintro e w' ⟨rfl, q'', rfl⟩
                 have hb0 : Below w.heap.size w (wr.drewN (q' + q'')) := below_drewN Hbw.out _)
              | (at_builtin; refine wpList_append_listsQ _ rfl (.tmp 34) (.tmp 37) _ rfl w.heap.size 23 i0 Tryz.underlying27 hi0 hz0 hz1 hz2 (.slice none 0 0) [] rfl (OwnLQ.nil _ _ _ _) _ _ _ T rfl (htk.below hb0 (Nat.le_refl _)) (htk.innerQ hb0 (Nat.le_refl _) (by simp [Value.ownBlock]) (inQ0 HQ.out (by omega))) hT0 hb0.size ?_; intro v1 w1 hown1 hg1 hat1
                 have hb1 : Below w.heap.size w w1 := belowLQ_app0 hb0 hb0.size (OwnLQ.nil Q 23 _ _) hg1)
              | (at_builtin; refine wpList_push_listQ _ rfl (.tmp 39) (.tmp 41) _ rfl w.heap.size 23 i0 Tryz.underlying27 hi0 hz0 hz1 hz2 v1 ([] ++ T) rfl hown1 _ _ _ x _ rfl (h'.below hb1 (Nat.le_refl _)) (Hx'.out v1 fun j hj => (hown1.lt j hj).1) hT1 hb1.size ?_; intro v2 w2 hown2 hg2 hat2
                 have hb2 : Below w.heap.size w w2 := belowLQ_app hb1 hb1.size hown1 hg2)
              | (at_builtin; refine wpList_append_listsQ _ rfl (.tmp 43) (.tmp 46) _ rfl w.heap.size 23 i0 Tryz.underlying27 hi0 hz0 hz1 hz2 v2 (([] ++ T) ++ [x]) rfl hown2 _ _ _ D rfl (hdk.below hb2 (Nat.le_refl _)) (hdk.innerQ hb2 (Nat.le_refl _) (fun j hj => (hown2.lt j hj).1) (inQk HQ.out (by omega))) hT2 hb2.size ?_; intro v3 w3 hown3 hg3 hat3
                 have hb3 : Below w.heap.size w w3 := belowLQ_app0 hb2 hb2.size hown2 hg3))
            go_ret
            exact ⟨v3, rfl, by rw [Hres.out]; exact hown3.base HBb.out, hb3⟩
      · obtain rfl : k = n := by omega
        have Hat : Hid (insAt L x = k) := hid_ (insAt_eq (by rw [HLn.out]; omega) Hall.out fun hh => by rw [HLn.out] at hh; omega)
        have Hres : Hid (insertL L x = (L ++ [x]) ++ []) := hid_ (by
          rw [insertL, Hat.out, if_neg (by rw [HLn.out]; omega), List.take_of_length_le (by rw [HLn.out]; omega), List.drop_of_length_le (by rw [HLn.out]; omega)])
        have hT1 : ([] ++ L).length + 1 ≤ 1000000 := by have := HLn.out; simp; omega
        have hT2 : (([] ++ L) ++ [x]).length + 0 ≤ 1000000 := by have := HLn.out; simp; omega
        have hT0 : ([] : List (List Int)).length + k ≤ 1000000 := by simp; omega
        have hb0 := Hbw.out
        by_cases hck : cap = k
        · subst hck
          have hdk : ∀ W, ListsAt W (some ⟨g, 0, none⟩) 0 0 [] := fun W => ListsAt.nil _ _ _ (by omega)
          go_wp2_with (first
            | (at_builtin; refine wpList_append_listsQ _ rfl (.tmp 34) (.tmp 37) _ rfl w.heap.size 23 i0 Tryz.underlying27 hi0 hz0 hz1 hz2 (.slice none 0 0) [] rfl (OwnLQ.nil _ _ _ _) _ _ _ L rfl (hA.below hb0 (Nat.le_refl _)) (hA.innerQ hb0 (Nat.le_refl _) (by simp [Value.ownBlock]) (inQ0 HQ.out (Nat.le_refl _))) hT0 hb0.size ?_; intro v1 w1 hown1 hg1 hat1
               have hb1 : Below w.heap.size w w1 := belowLQ_app0 hb0 hb0.size (OwnLQ.nil Q 23 _ _) hg1)
            | (at_builtin; refine wpList_push_listQ _ rfl (.tmp 39) (.tmp 41) _ rfl w.heap.size 23 i0 Tryz.underlying27 hi0 hz0 hz1 hz2 v1 ([] ++ L) rfl hown1 _ _ _ x _ rfl (h'.below hb1 (Nat.le_refl _)) (Hx'.out v1 fun j hj => (hown1.lt j hj).1) hT1 hb1.size ?_; intro v2 w2 hown2 hg2 hat2
               have hb2 : Below w.heap.size w w2 := belowLQ_app hb1 hb1.size hown1 hg2)
            | (at_builtin; refine wpList_append_listsQ _ rfl (.tmp 43) (.tmp 46) _ rfl w.heap.size 23 i0 Tryz.underlying27 hi0 hz0 hz1 hz2 v2 (([] ++ L) ++ [x]) rfl hown2 _ _ _ [] rfl (hdk _) (by intro _ i _ _ _ _ hi; exact absurd hi (by omega)) hT2 hb2.size ?_; intro v3 w3 hown3 hg3 hat3
               have hb3 : Below w.heap.size w w3 := belowLQ_app0 hb2 hb2.size hown2 hg3))
          go_ret
          exact ⟨v3, rfl, by rw [Hres.out]; exact hown3.base HBb.out, hb3⟩
        · have hdk : ∀ W, ListsAt W (some ⟨g, k, none⟩) 0 (cap - k) [] := fun W => ListsAt.nil _ _ _ (by have := hA.small; omega)
          go_wp2_with (first
            | (at_builtin; refine wpList_append_listsQ _ rfl (.tmp 34) (.tmp 37) _ rfl w.heap.size 23 i0 Tryz.underlying27 hi0 hz0 hz1 hz2 (.slice none 0 0) [] rfl (OwnLQ.nil _ _ _ _) _ _ _ L rfl (hA.below hb0 (Nat.le_refl _)) (hA.innerQ hb0 (Nat.le_refl _) (by simp [Value.ownBlock]) (inQ0 HQ.out (Nat.le_refl _))) hT0 hb0.size ?_; intro v1 w1 hown1 hg1 hat1
               have hb1 : Below w.heap.size w w1 := belowLQ_app0 hb0 hb0.size (OwnLQ.nil Q 23 _ _) hg1)
            | (at_builtin; refine wpList_push_listQ _ rfl (.tmp 39) (.tmp 41) _ rfl w.heap.size 23 i0 Tryz.underlying27 hi0 hz0 hz1 hz2 v1 ([] ++ L) rfl hown1 _ _ _ x _ rfl (h'.below hb1 (Nat.le_refl _)) (Hx'.out v1 fun j hj => (hown1.lt j hj).1) hT1 hb1.size ?_; intro v2 w2 hown2 hg2 hat2
               have hb2 : Below w.heap.size w w2 := belowLQ_app hb1 hb1.size hown1 hg2)
            | (at_builtin; refine wpList_append_listsQ _ rfl (.tmp 43) (.tmp 46) _ rfl w.heap.size 23 i0 Tryz.underlying27 hi0 hz0 hz1 hz2 v2 (([] ++ L) ++ [x]) rfl hown2 _ _ _ [] rfl (hdk _) (by intro _ i _ _ _ _ hi; exact absurd hi (by omega)) hT2 hb2.size ?_; intro v3 w3 hown3 hg3 hat3
               have hb3 : Below w.heap.size w w3 := belowLQ_app0 hb2 hb2.size hown2 hg3))
          go_ret
          exact ⟨v3, rfl, by rw [Hres.out]; exact hown3.base HBb.out, hb3⟩
end Go.Proofs.YtebbmhlkdfmmcaaGreat
namespace Go.Proofs.YtebbmhlkdfmmcaaGreat
open Go.RowKit Go.Proofs.Kv

/-! ### the words that come next lie in new memory -/
theorem OwnT.inQ {w : World} {B : Nat} {a : Option Addr} {c : Nat} {W : List (List Int)} (h : OwnT w B (.slice a W.length c) W) : InQ (fun b => B ≤ b) w a W.length := fun x i a' n' c' hx hi hc b off hn ha => by
  obtain ⟨vs, h1, h2⟩ := h
  have hvl : vs.length = W.length := by have := h1.1; simpa using this
  obtain ⟨g, k, e⟩ := own_slice h1 (by omega)
  injection e with e1 _ e3
  subst e1
  injection hx with hx
  subst hx
  have hv : vs[i]? = some vs[i] := List.getElem?_eq_getElem (by omega)
  have hc2 := h1.cells (g := g) rfl i _ hv
  rw [hc] at hc2; injection hc2 with hc2
  obtain ⟨a2, n2, c2, e, hI, hd⟩ := h2 i _ hv
  rw [← hc2] at e; injection e with q1 q2 q3
  subst q1; subst q2
  exact (hd b off hn ha).1
set_option maxRecDepth 100000 in
set_option maxHeartbeats 4000000 in
theorem r3nextQ_calls (A : Option Addr) (N C : Nat) (L : List Rl) (a : Option Addr) (n c : Nat) (l : List Int) (w : World) (h : RulesAt w A N C L) (hI : IntsAt w a n c l) (he : errSW L [l] = 0) :
    Calls Tryz.prog 67 #[.slice A N C, .slice a n c] w fun e w' => ∃ v, e = .returned v ∧ OwnLQ (fun b => w.heap.size ≤ b) 23 w' w.heap.size v (resNext L l) ∧ Below w.heap.size w w' := by
  have Hr : Hid (resNext L l = foldI ((movesL L l).map (·.2))) := hid_ (if_pos he)
  obtain ⟨g1, g2⟩ := errSW_ok' he
  have HM := hid_ (r3steps_calls A N C L a n c l w h hI (validS_ok g1).2 (by rw [← h.len]; exact (validS_ok g1).1) g2)
  have hle := movesL_le L he
  have hlm : ((movesL L l).map (·.2)).length = (movesL L l).length := List.length_map _
  generalize (movesL L l).map (·.2) = W at *
  have Hle : Hid (W.length ≤ 54) := hid_ (by omega)
  clear he g1 g2 h hI hle hlm
  have hW54 := Hle.out
  obtain ⟨B0, hB0⟩ : ∃ B0, w.heap.size = B0 := ⟨_, rfl⟩
  have HB0 := hid_ hB0
  rw [hB0] at HM ⊢
  clear hB0
  go_enter Tryz.func67, Tryz.ntmps67
  go_wp2_with (go_at_call 91; (with_reducible refine HM.out.mono ?_); rintro e w3 ⟨v1, v2, rfl, -, hT, hb3⟩; obtain ⟨a2, c2, rfl, hL⟩ := hT.ownL.at_; have HQ := hid_ hT.inQ; have HL := hid_ hL; have Hb3 := hid_ hb3; have hB3 := HB0.out ▸ hb3.size; clear hT hL hb3)
  go_loopw [7, 8] (fun v i wr => ∃ k : Nat, k ≤ W.length ∧ i = .int .i64 k ∧ OwnLQ (fun b => B0 ≤ b) 23 wr B0 v (foldI (W.take k)) ∧ Below w3.heap.size w3 wr) (fun _ i _ => W.length - (intOf i).toNat)
  case atStart => exact ⟨0, Nat.zero_le _, rfl, OwnLQ.nil _ _ _ _, Below.refl _ _⟩
  case round =>
    obtain ⟨k, hk, rfl, hO, hb⟩ := hrel
    by_cases hlt : k < W.length
    · obtain ⟨b, off, a', n', c', rfl, hbl, hcell, hi⟩ := HL.out.cells k hlt
      have hcell' := cell_below hcell hb
      have HIn := hid_ (insertQ_calls _ _ a' n' c' _ wr hO (hi.below hb (Nat.le_refl _)) (by have := foldI_le (W.take k); rw [List.length_take] at this; omega) (fun b' off' hn ha => HQ.out _ k a' n' c' rfl hlt (by rw [inQ_add]; exact hcell) b' off' hn ha) (Nat.le_trans hB3 hb.size))
      have Hn := hid_ (foldI_snoc W hlt)
      have Hb := hid_ hb
      clear hcell hi hO hb
      go_wp2_with (go_at_call 51; (with_reducible refine HIn.out.mono ?_); rintro e w5 ⟨v5, rfl, hO5, hb5⟩)
      go_roundw
      case rel => exact ⟨k + 1, by omega, by go_num, by rw [Hn.out]; exact hO5, Hb.out.trans (hb5.mono Hb.out.size)⟩
      case measure => simp [intOf]; omega
    · obtain rfl : W.length = k := by omega
      rw [List.take_length] at hO
      have HO := hid_ hO
      have Hb := hid_ hb
      clear hO hb
      go_wp2
      go_ret
      exact ⟨_, rfl, by rw [Hr.out]; exact HO.out, Hb3.out.trans (Hb.out.mono hB3)⟩
theorem OwnLQ.ownL {Q : Nat → Prop} {E : TypeId} {w : World} {B : Nat} {v : Value} {L : List (List Int)} (h : OwnLQ Q E w B v L) : OwnL E w B v L := by
  obtain ⟨vs, h1, h2⟩ := h.has
  exact ⟨vs, h1, fun i hi => by obtain ⟨a, n, c, e, hI, hd⟩ := h2 i hi; exact ⟨a, n, c, e, hI, fun b off hn ha => (hd b off hn ha).1⟩⟩
end Go.Proofs.YtebbmhlkdfmmcaaGreat
namespace Go.Proofs.YtebbmhlkdfmmcaaGreat
open Go.RowKit Go.Proofs.Kv

/-! ### lists of which all words are in another -/
def partL (L M : List (List Int)) : Bool := decide (∀ x ∈ L, x ∈ M)
theorem take_mem {M : List (List Int)} {k : Nat} (hk : k < M.length) (x : List Int) : decide (x ∈ M.take (k + 1)) = (decide (x ∈ M.take k) || Same x (M.getD k [])) := by
  rw [take_snoc M [] k hk]
  simp [Same, Bool.decide_or]
set_option maxRecDepth 100000 in
set_option maxHeartbeats 2000000 in
theorem partL_calls (a : Option Addr) (n c : Nat) (L : List (List Int)) (a' : Option Addr) (n' c' : Nat) (M : List (List Int)) (w : World) (h : ListsAt w a n c L) (h' : ListsAt w a' n' c' M) :
    Calls Tryz.prog 15 #[.slice a n c, .slice a' n' c'] w fun e w' => e = .returned (.bool (partL L M)) ∧ ∃ q, w' = w.drewN q := by
  have hn : n ≤ 9223372036854775807 := Nat.le_trans h.le h.small
  have hn' : n' ≤ 9223372036854775807 := Nat.le_trans h'.le h'.small
  have H := hid_ h
  have H' := hid_ h'
  have Hl := hid_ h.len
  have Hl' := hid_ h'.len
  clear h h'
  go_enter Tryz.func15, Tryz.ntmps15
  go_wp2
  go_loopw [5] (fun i wr => ∃ k q : Nat, k ≤ n ∧ i = .int .i64 k ∧ wr = w.drewN q ∧ ∀ j, j < k → L.getD j [] ∈ M) (fun i _ => n - (intOf i).toNat)
  case atStart => exact ⟨0, 0, Nat.zero_le _, rfl, rfl, fun _ h => absurd h (by omega)⟩
  case round =>
    obtain ⟨k, q, hk, rfl, hq, hall⟩ := hrel
    have Hq := hid_ hq
    have Hall := hid_ hall
    clear hq hall
    by_cases hlt : k < n
    · have hkl : k < L.length := by rw [Hl.out]; exact hlt
      go_wp2
      obtain ⟨wo, rfl⟩ : ∃ wo, wo = wr := ⟨_, rfl⟩
      go_loopw [6, 7] (fun v i w2 => ∃ j p : Nat, j ≤ n' ∧ i = .int .i64 j ∧ v = .bool (decide (L.getD k [] ∈ M.take j)) ∧ w2 = w.drewN p) (fun _ i _ => n' - (intOf i).toNat)
      case atStart => exact ⟨0, q, Nat.zero_le _, rfl, by simp, Hq.out⟩
      case round =>
        obtain ⟨j, p, hj, rfl, rfl, hp⟩ := hrel
        have HL : Hid (ListsAt wr a n c L) := hid_ (by rw [hp]; exact H.out.drewN p)
        have HM : Hid (ListsAt wr a' n' c' M) := hid_ (by rw [hp]; exact H'.out.drewN p)
        have Hp := hid_ hp
        clear hp
        by_cases hlt2 : j < n'
        · have hjl : j < M.length := by rw [Hl'.out]; exact hlt2
          obtain ⟨b, off, a1, n1, c1, rfl, hb, hcell, hr⟩ := HL.out.cells k hlt
          obtain ⟨b2, off2, a2, n2, c2, rfl, hb2, hcell2, hr2⟩ := HM.out.cells j hlt2
          have Hs := hid_ (take_mem hjl (L.getD k []))
          have HS := hid_ (fun q => same_calls _ _ _ _ _ _ _ _ _ (hr.drewN q) (hr2.drewN q))
          generalize Same (L.getD k []) (M.getD j []) = z at *
          generalize decide (L.getD k [] ∈ M.take j) = y at *
          clear hr hr2
          cases y with
          | true =>
            go_wp2_with fail
            go_quiet ((go_at_call 25; exact quiet_more (HS.out _)))
            go_wp2
            go_roundw
            case rel => exact ⟨j + 1, _, by omega, by go_num, by rw [Hs.out]; rfl, by rw [Hp.out, drewN2]⟩
            case measure => simp [intOf]; omega
          | false =>
            go_wp2_with fail
            go_quiet ((go_at_call 25; exact quiet_more (HS.out _)))
            go_wp2
            go_roundw
            case rel => exact ⟨j + 1, _, by omega, by go_num, by rw [Hs.out]; simp, by rw [Hp.out, drewN2]⟩
            case measure => simp [intOf]; omega
        · obtain rfl : n' = j := by omega
          have Hin : Hid (decide (L.getD k [] ∈ M.take n') = decide (L.getD k [] ∈ M)) := hid_ (by rw [List.take_of_length_le (by rw [Hl'.out]; exact Nat.le_refl _)])
          rw [Hin.out]
          by_cases hm : L.getD k [] ∈ M
          · have Hn : Hid (∀ j, j < k + 1 → L.getD j [] ∈ M) := hid_ (fun j hj => by
              by_cases e : j = k
              · subst e; exact hm
              · exact Hall.out j (by omega))
            rw [decide_eq_true hm]
            clear hm
            go_wp2
            go_roundw
            case rel => exact ⟨k + 1, _, by omega, by go_num, Hp.out, Hn.out⟩
            case measure => simp [intOf]; omega
          · have Hf : Hid (partL L M = false) := hid_ (decide_eq_false fun h => hm (h _ (getD_mem' hkl)))
            rw [decide_eq_false hm]
            clear hm
            go_wp2
            go_ret
            exact ⟨by rw [Hf.out] <;> rfl, _, Hp.out⟩
    · obtain rfl : n = k := by omega
      have Hf : Hid (partL L M = true) := hid_ (decide_eq_true fun x hx => by
        obtain ⟨i, hi, rfl⟩ := List.mem_iff_getElem.1 hx
        have := Hall.out i (by rw [← Hl.out]; exact hi)
        rwa [show L.getD i [] = L[i] by simp [List.getD, List.getElem?_eq_getElem hi]] at this)
      go_wp2
      go_ret
      exact ⟨by rw [Hf.out] <;> rfl, _, Hq.out⟩
end Go.Proofs.YtebbmhlkdfmmcaaGreat
