import Derived.Test.YtoopgmoopmbfnaaSndU
import Derived.Laws.OwnMore
namespace Go.Proofs.Kv
open Go.RowKit
section
variable {P : Program} (w : World)
/-- append of one value of one cell, which lies in a new block; where the row lies then -/
theorem wpList_push_val2 {ops : Array Oper} {rest : List Oper} {o : Oper} {a : Act} {Q : Exit → Act → World → Prop} (hgd : o.guard = none) (s x : Operand) (t : TypeId)
    (ho : o.op = .call { callee := .builtin .append, args := #[s, x], argTypes := #[t, t] })
    (base : Nat) (e : TypeId) (i : TypeInfo) {z : Value} {by_ : Nat} (ht : P.underlying t = some (.slice e)) (hi : P.info? e = some i) (hz : i.zero = some z) (hzc : z.cells.size = 1) (hsize : i.size = 1) (hby : i.bytes = by_) (hb0 : by_ ≤ 24)
    (v : Value) (n : Nat) (xs : List Value) (hs : a.eval s = v) (hown : w.ownsRow base e 1 v n xs)
    (u : Value) (hu : u.oneCell' = true) (E : TypeId) (hx : a.eval x = .slice (some ⟨w.heap.size, 0, none⟩) 1 1) (hsm : n + 1 ≤ 1000000) (hbase : base ≤ w.heap.size)
    (h : ∀ v' w', w'.ownsRow base e 1 v' (n + 1) (xs ++ [u]) → (w.alloc (.cells #[u] E)).grownBy w' v.ownBlock → (v'.ownBlock = v.ownBlock ∨ v'.ownBlock = some (w.heap.size + 1)) → wpList P ops Q rest (a.put o.dst v') w') :
    wpList P ops Q (o :: rest) a (w.alloc (.cells #[u] E)) := by
  have hm : (n + 1) * by_ ≤ 1000000 * 24 := Nat.mul_le_mul hsm hb0
  have hcells : ∀ j u', [u][j]? = some u' → (w.alloc (.cells #[u] E)).cell? ((⟨w.heap.size, 0, none⟩ : Addr).add j) = some u' := by
    intro j u' hu'
    have hj : j = 0 := by
      rcases Nat.eq_zero_or_pos j with h | h
      · exact h
      · rw [List.getElem?_eq_none (by simp; omega)] at hu'; cases hu'
    subst hj
    simp at hu'; subst hu'
    show (w.alloc _).cell? ⟨w.heap.size, 0, none⟩ = _
    rw [World.cell?_alloc_at _ _ _ _ (by rfl)]; rfl
  refine wpList_plain hgd fun K hK => ?_
  obtain ⟨v', w', hrun, h2, h3, _, h5⟩ := run_append_own_at (P := P) (w.alloc (.cells #[u] E)) base t o.type e i z 1 by_ ht hi hz hsize hby hzc (by omega) v n xs (hown.alloc _) ⟨w.heap.size, 0, none⟩ 1 1 [u] (by simp) hcells
    (by intro u' hu'; rw [List.mem_singleton] at hu'; subst hu'; exact hu) (by unfold maxLen; omega) (by omega) (le_alloc hbase)
  unfold Oper.wp execOp
  simp only [ho, resolve, invoke, builtin, Sem.run_bind, Sem.run_pure, Result.andThen_ok, List.map_toArray, List.map_cons, List.map_nil, hs, hx, hrun]
  exact hK _ _ (h v' w' h2 h3 (by simpa using h5))
end
theorem below_new {w w1 : World} {o : Obj} {n c : Nat} (hg : (w.alloc o).grownBy w1 (Value.ownBlock (.slice (some ⟨w.heap.size, 0, none⟩) n c))) : Below w.heap.size w w1 :=
  ((Below.refl _ w).alloc (Nat.le_refl _) o).grown hg (by simp) fun k hk => by
    have : some w.heap.size = some k := hk
    injection this with this
    omega
/-- a list of lists that the call owns, whose last list is an own row too (in block g) -/
def OwnR (E E1 : TypeId) (w : World) (B : Nat) (v : Value) (L : List (List Int)) (g : Nat) (r : List Int) : Prop :=
  ∃ vs n c, w.ownsRow B E 1 v (L.length + 1) (vs ++ [.slice (some ⟨g, 0, none⟩) n c]) ∧ vs.length = L.length ∧
    (∀ i, i < L.length → ∃ a n c, vs[i]? = some (.slice a n c) ∧ IntsAt w a n c (L.getD i []) ∧ ∀ b off, 0 < n → a = some ⟨b, off, none⟩ → v.ownBlock ≠ some b ∧ b ≠ g) ∧
    w.ownsRow B E1 1 (.slice (some ⟨g, 0, none⟩) n c) n (r.map (Value.int .i64)) ∧ v.ownBlock ≠ some g
theorem OwnR.ownL {E E1 : TypeId} {w : World} {B g : Nat} {v : Value} {L : List (List Int)} {r : List Int} (h : OwnR E E1 w B v L g r) : OwnL E w B v (L ++ [r]) := by
  obtain ⟨vs, n, c, h1, h2, h3, h4, h5⟩ := h
  refine ⟨_, by simpa using h1, fun i hi => ?_⟩
  rw [List.length_append, List.length_singleton] at hi
  rw [getD_app]
  by_cases hl : i < L.length
  · obtain ⟨a, n', c', e, hI, hd⟩ := h3 i hl
    refine ⟨a, n', c', by rw [List.getElem?_append_left (by omega)]; exact e, by rw [if_pos hl]; exact hI, fun b off hn ha => (hd b off hn ha).1⟩
  · obtain rfl : i = L.length := by omega
    obtain ⟨a, c', e, hI⟩ := IntsAt.own h4
    injection e with e1 e2 e3
    subst e1; subst e3
    refine ⟨_, n, c, by rw [List.getElem?_append_right (by omega), h2, Nat.sub_self]; rfl, by rw [if_neg hl, Nat.sub_self]; exact hI, fun b off hn ha => ?_⟩
    injection ha with ha; injection ha with ha _
    subst ha; exact h5
/-- a new own row put behind -/
theorem ownR_push {E E1 : TypeId} {w w1 w2 : World} {B : Nat} {v v1 v2 : Value} {L : List (List Int)} {vs : List Value} {r : List Int} {m : Nat} (hB : B ≤ w.heap.size)
    (hvl : vs.length = L.length) (hel : ∀ i, i < L.length → ∃ a n c, vs[i]? = some (.slice a n c) ∧ IntsAt w a n c (L.getD i []) ∧ ∀ b off, 0 < n → a = some ⟨b, off, none⟩ → v.ownBlock ≠ some b)
    (hvb : ∀ k, v.ownBlock = some k → k < w.heap.size) (hb1 : Below w.heap.size w w1) (h0 : 0 < m) (hown1 : w1.ownsRow w.heap.size E1 1 v1 m (r.map (Value.int .i64)))
    {E' : TypeId} (hown2 : w2.ownsRow B E 1 v2 (L.length + 1) (vs ++ [v1])) (hg2 : (w1.alloc (.cells #[v1] E')).grownBy w2 v.ownBlock) (hat : v2.ownBlock = v.ownBlock ∨ v2.ownBlock = some (w1.heap.size + 1)) :
    ∃ g, OwnR E E1 w2 B v2 L g r := by
  obtain ⟨g, cap, rfl, k1, k2, k3, k4⟩ := own_form hown1 h0
  have hv2g : v2.ownBlock ≠ some g := by
    intro e
    rcases hat with h | h
    · have := hvb g (by rw [← h]; exact e); omega
    · rw [e] at h; injection h with h; omega
  have hvg : v.ownBlock ≠ some g := fun e => by have := hvb g e; omega
  refine ⟨g, vs, m, cap, hown2, hvl, fun i hi => ?_, ?_, hv2g⟩
  · obtain ⟨a, n, c, e, hI, hd⟩ := hel i hi
    have hI1 := (hI.below hb1 (Nat.le_refl _)).below ((Below.refl w1.heap.size w1).alloc (Nat.le_refl _) (.cells #[.slice (some ⟨g, 0, none⟩) m cap] E')) (Nat.le_refl _)
    refine ⟨a, n, c, e, ?_, fun b off hn ha => ?_⟩
    · rcases Nat.eq_zero_or_pos n with hz | hn
      · subst hz
        exact ⟨hI.len, hI.le, hI.small, fun j hj => absurd hj (by omega)⟩
      · refine hI1.keep fun b off ha => ?_
        obtain ⟨b', off', ha', hlt, _⟩ := hI1.cells 0 hn
        rw [ha] at ha'; injection ha' with ha'; injection ha' with ha' _
        subst ha'
        exact hg2.block _ hlt fun e => hd _ _ hn ha e.symm
    · obtain ⟨b', off', ha', hlt, _⟩ := hI.cells 0 hn
      rw [ha] at ha'; injection ha' with ha'; injection ha' with ha' _
      subst ha'
      refine ⟨fun e => ?_, by omega⟩
      rcases hat with h | h
      · exact hd _ _ hn ha (by rw [← h]; exact e)
      · rw [e] at h; injection h with h
        have := hb1.size; omega
  · exact (own_base hown1 hB).alloc _ |>.kept hg2 (.inr fun e => hvg (by rw [← e]; rfl))
/-- the last row made longer and stored again -/
theorem ownR_longer {E E1 : TypeId} {w w1 : World} {B g gv nv cv n c : Nat} {v' : Value} {L : List (List Int)} {s : List Int} {vs : List Value}
    (hv : w.ownsRow B E 1 (.slice (some ⟨gv, 0, none⟩) nv cv) (L.length + 1) (vs ++ [.slice (some ⟨g, 0, none⟩) n c])) (hvl : vs.length = L.length)
    (hel : ∀ i, i < L.length → ∃ a n c, vs[i]? = some (.slice a n c) ∧ IntsAt w a n c (L.getD i []) ∧ ∀ b off, 0 < n → a = some ⟨b, off, none⟩ → gv ≠ b ∧ b ≠ g) (hgv : gv ≠ g)
    {m : Nat} (hown1 : w1.ownsRow B E1 1 v' m (s.map (Value.int .i64))) (hg1 : w.grownBy w1 (some g)) (hat : v'.ownBlock = some g ∨ v'.ownBlock = some w.heap.size) (hm : 0 < m) (hgw : gv < w.heap.size) :
    OwnL E (w1.setCell ⟨gv, L.length, none⟩ v') B (.slice (some ⟨gv, 0, none⟩) nv cv) (L ++ [s]) := by
  have hk := hv.kept hg1 (.inr (by simp [Value.ownBlock]; exact hgv))
  have hnv : nv = L.length + 1 := by
    rcases hk.2 with ⟨e, _⟩ | ⟨_, _, _, e, _⟩
    · simp at e
    · simp at e; exact e.2.1
  subst hnv
  obtain ⟨h1, h2⟩ := hk.stored L.length v'
  have hset : (vs ++ [Value.slice (some ⟨g, 0, none⟩) n c]).set L.length v' = vs ++ [v'] := by
    rw [List.set_append_right _ _ (by omega), hvl, Nat.sub_self]; rfl
  rw [hset] at h1
  refine ⟨_, by simpa using h1, fun i hi => ?_⟩
  rw [List.length_append, List.length_singleton] at hi
  rw [getD_app]
  by_cases hl : i < L.length
  · obtain ⟨a, n', c', e, hI, hd⟩ := hel i hl
    refine ⟨a, n', c', by rw [List.getElem?_append_left (by omega)]; exact e, ?_, fun b off hn ha => ?_⟩
    · rw [if_pos hl]
      rcases Nat.eq_zero_or_pos n' with hz | hn
      · subst hz
        exact ⟨hI.len, hI.le, hI.small, fun j hj => absurd hj (by omega)⟩
      · refine hI.keep fun b off ha => ?_
        obtain ⟨b', off', ha', hlt, _⟩ := hI.cells 0 hn
        rw [ha] at ha'; injection ha' with ha'; injection ha' with ha' _
        subst ha'
        obtain ⟨d1, d2⟩ := hd _ _ hn ha
        rw [Below.heap_setCell _ _ _ _ (Ne.symm d1)]
        exact hg1.block _ hlt (by simp; exact d2)
    · have := (hd b off hn ha).1
      simp [Value.ownBlock]; exact this
  · obtain rfl : i = L.length := by omega
    obtain ⟨g', cap, rfl, k1, k2, k3, k4⟩ := own_form hown1 hm
    have hgg : gv ≠ g' := by
      rcases hat with h | h
      · simp [Value.ownBlock] at h; subst h; exact hgv
      · simp [Value.ownBlock] at h; omega
    obtain ⟨a, c', e, hI⟩ := IntsAt.own hown1
    injection e with e1 e2 e3
    subst e1; subst e3
    refine ⟨_, m, cap, by rw [List.getElem?_append_right (by omega), hvl, Nat.sub_self]; rfl, ?_, fun b off hn ha => ?_⟩
    · rw [if_neg hl, Nat.sub_self]
      refine hI.keep fun b off ha => ?_
      injection ha with ha; injection ha with ha _
      subst ha
      exact Below.heap_setCell _ _ _ _ (Ne.symm hgg)
    · injection ha with ha; injection ha with ha _
      subst ha
      simp [Value.ownBlock]; exact hgg
end Go.Proofs.Kv
