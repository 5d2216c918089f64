import Derived.Test.YtoopgmoopmbfnaaKitB
namespace Go.Proofs.Kv
open Go.RowKit
section
variable {P : Program} (w : World)
/-- append of one value of one cell, which lies in a new block -/
theorem wpList_push_val {ops : Array Oper} {rest : List Oper} {o : Oper} {a : Act} {Q : Exit → Act → World → Prop} (hgd : o.guard = none) (s x : Operand) (t : TypeId)
    (ho : o.op = .call { callee := .builtin .append, args := #[s, x], argTypes := #[t, t] })
    (base : Nat) (e : TypeId) (i : TypeInfo) {z : Value} {by_ : Nat} (ht : P.underlying t = some (.slice e)) (hi : P.info? e = some i) (hz : i.zero = some z) (hzc : z.cells.size = 1) (hsize : i.size = 1) (hby : i.bytes = by_) (hb0 : by_ ≤ 24)
    (v : Value) (n : Nat) (xs : List Value) (hs : a.eval s = v) (hown : w.ownsRow base e 1 v n xs)
    (u : Value) (hu : u.oneCell' = true) (E : TypeId) (hx : a.eval x = .slice (some ⟨w.heap.size, 0, none⟩) 1 1) (hsm : n + 1 ≤ 1000000) (hbase : base ≤ w.heap.size)
    (h : ∀ v' w', w'.ownsRow base e 1 v' (n + 1) (xs ++ [u]) → (w.alloc (.cells #[u] E)).grownBy w' v.ownBlock → wpList P ops Q rest (a.put o.dst v') w') :
    wpList P ops Q (o :: rest) a (w.alloc (.cells #[u] E)) := by
  have hm : (n + 1) * by_ ≤ 1000000 * 24 := Nat.mul_le_mul hsm hb0
  refine wpList_append_own _ hgd s x t ho base e i z 1 by_ ht hi hz hsize hby hzc (by omega) v n xs hs (hown.alloc _) ⟨w.heap.size, 0, none⟩ 1 1 [u] hx rfl ?_
    (by intro u' hu'; rw [List.mem_singleton] at hu'; subst hu'; exact hu) (by unfold maxLen; omega) (by omega) (le_alloc hbase) fun v' w' h1 h2 _ => h v' w' h1 h2
  intro j u' hu'
  have hj : j = 0 := by
    rcases Nat.eq_zero_or_pos j with h | h
    · exact h
    · rw [List.getElem?_eq_none (by simp; omega)] at hu'; cases hu'
  subst hj
  simp at hu'; subst hu'
  show (w.alloc _).cell? ⟨w.heap.size, 0, none⟩ = _
  rw [World.cell?_alloc_at _ _ _ _ (by rfl)]; rfl
end

/-- parts of a list, each up to the next one of the ends -/
def cutF (l : List Int) : Nat → List Nat → List (List Int)
  | _, [] => []
  | f, e :: N => (l.take e).drop f :: cutF l e N
/-- the slices of a row that hold these parts -/
def cutV (b off : Nat) : Nat → List Nat → List Value
  | _, [] => []
  | f, e :: N => .slice (some ⟨b, off + f, none⟩) (e - f) (e - f) :: cutV b off e N
def lastF (f : Nat) (N : List Nat) : Nat := N.getLastD f
/-- the ends come one behind the other -/
def Asc (m : Nat) : Nat → List Nat → Prop
  | _, [] => True
  | f, e :: N => f < e ∧ e ≤ m ∧ Asc m e N
theorem cutF_len (l : List Int) : ∀ (f : Nat) (N : List Nat), (cutF l f N).length = N.length
  | _, [] => rfl
  | _, e :: N => by rw [cutF, List.length_cons, cutF_len l e N, List.length_cons]
theorem cutV_len (b off : Nat) : ∀ (f : Nat) (N : List Nat), (cutV b off f N).length = N.length
  | _, [] => rfl
  | _, e :: N => by rw [cutV, List.length_cons, cutV_len b off e N, List.length_cons]
theorem cutV_snoc (b off : Nat) : ∀ (f : Nat) (N : List Nat) (e : Nat), cutV b off f (N ++ [e]) = cutV b off f N ++ [.slice (some ⟨b, off + lastF f N, none⟩) (e - lastF f N) (e - lastF f N)]
  | f, [], e => rfl
  | f, x :: N, e => by
    rw [List.cons_append, cutV, cutV, cutV_snoc b off x N e, List.cons_append]
    have : lastF f (x :: N) = lastF x N := by
      unfold lastF
      cases N with
      | nil => rfl
      | cons y N => rw [List.getLastD_cons, List.getLastD_cons]
    rw [this]
theorem lastF_snoc (f : Nat) (N : List Nat) (e : Nat) : lastF f (N ++ [e]) = e := by
  unfold lastF; rw [List.getLastD_eq_getLast?]; simp
theorem asc_at {m : Nat} : ∀ {f : Nat} {N : List Nat}, Asc m f N → ∀ k, k < N.length → lastF f (N.take k) < N.getD k 0 ∧ N.getD k 0 ≤ m
  | f, e :: N, h, 0, _ => ⟨h.1, h.2.1⟩
  | f, e :: N, h, k + 1, hk => by
    have := asc_at h.2.2 k (by simpa using hk)
    have hl : lastF f ((e :: N).take (k + 1)) = lastF e (N.take k) := by
      rw [List.take_succ_cons]
      unfold lastF
      cases N.take k with
      | nil => rfl
      | cons y N => rw [List.getLastD_cons, List.getLastD_cons]
    rw [hl]
    exact this
theorem cutV_at {w : World} {b off n c : Nat} {l : List Int} (h : IntsAt w (some ⟨b, off, none⟩) n c l) : ∀ {f : Nat} {N : List Nat}, Asc n f N → ∀ i, i < N.length →
    ∃ o m, (cutV b off f N)[i]? = some (.slice (some ⟨b, o, none⟩) m m) ∧ IntsAt w (some ⟨b, o, none⟩) m m ((cutF l f N).getD i []) ∧ 0 < m ∧ off ≤ o ∧ o + m ≤ off + n
  | f, e :: N, ha, 0, _ => by
    have hl := h.len
    obtain ⟨h1, h2, _⟩ := ha
    refine ⟨off + f, e - f, rfl, ⟨?_, Nat.le_refl _, ?_, fun i hi => ?_⟩, by omega, by omega, by omega⟩
    · show ((l.take e).drop f).length = _
      rw [List.length_drop, List.length_take]; omega
    · have := h.le; have := h.small; omega
    · obtain ⟨b', off', e1, hb, hc⟩ := h.cells (f + i) (by omega)
      injection e1 with e1; injection e1 with q1 q2
      subst q1; subst q2
      refine ⟨b, off + f, rfl, hb, ?_⟩
      rw [Nat.add_assoc, hc]
      show _ = some (Value.int .i64 (((l.take e).drop f).getD i 0))
      simp [List.getD, show f + i < e by omega]
  | f, e :: N, ha, i + 1, hi => by
    obtain ⟨o, m, h1, h2, h3⟩ := cutV_at h ha.2.2 i (by simpa using hi)
    exact ⟨o, m, by rw [cutV, List.getElem?_cons_succ]; exact h1, by rw [cutF]; simpa [List.getD] using h2, h3⟩
/-- a row of such slices reads as the parts -/
theorem ownL_cut {E : TypeId} {w : World} {B b off n c : Nat} {v : Value} {l : List Int} {N : List Nat} (hown : w.ownsRow B E 1 v N.length (cutV b off 0 N)) (h : IntsAt w (some ⟨b, off, none⟩) n c l) (ha : Asc n 0 N) (hne : v.ownBlock ≠ some b) : OwnL E w B v (cutF l 0 N) := by
  refine ⟨cutV b off 0 N, by rw [cutF_len]; exact hown, fun i hi => ?_⟩
  rw [cutF_len] at hi
  obtain ⟨o, m, h1, h2, _⟩ := cutV_at h ha i hi
  exact ⟨_, _, _, h1, h2, fun b' off' _ e => by injection e with e; injection e with q1; rw [← q1]; exact hne⟩
end Go.Proofs.Kv
