import Derived.Test.YtahknodnjjmagaaZdj
import Derived.OneCell
namespace Go.Proofs.Ytahknodnjjmagaa
open Go.RowKit Go.Proofs.Kv Go

/-! ### entries whose row and specs lie in blocks of a kind F -/
def SpecF (F : Nat → Prop) (w : World) (row : Option Nat) (u : Value) (l : List Int) : Prop := ∃ a n c, u = .slice a n c ∧ IntsAt w a n c l ∧ ∀ b off, 0 < n → a = some ⟨b, off, none⟩ → F b ∧ row ≠ some b
theorem SpecF.next {F : Nat → Prop} {w w' : World} {row : Option Nat} {u : Value} {l : List Int} (h : SpecF F w row u l) (hb : Below w.heap.size w w') : SpecF F w' row u l := by
  obtain ⟨a, n, c, e, hi, hd⟩ := h
  exact ⟨a, n, c, e, hi.below hb (Nat.le_refl _), hd⟩
theorem SpecF.after {F : Nat → Prop} {w w' : World} {row row' : Option Nat} {u : Value} {l : List Int} (h : SpecF F w row u l) (hg : w.grownBy w' row) (hat : row' = row ∨ ∃ k, row' = some k ∧ w.heap.size ≤ k) : SpecF F w' row' u l := by
  obtain ⟨a, n, c, e, hi, hd⟩ := h
  refine ⟨a, n, c, e, ints_kept hi hg fun b off hn ha => (hd b off hn ha).2, fun b off hn ha => ⟨(hd b off hn ha).1, ?_⟩⟩
  rcases hat with rfl | ⟨k, rfl, hk⟩
  · exact (hd b off hn ha).2
  · intro e; injection e with e
    have := ints_lt hi hn ha
    omega
theorem SpecF.store {F : Nat → Prop} {w : World} {row : Option Nat} {u : Value} {l : List Int} (h : SpecF F w row u l) {p : Addr} (hp : ¬ F p.block) (y : Value) : SpecF F (w.setCell p y) row u l := by
  obtain ⟨a, n, c, e, hi, hd⟩ := h
  refine ⟨a, n, c, e, ⟨hi.len, hi.le, hi.small, fun j hj => ?_⟩, hd⟩
  obtain ⟨b, off, ha, hb, hc⟩ := hi.cells j hj
  have hF := (hd b off (by omega) ha).1
  refine ⟨b, off, ha, by simpa using hb, ?_⟩
  rw [World.cell?_setCell_other _ _ _ _ (by intro e; rw [e] at hp; exact hp hF)]
  exact hc
theorem SpecV.toF {F : Nat → Prop} {w : World} {B : Nat} {row : Option Nat} {u : Value} {l : List Int} (h : SpecV w B row u l) (hF : ∀ b, B ≤ b → b < w.heap.size → F b) : SpecF F w row u l := by
  obtain ⟨a, n, c, e, hi, hd⟩ := h
  exact ⟨a, n, c, e, hi, fun b off hn ha => ⟨hF b (hd b off hn ha).1 (ints_lt hi hn ha), (hd b off hn ha).2⟩⟩
theorem SpecF.toV {F : Nat → Prop} {w : World} {B : Nat} {row : Option Nat} {u : Value} {l : List Int} (h : SpecF F w row u l) (hF : ∀ b, F b → B ≤ b) : SpecV w B row u l := by
  obtain ⟨a, n, c, e, hi, hd⟩ := h
  exact ⟨a, n, c, e, hi, fun b off hn ha => ⟨hF b (hd b off hn ha).1, (hd b off hn ha).2⟩⟩
def OwnF (F : Nat → Prop) (w : World) (v : Value) (L : List Ent) : Prop :=
  ∃ vs : List Ec, vs.length = L.length ∧ w.ownsRow 0 56 2 v L.length (vs.flatMap encE) ∧ (∀ k, v.ownBlock = some k → F k) ∧ ∀ i x, vs[i]? = some x → SpecF F w v.ownBlock x.1 (L.getD i E0).spec ∧ x.2 = (L.getD i E0).form
theorem OwnE.toF {F : Nat → Prop} {w : World} {B : Nat} {v : Value} {L : List Ent} (h : OwnE w B v L) (hF : ∀ b, B ≤ b → b < w.heap.size → F b) : OwnF F w v L := by
  have hlt := h.lt
  obtain ⟨vs, h0, h1, h2⟩ := h
  exact ⟨vs, h0, own_base h1 (Nat.zero_le _), fun k hk => hF k (hlt k hk).1 (hlt k hk).2, fun i x hx => ⟨(h2 i x hx).s.toF hF, (h2 i x hx).f⟩⟩
theorem OwnF.toE {F : Nat → Prop} {w : World} {B : Nat} {v : Value} {L : List Ent} (h : OwnF F w v L) (hF : ∀ b, F b → B ≤ b) : OwnE w B v L := by
  obtain ⟨vs, h0, h1, hr, h2⟩ := h
  refine ⟨vs, h0, ⟨h1.1, h1.2.imp id ?_⟩, fun i x hx => ⟨(h2 i x hx).1.toV hF, (h2 i x hx).2⟩⟩
  rintro ⟨g, cap, cur, rfl, -, h3⟩
  exact ⟨g, cap, cur, rfl, hF g (hr g rfl), h3⟩
theorem OwnF.next {F : Nat → Prop} {w w' : World} {v : Value} {L : List Ent} (h : OwnF F w v L) (hb : Below w.heap.size w w') : OwnF F w' v L := by
  obtain ⟨vs, h0, h1, hr, h2⟩ := h
  exact ⟨vs, h0, own_below h1 hb (Nat.le_refl _), hr, fun i x hx => ⟨(h2 i x hx).1.next hb, (h2 i x hx).2⟩⟩
theorem OwnF.store {F : Nat → Prop} {w : World} {v : Value} {L : List Ent} (h : OwnF F w v L) {p : Addr} (hp : ¬ F p.block) (y : Value) : OwnF F (w.setCell p y) v L := by
  obtain ⟨vs, h0, h1, hr, h2⟩ := h
  exact ⟨vs, h0, ownsRow_setCell_other h1 (fun e => hp (hr _ e)) y, hr, fun i x hx => ⟨(h2 i x hx).1.store hp y, (h2 i x hx).2⟩⟩
theorem OwnF.lt {F : Nat → Prop} {w : World} {v : Value} {L : List Ent} (h : OwnF F w v L) : ∀ k, v.ownBlock = some k → F k ∧ k < w.heap.size := by
  obtain ⟨vs, _, h1, hr, _⟩ := h
  exact fun k hk => ⟨hr k hk, (h1.lt k hk).2⟩
/-- append of an entry onto an own row of a kind, as one step of a region that draws its order -/
theorem step_append_entF {F : Nat → Prop} {ops : Array Oper} {o : Oper} {a : Act} {w : World} {K : Act → World → Prop} {Q : Exit → Act → World → Prop} {E' : Prop} (hg : o.guard = none) (s x : Operand)
    (ho : o.op = .call { callee := .builtin .append, args := #[s, x], argTypes := #[23, 23] }) (v : Value) (L : List Ent) (hs : a.eval s = v) (hown : OwnF F w v L)
    (A : Addr) (c : Nat) (y : Ec) (E : Ent) (hx : a.eval x = .slice (some A) 1 c) (hy : ∀ j u, (encE y)[j]? = some u → w.cell? (A.add j) = some u) (hE : SpecF F w v.ownBlock y.1 E.spec) (hf : y.2 = E.form)
    (hsm : L.length + 1 ≤ 100000) (hnew : F w.heap.size)
    (hK : ∀ v' w', OwnF F w' v' (L ++ [E]) → w.grownBy w' v.ownBlock → (v'.ownBlock = v.ownBlock ∨ v'.ownBlock = some w.heap.size) → K (a.put o.dst v') w') :
    if Region.wanted o (yielded ops a.tmps) = true then Oper.wp Try.prog o a w K Q else E' := by
  obtain ⟨i0, hi0, hz0, hz1, hz2⟩ := info_parts Try.infoEntryC
  have hw : Region.wanted o (yielded ops a.tmps) = true := by simp [Region.wanted, hg]
  rw [if_pos hw]
  obtain ⟨vs, h0, h1, hr, h2⟩ := hown
  obtain ⟨v', w', hrun, k1, k2, _, k4⟩ := run_append_own_at (P := Try.prog) w 0 23 o.type 56 i0 _ 2 32 Try.underlying23 hi0 hz0 hz1 hz2 rfl (by omega) v L.length _ h1 A 1 c (encE y) rfl hy
    (fun u hu => by
      simp [encE] at hu
      rcases hu with rfl | rfl
      · obtain ⟨a, n, c, e, _, _⟩ := hE; rw [e]; rfl
      · rfl) (by unfold maxLen; omega) (by omega) (Nat.zero_le _)
  unfold Oper.wp
  simp [execOp, ho, resolve, invoke, builtin, hs, hx, hrun, Result.andThen]
  have hat' : v'.ownBlock = v.ownBlock ∨ ∃ k, v'.ownBlock = some k ∧ w.heap.size ≤ k := k4.imp id fun e => ⟨_, e, Nat.le_refl _⟩
  refine hK _ _ ⟨vs ++ [y], by simp [h0], ?_, fun k hk => ?_, fun i x' hx' => ?_⟩ k2 k4
  · rw [List.flatMap_append, List.length_append]
    simpa using k1
  · rcases k4 with k4 | k4
    · exact hr k (by rw [← k4]; exact hk)
    · rw [k4] at hk; injection hk with hk; rw [← hk]; exact hnew
  · by_cases hi : i < vs.length
    · rw [List.getElem?_append_left hi] at hx'
      rw [show (L ++ [E]).getD i E0 = L.getD i E0 by simp only [List.getD]; rw [List.getElem?_append_left (by omega)]]
      exact ⟨(h2 i x' hx').1.after k2 hat', (h2 i x' hx').2⟩
    · obtain rfl : i = vs.length := by
        rcases Nat.lt_or_ge i (vs.length + 1) with h | h
        · omega
        · rw [List.getElem?_eq_none (by simp; omega)] at hx'; cases hx'
      rw [List.getElem?_append_right (Nat.le_refl _), Nat.sub_self] at hx'
      simp at hx'; subst hx'
      rw [show (L ++ [E]).getD vs.length E0 = E by rw [h0]; simp [List.getD]]
      exact ⟨hE.after k2 hat', hf⟩
end Go.Proofs.Ytahknodnjjmagaa
