import Derived.Test.YtdnlpikfibdjoaaZ1
import Derived.Test.YtdnlpikfibdjoaaZ4
namespace Go.Proofs.Ytdnlpikfibdjoaa
open Go.RowKit Go.Proofs.Kv Go

/-! ### entries in new memory -/
theorem Try.infoEntryC : (Try.prog.info? 39).map (fun i => (i.zero, i.size, i.bytes)) = some (some (.agg #[.slice none 0 0, .int .i64 0]), 2, 32) := by kernel_rfl
/-- an entry as cells -/
abbrev Ec : Type := Value × Int
def encE (x : Ec) : List Value := [x.1, .int .i64 x.2]
theorem encE_len : ∀ (l : List Ec), (l.flatMap encE).length = l.length * 2
  | [] => rfl
  | x :: l => by simp only [List.flatMap_cons, List.length_append, encE_len l, List.length_cons]; simp [encE]; omega
theorem encE_at : ∀ (l : List Ec) (i : Nat) (x : Ec), l[i]? = some x → (l.flatMap encE)[i * 2]? = some x.1 ∧ (l.flatMap encE)[i * 2 + 1]? = some (.int .i64 x.2)
  | [], i, x, h => by simp at h
  | y :: l, 0, x, h => by simp at h; subst h; exact ⟨rfl, rfl⟩
  | y :: l, i + 1, x, h => by
    have ih := encE_at l i x (by simpa using h)
    rw [List.flatMap_cons]
    have e2 : (encE y).length = 2 := rfl
    refine ⟨?_, ?_⟩
    · rw [List.getElem?_append_right (by rw [e2]; omega), e2, show (i + 1) * 2 - 2 = i * 2 by omega]; exact ih.1
    · rw [List.getElem?_append_right (by rw [e2]; omega), e2, show (i + 1) * 2 + 1 - 2 = i * 2 + 1 by omega]; exact ih.2
/-- numbers in cells that may be written -/
structure IntsS (w : World) (a : Option Addr) (n c : Nat) (l : List Int) : Prop where
  i : IntsAt w a n c l
  soft : ∀ b off, a = some ⟨b, off, none⟩ → ∀ j, j < n → w.frozen? ⟨b, off + j, none⟩ = false
theorem ints_lt {w : World} {a : Option Addr} {n c : Nat} {l : List Int} (h : IntsAt w a n c l) {b off : Nat} (hn : 0 < n) (ha : a = some ⟨b, off, none⟩) : b < w.heap.size := by
  obtain ⟨b', off', ha', hb, _⟩ := h.cells 0 hn
  rw [ha] at ha'; injection ha' with ha'; injection ha' with e1 e2; omega
theorem IntsS.below {w w' : World} {B : Nat} {a : Option Addr} {n c : Nat} {l : List Int} (h : IntsS w a n c l) (hb : Below B w w') (hB : w.heap.size ≤ B) : IntsS w' a n c l :=
  ⟨h.i.below hb hB, fun b off ha j hj => (hb.frozen (p := ⟨b, off + j, none⟩) (Nat.lt_of_lt_of_le (ints_lt h.i (by omega) ha) hB)).trans (h.soft b off ha j hj)⟩
theorem own_soft {w : World} {B E m n c : Nat} {a : Option Addr} {xs : List Value} (h : w.ownsRow B E 1 (.slice a n c) m xs) : ∀ b off, a = some ⟨b, off, none⟩ → ∀ j, j < n → w.frozen? ⟨b, off + j, none⟩ = false := by
  intro b off ha j _
  rcases h.2 with ⟨e, _⟩ | ⟨g, cap, cur, e, _, hg, _⟩
  · injection e with e; rw [e] at ha; cases ha
  · injection e with e
    rw [e] at ha; injection ha with ha; injection ha with e1 e2
    rw [← e1]; exact row_free hg _
theorem IntsS.other {w : World} {a : Option Addr} {n c : Nat} {l : List Int} (h : IntsS w a n c l) {p : Addr} (y : Value) (hp : ∀ b off j, a = some ⟨b, off, none⟩ → j < n → ¬ (⟨b, off + j, none⟩ : Addr) = p) : IntsS (w.setCell p y) a n c l :=
  ⟨⟨h.i.len, h.i.le, h.i.small, fun j hj => by
    obtain ⟨b, off, ha, hb, hc⟩ := h.i.cells j hj
    refine ⟨b, off, ha, by simpa using hb, ?_⟩
    rw [World.cell?_setCell_other _ _ _ _ (by intro e; first | exact hp b off j ha hj e | exact hp b off j ha hj e.symm)]
    exact hc⟩, fun b off ha j hj => by rw [World.frozen?_setCell]; exact h.soft b off ha j hj⟩
/-- a spec that lies from B on and not in the row -/
def SpecV (w : World) (B : Nat) (row : Option Nat) (u : Value) (l : List Int) : Prop := ∃ a n c, u = .slice a n c ∧ IntsS w a n c l ∧ ∀ b off, 0 < n → a = some ⟨b, off, none⟩ → B ≤ b ∧ row ≠ some b
theorem SpecV.next {w w' : World} {B : Nat} {row : Option Nat} {u : Value} {l : List Int} (h : SpecV w B row u l) (hb : Below w.heap.size w w') : SpecV w' B row u l := by
  obtain ⟨a, n, c, e, hi, hd⟩ := h
  exact ⟨a, n, c, e, hi.below hb (Nat.le_refl _), hd⟩
theorem ints_kept {w w' : World} {row : Option Nat} {a : Option Addr} {n c : Nat} {l : List Int} (h : IntsAt w a n c l) (hg : w.grownBy w' row) (hd : ∀ b off, 0 < n → a = some ⟨b, off, none⟩ → row ≠ some b) : IntsAt w' a n c l :=
  ⟨h.len, h.le, h.small, fun j hj => by
    obtain ⟨b, off, ha, hb, hc⟩ := h.cells j hj
    exact ⟨b, off, ha, Nat.lt_of_lt_of_le hb hg.size, hg.cell (a := ⟨b, off + j, none⟩) hc (fun e => hd b off (by omega) ha e.symm)⟩⟩
theorem sints_kept {w w' : World} {row : Option Nat} {a : Option Addr} {n c : Nat} {l : List Int} (h : IntsS w a n c l) (hg : w.grownBy w' row) (hd : ∀ b off, 0 < n → a = some ⟨b, off, none⟩ → row ≠ some b) : IntsS w' a n c l :=
  ⟨ints_kept h.i hg hd, fun b off ha j hj => (World.frozen?_of_block (a := ⟨b, off + j, none⟩) (hg.block b (ints_lt h.i (by omega) ha) (fun e => hd b off (by omega) ha e.symm))).trans (h.soft b off ha j hj)⟩
theorem SpecV.after {w w' : World} {B : Nat} {row row' : Option Nat} {u : Value} {l : List Int} (h : SpecV w B row u l) (hg : w.grownBy w' row) (hat : row' = row ∨ ∃ k, row' = some k ∧ w.heap.size ≤ k) : SpecV w' B row' u l := by
  obtain ⟨a, n, c, e, hi, hd⟩ := h
  refine ⟨a, n, c, e, sints_kept hi hg fun b off hn ha => (hd b off hn ha).2, fun b off hn ha => ⟨(hd b off hn ha).1, ?_⟩⟩
  rcases hat with rfl | ⟨k, rfl, hk⟩
  · exact (hd b off hn ha).2
  · intro e; injection e with e
    have := ints_lt hi.i hn ha
    omega
theorem SpecV.base {w : World} {B B' : Nat} {row : Option Nat} {u : Value} {l : List Int} (h : SpecV w B' row u l) (hB : B ≤ B') : SpecV w B row u l := by
  obtain ⟨a, n, c, e, hi, hd⟩ := h
  exact ⟨a, n, c, e, hi, fun b off hn ha => ⟨Nat.le_trans hB (hd b off hn ha).1, (hd b off hn ha).2⟩⟩
theorem SpecV.lo {w : World} {B : Nat} {u : Value} {l : List Int} (h : SpecV w B none u l) (row : Option Nat) (hk : ∀ k, row = some k → k < B) : SpecV w B row u l := by
  obtain ⟨a, n, c, rfl, hi, hd⟩ := h
  exact ⟨a, n, c, rfl, hi, fun b off hn ha => ⟨(hd b off hn ha).1, fun e => by have := hk b e; have := (hd b off hn ha).1; omega⟩⟩
theorem SpecV.hi {w : World} {B : Nat} {u : Value} {l : List Int} (h : SpecV w B none u l) (row : Option Nat) (hk : ∀ k, row = some k → w.heap.size ≤ k) : SpecV w B row u l := by
  obtain ⟨a, n, c, rfl, hi, hd⟩ := h
  exact ⟨a, n, c, rfl, hi, fun b off hn ha => ⟨(hd b off hn ha).1, fun e => by have := hk b e; have := ints_lt hi.i hn ha; omega⟩⟩
theorem SpecV.store {w : World} {B : Nat} {row : Option Nat} {u : Value} {l : List Int} (h : SpecV w B row u l) {p : Addr} (hp : p.block < B) (y : Value) : SpecV (w.setCell p y) B row u l := by
  obtain ⟨a, n, c, e, hi, hd⟩ := h
  exact ⟨a, n, c, e, hi.other y fun b off j ha hj e => by
    have := (hd b off (by omega) ha).1
    rw [← e] at hp; simp at hp; omega, hd⟩
theorem SpecV.made {w w' : World} {v : Value} {l : List Int} {E : TypeId} (h : Made E w w' v l) : SpecV w' w.heap.size none v l := by
  obtain ⟨a, c, e, hi⟩ := h.at_
  refine ⟨a, l.length, c, e, ⟨hi, own_soft (e ▸ h.own)⟩, fun b off hn ha => ⟨?_, by simp⟩⟩
  have := h.own.lt b (by rw [e, ha]; rfl)
  exact this.1
structure EntX (w : World) (B : Nat) (row : Option Nat) (x : Ec) (E : Ent) : Prop where
  s : SpecV w B row x.1 E.spec
  f : x.2 = E.form
/-- v is a row of the call's own that holds entries whose specs lie from B on, none in the row -/
def OwnE (w : World) (B : Nat) (v : Value) (L : List Ent) : Prop :=
  ∃ vs : List Ec, vs.length = L.length ∧ w.ownsRow B 39 2 v L.length (vs.flatMap encE) ∧ ∀ i x, vs[i]? = some x → EntX w B v.ownBlock x (L.getD i E0)
theorem OwnE.nil (w : World) (B : Nat) : OwnE w B (.slice none 0 0) [] := ⟨[], rfl, World.ownsRow_nil _ _ _ _, fun i u h => by simp at h⟩
theorem OwnE.next {w w' : World} {B : Nat} {v : Value} {L : List Ent} (h : OwnE w B v L) (hb : Below w.heap.size w w') : OwnE w' B v L := by
  obtain ⟨vs, h0, h1, h2⟩ := h
  exact ⟨vs, h0, own_below h1 hb (Nat.le_refl _), fun i x hx => ⟨(h2 i x hx).s.next hb, (h2 i x hx).f⟩⟩
theorem OwnE.lt {w : World} {B : Nat} {v : Value} {L : List Ent} (h : OwnE w B v L) : ∀ k, v.ownBlock = some k → B ≤ k ∧ k < w.heap.size := by
  obtain ⟨vs, _, h1, _⟩ := h
  exact h1.lt
theorem OwnE.base {w : World} {B B' : Nat} {v : Value} {L : List Ent} (h : OwnE w B' v L) (hB : B ≤ B') : OwnE w B v L := by
  obtain ⟨vs, h0, h1, h2⟩ := h
  exact ⟨vs, h0, own_base h1 hB, fun i x hx => ⟨(h2 i x hx).s.base hB, (h2 i x hx).f⟩⟩
theorem OwnE.store {w : World} {B : Nat} {v : Value} {L : List Ent} (h : OwnE w B v L) {p : Addr} (hp : p.block < B) (y : Value) : OwnE (w.setCell p y) B v L := by
  obtain ⟨vs, h0, h1, h2⟩ := h
  exact ⟨vs, h0, ownsRow_setCell_below h1 hp y, fun i x hx => ⟨(h2 i x hx).s.store hp y, (h2 i x hx).f⟩⟩
theorem SpecV.ints {w : World} {B : Nat} {row : Option Nat} {u : Value} {l : List Int} (h : SpecV w B row u l) : ∃ a n c, u = .slice a n c ∧ IntsAt w a n c l := by
  obtain ⟨a, n, c, e, hi, _⟩ := h
  exact ⟨a, n, c, e, hi.i⟩
theorem OwnE.at_ {w : World} {B : Nat} {v : Value} {L : List Ent} (h : OwnE w B v L) : ∃ a c, v = .slice a L.length c ∧ EntsAt w a L.length c L := by
  obtain ⟨vs, h0, h1, h2⟩ := h
  have H1 := h1
  rcases h1.2 with ⟨rfl, hz⟩ | ⟨g, cap, cur, rfl, _, hg, hn, hm, hs, ht⟩
  · have : L = [] := List.eq_nil_of_length_eq_zero hz
    subst this
    exact ⟨none, 0, rfl, EntsAt.nil _ _ _ (by omega)⟩
  · refine ⟨_, cap, rfl, rfl, hn, by unfold maxLen at hm; omega, fun i hi => ?_⟩
    have hv : vs[i]? = some vs[i] := List.getElem?_eq_getElem (by omega)
    have hr := h2 i _ hv
    obtain ⟨e0, e1⟩ := encE_at vs i _ hv
    have A : ∀ j u, (vs.flatMap encE)[j]? = some u → w.cell? ⟨g, 0 + j, none⟩ = some u := fun j u hu => by
      have := H1.cells (g := g) rfl j u hu
      rwa [show (⟨g, 0, none⟩ : Addr).add j = ⟨g, 0 + j, none⟩ by unfold Addr.add; split <;> simp_all] at this
    obtain ⟨a1, n1, c1, hu, hI⟩ := hr.s.ints
    have e0' := A _ _ e0
    rw [hu] at e0'
    exact ⟨g, 0, a1, n1, c1, rfl, Go.lt_of_block hg, e0', by rw [← hr.f]; exact A _ _ e1, hI⟩
theorem cells_new2 (w : World) (x y : Value) (E : TypeId) : ∀ j v, ([x, y] : List Value)[j]? = some v → (w.alloc (.cells #[x, y] E)).cell? ((⟨w.heap.size, 0, none⟩ : Addr).add j) = some v := by
  intro j v hv
  have ha : (⟨w.heap.size, 0, none⟩ : Addr).add j = ⟨w.heap.size, j, none⟩ := by unfold Addr.add; split <;> simp_all
  rw [ha, cells_alloc]
  simpa using hv
/-- append of an entry onto an own row, as one step of a region that draws its order -/
theorem step_append_ent {ops : Array Oper} {o : Oper} {a : Act} {w : World} {K : Act → World → Prop} {Q : Exit → Act → World → Prop} {E' : Prop} (hg : o.guard = none) (s x : Operand)
    (ho : o.op = .call { callee := .builtin .append, args := #[s, x], argTypes := #[23, 23] }) (base : Nat) (v : Value) (L : List Ent) (hs : a.eval s = v) (hown : OwnE w base v L)
    (A : Addr) (c : Nat) (y : Ec) (E : Ent) (hx : a.eval x = .slice (some A) 1 c) (hy : ∀ j u, (encE y)[j]? = some u → w.cell? (A.add j) = some u) (hE : SpecV w base v.ownBlock y.1 E.spec) (hf : y.2 = E.form)
    (hsm : L.length + 1 ≤ 100000) (hbase : base ≤ w.heap.size)
    (hK : ∀ v' w', OwnE w' base v' (L ++ [E]) → w.grownBy w' v.ownBlock → (v'.ownBlock = v.ownBlock ∨ v'.ownBlock = some w.heap.size) → K (a.put o.dst v') w') :
    if Region.wanted o (yielded ops a.tmps) = true then Oper.wp Try.prog o a w K Q else E' := by
  obtain ⟨i0, hi0, hz0, hz1, hz2⟩ := info_parts Try.infoEntryC
  have hw : Region.wanted o (yielded ops a.tmps) = true := by simp [Region.wanted, hg]
  rw [if_pos hw]
  obtain ⟨vs, h0, h1, h2⟩ := hown
  obtain ⟨v', w', hrun, k1, k2, _, k4⟩ := run_append_own_at (P := Try.prog) w base 23 o.type 39 i0 _ 2 32 Try.underlying23 hi0 hz0 hz1 hz2 rfl (by omega) v L.length _ h1 A 1 c (encE y) rfl hy
    (fun u hu => by
      simp [encE] at hu
      rcases hu with rfl | rfl
      · obtain ⟨a, n, c, e, _, _⟩ := hE; rw [e]; rfl
      · rfl) (by unfold maxLen; omega) (by omega) hbase
  unfold Oper.wp
  simp [execOp, ho, resolve, invoke, builtin, hs, hx, hrun, Result.andThen]
  have hat' : v'.ownBlock = v.ownBlock ∨ ∃ k, v'.ownBlock = some k ∧ w.heap.size ≤ k := k4.imp id fun e => ⟨_, e, Nat.le_refl _⟩
  refine hK _ _ ⟨vs ++ [y], by simp [h0], ?_, fun i x' hx' => ?_⟩ k2 k4
  · rw [List.flatMap_append, List.length_append]
    simpa using k1
  · by_cases hi : i < vs.length
    · rw [List.getElem?_append_left hi] at hx'
      rw [show (L ++ [E]).getD i E0 = L.getD i E0 by simp only [List.getD]; rw [List.getElem?_append_left (by omega)]]
      exact ⟨(h2 i x' hx').s.after k2 hat', (h2 i x' hx').f⟩
    · obtain rfl : i = vs.length := by
        rcases Nat.lt_or_ge i (vs.length + 1) with h | h
        · omega
        · rw [List.getElem?_eq_none (by simp; omega)] at hx'; cases hx'
      rw [List.getElem?_append_right (Nat.le_refl _), Nat.sub_self] at hx'
      simp at hx'; subst hx'
      rw [show (L ++ [E]).getD vs.length E0 = E by rw [h0]; simp [List.getD]]
      exact ⟨hE.after k2 hat', hf⟩
end Go.Proofs.Ytdnlpikfibdjoaa
