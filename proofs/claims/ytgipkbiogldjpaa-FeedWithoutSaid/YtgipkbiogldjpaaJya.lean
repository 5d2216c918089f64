import Derived.Test.YtgipkbiogldjpaaJp
import Derived.Test.YtgipkbiogldjpaaJsa
import Derived.Test.YtgipkbiogldjpaaRv
namespace Go.Proofs.Ytgipkbiogldjpaa
open Go.RowKit Go.Proofs.Kv

/-! ### systems in new memory -/
theorem Try.infoRuleC : (Try.prog.info? 53).map (fun i => (i.zero, i.size, i.bytes)) = some (some (.agg #[.int .i64 0, .slice none 0 0, .slice none 0 0, .slice none 0 0]), 4, 80) := by kernel_rfl
/-- a rule as cells -/
abbrev Rc : Type := Int × Value × Value × Value
def encRc (x : Rc) : List Value := [.int .i64 x.1, x.2.1, x.2.2.1, x.2.2.2]
theorem encRc_len : ∀ (l : List Rc), (l.flatMap encRc).length = l.length * 4
  | [] => rfl
  | x :: l => by simp only [List.flatMap_cons, List.length_append, encRc_len l, List.length_cons]; simp [encRc]; omega
theorem encRc_at : ∀ (l : List Rc) (i : Nat) (x : Rc), l[i]? = some x → (l.flatMap encRc)[i * 4]? = some (.int .i64 x.1) ∧ (l.flatMap encRc)[i * 4 + 1]? = some x.2.1 ∧ (l.flatMap encRc)[i * 4 + 2]? = some x.2.2.1 ∧ (l.flatMap encRc)[i * 4 + 3]? = some x.2.2.2
  | [], i, x, h => by simp at h
  | y :: l, 0, x, h => by simp at h; subst h; exact ⟨rfl, rfl, rfl, rfl⟩
  | y :: l, i + 1, x, h => by
    have ih := encRc_at l i x (by simpa using h)
    rw [List.flatMap_cons]
    have e2 : (encRc y).length = 4 := rfl
    refine ⟨?_, ?_, ?_, ?_⟩
    · rw [List.getElem?_append_right (by rw [e2]; omega), e2, show (i + 1) * 4 - 4 = i * 4 by omega]; exact ih.1
    · rw [List.getElem?_append_right (by rw [e2]; omega), e2, show (i + 1) * 4 + 1 - 4 = i * 4 + 1 by omega]; exact ih.2.1
    · rw [List.getElem?_append_right (by rw [e2]; omega), e2, show (i + 1) * 4 + 2 - 4 = i * 4 + 2 by omega]; exact ih.2.2.1
    · rw [List.getElem?_append_right (by rw [e2]; omega), e2, show (i + 1) * 4 + 3 - 4 = i * 4 + 3 by omega]; exact ih.2.2.2
/-- what a slice holds lies in a row of numbers -/
def Typed (w : World) (u : Value) : Prop := ∀ a n c b off, u = .slice a n c → 0 < n → a = some ⟨b, off, none⟩ → ∃ cur, w.heap[b]? = some (.cells cur 3 (0, 0))
def WordX (t : Bool) (w : World) (B : Nat) (row : Option Nat) (u : Value) (l : List Int) : Prop := WordV w B row u l ∧ (t = true → Typed w u)
theorem WordX.next {t : Bool} {w w' : World} {B : Nat} {row : Option Nat} {u : Value} {l : List Int} (h : WordX t w B row u l) (hb : Below w.heap.size w w') : WordX t w' B row u l :=
  ⟨h.1.kept (F := fun _ => False) hb.kept fun _ _ _ _ h => h, fun ht a n c b off e hn ha => by
    obtain ⟨cur, h1⟩ := h.2 ht a n c b off e hn ha
    exact ⟨cur, (hb.block b (Go.lt_of_block h1)).trans h1⟩⟩
theorem WordX.after {t : Bool} {w w' : World} {B : Nat} {row row' : Option Nat} {u : Value} {l : List Int} (h : WordX t w B row u l) (hg : w.grownBy w' row) (hat : row' = row ∨ ∃ k, row' = some k ∧ w.heap.size ≤ k) : WordX t w' B row' u l :=
  ⟨h.1.after hg hat, fun ht a n c b off e hn ha => by
    obtain ⟨cur, h1⟩ := h.2 ht a n c b off e hn ha
    obtain ⟨a2, n2, c2, e2, _, hd⟩ := h.1
    rw [e] at e2; injection e2 with q1 q2 q3
    subst q1; subst q2
    exact ⟨cur, (hg.block b (Go.lt_of_block h1) fun q => (hd b off hn ha).2 q.symm).trans h1⟩⟩
theorem WordX.base {t : Bool} {w : World} {B B' : Nat} {row : Option Nat} {u : Value} {l : List Int} (h : WordX t w B' row u l) (hB : B ≤ B') : WordX t w B row u l := ⟨h.1.base hB, h.2⟩
theorem WordX.row {t : Bool} {w : World} {B : Nat} {row row' : Option Nat} {u : Value} {l : List Int} (h : WordX t w B row u l) (hr : row' = row ∨ ∃ k, row' = some k ∧ w.heap.size ≤ k) : WordX t w B row' u l := ⟨h.1.row hr, h.2⟩
theorem WordX.lo {t : Bool} {w : World} {B : Nat} {u : Value} {l : List Int} (h : WordX t w B none u l) (row : Option Nat) (hk : ∀ k, row = some k → k < B) : WordX t w B row u l := by
  refine ⟨?_, h.2⟩
  obtain ⟨a, n, c, rfl, hi, hd⟩ := h.1
  exact ⟨a, n, c, rfl, hi, fun b off hn ha => ⟨(hd b off hn ha).1, fun e => by have := hk b e; have := (hd b off hn ha).1; omega⟩⟩
structure RuleX (t : Bool) (w : World) (B : Nat) (row : Option Nat) (x : Rc) (R : Rl) : Prop where
  f : x.1 = R.f
  o : WordX t w B row x.2.1 R.o
  le : WordX t w B row x.2.2.1 R.le
  ri : WordX t w B row x.2.2.2 R.ri
theorem RuleX.next {t : Bool} {w w' : World} {B : Nat} {row : Option Nat} {x : Rc} {R : Rl} (h : RuleX t w B row x R) (hb : Below w.heap.size w w') : RuleX t w' B row x R := ⟨h.f, h.o.next hb, h.le.next hb, h.ri.next hb⟩
theorem RuleX.after {t : Bool} {w w' : World} {B : Nat} {row row' : Option Nat} {x : Rc} {R : Rl} (h : RuleX t w B row x R) (hg : w.grownBy w' row) (hat : row' = row ∨ ∃ k, row' = some k ∧ w.heap.size ≤ k) : RuleX t w' B row' x R := ⟨h.f, h.o.after hg hat, h.le.after hg hat, h.ri.after hg hat⟩
theorem RuleX.base {t : Bool} {w : World} {B B' : Nat} {row : Option Nat} {x : Rc} {R : Rl} (h : RuleX t w B' row x R) (hB : B ≤ B') : RuleX t w B row x R := ⟨h.f, h.o.base hB, h.le.base hB, h.ri.base hB⟩
theorem RuleX.lo {t : Bool} {w : World} {B : Nat} {x : Rc} {R : Rl} (h : RuleX t w B none x R) (row : Option Nat) (hk : ∀ k, row = some k → k < B) : RuleX t w B row x R := ⟨h.f, h.o.lo row hk, h.le.lo row hk, h.ri.lo row hk⟩
theorem RuleX.rule {t : Bool} {w : World} {B : Nat} {row : Option Nat} {x : Rc} {R : Rl} (h : RuleX t w B row x R) : RuleAt w (.agg #[.int .i64 x.1, x.2.1, x.2.2.1, x.2.2.2]) R := by
  obtain ⟨f, ⟨⟨a1, n1, c1, e1, i1, _⟩, _⟩, ⟨⟨a2, n2, c2, e2, i2, _⟩, _⟩, ⟨⟨a3, n3, c3, e3, i3, _⟩, _⟩⟩ := h
  exact ⟨a1, n1, c1, a2, n2, c2, a3, n3, c3, by rw [f, e1, e2, e3], i1, i2, i3⟩
theorem RuleX.one {t : Bool} {w : World} {B : Nat} {row : Option Nat} {x : Rc} {R : Rl} (h : RuleX t w B row x R) : ∀ y ∈ encRc x, y.oneCell' = true := by
  obtain ⟨f, ⟨⟨a1, n1, c1, e1, i1, _⟩, _⟩, ⟨⟨a2, n2, c2, e2, i2, _⟩, _⟩, ⟨⟨a3, n3, c3, e3, i3, _⟩, _⟩⟩ := h
  intro y hy
  simp [encRc] at hy
  rcases hy with rfl | rfl | rfl | rfl
  · rfl
  · rw [e1]; rfl
  · rw [e2]; rfl
  · rw [e3]; rfl
/-- v is a row of the call's own that holds rules whose lists lie from B on, none in the row (and each in a row of numbers, if t) -/
def OwnRs (t : Bool) (w : World) (B : Nat) (v : Value) (L : List Rl) : Prop :=
  ∃ vs : List Rc, vs.length = L.length ∧ w.ownsRow B 53 4 v L.length (vs.flatMap encRc) ∧ ∀ i x, vs[i]? = some x → RuleX t w B v.ownBlock x (L.getD i R0)
theorem OwnRs.nil (t : Bool) (w : World) (B : Nat) : OwnRs t w B (.slice none 0 0) [] := ⟨[], rfl, World.ownsRow_nil _ _ _ _, fun i u h => by simp at h⟩
theorem OwnRs.next {t : Bool} {w w' : World} {B : Nat} {v : Value} {L : List Rl} (h : OwnRs t w B v L) (hb : Below w.heap.size w w') : OwnRs t w' B v L := by
  obtain ⟨vs, h0, h1, h2⟩ := h
  exact ⟨vs, h0, own_grown h1 hb, fun i x hx => (h2 i x hx).next hb⟩
theorem OwnRs.lt {t : Bool} {w : World} {B : Nat} {v : Value} {L : List Rl} (h : OwnRs t w B v L) : ∀ k, v.ownBlock = some k → B ≤ k ∧ k < w.heap.size := by
  obtain ⟨vs, _, h1, _⟩ := h
  exact h1.lt
theorem OwnRs.at_ {t : Bool} {w : World} {B : Nat} {v : Value} {L : List Rl} (h : OwnRs t w B v L) : ∃ a c, v = .slice a L.length c ∧ RulesAt w a L.length c L := by
  obtain ⟨vs, h0, h1, h2⟩ := h
  have H1 := h1
  rcases h1.2 with ⟨rfl, hz⟩ | ⟨g, cap, cur, rfl, _, hg, hn, hm, hs, ht⟩
  · have : L = [] := List.eq_nil_of_length_eq_zero hz
    subst this
    exact ⟨none, 0, rfl, RulesAt.nil _ _ _ (by omega)⟩
  · refine ⟨_, cap, rfl, rfl, hn, by unfold maxLen at hm; omega, fun i hi => ?_⟩
    have hv : vs[i]? = some vs[i] := List.getElem?_eq_getElem (by omega)
    have hr := h2 i _ hv
    obtain ⟨e0, e1, e2, e3⟩ := encRc_at vs i _ hv
    have A : ∀ j u, (vs.flatMap encRc)[j]? = some u → w.cell? ⟨g, 0 + j, none⟩ = some u := fun j u hu => by
      have := H1.cells (g := g) rfl j u hu
      rwa [show (⟨g, 0, none⟩ : Addr).add j = ⟨g, 0 + j, none⟩ by unfold Addr.add; split <;> simp_all] at this
    exact ⟨g, 0, _, _, _, _, rfl, Go.lt_of_block hg, A _ _ e0, A _ _ e1, A _ _ e2, A _ _ e3, hr.rule⟩
theorem cells_new4 (w : World) (x y z u : Value) (E : TypeId) : ∀ j v, ([x, y, z, u] : List Value)[j]? = some v → (w.alloc (.cells #[x, y, z, u] E)).cell? ((⟨w.heap.size, 0, none⟩ : Addr).add j) = some v := by
  intro j v hv
  have ha : (⟨w.heap.size, 0, none⟩ : Addr).add j = ⟨w.heap.size, j, none⟩ := by unfold Addr.add; split <;> simp_all
  rw [ha, cells_alloc]
  simpa using hv
theorem wpList_append_rule {t : Bool} {w : World} {ops : Array Oper} {rest : List Oper} {o : Oper} {a : Act} {Q : Exit → Act → World → Prop} (hgd : o.guard = none) (s x : Operand)
    (ho : o.op = .call { callee := .builtin .append, args := #[s, x], argTypes := #[22, 22] }) (B : Nat) (v : Value) (L : List Rl) (hs : a.eval s = v) (hown : OwnRs t w B v L) (R : Rl) (w1 : World) (hb1 : Below w.heap.size w w1)
    (y : Rc) (hy : RuleX t w1 w.heap.size none y R) (E : TypeId) (hx : a.eval x = .slice (some ⟨w1.heap.size, 0, none⟩) 1 1) (hsm : L.length + 1 ≤ 100000) (hB : B ≤ w.heap.size)
    (h : ∀ v' w', OwnRs t w' B v' (L ++ [R]) → Below B w w' → wpList Try.prog ops Q rest (a.put o.dst v') w') :
    wpList Try.prog ops Q (o :: rest) a (w1.alloc (.cells #[.int .i64 y.1, y.2.1, y.2.2.1, y.2.2.2] E)) := by
  obtain ⟨i0, hi0, hz0, hz1, hz2⟩ := info_parts Try.infoRuleC
  have hlt := fun k hk => (hown.lt k hk).2
  have hge := fun k hk => (hown.lt k hk).1
  obtain ⟨vs, h0, h1, h2⟩ := hown
  have hb2 := below_alloc w1 (.cells #[.int .i64 y.1, y.2.1, y.2.2.1, y.2.2.2] E)
  refine wpList_append_own_at _ hgd s x _ ho B 53 i0 _ 4 80 Try.underlying22 hi0 hz0 hz1 hz2 rfl (by omega) v L.length _ hs (own_grown (own_grown h1 hb1) hb2) ⟨w1.heap.size, 0, none⟩ 1 1 (encRc y) hx rfl (cells_new4 _ _ _ _ _ _) hy.one
    (by unfold maxLen; omega) (by omega) (by have := hb1.size; simp; omega) fun v' w' k1 k2 _ k4 => ?_
  have hat' : v'.ownBlock = v.ownBlock ∨ ∃ k, v'.ownBlock = some k ∧ (w1.alloc (.cells #[.int .i64 y.1, y.2.1, y.2.2.1, y.2.2.2] E)).heap.size ≤ k := k4.imp id fun e => ⟨_, e, Nat.le_refl _⟩
  refine h v' w' ⟨vs ++ [y], by simp [h0], ?_, fun i x' hx' => ?_⟩ (((hb1.mono hB).trans (hb2.mono (Nat.le_trans hB hb1.size))).grown k2 (Nat.le_trans hB (Nat.le_trans hb1.size hb2.size)) hge)
  · rw [List.flatMap_append, List.length_append]
    simpa using k1
  · by_cases hi : i < vs.length
    · rw [List.getElem?_append_left hi] at hx'
      rw [show (L ++ [R]).getD i R0 = L.getD i R0 by simp only [List.getD]; rw [List.getElem?_append_left (by omega)]]
      exact (((h2 i x' hx').next hb1).next hb2).after k2 hat'
    · obtain rfl : i = vs.length := by
        rcases Nat.lt_or_ge i (vs.length + 1) with h | h
        · omega
        · rw [List.getElem?_eq_none (by simp; omega)] at hx'; cases hx'
      rw [List.getElem?_append_right (Nat.le_refl _), Nat.sub_self] at hx'
      simp at hx'; subst hx'
      rw [show (L ++ [R]).getD vs.length R0 = R by rw [h0]; simp [List.getD]]
      exact (((hy.next hb2).lo v.ownBlock hlt).after k2 hat').base hB
end Go.Proofs.Ytgipkbiogldjpaa
