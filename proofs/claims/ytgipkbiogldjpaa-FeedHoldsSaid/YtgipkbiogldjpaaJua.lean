import Derived.Test.YtgipkbiogldjpaaJp
import Derived.Test.YtgipkbiogldjpaaJsa
import Derived.Test.YtgipkbiogldjpaaRv
import Derived.Test.YtgipkbiogldjpaaMi
import Derived.Test.YtgipkbiogldjpaaMbd
import Derived.Test.YtgipkbiogldjpaaJn
import Derived.Test.YtgipkbiogldjpaaJs
import Derived.Deep.RegionLawGrows
import Derived.Test.YtgipkbiogldjpaaJxd
namespace Go.Proofs.Ytgipkbiogldjpaa
open Go.RowKit Go.Proofs.Kv

/-! ### systems in new memory -/
theorem Try.infoRuleC : (Try.prog.info? 53).map (fun i => (i.zero, i.size, i.bytes)) = some (some (.agg #[.int .i64 0, .slice none 0 0, .slice none 0 0, .slice none 0 0]), 4, 80) := by kernel_rfl
/-- a rule as cells -/
abbrev Rc : Type := Int × Value × Value × Value
def encRc (x : Rc) : List Value := [.int .i64 x.1, x.2.1, x.2.2.1, x.2.2.2]
theorem encRc_len : ∀ (l : List Rc), (l.flatMap encRc).length = l.length * 4
  | [] => rfl
  | x :: l => by simp only [List.flatMap_cons, List.length_append, encRc_len l, List.length_cons]; simp [encRc]; omega
theorem encRc_at : ∀ (l : List Rc) (i : Nat) (x : Rc), l[i]? = some x → (l.flatMap encRc)[i * 4]? = some (.int .i64 x.1) ∧ (l.flatMap encRc)[i * 4 + 1]? = some x.2.1 ∧ (l.flatMap encRc)[i * 4 + 2]? = some x.2.2.1 ∧ (l.flatMap encRc)[i * 4 + 3]? = some x.2.2.2
  | [], i, x, h => by simp at h
  | y :: l, 0, x, h => by simp at h; subst h; exact ⟨rfl, rfl, rfl, rfl⟩
  | y :: l, i + 1, x, h => by
    have ih := encRc_at l i x (by simpa using h)
    rw [List.flatMap_cons]
    have e2 : (encRc y).length = 4 := rfl
    refine ⟨?_, ?_, ?_, ?_⟩
    · rw [List.getElem?_append_right (by rw [e2]; omega), e2, show (i + 1) * 4 - 4 = i * 4 by omega]; exact ih.1
    · rw [List.getElem?_append_right (by rw [e2]; omega), e2, show (i + 1) * 4 + 1 - 4 = i * 4 + 1 by omega]; exact ih.2.1
    · rw [List.getElem?_append_right (by rw [e2]; omega), e2, show (i + 1) * 4 + 2 - 4 = i * 4 + 2 by omega]; exact ih.2.2.1
    · rw [List.getElem?_append_right (by rw [e2]; omega), e2, show (i + 1) * 4 + 3 - 4 = i * 4 + 3 by omega]; exact ih.2.2.2
/-- what a slice holds lies in a row of numbers -/
def Typed (w : World) (u : Value) : Prop := ∀ a n c b off, u = .slice a n c → 0 < n → a = some ⟨b, off, none⟩ → ∃ cur, w.heap[b]? = some (.cells cur 3 (0, 0))
def WordX (t : Bool) (w : World) (B : Nat) (row : Option Nat) (u : Value) (l : List Int) : Prop := WordV w B row u l ∧ (t = true → Typed w u)
theorem WordX.next {t : Bool} {w w' : World} {B : Nat} {row : Option Nat} {u : Value} {l : List Int} (h : WordX t w B row u l) (hb : Below w.heap.size w w') : WordX t w' B row u l :=
  ⟨h.1.kept (F := fun _ => False) hb.kept fun _ _ _ _ h => h, fun ht a n c b off e hn ha => by
    obtain ⟨cur, h1⟩ := h.2 ht a n c b off e hn ha
    exact ⟨cur, (hb.block b (Go.lt_of_block h1)).trans h1⟩⟩
theorem WordX.after {t : Bool} {w w' : World} {B : Nat} {row row' : Option Nat} {u : Value} {l : List Int} (h : WordX t w B row u l) (hg : w.grownBy w' row) (hat : row' = row ∨ ∃ k, row' = some k ∧ w.heap.size ≤ k) : WordX t w' B row' u l :=
  ⟨h.1.after hg hat, fun ht a n c b off e hn ha => by
    obtain ⟨cur, h1⟩ := h.2 ht a n c b off e hn ha
    obtain ⟨a2, n2, c2, e2, _, hd⟩ := h.1
    rw [e] at e2; injection e2 with q1 q2 q3
    subst q1; subst q2
    exact ⟨cur, (hg.block b (Go.lt_of_block h1) fun q => (hd b off hn ha).2 q.symm).trans h1⟩⟩
theorem WordX.base {t : Bool} {w : World} {B B' : Nat} {row : Option Nat} {u : Value} {l : List Int} (h : WordX t w B' row u l) (hB : B ≤ B') : WordX t w B row u l := ⟨h.1.base hB, h.2⟩
theorem WordX.row {t : Bool} {w : World} {B : Nat} {row row' : Option Nat} {u : Value} {l : List Int} (h : WordX t w B row u l) (hr : row' = row ∨ ∃ k, row' = some k ∧ w.heap.size ≤ k) : WordX t w B row' u l := ⟨h.1.row hr, h.2⟩
theorem WordX.lo {t : Bool} {w : World} {B : Nat} {u : Value} {l : List Int} (h : WordX t w B none u l) (row : Option Nat) (hk : ∀ k, row = some k → k < B) : WordX t w B row u l := by
  refine ⟨?_, h.2⟩
  obtain ⟨a, n, c, rfl, hi, hd⟩ := h.1
  exact ⟨a, n, c, rfl, hi, fun b off hn ha => ⟨(hd b off hn ha).1, fun e => by have := hk b e; have := (hd b off hn ha).1; omega⟩⟩
structure RuleX (t : Bool) (w : World) (B : Nat) (row : Option Nat) (x : Rc) (R : Rl) : Prop where
  f : x.1 = R.f
  o : WordX t w B row x.2.1 R.o
  le : WordX t w B row x.2.2.1 R.le
  ri : WordX t w B row x.2.2.2 R.ri
theorem RuleX.next {t : Bool} {w w' : World} {B : Nat} {row : Option Nat} {x : Rc} {R : Rl} (h : RuleX t w B row x R) (hb : Below w.heap.size w w') : RuleX t w' B row x R := ⟨h.f, h.o.next hb, h.le.next hb, h.ri.next hb⟩
theorem RuleX.after {t : Bool} {w w' : World} {B : Nat} {row row' : Option Nat} {x : Rc} {R : Rl} (h : RuleX t w B row x R) (hg : w.grownBy w' row) (hat : row' = row ∨ ∃ k, row' = some k ∧ w.heap.size ≤ k) : RuleX t w' B row' x R := ⟨h.f, h.o.after hg hat, h.le.after hg hat, h.ri.after hg hat⟩
theorem RuleX.base {t : Bool} {w : World} {B B' : Nat} {row : Option Nat} {x : Rc} {R : Rl} (h : RuleX t w B' row x R) (hB : B ≤ B') : RuleX t w B row x R := ⟨h.f, h.o.base hB, h.le.base hB, h.ri.base hB⟩
theorem RuleX.lo {t : Bool} {w : World} {B : Nat} {x : Rc} {R : Rl} (h : RuleX t w B none x R) (row : Option Nat) (hk : ∀ k, row = some k → k < B) : RuleX t w B row x R := ⟨h.f, h.o.lo row hk, h.le.lo row hk, h.ri.lo row hk⟩
theorem RuleX.rule {t : Bool} {w : World} {B : Nat} {row : Option Nat} {x : Rc} {R : Rl} (h : RuleX t w B row x R) : RuleAt w (.agg #[.int .i64 x.1, x.2.1, x.2.2.1, x.2.2.2]) R := by
  obtain ⟨f, ⟨⟨a1, n1, c1, e1, i1, _⟩, _⟩, ⟨⟨a2, n2, c2, e2, i2, _⟩, _⟩, ⟨⟨a3, n3, c3, e3, i3, _⟩, _⟩⟩ := h
  exact ⟨a1, n1, c1, a2, n2, c2, a3, n3, c3, by rw [f, e1, e2, e3], i1, i2, i3⟩
theorem RuleX.one {t : Bool} {w : World} {B : Nat} {row : Option Nat} {x : Rc} {R : Rl} (h : RuleX t w B row x R) : ∀ y ∈ encRc x, y.oneCell' = true := by
  obtain ⟨f, ⟨⟨a1, n1, c1, e1, i1, _⟩, _⟩, ⟨⟨a2, n2, c2, e2, i2, _⟩, _⟩, ⟨⟨a3, n3, c3, e3, i3, _⟩, _⟩⟩ := h
  intro y hy
  simp [encRc] at hy
  rcases hy with rfl | rfl | rfl | rfl
  · rfl
  · rw [e1]; rfl
  · rw [e2]; rfl
  · rw [e3]; rfl
/-- v is a row of the call's own that holds rules whose lists lie from B on, none in the row (and each in a row of numbers, if t) -/
def OwnRs (t : Bool) (w : World) (B : Nat) (v : Value) (L : List Rl) : Prop :=
  ∃ vs : List Rc, vs.length = L.length ∧ w.ownsRow B 53 4 v L.length (vs.flatMap encRc) ∧ ∀ i x, vs[i]? = some x → RuleX t w B v.ownBlock x (L.getD i R0)
theorem OwnRs.nil (t : Bool) (w : World) (B : Nat) : OwnRs t w B (.slice none 0 0) [] := ⟨[], rfl, World.ownsRow_nil _ _ _ _, fun i u h => by simp at h⟩
theorem OwnRs.next {t : Bool} {w w' : World} {B : Nat} {v : Value} {L : List Rl} (h : OwnRs t w B v L) (hb : Below w.heap.size w w') : OwnRs t w' B v L := by
  obtain ⟨vs, h0, h1, h2⟩ := h
  exact ⟨vs, h0, own_grown h1 hb, fun i x hx => (h2 i x hx).next hb⟩
theorem OwnRs.lt {t : Bool} {w : World} {B : Nat} {v : Value} {L : List Rl} (h : OwnRs t w B v L) : ∀ k, v.ownBlock = some k → B ≤ k ∧ k < w.heap.size := by
  obtain ⟨vs, _, h1, _⟩ := h
  exact h1.lt
theorem OwnRs.at_ {t : Bool} {w : World} {B : Nat} {v : Value} {L : List Rl} (h : OwnRs t w B v L) : ∃ a c, v = .slice a L.length c ∧ RulesAt w a L.length c L := by
  obtain ⟨vs, h0, h1, h2⟩ := h
  have H1 := h1
  rcases h1.2 with ⟨rfl, hz⟩ | ⟨g, cap, cur, rfl, _, hg, hn, hm, hs, ht⟩
  · have : L = [] := List.eq_nil_of_length_eq_zero hz
    subst this
    exact ⟨none, 0, rfl, RulesAt.nil _ _ _ (by omega)⟩
  · refine ⟨_, cap, rfl, rfl, hn, by unfold maxLen at hm; omega, fun i hi => ?_⟩
    have hv : vs[i]? = some vs[i] := List.getElem?_eq_getElem (by omega)
    have hr := h2 i _ hv
    obtain ⟨e0, e1, e2, e3⟩ := encRc_at vs i _ hv
    have A : ∀ j u, (vs.flatMap encRc)[j]? = some u → w.cell? ⟨g, 0 + j, none⟩ = some u := fun j u hu => by
      have := H1.cells (g := g) rfl j u hu
      rwa [show (⟨g, 0, none⟩ : Addr).add j = ⟨g, 0 + j, none⟩ by unfold Addr.add; split <;> simp_all] at this
    exact ⟨g, 0, _, _, _, _, rfl, Go.lt_of_block hg, A _ _ e0, A _ _ e1, A _ _ e2, A _ _ e3, hr.rule⟩
theorem cells_new4 (w : World) (x y z u : Value) (E : TypeId) : ∀ j v, ([x, y, z, u] : List Value)[j]? = some v → (w.alloc (.cells #[x, y, z, u] E)).cell? ((⟨w.heap.size, 0, none⟩ : Addr).add j) = some v := by
  intro j v hv
  have ha : (⟨w.heap.size, 0, none⟩ : Addr).add j = ⟨w.heap.size, j, none⟩ := by unfold Addr.add; split <;> simp_all
  rw [ha, cells_alloc]
  simpa using hv
theorem wpList_append_rule {t : Bool} {w : World} {ops : Array Oper} {rest : List Oper} {o : Oper} {a : Act} {Q : Exit → Act → World → Prop} (hgd : o.guard = none) (s x : Operand)
    (ho : o.op = .call { callee := .builtin .append, args := #[s, x], argTypes := #[22, 22] }) (B : Nat) (v : Value) (L : List Rl) (hs : a.eval s = v) (hown : OwnRs t w B v L) (R : Rl) (w1 : World) (hb1 : Below w.heap.size w w1)
    (y : Rc) (hy : RuleX t w1 w.heap.size none y R) (E : TypeId) (hx : a.eval x = .slice (some ⟨w1.heap.size, 0, none⟩) 1 1) (hsm : L.length + 1 ≤ 100000) (hB : B ≤ w.heap.size)
    (h : ∀ v' w', OwnRs t w' B v' (L ++ [R]) → Below B w w' → wpList Try.prog ops Q rest (a.put o.dst v') w') :
    wpList Try.prog ops Q (o :: rest) a (w1.alloc (.cells #[.int .i64 y.1, y.2.1, y.2.2.1, y.2.2.2] E)) := by
  obtain ⟨i0, hi0, hz0, hz1, hz2⟩ := info_parts Try.infoRuleC
  have hlt := fun k hk => (hown.lt k hk).2
  have hge := fun k hk => (hown.lt k hk).1
  obtain ⟨vs, h0, h1, h2⟩ := hown
  have hb2 := below_alloc w1 (.cells #[.int .i64 y.1, y.2.1, y.2.2.1, y.2.2.2] E)
  refine wpList_append_own_at _ hgd s x _ ho B 53 i0 _ 4 80 Try.underlying22 hi0 hz0 hz1 hz2 rfl (by omega) v L.length _ hs (own_grown (own_grown h1 hb1) hb2) ⟨w1.heap.size, 0, none⟩ 1 1 (encRc y) hx rfl (cells_new4 _ _ _ _ _ _) hy.one
    (by unfold maxLen; omega) (by omega) (by have := hb1.size; simp; omega) fun v' w' k1 k2 _ k4 => ?_
  have hat' : v'.ownBlock = v.ownBlock ∨ ∃ k, v'.ownBlock = some k ∧ (w1.alloc (.cells #[.int .i64 y.1, y.2.1, y.2.2.1, y.2.2.2] E)).heap.size ≤ k := k4.imp id fun e => ⟨_, e, Nat.le_refl _⟩
  refine h v' w' ⟨vs ++ [y], by simp [h0], ?_, fun i x' hx' => ?_⟩ (((hb1.mono hB).trans (hb2.mono (Nat.le_trans hB hb1.size))).grown k2 (Nat.le_trans hB (Nat.le_trans hb1.size hb2.size)) hge)
  · rw [List.flatMap_append, List.length_append]
    simpa using k1
  · by_cases hi : i < vs.length
    · rw [List.getElem?_append_left hi] at hx'
      rw [show (L ++ [R]).getD i R0 = L.getD i R0 by simp only [List.getD]; rw [List.getElem?_append_left (by omega)]]
      exact (((h2 i x' hx').next hb1).next hb2).after k2 hat'
    · obtain rfl : i = vs.length := by
        rcases Nat.lt_or_ge i (vs.length + 1) with h | h
        · omega
        · rw [List.getElem?_eq_none (by simp; omega)] at hx'; cases hx'
      rw [List.getElem?_append_right (Nat.le_refl _), Nat.sub_self] at hx'
      simp at hx'; subst hx'
      rw [show (L ++ [R]).getD vs.length R0 = R by rw [h0]; simp [List.getD]]
      exact (((hy.next hb2).lo v.ownBlock hlt).after k2 hat').base hB
end Go.Proofs.Ytgipkbiogldjpaa
namespace Go.Proofs.Ytgipkbiogldjpaa
open Go.RowKit Go.Proofs.Kv

/-! ### copied, Without, Copy -/
theorem WordT.wordX {w : World} {B : Nat} {u : Value} {l : List Int} (h : WordT w B u l) : WordX true w B none u l := by
  obtain ⟨a, n, c, rfl, hi, hd⟩ := h
  refine ⟨⟨a, n, c, rfl, hi, fun b off hn ha => ⟨(hd b off hn ha).1, by simp⟩⟩, fun _ a' n' c' b off e hn ha => ?_⟩
  injection e with q1 q2 q3
  subst q1; subst q2
  exact (hd b off hn ha).2
theorem WordT.setLo {w : World} {B b0 i : Nat} {u x : Value} {l : List Int} (h : WordT w B u l) (hb : b0 < B) : WordT (w.setCell ⟨b0, i, none⟩ x) B u l := by
  obtain ⟨a, n, c, rfl, hi, hd⟩ := h
  have hk : Kept (fun b => b = b0) w (w.setCell ⟨b0, i, none⟩ x) := (Kept.refl (fun b => b = b0) w).setCell (p := ⟨b0, i, none⟩) (fun _ => rfl) x
  have hne : ∀ b off, 0 < n → a = some ⟨b, off, none⟩ → ¬ b = b0 := fun b off h1 h2 e => by have := (hd b off h1 h2).1; omega
  exact ⟨a, n, c, rfl, hi.kept hk hne, fun b off h1 h2 => ⟨(hd b off h1 h2).1, by
    obtain ⟨_, cur, e⟩ := hd b off h1 h2
    exact ⟨cur, (hk.block b (Go.lt_of_block e) (hne b off h1 h2)).trans e⟩⟩⟩
theorem IntsNew2.wordX {w : World} {B n c : Nat} {a : Option Addr} {l : List Int} (h : IntsNew2 B w a n c l) : WordX false w B none (.slice a n c) l := by
  refine ⟨⟨a, n, c, rfl, h.at_, fun b off hn ha => ⟨?_, by simp⟩⟩, fun h => by cases h⟩
  obtain ⟨b', off', e, hb⟩ := h.hi hn
  rw [ha] at e; injection e with e; injection e with e _; omega
theorem RuleNew.ruleX {w : World} {B : Nat} {v : Value} {R : Rl} (h : RuleNew B w v R) : ∃ y : Rc, v = .agg #[.int .i64 y.1, y.2.1, y.2.2.1, y.2.2.2] ∧ RuleX false w B none y R := by
  obtain ⟨a1, n1, c1, a2, n2, c2, a3, n3, c3, rfl, h1, h2, h3⟩ := h
  exact ⟨⟨R.f, .slice a1 n1 c1, .slice a2 n2 c2, .slice a3 n3 c3⟩, rfl, rfl, h1.wordX, h2.wordX, h3.wordX⟩
set_option maxRecDepth 100000 in
set_option maxHeartbeats 4000000 in
theorem copied_calls (v : Value) (R : Rl) (w : World) (hr : RuleAt w v R) (l1 : R.o.length ≤ 1000) (l2 : R.le.length ≤ 1000) (l3 : R.ri.length ≤ 1000) :
    Calls Try.prog 59 #[v] w fun e w' => ∃ y : Rc, e = .returned (.agg #[.int .i64 y.1, y.2.1, y.2.2.1, y.2.2.2]) ∧ RuleX true w' w.heap.size none y R ∧ Below w.heap.size w w' := by
  obtain ⟨a1, n1, c1, a2, n2, c2, a3, n3, c3, rfl, h1, h2, h3⟩ := hr
  obtain ⟨w1, hw1⟩ : ∃ w1, (w.alloc (.cells #[.int .i64 R.f, .slice a1 n1 c1, .slice a2 n2 c2, .slice a3 n3 c3] 53)).alloc (.cells #[.int .i64 0, .slice none 0 0, .slice none 0 0, .slice none 0 0] 53) = w1 := ⟨_, rfl⟩
  have hb1 : Below w.heap.size w w1 := by rw [← hw1]; exact (below_alloc _ _).alloc (by simp) _
  have hz : w1.heap.size = w.heap.size + 2 := by rw [← hw1]; simp
  have HQ : Hid (∀ W, Below (w.heap.size + 1) w1 W → W.cell? ⟨w.heap.size, 0, none⟩ = some (.int .i64 R.f) ∧ W.cell? ⟨w.heap.size, 1, none⟩ = some (.slice a1 n1 c1) ∧ W.cell? ⟨w.heap.size, 2, none⟩ = some (.slice a2 n2 c2) ∧ W.cell? ⟨w.heap.size, 3, none⟩ = some (.slice a3 n3 c3) ∧ Below (w.heap.size + 1) w1 W) := hid_ (fun W hW => by
    have A : ∀ i, W.cell? ⟨w.heap.size, i, none⟩ = w1.cell? ⟨w.heap.size, i, none⟩ := fun i => hW.cell (by show w.heap.size < _; omega)
    refine ⟨?_, ?_, ?_, ?_, hW⟩ <;> (rw [A, ← hw1]; simp))
  have HRB : Hid (∀ W, Below w1.heap.size w1 W → (W.cell? ⟨w.heap.size + 1, 0, none⟩ = some (.int .i64 0) ∧ W.cell? ⟨w.heap.size + 1, 1, none⟩ = some (.slice none 0 0) ∧ W.cell? ⟨w.heap.size + 1, 2, none⟩ = some (.slice none 0 0) ∧ W.cell? ⟨w.heap.size + 1, 3, none⟩ = some (.slice none 0 0)) ∧ (W.frozen? ⟨w.heap.size + 1, 0, none⟩ = false ∧ W.frozen? ⟨w.heap.size + 1, 1, none⟩ = false ∧ W.frozen? ⟨w.heap.size + 1, 2, none⟩ = false ∧ W.frozen? ⟨w.heap.size + 1, 3, none⟩ = false)) := hid_ (fun W hW => by
    have C : ∀ i, W.cell? ⟨w.heap.size + 1, i, none⟩ = w1.cell? ⟨w.heap.size + 1, i, none⟩ := fun i => hW.cell (by show w.heap.size + 1 < _; omega)
    have F : ∀ i, W.frozen? ⟨w.heap.size + 1, i, none⟩ = w1.frozen? ⟨w.heap.size + 1, i, none⟩ := fun i => hW.frozen (by show w.heap.size + 1 < _; omega)
    have f0 : ∀ i, w1.frozen? ⟨w.heap.size + 1, i, none⟩ = false := fun i => by rw [← hw1]; exact World.frozen?_alloc_at _ _ _ _ (by simp)
    refine ⟨⟨?_, ?_, ?_, ?_⟩, (F _).trans (f0 _), (F _).trans (f0 _), (F _).trans (f0 _), (F _).trans (f0 _)⟩ <;> (rw [C, ← hw1]; simp [World.cell?_alloc_at]))
  have Hb1 := hid_ hb1
  have HZ := hid_ hz
  have HC1 := hid_ (fun W (hW : Below w1.heap.size w1 W) => clone_calls a1 n1 c1 R.o W ((h1.below Hb1.out (Nat.le_refl _)).below hW (Nat.le_refl _)) (by have := h1.len; omega))
  have HC2 := hid_ (fun W (hW : Below w1.heap.size w1 W) => clone_calls a2 n2 c2 R.le W ((h2.below Hb1.out (Nat.le_refl _)).below hW (Nat.le_refl _)) (by have := h2.len; omega))
  have HC3 := hid_ (fun W (hW : Below w1.heap.size w1 W) => clone_calls a3 n3 c3 R.ri W ((h3.below Hb1.out (Nat.le_refl _)).below hW (Nat.le_refl _)) (by have := h3.len; omega))
  have hs1 : w.heap.size + 2 ≤ w1.heap.size := by rw [HZ.out]; exact Nat.le_refl _
  clear h1 h2 h3 hb1 hz l1 l2 l3
  have hbb : Below (w.heap.size + 1) w1 w1 := Below.refl _ _
  obtain ⟨q0, q1, q2, q3, -⟩ := HQ.out w1 hbb
  have hbd : Below (w.heap.size + 1) w1 w1.drew := Below.drew (Below.refl _ _)
  have hbd1 : Below w1.heap.size w1 w1.drew := Below.drew (Below.refl _ _)
  go_enter Try.func59, Try.ntmps59
  go_wp2_with fail
  clear hw1
  go_region_held3 (fun W => W.cell? ⟨w.heap.size, 0, none⟩ = some (.int .i64 R.f) ∧ W.cell? ⟨w.heap.size, 1, none⟩ = some (.slice a1 n1 c1) ∧ W.cell? ⟨w.heap.size, 2, none⟩ = some (.slice a2 n2 c2) ∧ W.cell? ⟨w.heap.size, 3, none⟩ = some (.slice a3 n3 c3) ∧ Below (w.heap.size + 1) w1 W) (first | exact HQ.out _ (by assumption) | exact HQ.out _ (Below.setCell (Below.setCell (Below.setCell (Below.setCell (by assumption) (by simp) _) (by simp) _) (by simp) _) (by simp) _) | fail)
    (first
      | (go_at_call 71; with_reducible refine (HC1.out _ hbd1).mono ?_; rintro e w5 ⟨v5, rfl, hm5⟩; have hb5 : Below (w.heap.size + 1) w1 w5 := hbd.trans (hm5.bel.mono (by simp; omega)); have hb51 : Below w1.heap.size w1 w5 := hbd1.trans (hm5.bel.mono hbd1.size); obtain ⟨a5, d5, rfl, -⟩ := hm5.at_; have HM5 := hid_ hm5; clear hm5)
      | (go_at_call 71; with_reducible refine (HC2.out _ hb51).mono ?_; rintro e w6 ⟨v6, rfl, hm6⟩; have hb6 : Below (w.heap.size + 1) w1 w6 := hb5.trans (hm6.bel.mono (by have := hb5.size; omega)); have hb61 : Below w1.heap.size w1 w6 := hb51.trans (hm6.bel.mono hb51.size); obtain ⟨a6, d6, rfl, -⟩ := hm6.at_; have HM6 := hid_ hm6; clear hm6)
      | (go_at_call 71; with_reducible refine (HC3.out _ hb61).mono ?_; rintro e w7 ⟨v7, rfl, hm7⟩; have hb7 : Below (w.heap.size + 1) w1 w7 := hb6.trans (hm7.bel.mono (by have := hb6.size; omega)); have hb71 : Below w1.heap.size w1 w7 := hb61.trans (hm7.bel.mono hb61.size); obtain ⟨a7, d7, rfl, -⟩ := hm7.at_; have HM7 := hid_ hm7; clear hm7; obtain ⟨⟨r0, r1, r2, r3⟩, f0, f1, f2, f3⟩ := HRB.out w7 hb71))
  go_wp2_with fail
  refine bodyPost_ret (v := .agg #[.int .i64 R.f, .slice a5 R.o.length d5, .slice a6 R.le.length d6, .slice a7 R.ri.length d7]) ?_ rfl ⟨⟨R.f, .slice a5 R.o.length d5, .slice a6 R.le.length d6, .slice a7 R.ri.length d7⟩, rfl, ?_, ?_⟩
  · simp [results, Try.results59, go_sem, r0, r1, r2, r3]
  · have t5 : WordT w7 w1.heap.size (.slice a5 R.o.length d5) R.o := (((Made.wordT HM5.out).next HM6.out.bel).next HM7.out.bel).mono (Nat.le_refl _)
    have t6 : WordT w7 w1.heap.size (.slice a6 R.le.length d6) R.le := ((Made.wordT HM6.out).next HM7.out.bel).mono hb51.size
    have t7 : WordT w7 w1.heap.size (.slice a7 R.ri.length d7) R.ri := (Made.wordT HM7.out).mono hb61.size
    have lo : w.heap.size + 1 < w1.heap.size := by omega
    exact ⟨rfl, ((((t5.setLo lo).setLo lo).setLo lo).setLo lo).wordX.base (by omega), ((((t6.setLo lo).setLo lo).setLo lo).setLo lo).wordX.base (by omega), ((((t7.setLo lo).setLo lo).setLo lo).setLo lo).wordX.base (by omega)⟩
  · (repeat (with_reducible refine Below.setCell ?_ (by simp) _)); exact Hb1.out.trans (hb71.mono Hb1.out.size)
/-! ### Without: the program -/
theorem erase_snoc {L : List Rl} {i : Nat} (hi : i < L.length) (k : Nat) : (L.take (i + 1)).eraseIdx k = if i = k then (L.take i).eraseIdx k else (L.take i).eraseIdx k ++ [L.getD i R0] := by
  rw [take_snoc L R0 i hi]
  have hl : (L.take i).length = i := by rw [List.length_take]; omega
  by_cases e : i = k
  · subst e
    rw [if_pos rfl, List.eraseIdx_append_of_length_le (by omega), hl, Nat.sub_self, List.eraseIdx_of_length_le (l := L.take i) (by omega)]
    simp
  · rw [if_neg e]
    by_cases hk : k < i
    · rw [List.eraseIdx_append_of_lt_length (by omega)]
    · rw [List.eraseIdx_append_of_length_le (by omega), hl, List.eraseIdx_of_length_le (l := L.take i) (by omega), List.eraseIdx_of_length_le (l := [L.getD i R0]) (by simp; omega)]
def errWithout (L : List Rl) (x : Int) : Int := if validS L = 0 then (if isRl L.length x then 0 else 4) else validS L
def resWithout (L : List Rl) (x : Int) : List Rl := if validS L = 0 then (if isRl L.length x then L.eraseIdx x.toNat else []) else []
theorem setN_len {l : List Int} (h : setN l = true) : l.length ≤ 7 := by
  have key : ∀ k, k < l.length → -1 + (k : Int) ≤ l.getD k 0 := by
    intro k
    induction k with
    | zero => exact fun hk => by have := (setN_range h _ (getD_mem hk)).1; simpa using this
    | succ k ih =>
      intro hk
      have h1 := ih (by omega)
      simp only [setN, IsSet, List.all_eq_true, List.mem_range] at h
      have := h (k + 1) hk
      simp only [setBad, Nat.add_sub_cancel] at this
      generalize l.getD k 0 = y at *
      generalize l.getD (k + 1) 0 = z at *
      simp at this
      omega
  rcases Nat.lt_or_ge 7 l.length with h7 | h7
  · have h1 := key 7 h7
    have h2 := (setN_range h _ (getD_mem h7)).2
    omega
  · exact h7
theorem valid_lens {R : Rl} (h : validR R = 0) : R.o.length ≤ 1000 ∧ R.le.length ≤ 1000 ∧ R.ri.length ≤ 1000 := by
  obtain ⟨_, _, h1, _, h2, h3⟩ := validR_ok h
  have := setN_len h2
  have := setN_len h3
  omega
set_option maxRecDepth 100000 in
set_option maxHeartbeats 4000000 in
theorem feWithout_calls (A : Option Addr) (N C : Nat) (L : List Rl) (x : Int) (w : World) (h : RulesAt w A N C L) :
    Calls Try.prog 26 #[.slice A N C, .int .i64 x] w fun e w' => ∃ v, e = .returned (.tuple #[v, .int .i64 (errWithout L x)]) ∧ OwnRs true w' w.heap.size v (resWithout L x) ∧ Below w.heap.size w w' := by
  have HLn := hid_ h.len
  have HV := hid_ (feValidate_calls A N C L w h)
  have HI := hid_ (fun W => isRule_calls A N C x W)
  by_cases hv : validS L = 0
  · rw [hv] at HV
    cases hq : isRl L.length x with
    | false =>
      have He : Hid (errWithout L x = 4) := hid_ (by rw [errWithout, if_pos hv, hq]; rfl)
      have Hr : Hid (resWithout L x = []) := hid_ (by rw [resWithout, if_pos hv, hq]; rfl)
      rw [h.len] at hq
      rw [hq] at HI
      clear h hv hq
      go_enter Try.func26, Try.ntmps26
      go_wp2_with (first
        | (go_at_call 47; (with_reducible refine HV.out.mono ?_); rintro e w3 ⟨rfl, hb3⟩)
        | (go_at_call 58; (with_reducible refine (HI.out w3).mono ?_); rintro e w4 ⟨rfl, rfl⟩))
      go_ret2
      exact ⟨_, by rw [He.out]; rfl, by rw [Hr.out]; exact OwnRs.nil _ _ _, hb3⟩
    | true =>
      obtain ⟨kk, rfl, hkk⟩ : ∃ kk : Nat, x = kk ∧ kk < L.length := by
        simp only [isRl, Bool.and_eq_true, decide_eq_true_eq] at hq
        exact ⟨x.toNat, by omega, by omega⟩
      have He : Hid (errWithout L (kk : Int) = 0) := hid_ (by rw [errWithout, if_pos hv, hq]; rfl)
      have Hr : Hid (resWithout L (kk : Int) = (L.take N).eraseIdx kk) := hid_ (by rw [resWithout, if_pos hv, hq, ← h.len, List.take_length]; rfl)
      rw [h.len] at hq
      rw [hq] at HI
      have HS := hid_ (fun i (hi : i < L.length) => erase_snoc hi kk)
      have hN6 : N ≤ 6 := by rw [← h.len]; exact (validS_ok hv).1
      have HVR := hid_ (validS_ok hv).2
      have HH := hid_ h
      rw [He.out, Hr.out]
      clear h hv hq He Hr hkk
      go_enter Try.func26, Try.ntmps26
      go_wp2_with (first
        | (go_at_call 47; (with_reducible refine HV.out.mono ?_); rintro e w3 ⟨rfl, hb3⟩)
        | (go_at_call 58; (with_reducible refine (HI.out w3).mono ?_); rintro e w4 ⟨rfl, rfl⟩))
      go_loopw [7, 21] (fun v i wr => ∃ k : Nat, k ≤ N ∧ i = .int .i64 k ∧ OwnRs true wr w.heap.size v ((L.take k).eraseIdx kk) ∧ Below w.heap.size w wr) (fun _ i _ => N - (intOf i).toNat)
      case atStart => exact ⟨0, Nat.zero_le _, rfl, by simpa using OwnRs.nil _ _ _, hb3⟩
      case round =>
        obtain ⟨k, hk, rfl, hO, hb⟩ := hrel
        by_cases hlt : k < N
        · obtain ⟨b, off, a1, n1, c1, a2, n2, c2, a3, n3, c3, rfl, hbl, j0, j1, j2, j3, hr⟩ := (HH.out.below hb (Nat.le_refl _)).at_ hlt
          have hs := HS.out k (by rw [HLn.out]; exact hlt)
          have hvr := HVR.out (L.getD k R0) (by rw [show L.getD k R0 = L[k]'(by rw [HLn.out]; exact hlt) by simp [List.getD, List.getElem?_eq_getElem (show k < L.length by rw [HLn.out]; exact hlt)]]; exact List.getElem_mem _)
          obtain ⟨l1, l2, l3⟩ := valid_lens hvr
          have hlen : ((L.take k).eraseIdx kk).length ≤ k := by
            have := List.length_eraseIdx_le (L.take k) kk
            rw [List.length_take] at this; omega
          generalize L.getD k R0 = R at *
          generalize (L.take k).eraseIdx kk = M at *
          by_cases e : k = kk
          · subst e
            rw [if_pos rfl] at hs
            have Hs := hid_ hs
            have HO := hid_ hO; have Hb := hid_ hb
            clear hs hO hb hr
            go_wp2
            go_roundw
            case rel => exact ⟨k + 1, by omega, by go_num, by rw [Hs.out]; exact HO.out.next (below_alloc _ _), Hb.out.trans ((below_alloc _ _).mono Hb.out.size)⟩
            case measure => simp [intOf]; omega
          · rw [if_neg e] at hs
            have hne : ¬ (k : Int) = (kk : Int) := by omega
            have Hs := hid_ hs
            have HCo := hid_ (copied_calls _ R (wr.alloc (.cells #[.int .i64 R.f, .slice a1 n1 c1, .slice a2 n2 c2, .slice a3 n3 c3] 53)) (hr.below (below_alloc _ _) (Nat.le_refl _)) l1 l2 l3)
            have HO := hid_ hO; have Hb := hid_ hb
            clear hs hO hb hr l1 l2 l3
            go_wp2_with (first
              | (go_at_call 59; (with_reducible refine HCo.out.mono ?_); rintro e w6 ⟨y, rfl, hy, hb6⟩; have hb06 : Below wr.heap.size wr w6 := (below_alloc _ _).trans (hb6.mono (by simp)); have Hy := hid_ hy; clear hy)
              | (at_builtin; refine wpList_append_rule rfl (.tmp 29) (.tmp 32) rfl w.heap.size _ M rfl HO.out R w6 hb06 y (Hy.out.base (by simp)) _ rfl (by omega) Hb.out.size ?_; rintro v7 w7 hO7 hb7))
            go_roundw
            case rel => exact ⟨k + 1, by omega, by go_num, by rw [Hs.out]; exact hO7, Hb.out.trans hb7⟩
            case measure => simp [intOf]; omega
        · obtain rfl : N = k := by omega
          go_wp2
          go_ret2
          exact ⟨_, rfl, hO, hb⟩
  · have He : Hid (errWithout L x = validS L) := hid_ (by rw [errWithout, if_neg hv])
    have Hr : Hid (resWithout L x = []) := hid_ (by rw [resWithout, if_neg hv])
    have hq : (validS L != 0) = true := by simpa using hv
    rw [He.out, Hr.out]
    generalize validS L = z at *
    clear h hv He Hr
    go_enter Try.func26, Try.ntmps26
    go_wp2_with (go_at_call 47; (with_reducible refine HV.out.mono ?_); rintro e w3 ⟨rfl, hb3⟩)
    go_ret2
    exact ⟨_, rfl, OwnRs.nil _ _ _, hb3⟩
/-! ### Copy of a system -/
set_option maxRecDepth 100000 in
set_option maxHeartbeats 4000000 in
theorem r3Copy_calls (A : Option Addr) (N C : Nat) (L : List Rl) (w : World) (h : RulesAt w A N C L) (hN : N ≤ 1000) (hL : ∀ R ∈ L, R.o.length ≤ 1000 ∧ R.le.length ≤ 1000 ∧ R.ri.length ≤ 1000) :
    Calls Try.prog 25 #[.slice A N C] w fun e w' => ∃ v, e = .returned v ∧ OwnRs false w' w.heap.size v L ∧ Below w.heap.size w w' := by
  have HLn := hid_ h.len
  have HS := hid_ (fun i (hi : i < L.length) => take_snoc L R0 i hi)
  have HT : Hid (L.take N = L) := hid_ (by rw [← h.len, List.take_length])
  have HH := hid_ h
  have HLe := hid_ hL
  clear h hL
  go_enter Try.func25, Try.ntmps25
  go_wp2
  go_loopw [3, 4] (fun v i wr => ∃ k : Nat, k ≤ N ∧ i = .int .i64 k ∧ OwnRs false wr w.heap.size v (L.take k) ∧ Below w.heap.size w wr) (fun _ i _ => N - (intOf i).toNat)
  case atStart => exact ⟨0, Nat.zero_le _, rfl, by simpa using OwnRs.nil _ _ _, Below.refl _ _⟩
  case round =>
    obtain ⟨k, hk, rfl, hO, hb⟩ := hrel
    by_cases hlt : k < N
    · obtain ⟨b, off, a1, n1, c1, a2, n2, c2, a3, n3, c3, rfl, hbl, j0, j1, j2, j3, hr⟩ := (HH.out.below hb (Nat.le_refl _)).at_ hlt
      have hs := HS.out k (by rw [HLn.out]; exact hlt)
      obtain ⟨l1, l2, l3⟩ := HLe.out (L.getD k R0) (by rw [show L.getD k R0 = L[k]'(by rw [HLn.out]; exact hlt) by simp [List.getD, List.getElem?_eq_getElem (show k < L.length by rw [HLn.out]; exact hlt)]]; exact List.getElem_mem _)
      have hlen : (L.take k).length ≤ k := by rw [List.length_take]; omega
      generalize L.getD k R0 = R at *
      generalize L.take k = M at *
      have Hs := hid_ hs
      have HCo : Hid (Calls Try.prog 57 #[.agg #[.int .i64 R.f, .slice a1 n1 c1, .slice a2 n2 c2, .slice a3 n3 c3]] wr fun e w' => ∃ y : Rc, e = .returned (.agg #[.int .i64 y.1, y.2.1, y.2.2.1, y.2.2.2]) ∧ RuleX false w' wr.heap.size none y R ∧ Below wr.heap.size wr w') := hid_ ((copy_calls _ R wr hr l1 l2 l3).mono fun e w' hp => by
        obtain ⟨v, he, hn, hb⟩ := hp
        obtain ⟨y, hy, hx⟩ := RuleNew.ruleX hn
        exact ⟨y, by rw [he, hy], hx, hb⟩)
      have HO := hid_ hO; have Hb := hid_ hb
      clear hs hO hb hr l1 l2 l3
      go_wp2_with (first
        | (go_at_call 57; (with_reducible refine HCo.out.mono ?_); rintro e w6 ⟨y, rfl, hy, hb6⟩; have Hy := hid_ hy; clear hy)
        | (at_builtin; refine wpList_append_rule rfl (.tmp 11) (.tmp 17) rfl w.heap.size _ M rfl HO.out R w6 hb6 y Hy.out _ rfl (by omega) Hb.out.size ?_; rintro v7 w7 hO7 hb7))
      go_roundw
      case rel => exact ⟨k + 1, by omega, by go_num, by rw [Hs.out]; exact hO7, Hb.out.trans hb7⟩
      case measure => simp [intOf]; omega
    · obtain rfl : N = k := by omega
      rw [HT.out] at hO
      go_wp2
      go_ret
      exact ⟨_, rfl, hO, hb⟩
end Go.Proofs.Ytgipkbiogldjpaa
namespace Go.Proofs.Ytgipkbiogldjpaa
open Go.RowKit Go.Proofs.Kv

/-! ### Without and Same of the document -/
set_option maxRecDepth 100000 in
set_option maxHeartbeats 4000000 in
theorem sameS_calls (A : Option Addr) (N C : Nat) (A' : Option Addr) (C' : Nat) (L : List Rl) (w : World) (h : RulesAt w A N C L) (h' : RulesAt w A' N C' L) :
    Calls Try.prog 28 #[.slice A N C, .slice A' N C'] w fun e w' => e = .returned (.bool true) ∧ Below w.heap.size w w' := by
  have hN : N ≤ 9223372036854775807 := Nat.le_trans h.le h.small
  have HH := hid_ h
  have HH' := hid_ h'
  clear h h'
  go_enter Try.func28, Try.ntmps28
  go_wp2
  go_loopw [5] (fun i wr => ∃ k : Nat, k ≤ N ∧ i = .int .i64 k ∧ Below w.heap.size w wr) (fun i _ => N - (intOf i).toNat)
  case atStart => exact ⟨0, Nat.zero_le _, rfl, Below.refl _ _⟩
  case round =>
    obtain ⟨k, hk, rfl, hb⟩ := hrel
    by_cases hlt : k < N
    · obtain ⟨b, off, a1, n1, c1, a2, n2, c2, a3, n3, c3, rfl, hbl, j0, j1, j2, j3, hr⟩ := (HH.out.below hb (Nat.le_refl _)).at_ hlt
      obtain ⟨b', off', a4, n4, c4, a5, n5, c5, a6, n6, c6, rfl, hbl', i0, i1, i2, i3, hr'⟩ := (HH'.out.below hb (Nat.le_refl _)).at_ hlt
      have HS := hid_ (fun W (hW : Below wr.heap.size wr W) => sameR_calls _ _ (L.getD k R0) (L.getD k R0) W (hr.below hW (Nat.le_refl _)) (hr'.below hW (Nat.le_refl _)) rfl)
      generalize L.getD k R0 = R at *
      have Hb := hid_ hb
      have e0 := cell_regrown j0; have e1 := cell_regrown j1; have e2 := cell_regrown j2; have e3 := cell_regrown j3
      have d0 := cell_regrown i0; have d1 := cell_regrown i1; have d2 := cell_regrown i2; have d3 := cell_regrown i3
      clear hr hr' hb
      go_wp2_with fail
      refine wp_region_quiet_below (by kernel_rfl) (by kernel_rfl) ?_
      repeat (first | go_big_quiet_skip | (go_big_quiet_want; go_big_quiet_op; first | go_big_quiet_on | go_big_quiet_call ((go_at_call 60; exact Calls.regrown_of (HS.out _ (below_regrown _ _ _))))))
      refine wpQuiet_nil ?_
      rintro wq ⟨pq, hpq⟩
      have hbq := below_wq hpq; clear hpq
      go_wp2
      go_roundw
      case rel => exact ⟨k + 1, by omega, by go_num, Hb.out.trans (hbq.mono Hb.out.size)⟩
      case measure => simp [intOf]; omega
    · obtain rfl : N = k := by omega
      go_wp2
      go_ret
      exact ⟨rfl, hb⟩
theorem isRl_within (N : Nat) (x : Int) : isRl N x = Within x 0 ((N : Int) - 1) := by
  simp only [isRl, Within]
  congr 1
  exact decide_eq_decide.2 (by omega)
theorem RuleX.row {t : Bool} {w : World} {B : Nat} {row row' : Option Nat} {x : Rc} {R : Rl} (h : RuleX t w B row x R) (hr : row' = row ∨ ∃ k, row' = some k ∧ w.heap.size ≤ k) : RuleX t w B row' x R := ⟨h.f, h.o.row hr, h.le.row hr, h.ri.row hr⟩
theorem RuleX.noRow {t : Bool} {w : World} {B : Nat} {row : Option Nat} {x : Rc} {R : Rl} (h : RuleX t w B row x R) : RuleX t w B none x R := by
  have key : ∀ u l, WordX t w B row u l → WordX t w B none u l := by
    rintro u l ⟨⟨a, n, c, rfl, hi, hd⟩, ht⟩
    exact ⟨⟨a, n, c, rfl, hi, fun b off hn ha => ⟨(hd b off hn ha).1, by simp⟩⟩, ht⟩
  exact ⟨h.f, key _ _ h.o, key _ _ h.le, key _ _ h.ri⟩
theorem OwnRs.erased {t : Bool} {w w7 : World} {B g k : Nat} {L : List Rl} {vs : List Rc} (hk : k < L.length) (h0 : vs.length = L.length) (h2 : ∀ i x, vs[i]? = some x → RuleX t w B (some g) x (L.getD i R0)) (hB : B ≤ w.heap.size) {v7 : Value}
    (k7 : w7.ownsRow w.heap.size 53 4 v7 (k + (L.length - (k + 1))) ((vs.take k).flatMap encRc ++ (vs.drop (k + 1)).flatMap encRc)) (g7 : w.grownBy w7 none) : OwnRs t w7 B v7 (L.eraseIdx k) := by
  have hb : Below w.heap.size w w7 := (Below.refl _ w).grown g7 (Nat.le_refl _) (fun k hk => by cases hk)
  have hl : (L.eraseIdx k).length = k + (L.length - (k + 1)) := by rw [List.length_eraseIdx_of_lt hk]; omega
  refine ⟨vs.eraseIdx k, by rw [List.length_eraseIdx_of_lt (by omega), List.length_eraseIdx_of_lt hk, h0], ?_, fun i x hx => ?_⟩
  · rw [hl, List.eraseIdx_eq_take_drop_succ, List.flatMap_append]
    exact own_base k7 hB
  · rw [List.getElem?_eraseIdx] at hx
    have hrow : ∀ {x R}, RuleX t w B (some g) x R → RuleX t w7 B v7.ownBlock x R := fun {x R} h => by
      have h' := h.next hb
      cases e : v7.ownBlock with
      | none => exact h'.noRow
      | some b => exact (h.row (.inr ⟨b, rfl, (k7.lt b e).1⟩)).next hb
    by_cases hi : i < k
    · rw [if_pos hi] at hx
      rw [show (L.eraseIdx k).getD i R0 = L.getD i R0 by simp only [List.getD]; rw [List.getElem?_eraseIdx, if_pos hi]]
      exact hrow (h2 i x hx)
    · rw [if_neg hi] at hx
      rw [show (L.eraseIdx k).getD i R0 = L.getD (i + 1) R0 by simp only [List.getD]; rw [List.getElem?_eraseIdx, if_neg hi]]
      exact hrow (h2 (i + 1) x hx)
theorem RulesAt.take {w : World} {a : Option Addr} {n c : Nat} {L : List Rl} (h : RulesAt w a n c L) {k : Nat} (hk : k ≤ n) : RulesAt w a k k (L.take k) :=
  ⟨by rw [List.length_take, h.len]; omega, Nat.le_refl _, by have := h.le; have := h.small; omega, fun i hi => by
    obtain ⟨b, off, x0, x1, x2, x3, e, hb, q0, q1, q2, q3, hr⟩ := h.cells i (by omega)
    refine ⟨b, off, x0, x1, x2, x3, e, hb, q0, q1, q2, q3, ?_⟩
    rw [show (L.take k).getD i ⟨0, [], [], []⟩ = L.getD i ⟨0, [], [], []⟩ by simp only [List.getD]; rw [List.getElem?_take, if_pos hi]]
    exact hr⟩
/-- append of nothing -/
theorem step_append_none {ops : Array Oper} {o : Oper} {a : Act} {w : World} {K : Act → World → Prop} {Q : Exit → Act → World → Prop} {E : Prop} (hg : o.guard = none) (s x : Operand)
    (ho : o.op = .call { callee := .builtin .append, args := #[s, x], argTypes := #[22, 22] }) (gb n c : Nat) (hs : a.eval s = .slice (some ⟨gb, 0, none⟩) n c) (hn : n ≤ c) (ad : Addr) (c' : Nat) (hx : a.eval x = .slice (some ad) 0 c')
    (hK : K (a.put o.dst (.slice (some ⟨gb, 0, none⟩) n c)) w) :
    if Region.wanted o (yielded ops a.tmps) = true then Oper.wp Try.prog o a w K Q else E := by
  obtain ⟨i0, hi0, hz0, hz1, hz2⟩ := info_parts Try.infoRuleC
  have hw : Region.wanted o (yielded ops a.tmps) = true := by simp [Region.wanted, hg]
  rw [if_pos hw]
  have hrun : (Builtin.append_ #[22, 22] o.type #[.slice (some ⟨gb, 0, none⟩) n c, .slice (some ad) 0 c']).run Try.prog w = .ok (.slice (some ⟨gb, 0, none⟩) n c) w := by
    simp [Builtin.append_, run_underlying Try.underlying22, sizeOf, typeInfo, hi0, Builtin.lenOf, Builtin.firstCells, storeCells, loadCells, loadCellsFrom, hn]
  unfold Oper.wp
  simp [execOp, ho, resolve, invoke, builtin, hs, hx, hrun, Result.andThen]
  exact hK
set_option maxRecDepth 100000 in
set_option maxHeartbeats 1000000 in
theorem r3Without_calls (A : Option Addr) (N C : Nat) (L : List Rl) (x : Int) (w : World) (h : RulesAt w A N C L) :
    Calls Try.prog 27 #[.slice A N C, .int .i64 x] w fun e w' => ∃ a c, e = .returned (.tuple #[.slice a (resWithout L x).length c, .int .i64 (errWithout L x)]) ∧ RulesAt w' a (resWithout L x).length c (resWithout L x) ∧ Below w.heap.size w w' := by
  obtain rfl := h.len
  have HV := hid_ (r3Validate_calls A _ C L w h)
  have HI := hid_ (fun W => within3_calls x 0 ((L.length : Int) - 1) W)
  rw [← isRl_within] at HI
  by_cases hv : validS L = 0
  · have hN6 : L.length ≤ 6 := (validS_ok hv).1
    rw [hv] at HV
    cases hq : isRl L.length x with
    | false =>
      have He : Hid (errWithout L x = 4) := hid_ (by rw [errWithout, if_pos hv, hq]; rfl)
      have Hr : Hid (resWithout L x = []) := hid_ (by rw [resWithout, if_pos hv, hq]; rfl)
      rw [hq] at HI
      rw [He.out, Hr.out]
      clear h hv hq He Hr
      go_enter Try.func27, Try.ntmps27
      go_wp2_with (first
        | (go_at_call 55; (with_reducible refine HV.out.mono ?_); rintro e w3 ⟨rfl, hb3⟩)
        | (go_at_call 45; (with_reducible refine (HI.out w3).mono ?_); rintro e w4 ⟨rfl, rfl⟩))
      go_ret2
      exact ⟨none, 0, rfl, RulesAt.nil _ _ _ (by omega), hb3⟩
    | true =>
      obtain ⟨k, rfl, hk⟩ : ∃ k : Nat, x = k ∧ k < L.length := by
        simp only [isRl, Bool.and_eq_true, decide_eq_true_eq] at hq
        exact ⟨x.toNat, by omega, by omega⟩
      have He : Hid (errWithout L (k : Int) = 0) := hid_ (by rw [errWithout, if_pos hv, hq]; rfl)
      have Hr : Hid (resWithout L (k : Int) = L.eraseIdx k) := hid_ (by rw [resWithout, if_pos hv, hq]; rfl)
      rw [hq] at HI
      have HCo : Hid (∀ W, Below w.heap.size w W → Calls Try.prog 25 #[.slice A L.length C] W fun e w' => ∃ (g cp : Nat) (vs : List Rc), e = .returned (.slice (some ⟨g, 0, none⟩) L.length cp) ∧ L.length ≤ cp ∧ vs.length = L.length ∧ w'.ownsRow W.heap.size 53 4 (.slice (some ⟨g, 0, none⟩) L.length cp) L.length (vs.flatMap encRc) ∧ (∀ i x, vs[i]? = some x → RuleX false w' W.heap.size (some g) x (L.getD i R0)) ∧ Below W.heap.size W w') :=
        hid_ (fun W hW => (r3Copy_calls A _ C L W (h.below hW (Nat.le_refl _)) (by omega) (fun R hR => valid_lens ((validS_ok hv).2 R hR))).mono fun e w' hp => by
          obtain ⟨v5, he, ⟨vs, h0, h1, h2⟩, hb5⟩ := hp
          obtain ⟨g, cp, rfl⟩ := own_slice h1 (by omega)
          refine ⟨g, cp, vs, he, ?_, h0, h1, h2, hb5⟩
          rcases h1.2 with ⟨e, _⟩ | ⟨g', cap, cur, e, _, _, hnc, _⟩
          · cases e
          · injection e with _ _ e; omega)
      rw [He.out, Hr.out]
      clear h hv hq He Hr
      go_enter Try.func27, Try.ntmps27
      go_wp2_with (first
        | (go_at_call 55; (with_reducible refine HV.out.mono ?_); rintro e w3 ⟨rfl, hb3⟩)
        | (go_at_call 45; (with_reducible refine (HI.out w3).mono ?_); rintro e w4 ⟨rfl, rfl⟩)
        | (go_at_call 25; (with_reducible refine (HCo.out w3 hb3).mono ?_); rintro e w5 ⟨g, cp, vs, rfl, hcp, h0, h1, h2, hb5⟩))
      obtain ⟨i0, hi0, hz0, hz1, hz2⟩ := info_parts Try.infoRuleC
      have HO := hid_ h1; have H2 := hid_ h2; have H0 := hid_ h0
      have hfin := hb3.trans (hb5.mono hb3.size)
      clear h1 h2 h0
      have hkc : k ≤ cp := by omega
      have hkl : k + 1 ≤ L.length := by omega
      have hk0 : 0 ≤ (k : Int) + 1 := by omega
      have hk1 : (k : Int) + 1 ≤ (L.length : Int) := by omega
      by_cases hm : L.length = k + 1
      · have hR : RulesAt w5.drew (some ⟨g, 0, none⟩) (L.eraseIdx k).length k (L.eraseIdx k) := by
          have hO : OwnRs false w5 w3.heap.size (.slice (some ⟨g, 0, none⟩) L.length cp) L := ⟨vs, H0.out, HO.out, H2.out⟩
          obtain ⟨a', c', e, hA⟩ := hO.at_
          injection e with e1 _ e3
          subst e1; subst e3
          have ht := RulesAt.take hA (k := k) (by omega)
          have he : L.eraseIdx k = L.take k := by rw [List.eraseIdx_eq_take_drop_succ, List.drop_eq_nil_of_le (by omega), List.append_nil]
          rw [he, show (L.take k).length = k by rw [List.length_take]; omega]
          exact ht.below (below_drew1 (Below.refl _ _)) (Nat.le_refl _)
        have HR := hid_ hR
        have hlk : (L.eraseIdx k).length = k := by rw [List.length_eraseIdx_of_lt hk]; omega
        have Hlk := hid_ hlk
        have Hcp := hid_ (show k ≤ k from Nat.le_refl _)
        clear hR hlk
        by_cases hcc : cp = k + 1
        · have hkk : (k : Int) ≤ (k : Int) + 1 := by omega
          have hw1 : IntKind.i64.wrap ((k : Int) + 1) = (k : Int) + 1 := IntWalk.i64_in _ (by omega)
          go_region_law (refine step_append_none rfl (.tmp 24) (.tmp 28) rfl g k k (by simp [Act.eval, Act.put]) Hcp.out ⟨g, 0, none⟩ 0 (by simp [Act.eval, Act.put]) ?_)
          all_goals
            clear hw1
            go_wp2_with fail
            go_ret2
            exact ⟨some ⟨g, 0, none⟩, k, by rw [Hlk.out]; rfl, HR.out, hfin.trans ((below_drew1 (Below.refl _ _)).mono hfin.size)⟩
        · have hw1 : IntKind.i64.wrap ((k : Int) + 1) = (k : Int) + 1 := IntWalk.i64_in _ (by omega)
          go_region_law (refine step_append_none rfl (.tmp 24) (.tmp 28) rfl g k k (by simp [Act.eval, Act.put]) Hcp.out ⟨g, (k + 1) * 4, none⟩ (cp - (k + 1)) (by simp [Act.eval, Act.put]) ?_)
          all_goals
            clear hw1
            go_wp2_with fail
            go_ret2
            exact ⟨some ⟨g, 0, none⟩, k, by rw [Hlk.out]; rfl, HR.out, hfin.trans ((below_drew1 (Below.refl _ _)).mono hfin.size)⟩
      · have hcc : ¬ cp = k + 1 := by omega
        have E1 : Hid (((vs.take k).flatMap encRc).length = k * 4) := hid_ (by rw [encRc_len, List.length_take, Nat.min_eq_left (by rw [H0.out]; omega)])
        have E2 : Hid (((vs.drop (k + 1)).flatMap encRc).length = (L.length - (k + 1)) * 4) := hid_ (by rw [encRc_len, List.length_drop, H0.out])
        have hsplit : vs.flatMap encRc = (vs.take k).flatMap encRc ++ ((vs.drop k).flatMap encRc) := by rw [← List.flatMap_append, List.take_append_drop]
        have hsplit2 : vs.flatMap encRc = (vs.take (k + 1)).flatMap encRc ++ ((vs.drop (k + 1)).flatMap encRc) := by rw [← List.flatMap_append, List.take_append_drop]
        have E3 : Hid (∀ b, some (⟨g, 0, none⟩ : Addr) = some b → ∀ j u, ((vs.take k).flatMap encRc)[j]? = some u → w5.drew.cell? (b.add j) = some u) := hid_ (fun b e j u hu => by
          injection e with e; subst e
          refine HO.out.cells (g := g) rfl j u ?_
          rw [hsplit, List.getElem?_append_left]
          · exact hu
          · rcases Nat.lt_or_ge j ((vs.take k).flatMap encRc).length with q | q
            · exact q
            · rw [List.getElem?_eq_none q] at hu; cases hu)
        have E4 : Hid (∀ j u, ((vs.drop (k + 1)).flatMap encRc)[j]? = some u → w5.drew.cell? ((⟨g, (k + 1) * 4, none⟩ : Addr).add j) = some u) := hid_ (fun j u hu => by
          have hl : ((vs.take (k + 1)).flatMap encRc).length = (k + 1) * 4 := by rw [encRc_len, List.length_take, Nat.min_eq_left (by rw [H0.out]; omega)]
          have := HO.out.cells (g := g) rfl ((k + 1) * 4 + j) u (by
            rw [hsplit2, List.getElem?_append_right (by rw [hl]; omega), hl, Nat.add_sub_cancel_left]; exact hu)
          rwa [show (⟨g, 0, none⟩ : Addr).add ((k + 1) * 4 + j) = (⟨g, (k + 1) * 4, none⟩ : Addr).add j by unfold Addr.add; split <;> simp_all] at this)
        have E5 : Hid (∀ u ∈ (vs.drop (k + 1)).flatMap encRc, u.oneCell' = true) := hid_ (fun u hu => by
          obtain ⟨y, hy, hu⟩ := List.mem_flatMap.1 hu
          obtain ⟨i, hi, rfl⟩ := List.mem_iff_getElem.1 (List.mem_of_mem_drop hy)
          exact (H2.out i _ (List.getElem?_eq_getElem hi)).one u hu)
        have E6 : Hid (k < k + (L.length - (k + 1))) := hid_ (by omega)
        have E7 : Hid (k + (L.length - (k + 1)) ≤ maxLen) := hid_ (by unfold maxLen; omega)
        have E8 : Hid ((k + (L.length - (k + 1))) * 80 ≤ 140737488355328) := hid_ (by omega)
        clear hsplit hsplit2
        have hw1 : IntKind.i64.wrap ((k : Int) + 1) = (k : Int) + 1 := IntWalk.i64_in _ (by omega)
        go_region_law (refine step_append_grows rfl (.tmp 24) (.tmp 28) 22 rfl 53 i0 _ 4 80 Try.underlying22 hi0 hz0 hz1 hz2 rfl (Nat.succ_pos 3) (some ⟨g, 0, none⟩) k k ((vs.take k).flatMap encRc) (by simp [Act.eval, Act.put]) (fun h => nomatch h) E1.out E3.out ⟨g, (k + 1) * 4, none⟩ (L.length - (k + 1)) (cp - (k + 1)) ((vs.drop (k + 1)).flatMap encRc) (by simp [Act.eval, Act.put]) E2.out E4.out E5.out E6.out E7.out E8.out ?_; intro v7 w7 k7 g7)
        all_goals
          clear hw1
          have hO7 := OwnRs.erased hk H0.out (fun i x hx => (H2.out i x hx).next (below_drew1 (Below.refl _ _))) (show w3.heap.size ≤ w5.drew.heap.size from hb5.size) k7 g7
          obtain ⟨a7, c7, rfl, hR7⟩ := hO7.at_
          have hb7 : Below w5.heap.size w5 w7 := (below_drew1 (Below.refl _ _)).grown g7 (Nat.le_refl _) (fun k hk => by cases hk)
          clear k7 g7
          go_wp2_with fail
          go_ret2
          exact ⟨_, _, rfl, hR7, hfin.trans (hb7.mono hfin.size)⟩
  · have He : Hid (errWithout L x = validS L) := hid_ (by rw [errWithout, if_neg hv])
    have Hr : Hid (resWithout L x = []) := hid_ (by rw [resWithout, if_neg hv])
    have hq : (validS L != 0) = true := by simpa using hv
    rw [He.out, Hr.out]
    generalize validS L = z at *
    clear h hv He Hr
    go_enter Try.func27, Try.ntmps27
    go_wp2_with (go_at_call 55; (with_reducible refine HV.out.mono ?_); rintro e w3 ⟨rfl, hb3⟩)
    go_ret2
    exact ⟨none, 0, rfl, RulesAt.nil _ _ _ (by omega), hb3⟩
end Go.Proofs.Ytgipkbiogldjpaa
namespace Go.Proofs.Ytgipkbiogldjpaa
open Go.RowKit Go.Proofs.Kv

/-! ### what is reached without a rule: mathematics -/
theorem erase_getD (L : List Rl) (k i : Nat) : (L.eraseIdx k).getD i R0 = L.getD (if i < k then i else i + 1) R0 := by
  simp only [List.getD]; rw [List.getElem?_eraseIdx]; split <;> rfl
theorem moves_less {L : List Rl} {k : Nat} {u : List Int} {m : Mv} (h : m ∈ movesL (L.eraseIdx k) u) : ∃ m' ∈ movesL L u, m'.2 = m.2 := by
  obtain ⟨i, hi, p, hp, he, rfl⟩ := mem_mvTo.1 h
  rw [erase_getD] at hp he ⊢
  have hlt : (if i < k then i else i + 1) < L.length := by
    by_cases hk : k < L.length
    · rw [List.length_eraseIdx_of_lt hk] at hi; split <;> omega
    · rw [List.eraseIdx_of_length_le (by omega)] at hi; rw [if_pos (by omega)]; exact hi
  exact ⟨_, mem_mvTo.2 ⟨_, hlt, p, hp, he, rfl⟩, rfl⟩
theorem Rch.less {L : List Rl} {k : Nat} {l u : List Int} (h : Rch (L.eraseIdx k) l u) : Rch L l u := by
  induction h with
  | refl => exact .refl _
  | step hm _ ih =>
    obtain ⟨m', h1, h2⟩ := moves_less hm
    rw [← h2] at ih
    exact .step h1 ih
theorem errWeb_parts {L : List Rl} {l : List Int} (h : errWeb L l = 0) : validS L = 0 ∧ validW l = 0 ∧ ∃ y, graphR L l = some y ∧ reachedF L l = some y := by
  cases hy : graphR L l with
  | none => exact absurd h (graphR_none hy)
  | some y =>
    obtain ⟨_, he, hx⟩ := graphR_some hy
    exact ⟨(errSW_ok' he).1, (errSW_ok' he).2, y, rfl, hx⟩
theorem mem_reach {L : List Rl} {l : List Int} (h : errWeb L l = 0) (u : List Int) : u ∈ resReach L l ↔ Rch L l u := by
  obtain ⟨hs, hl, y, hy, hx⟩ := errWeb_parts h
  rw [resReach_eq, hy]
  have := (fold_ins y.words (acc := []) List.Pairwise.nil).2 u
  show u ∈ foldI y.words ↔ _
  unfold foldI
  rw [this, ← (reachedF_some hs hl hx).2 u]; simp
theorem reach_few {L : List Rl} {l : List Int} (h : errWeb L l = 0) : ∃ T : List (List Int), T.length ≤ 300 ∧ ∀ u, Rch L l u → u ∈ T := by
  obtain ⟨hs, hl, y, hy, hx⟩ := errWeb_parts h
  obtain ⟨g1, g2⟩ := reachedF_some hs hl hx
  exact ⟨y.words, g1.le, fun u hu => (g2 u).2 hu⟩
theorem errWeb_few {L : List Rl} {l : List Int} (hs : validS L = 0) (hl : validW l = 0) {T : List (List Int)} (hT : T.length ≤ 300) (h : ∀ u, Rch L l u → u ∈ T) : errWeb L l = 0 := by
  have he := errSW_one hs hl
  rw [errWeb, if_pos he]
  cases hx : exploreF L l with
  | some x => rfl
  | none =>
    obtain ⟨S, s1, s2, s3⟩ := exploreF_none (validS_ok hs).2 hl hx
    have := nodup_le s1 (T := T) fun u hu => h u (s3 u hu)
    omega
theorem firstE_mk : ∀ {L : List Rl}, (∀ R ∈ L, validR R = 0) → firstE L = 0
  | [], _ => rfl
  | R :: L, h => by rw [firstE, if_pos (h R (by simp))]; exact firstE_mk fun S hS => h S (by simp [hS])
theorem validS_mk {L : List Rl} (h1 : L.length ≤ 6) (h2 : ∀ R ∈ L, validR R = 0) : validS L = 0 := by
  rw [validS, if_neg (by omega)]; exact firstE_mk h2
theorem validS_less {L : List Rl} (h : validS L = 0) (k : Nat) : validS (L.eraseIdx k) = 0 :=
  validS_mk (Nat.le_trans (List.length_eraseIdx_le _ _) (validS_ok h).1) fun R hR => (validS_ok h).2 R (List.mem_of_mem_eraseIdx hR)
theorem errWeb_less {L : List Rl} {l : List Int} (k : Nat) (h : errWeb L l = 0) : errWeb (L.eraseIdx k) l = 0 := by
  obtain ⟨hs, hl, -⟩ := errWeb_parts h
  obtain ⟨T, t1, t2⟩ := reach_few h
  exact errWeb_few (validS_less hs k) hl t1 fun u hu => t2 u hu.less
theorem errWithout_ok {L : List Rl} {x : Int} (h : errWithout L x = 0) : resWithout L x = L.eraseIdx x.toNat ∧ x.toNat < L.length := by
  unfold errWithout at h
  unfold resWithout
  by_cases hv : validS L = 0
  · rw [if_pos hv] at h ⊢
    cases hq : isRl L.length x with
    | false => rw [hq] at h; simp at h
    | true =>
      rw [if_pos rfl]
      simp only [isRl, Bool.and_eq_true, decide_eq_true_eq] at hq
      exact ⟨rfl, by omega⟩
  · rw [if_neg hv] at h; exact absurd h hv
theorem part_less {L : List Rl} {l : List Int} {x : Int} (hx : errWithout L x = 0) (h : errWeb L l = 0) : errWeb (resWithout L x) l = 0 ∧ partL (resReach (resWithout L x) l) (resReach L l) = true := by
  obtain ⟨e, _⟩ := errWithout_ok hx
  rw [e]
  have h' := errWeb_less x.toNat h
  exact ⟨h', decide_eq_true fun u hu => (mem_reach h u).2 ((mem_reach h' u).1 hu).less⟩
/-- without a rule that is in no step the same words are reached -/
theorem Rch.more {L : List Rl} {k : Nat} (hk : k < L.length) {l u : List Int} (h : Rch L l u) (hn : ∀ v, Rch L l v → ∀ m ∈ movesL L v, m.1.1 ≠ (k : Int)) : Rch (L.eraseIdx k) l u := by
  induction h with
  | refl => exact .refl _
  | @step w0 z0 m0 hm hz ih =>
    have h1 := hn _ (.refl _) _ hm
    obtain ⟨i, hi, p, hp, he, e⟩ := mem_mvTo.1 hm
    have hik : i ≠ k := fun q => h1 (by rw [e, q])
    have hj : ∃ j, j < (L.eraseIdx k).length ∧ (if j < k then j else j + 1) = i := by
      rw [List.length_eraseIdx_of_lt hk]
      by_cases q : i < k
      · exact ⟨i, by omega, if_pos q⟩
      · exact ⟨i - 1, by omega, by rw [if_neg (by omega)]; omega⟩
    obtain ⟨j, j1, j2⟩ := hj
    have hg : (L.eraseIdx k).getD j R0 = L.getD i R0 := by rw [erase_getD, j2]
    have h2 : ((((j : Int), p), putRes (L.getD i R0) [p] w0) : Mv) ∈ movesL (L.eraseIdx k) w0 := mem_mvTo.2 ⟨j, j1, p, by rw [hg]; exact hp, by rw [hg]; exact he, by rw [hg]⟩
    have h3 := ih fun v hv m hm' => hn v (.step hm hv) m hm'
    rw [e] at h3
    exact .step h2 h3
end Go.Proofs.Ytgipkbiogldjpaa
