import Derived.Test.YtebbmhlkdfmmcaaGreatJp
import Derived.Test.YtebbmhlkdfmmcaaGreatJsa
import Derived.Test.YtebbmhlkdfmmcaaGreatRv
import Derived.Test.YtebbmhlkdfmmcaaGreatMi
import Derived.Test.YtebbmhlkdfmmcaaGreatMbd
import Derived.Test.YtebbmhlkdfmmcaaGreatJn
import Derived.Test.YtebbmhlkdfmmcaaGreatJs
import Derived.Deep.RegionLawGrows
import Derived.Test.YtebbmhlkdfmmcaaGreatJxd
namespace Go.Proofs.YtebbmhlkdfmmcaaGreat
open Go.RowKit Go.Proofs.Kv

/-! ### systems in new memory -/
theorem Tryz.infoRuleC : (Tryz.prog.info? 44).map (fun i => (i.zero, i.size, i.bytes)) = some (some (.agg #[.int .i64 0, .slice none 0 0, .slice none 0 0, .slice none 0 0]), 4, 80) := by kernel_rfl
/-- a rule as cells -/
abbrev Rc : Type := Int × Value × Value × Value
def encRc (x : Rc) : List Value := [.int .i64 x.1, x.2.1, x.2.2.1, x.2.2.2]
theorem encRc_len : ∀ (l : List Rc), (l.flatMap encRc).length = l.length * 4
  | [] => rfl
  | x :: l => by simp only [List.flatMap_cons, List.length_append, encRc_len l, List.length_cons]; simp [encRc]; omega
theorem encRc_at : ∀ (l : List Rc) (i : Nat) (x : Rc), l[i]? = some x → (l.flatMap encRc)[i * 4]? = some (.int .i64 x.1) ∧ (l.flatMap encRc)[i * 4 + 1]? = some x.2.1 ∧ (l.flatMap encRc)[i * 4 + 2]? = some x.2.2.1 ∧ (l.flatMap encRc)[i * 4 + 3]? = some x.2.2.2
  | [], i, x, h => by simp at h
  | y :: l, 0, x, h => by simp at h; subst h; exact ⟨rfl, rfl, rfl, rfl⟩
  | y :: l, i + 1, x, h => by
    have ih := encRc_at l i x (by simpa using h)
    rw [List.flatMap_cons]
    have e2 : (encRc y).length = 4 := rfl
    refine ⟨?_, ?_, ?_, ?_⟩
    · rw [List.getElem?_append_right (by rw [e2]; omega), e2, show (i + 1) * 4 - 4 = i * 4 by omega]; exact ih.1
    · rw [List.getElem?_append_right (by rw [e2]; omega), e2, show (i + 1) * 4 + 1 - 4 = i * 4 + 1 by omega]; exact ih.2.1
    · rw [List.getElem?_append_right (by rw [e2]; omega), e2, show (i + 1) * 4 + 2 - 4 = i * 4 + 2 by omega]; exact ih.2.2.1
    · rw [List.getElem?_append_right (by rw [e2]; omega), e2, show (i + 1) * 4 + 3 - 4 = i * 4 + 3 by omega]; exact ih.2.2.2
/-- what a slice holds lies in a row of numbers -/
def Typed (w : World) (u : Value) : Prop := ∀ a n c b off, u = .slice a n c → 0 < n → a = some ⟨b, off, none⟩ → ∃ cur, w.heap[b]? = some (.cells cur 3 (0, 0))
def WordX (t : Bool) (w : World) (B : Nat) (row : Option Nat) (u : Value) (l : List Int) : Prop := WordV w B row u l ∧ (t = true → Typed w u)
theorem WordX.next {t : Bool} {w w' : World} {B : Nat} {row : Option Nat} {u : Value} {l : List Int} (h : WordX t w B row u l) (hb : Below w.heap.size w w') : WordX t w' B row u l :=
  ⟨h.1.kept (F := fun _ => False) hb.kept fun _ _ _ _ h => h, fun ht a n c b off e hn ha => by
    obtain ⟨cur, h1⟩ := h.2 ht a n c b off e hn ha
    exact ⟨cur, (hb.block b (Go.lt_of_block h1)).trans h1⟩⟩
theorem WordX.after {t : Bool} {w w' : World} {B : Nat} {row row' : Option Nat} {u : Value} {l : List Int} (h : WordX t w B row u l) (hg : w.grownBy w' row) (hat : row' = row ∨ ∃ k, row' = some k ∧ w.heap.size ≤ k) : WordX t w' B row' u l :=
  ⟨h.1.after hg hat, fun ht a n c b off e hn ha => by
    obtain ⟨cur, h1⟩ := h.2 ht a n c b off e hn ha
    obtain ⟨a2, n2, c2, e2, _, hd⟩ := h.1
    rw [e] at e2; injection e2 with q1 q2 q3
    subst q1; subst q2
    exact ⟨cur, (hg.block b (Go.lt_of_block h1) fun q => (hd b off hn ha).2 q.symm).trans h1⟩⟩
theorem WordX.base {t : Bool} {w : World} {B B' : Nat} {row : Option Nat} {u : Value} {l : List Int} (h : WordX t w B' row u l) (hB : B ≤ B') : WordX t w B row u l := ⟨h.1.base hB, h.2⟩
theorem WordX.row {t : Bool} {w : World} {B : Nat} {row row' : Option Nat} {u : Value} {l : List Int} (h : WordX t w B row u l) (hr : row' = row ∨ ∃ k, row' = some k ∧ w.heap.size ≤ k) : WordX t w B row' u l := ⟨h.1.row hr, h.2⟩
theorem WordX.lo {t : Bool} {w : World} {B : Nat} {u : Value} {l : List Int} (h : WordX t w B none u l) (row : Option Nat) (hk : ∀ k, row = some k → k < B) : WordX t w B row u l := by
  refine ⟨?_, h.2⟩
  obtain ⟨a, n, c, rfl, hi, hd⟩ := h.1
  exact ⟨a, n, c, rfl, hi, fun b off hn ha => ⟨(hd b off hn ha).1, fun e => by have := hk b e; have := (hd b off hn ha).1; omega⟩⟩
structure RuleX (t : Bool) (w : World) (B : Nat) (row : Option Nat) (x : Rc) (R : Rl) : Prop where
  f : x.1 = R.f
  o : WordX t w B row x.2.1 R.o
  le : WordX t w B row x.2.2.1 R.le
  ri : WordX t w B row x.2.2.2 R.ri
theorem RuleX.next {t : Bool} {w w' : World} {B : Nat} {row : Option Nat} {x : Rc} {R : Rl} (h : RuleX t w B row x R) (hb : Below w.heap.size w w') : RuleX t w' B row x R := ⟨h.f, h.o.next hb, h.le.next hb, h.ri.next hb⟩
theorem RuleX.after {t : Bool} {w w' : World} {B : Nat} {row row' : Option Nat} {x : Rc} {R : Rl} (h : RuleX t w B row x R) (hg : w.grownBy w' row) (hat : row' = row ∨ ∃ k, row' = some k ∧ w.heap.size ≤ k) : RuleX t w' B row' x R := ⟨h.f, h.o.after hg hat, h.le.after hg hat, h.ri.after hg hat⟩
theorem RuleX.base {t : Bool} {w : World} {B B' : Nat} {row : Option Nat} {x : Rc} {R : Rl} (h : RuleX t w B' row x R) (hB : B ≤ B') : RuleX t w B row x R := ⟨h.f, h.o.base hB, h.le.base hB, h.ri.base hB⟩
theorem RuleX.lo {t : Bool} {w : World} {B : Nat} {x : Rc} {R : Rl} (h : RuleX t w B none x R) (row : Option Nat) (hk : ∀ k, row = some k → k < B) : RuleX t w B row x R := ⟨h.f, h.o.lo row hk, h.le.lo row hk, h.ri.lo row hk⟩
theorem RuleX.rule {t : Bool} {w : World} {B : Nat} {row : Option Nat} {x : Rc} {R : Rl} (h : RuleX t w B row x R) : RuleAt w (.agg #[.int .i64 x.1, x.2.1, x.2.2.1, x.2.2.2]) R := by
  obtain ⟨f, ⟨⟨a1, n1, c1, e1, i1, _⟩, _⟩, ⟨⟨a2, n2, c2, e2, i2, _⟩, _⟩, ⟨⟨a3, n3, c3, e3, i3, _⟩, _⟩⟩ := h
  exact ⟨a1, n1, c1, a2, n2, c2, a3, n3, c3, by rw [f, e1, e2, e3], i1, i2, i3⟩
theorem RuleX.one {t : Bool} {w : World} {B : Nat} {row : Option Nat} {x : Rc} {R : Rl} (h : RuleX t w B row x R) : ∀ y ∈ encRc x, y.oneCell' = true := by
  obtain ⟨f, ⟨⟨a1, n1, c1, e1, i1, _⟩, _⟩, ⟨⟨a2, n2, c2, e2, i2, _⟩, _⟩, ⟨⟨a3, n3, c3, e3, i3, _⟩, _⟩⟩ := h
  intro y hy
  simp [encRc] at hy
  rcases hy with rfl | rfl | rfl | rfl
  · rfl
  · rw [e1]; rfl
  · rw [e2]; rfl
  · rw [e3]; rfl
/-- v is a row of the call's own that holds rules whose lists lie from B on, none in the row (and each in a row of numbers, if t) -/
def OwnRs (t : Bool) (w : World) (B : Nat) (v : Value) (L : List Rl) : Prop :=
  ∃ vs : List Rc, vs.length = L.length ∧ w.ownsRow B 44 4 v L.length (vs.flatMap encRc) ∧ ∀ i x, vs[i]? = some x → RuleX t w B v.ownBlock x (L.getD i R0)
theorem OwnRs.nil (t : Bool) (w : World) (B : Nat) : OwnRs t w B (.slice none 0 0) [] := ⟨[], rfl, World.ownsRow_nil _ _ _ _, fun i u h => by simp at h⟩
theorem OwnRs.next {t : Bool} {w w' : World} {B : Nat} {v : Value} {L : List Rl} (h : OwnRs t w B v L) (hb : Below w.heap.size w w') : OwnRs t w' B v L := by
  obtain ⟨vs, h0, h1, h2⟩ := h
  exact ⟨vs, h0, own_grown h1 hb, fun i x hx => (h2 i x hx).next hb⟩
theorem OwnRs.lt {t : Bool} {w : World} {B : Nat} {v : Value} {L : List Rl} (h : OwnRs t w B v L) : ∀ k, v.ownBlock = some k → B ≤ k ∧ k < w.heap.size := by
  obtain ⟨vs, _, h1, _⟩ := h
  exact h1.lt
theorem OwnRs.at_ {t : Bool} {w : World} {B : Nat} {v : Value} {L : List Rl} (h : OwnRs t w B v L) : ∃ a c, v = .slice a L.length c ∧ RulesAt w a L.length c L := by
  obtain ⟨vs, h0, h1, h2⟩ := h
  have H1 := h1
  rcases h1.2 with ⟨rfl, hz⟩ | ⟨g, cap, cur, rfl, _, hg, hn, hm, hs, ht⟩
  · have : L = [] := List.eq_nil_of_length_eq_zero hz
    subst this
    exact ⟨none, 0, rfl, RulesAt.nil _ _ _ (by omega)⟩
  · refine ⟨_, cap, rfl, rfl, hn, by unfold maxLen at hm; omega, fun i hi => ?_⟩
    have hv : vs[i]? = some vs[i] := List.getElem?_eq_getElem (by omega)
    have hr := h2 i _ hv
    obtain ⟨e0, e1, e2, e3⟩ := encRc_at vs i _ hv
    have A : ∀ j u, (vs.flatMap encRc)[j]? = some u → w.cell? ⟨g, 0 + j, none⟩ = some u := fun j u hu => by
      have := H1.cells (g := g) rfl j u hu
      rwa [show (⟨g, 0, none⟩ : Addr).add j = ⟨g, 0 + j, none⟩ by unfold Addr.add; split <;> simp_all] at this
    exact ⟨g, 0, _, _, _, _, rfl, Go.lt_of_block hg, A _ _ e0, A _ _ e1, A _ _ e2, A _ _ e3, hr.rule⟩
theorem cells_new4 (w : World) (x y z u : Value) (E : TypeId) : ∀ j v, ([x, y, z, u] : List Value)[j]? = some v → (w.alloc (.cells #[x, y, z, u] E)).cell? ((⟨w.heap.size, 0, none⟩ : Addr).add j) = some v := by
  intro j v hv
  have ha : (⟨w.heap.size, 0, none⟩ : Addr).add j = ⟨w.heap.size, j, none⟩ := by unfold Addr.add; split <;> simp_all
  rw [ha, cells_alloc]
  simpa using hv
theorem wpList_append_rule {t : Bool} {w : World} {ops : Array Oper} {rest : List Oper} {o : Oper} {a : Act} {Q : Exit → Act → World → Prop} (hgd : o.guard = none) (s x : Operand)
    (ho : o.op = .call { callee := .builtin .append, args := #[s, x], argTypes := #[22, 22] }) (B : Nat) (v : Value) (L : List Rl) (hs : a.eval s = v) (hown : OwnRs t w B v L) (R : Rl) (w1 : World) (hb1 : Below w.heap.size w w1)
    (y : Rc) (hy : RuleX t w1 w.heap.size none y R) (E : TypeId) (hx : a.eval x = .slice (some ⟨w1.heap.size, 0, none⟩) 1 1) (hsm : L.length + 1 ≤ 100000) (hB : B ≤ w.heap.size)
    (h : ∀ v' w', OwnRs t w' B v' (L ++ [R]) → Below B w w' → wpList Tryz.prog ops Q rest (a.put o.dst v') w') :
    wpList Tryz.prog ops Q (o :: rest) a (w1.alloc (.cells #[.int .i64 y.1, y.2.1, y.2.2.1, y.2.2.2] E)) := by
  obtain ⟨i0, hi0, hz0, hz1, hz2⟩ := info_parts Tryz.infoRuleC
  have hlt := fun k hk => (hown.lt k hk).2
  have hge := fun k hk => (hown.lt k hk).1
  obtain ⟨vs, h0, h1, h2⟩ := hown
  have hb2 := below_alloc w1 (.cells #[.int .i64 y.1, y.2.1, y.2.2.1, y.2.2.2] E)
  refine wpList_append_own_at _ hgd s x _ ho B 44 i0 _ 4 80 Tryz.underlying22 hi0 hz0 hz1 hz2 rfl (by omega) v L.length _ hs (own_grown (own_grown h1 hb1) hb2) ⟨w1.heap.size, 0, none⟩ 1 1 (encRc y) hx rfl (cells_new4 _ _ _ _ _ _) hy.one
    (by unfold maxLen; omega) (by omega) (by have := hb1.size; simp; omega) fun v' w' k1 k2 _ k4 => ?_
  have hat' : v'.ownBlock = v.ownBlock ∨ ∃ k, v'.ownBlock = some k ∧ (w1.alloc (.cells #[.int .i64 y.1, y.2.1, y.2.2.1, y.2.2.2] E)).heap.size ≤ k := k4.imp id fun e => ⟨_, e, Nat.le_refl _⟩
  refine h v' w' ⟨vs ++ [y], by simp [h0], ?_, fun i x' hx' => ?_⟩ (((hb1.mono hB).trans (hb2.mono (Nat.le_trans hB hb1.size))).grown k2 (Nat.le_trans hB (Nat.le_trans hb1.size hb2.size)) hge)
  · rw [List.flatMap_append, List.length_append]
    simpa using k1
  · by_cases hi : i < vs.length
    · rw [List.getElem?_append_left hi] at hx'
      rw [show (L ++ [R]).getD i R0 = L.getD i R0 by simp only [List.getD]; rw [List.getElem?_append_left (by omega)]]
      exact (((h2 i x' hx').next hb1).next hb2).after k2 hat'
    · obtain rfl : i = vs.length := by
        rcases Nat.lt_or_ge i (vs.length + 1) with h | h
        · omega
        · rw [List.getElem?_eq_none (by simp; omega)] at hx'; cases hx'
      rw [List.getElem?_append_right (Nat.le_refl _), Nat.sub_self] at hx'
      simp at hx'; subst hx'
      rw [show (L ++ [R]).getD vs.length R0 = R by rw [h0]; simp [List.getD]]
      exact (((hy.next hb2).lo v.ownBlock hlt).after k2 hat').base hB
end Go.Proofs.YtebbmhlkdfmmcaaGreat
namespace Go.Proofs.YtebbmhlkdfmmcaaGreat
open Go.RowKit Go.Proofs.Kv

/-! ### copied, Without, Copy -/
theorem WordT.wordX {w : World} {B : Nat} {u : Value} {l : List Int} (h : WordT w B u l) : WordX true w B none u l := by
  obtain ⟨a, n, c, rfl, hi, hd⟩ := h
  refine ⟨⟨a, n, c, rfl, hi, fun b off hn ha => ⟨(hd b off hn ha).1, by simp⟩⟩, fun _ a' n' c' b off e hn ha => ?_⟩
  injection e with q1 q2 q3
  subst q1; subst q2
  exact (hd b off hn ha).2
theorem WordT.setLo {w : World} {B b0 i : Nat} {u x : Value} {l : List Int} (h : WordT w B u l) (hb : b0 < B) : WordT (w.setCell ⟨b0, i, none⟩ x) B u l := by
  obtain ⟨a, n, c, rfl, hi, hd⟩ := h
  have hk : Kept (fun b => b = b0) w (w.setCell ⟨b0, i, none⟩ x) := (Kept.refl (fun b => b = b0) w).setCell (p := ⟨b0, i, none⟩) (fun _ => rfl) x
  have hne : ∀ b off, 0 < n → a = some ⟨b, off, none⟩ → ¬ b = b0 := fun b off h1 h2 e => by have := (hd b off h1 h2).1; omega
  exact ⟨a, n, c, rfl, hi.kept hk hne, fun b off h1 h2 => ⟨(hd b off h1 h2).1, by
    obtain ⟨_, cur, e⟩ := hd b off h1 h2
    exact ⟨cur, (hk.block b (Go.lt_of_block e) (hne b off h1 h2)).trans e⟩⟩⟩
theorem IntsNew2.wordX {w : World} {B n c : Nat} {a : Option Addr} {l : List Int} (h : IntsNew2 B w a n c l) : WordX false w B none (.slice a n c) l := by
  refine ⟨⟨a, n, c, rfl, h.at_, fun b off hn ha => ⟨?_, by simp⟩⟩, fun h => by cases h⟩
  obtain ⟨b', off', e, hb⟩ := h.hi hn
  rw [ha] at e; injection e with e; injection e with e _; omega
theorem RuleNew.ruleX {w : World} {B : Nat} {v : Value} {R : Rl} (h : RuleNew B w v R) : ∃ y : Rc, v = .agg #[.int .i64 y.1, y.2.1, y.2.2.1, y.2.2.2] ∧ RuleX false w B none y R := by
  obtain ⟨a1, n1, c1, a2, n2, c2, a3, n3, c3, rfl, h1, h2, h3⟩ := h
  exact ⟨⟨R.f, .slice a1 n1 c1, .slice a2 n2 c2, .slice a3 n3 c3⟩, rfl, rfl, h1.wordX, h2.wordX, h3.wordX⟩
/-! ### Without: the program -/
theorem erase_snoc {L : List Rl} {i : Nat} (hi : i < L.length) (k : Nat) : (L.take (i + 1)).eraseIdx k = if i = k then (L.take i).eraseIdx k else (L.take i).eraseIdx k ++ [L.getD i R0] := by
  rw [take_snoc L R0 i hi]
  have hl : (L.take i).length = i := by rw [List.length_take]; omega
  by_cases e : i = k
  · subst e
    rw [if_pos rfl, List.eraseIdx_append_of_length_le (by omega), hl, Nat.sub_self, List.eraseIdx_of_length_le (l := L.take i) (by omega)]
    simp
  · rw [if_neg e]
    by_cases hk : k < i
    · rw [List.eraseIdx_append_of_lt_length (by omega)]
    · rw [List.eraseIdx_append_of_length_le (by omega), hl, List.eraseIdx_of_length_le (l := L.take i) (by omega), List.eraseIdx_of_length_le (l := [L.getD i R0]) (by simp; omega)]
def errWithout (L : List Rl) (x : Int) : Int := if validS L = 0 then (if isRl L.length x then 0 else 4) else validS L
def resWithout (L : List Rl) (x : Int) : List Rl := if validS L = 0 then (if isRl L.length x then L.eraseIdx x.toNat else []) else []
theorem setN_len {l : List Int} (h : setN l = true) : l.length ≤ 7 := by
  have key : ∀ k, k < l.length → -1 + (k : Int) ≤ l.getD k 0 := by
    intro k
    induction k with
    | zero => exact fun hk => by have := (setN_range h _ (getD_mem hk)).1; simpa using this
    | succ k ih =>
      intro hk
      have h1 := ih (by omega)
      simp only [setN, IsSet, List.all_eq_true, List.mem_range] at h
      have := h (k + 1) hk
      simp only [setBad, Nat.add_sub_cancel] at this
      generalize l.getD k 0 = y at *
      generalize l.getD (k + 1) 0 = z at *
      simp at this
      omega
  rcases Nat.lt_or_ge 7 l.length with h7 | h7
  · have h1 := key 7 h7
    have h2 := (setN_range h _ (getD_mem h7)).2
    omega
  · exact h7
theorem valid_lens {R : Rl} (h : validR R = 0) : R.o.length ≤ 1000 ∧ R.le.length ≤ 1000 ∧ R.ri.length ≤ 1000 := by
  obtain ⟨_, _, h1, _, h2, h3⟩ := validR_ok h
  have := setN_len h2
  have := setN_len h3
  omega
/-! ### Copy of a system -/
end Go.Proofs.YtebbmhlkdfmmcaaGreat
namespace Go.Proofs.YtebbmhlkdfmmcaaGreat
open Go.RowKit Go.Proofs.Kv

/-! ### Without and Same of the document -/
theorem isRl_within (N : Nat) (x : Int) : isRl N x = Within x 0 ((N : Int) - 1) := by
  simp only [isRl, Within]
  congr 1
  exact decide_eq_decide.2 (by omega)
theorem RuleX.row {t : Bool} {w : World} {B : Nat} {row row' : Option Nat} {x : Rc} {R : Rl} (h : RuleX t w B row x R) (hr : row' = row ∨ ∃ k, row' = some k ∧ w.heap.size ≤ k) : RuleX t w B row' x R := ⟨h.f, h.o.row hr, h.le.row hr, h.ri.row hr⟩
theorem RuleX.noRow {t : Bool} {w : World} {B : Nat} {row : Option Nat} {x : Rc} {R : Rl} (h : RuleX t w B row x R) : RuleX t w B none x R := by
  have key : ∀ u l, WordX t w B row u l → WordX t w B none u l := by
    rintro u l ⟨⟨a, n, c, rfl, hi, hd⟩, ht⟩
    exact ⟨⟨a, n, c, rfl, hi, fun b off hn ha => ⟨(hd b off hn ha).1, by simp⟩⟩, ht⟩
  exact ⟨h.f, key _ _ h.o, key _ _ h.le, key _ _ h.ri⟩
theorem OwnRs.erased {t : Bool} {w w7 : World} {B g k : Nat} {L : List Rl} {vs : List Rc} (hk : k < L.length) (h0 : vs.length = L.length) (h2 : ∀ i x, vs[i]? = some x → RuleX t w B (some g) x (L.getD i R0)) (hB : B ≤ w.heap.size) {v7 : Value}
    (k7 : w7.ownsRow w.heap.size 44 4 v7 (k + (L.length - (k + 1))) ((vs.take k).flatMap encRc ++ (vs.drop (k + 1)).flatMap encRc)) (g7 : w.grownBy w7 none) : OwnRs t w7 B v7 (L.eraseIdx k) := by
  have hb : Below w.heap.size w w7 := (Below.refl _ w).grown g7 (Nat.le_refl _) (fun k hk => by cases hk)
  have hl : (L.eraseIdx k).length = k + (L.length - (k + 1)) := by rw [List.length_eraseIdx_of_lt hk]; omega
  refine ⟨vs.eraseIdx k, by rw [List.length_eraseIdx_of_lt (by omega), List.length_eraseIdx_of_lt hk, h0], ?_, fun i x hx => ?_⟩
  · rw [hl, List.eraseIdx_eq_take_drop_succ, List.flatMap_append]
    exact own_base k7 hB
  · rw [List.getElem?_eraseIdx] at hx
    have hrow : ∀ {x R}, RuleX t w B (some g) x R → RuleX t w7 B v7.ownBlock x R := fun {x R} h => by
      have h' := h.next hb
      cases e : v7.ownBlock with
      | none => exact h'.noRow
      | some b => exact (h.row (.inr ⟨b, rfl, (k7.lt b e).1⟩)).next hb
    by_cases hi : i < k
    · rw [if_pos hi] at hx
      rw [show (L.eraseIdx k).getD i R0 = L.getD i R0 by simp only [List.getD]; rw [List.getElem?_eraseIdx, if_pos hi]]
      exact hrow (h2 i x hx)
    · rw [if_neg hi] at hx
      rw [show (L.eraseIdx k).getD i R0 = L.getD (i + 1) R0 by simp only [List.getD]; rw [List.getElem?_eraseIdx, if_neg hi]]
      exact hrow (h2 (i + 1) x hx)
theorem RulesAt.take {w : World} {a : Option Addr} {n c : Nat} {L : List Rl} (h : RulesAt w a n c L) {k : Nat} (hk : k ≤ n) : RulesAt w a k k (L.take k) :=
  ⟨by rw [List.length_take, h.len]; omega, Nat.le_refl _, by have := h.le; have := h.small; omega, fun i hi => by
    obtain ⟨b, off, x0, x1, x2, x3, e, hb, q0, q1, q2, q3, hr⟩ := h.cells i (by omega)
    refine ⟨b, off, x0, x1, x2, x3, e, hb, q0, q1, q2, q3, ?_⟩
    rw [show (L.take k).getD i ⟨0, [], [], []⟩ = L.getD i ⟨0, [], [], []⟩ by simp only [List.getD]; rw [List.getElem?_take, if_pos hi]]
    exact hr⟩
/-- append of nothing -/
theorem step_append_none {ops : Array Oper} {o : Oper} {a : Act} {w : World} {K : Act → World → Prop} {Q : Exit → Act → World → Prop} {E : Prop} (hg : o.guard = none) (s x : Operand)
    (ho : o.op = .call { callee := .builtin .append, args := #[s, x], argTypes := #[22, 22] }) (gb n c : Nat) (hs : a.eval s = .slice (some ⟨gb, 0, none⟩) n c) (hn : n ≤ c) (ad : Addr) (c' : Nat) (hx : a.eval x = .slice (some ad) 0 c')
    (hK : K (a.put o.dst (.slice (some ⟨gb, 0, none⟩) n c)) w) :
    if Region.wanted o (yielded ops a.tmps) = true then Oper.wp Tryz.prog o a w K Q else E := by
  obtain ⟨i0, hi0, hz0, hz1, hz2⟩ := info_parts Tryz.infoRuleC
  have hw : Region.wanted o (yielded ops a.tmps) = true := by simp [Region.wanted, hg]
  rw [if_pos hw]
  have hrun : (Builtin.append_ #[22, 22] o.type #[.slice (some ⟨gb, 0, none⟩) n c, .slice (some ad) 0 c']).run Tryz.prog w = .ok (.slice (some ⟨gb, 0, none⟩) n c) w := by
    simp [Builtin.append_, run_underlying Tryz.underlying22, sizeOf, typeInfo, hi0, Builtin.lenOf, Builtin.firstCells, storeCells, loadCells, loadCellsFrom, hn]
  unfold Oper.wp
  simp [execOp, ho, resolve, invoke, builtin, hs, hx, hrun, Result.andThen]
  exact hK
end Go.Proofs.YtebbmhlkdfmmcaaGreat
namespace Go.Proofs.YtebbmhlkdfmmcaaGreat
open Go.RowKit Go.Proofs.Kv

/-! ### what is reached without a rule: mathematics -/
theorem erase_getD (L : List Rl) (k i : Nat) : (L.eraseIdx k).getD i R0 = L.getD (if i < k then i else i + 1) R0 := by
  simp only [List.getD]; rw [List.getElem?_eraseIdx]; split <;> rfl
theorem moves_less {L : List Rl} {k : Nat} {u : List Int} {m : Mv} (h : m ∈ movesL (L.eraseIdx k) u) : ∃ m' ∈ movesL L u, m'.2 = m.2 := by
  obtain ⟨i, hi, p, hp, he, rfl⟩ := mem_mvTo.1 h
  rw [erase_getD] at hp he ⊢
  have hlt : (if i < k then i else i + 1) < L.length := by
    by_cases hk : k < L.length
    · rw [List.length_eraseIdx_of_lt hk] at hi; split <;> omega
    · rw [List.eraseIdx_of_length_le (by omega)] at hi; rw [if_pos (by omega)]; exact hi
  exact ⟨_, mem_mvTo.2 ⟨_, hlt, p, hp, he, rfl⟩, rfl⟩
theorem Rch.less {L : List Rl} {k : Nat} {l u : List Int} (h : Rch (L.eraseIdx k) l u) : Rch L l u := by
  induction h with
  | refl => exact .refl _
  | step hm _ ih =>
    obtain ⟨m', h1, h2⟩ := moves_less hm
    rw [← h2] at ih
    exact .step h1 ih
theorem errWeb_parts {L : List Rl} {l : List Int} (h : errWeb L l = 0) : validS L = 0 ∧ validW l = 0 ∧ ∃ y, graphR L l = some y ∧ reachedF L l = some y := by
  cases hy : graphR L l with
  | none => exact absurd h (graphR_none hy)
  | some y =>
    obtain ⟨_, he, hx⟩ := graphR_some hy
    exact ⟨(errSW_ok' he).1, (errSW_ok' he).2, y, rfl, hx⟩
theorem mem_reach {L : List Rl} {l : List Int} (h : errWeb L l = 0) (u : List Int) : u ∈ resReach L l ↔ Rch L l u := by
  obtain ⟨hs, hl, y, hy, hx⟩ := errWeb_parts h
  rw [resReach_eq, hy]
  have := (fold_ins y.words (acc := []) List.Pairwise.nil).2 u
  show u ∈ foldI y.words ↔ _
  unfold foldI
  rw [this, ← (reachedF_some hs hl hx).2 u]; simp
theorem reach_few {L : List Rl} {l : List Int} (h : errWeb L l = 0) : ∃ T : List (List Int), T.length ≤ 300 ∧ ∀ u, Rch L l u → u ∈ T := by
  obtain ⟨hs, hl, y, hy, hx⟩ := errWeb_parts h
  obtain ⟨g1, g2⟩ := reachedF_some hs hl hx
  exact ⟨y.words, g1.le, fun u hu => (g2 u).2 hu⟩
theorem errWeb_few {L : List Rl} {l : List Int} (hs : validS L = 0) (hl : validW l = 0) {T : List (List Int)} (hT : T.length ≤ 300) (h : ∀ u, Rch L l u → u ∈ T) : errWeb L l = 0 := by
  have he := errSW_one hs hl
  rw [errWeb, if_pos he]
  cases hx : exploreF L l with
  | some x => rfl
  | none =>
    obtain ⟨S, s1, s2, s3⟩ := exploreF_none (validS_ok hs).2 hl hx
    have := nodup_le s1 (T := T) fun u hu => h u (s3 u hu)
    omega
theorem firstE_mk : ∀ {L : List Rl}, (∀ R ∈ L, validR R = 0) → firstE L = 0
  | [], _ => rfl
  | R :: L, h => by rw [firstE, if_pos (h R (by simp))]; exact firstE_mk fun S hS => h S (by simp [hS])
theorem validS_mk {L : List Rl} (h1 : L.length ≤ 6) (h2 : ∀ R ∈ L, validR R = 0) : validS L = 0 := by
  rw [validS, if_neg (by omega)]; exact firstE_mk h2
theorem validS_less {L : List Rl} (h : validS L = 0) (k : Nat) : validS (L.eraseIdx k) = 0 :=
  validS_mk (Nat.le_trans (List.length_eraseIdx_le _ _) (validS_ok h).1) fun R hR => (validS_ok h).2 R (List.mem_of_mem_eraseIdx hR)
theorem errWeb_less {L : List Rl} {l : List Int} (k : Nat) (h : errWeb L l = 0) : errWeb (L.eraseIdx k) l = 0 := by
  obtain ⟨hs, hl, -⟩ := errWeb_parts h
  obtain ⟨T, t1, t2⟩ := reach_few h
  exact errWeb_few (validS_less hs k) hl t1 fun u hu => t2 u hu.less
theorem errWithout_ok {L : List Rl} {x : Int} (h : errWithout L x = 0) : resWithout L x = L.eraseIdx x.toNat ∧ x.toNat < L.length := by
  unfold errWithout at h
  unfold resWithout
  by_cases hv : validS L = 0
  · rw [if_pos hv] at h ⊢
    cases hq : isRl L.length x with
    | false => rw [hq] at h; simp at h
    | true =>
      rw [if_pos rfl]
      simp only [isRl, Bool.and_eq_true, decide_eq_true_eq] at hq
      exact ⟨rfl, by omega⟩
  · rw [if_neg hv] at h; exact absurd h hv
theorem part_less {L : List Rl} {l : List Int} {x : Int} (hx : errWithout L x = 0) (h : errWeb L l = 0) : errWeb (resWithout L x) l = 0 ∧ partL (resReach (resWithout L x) l) (resReach L l) = true := by
  obtain ⟨e, _⟩ := errWithout_ok hx
  rw [e]
  have h' := errWeb_less x.toNat h
  exact ⟨h', decide_eq_true fun u hu => (mem_reach h u).2 ((mem_reach h' u).1 hu).less⟩
/-- without a rule that is in no step the same words are reached -/
theorem Rch.more {L : List Rl} {k : Nat} (hk : k < L.length) {l u : List Int} (h : Rch L l u) (hn : ∀ v, Rch L l v → ∀ m ∈ movesL L v, m.1.1 ≠ (k : Int)) : Rch (L.eraseIdx k) l u := by
  induction h with
  | refl => exact .refl _
  | @step w0 z0 m0 hm hz ih =>
    have h1 := hn _ (.refl _) _ hm
    obtain ⟨i, hi, p, hp, he, e⟩ := mem_mvTo.1 hm
    have hik : i ≠ k := fun q => h1 (by rw [e, q])
    have hj : ∃ j, j < (L.eraseIdx k).length ∧ (if j < k then j else j + 1) = i := by
      rw [List.length_eraseIdx_of_lt hk]
      by_cases q : i < k
      · exact ⟨i, by omega, if_pos q⟩
      · exact ⟨i - 1, by omega, by rw [if_neg (by omega)]; omega⟩
    obtain ⟨j, j1, j2⟩ := hj
    have hg : (L.eraseIdx k).getD j R0 = L.getD i R0 := by rw [erase_getD, j2]
    have h2 : ((((j : Int), p), putRes (L.getD i R0) [p] w0) : Mv) ∈ movesL (L.eraseIdx k) w0 := mem_mvTo.2 ⟨j, j1, p, by rw [hg]; exact hp, by rw [hg]; exact he, by rw [hg]⟩
    have h3 := ih fun v hv m hm' => hn v (.step hm hv) m hm'
    rw [e] at h3
    exact .step h2 h3
end Go.Proofs.YtebbmhlkdfmmcaaGreat
