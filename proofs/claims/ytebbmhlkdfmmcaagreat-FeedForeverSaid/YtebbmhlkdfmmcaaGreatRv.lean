import Derived.Test.YtebbmhlkdfmmcaaGreatPqr
import Derived.Test.YtebbmhlkdfmmcaaGreatRgn
import Derived.Test.YtebbmhlkdfmmcaaGreatLae
import Derived.Deep.RegionHeld3
import Derived.Deep.RegionLawGrows
import Derived.Laws.EntriesVeiled
namespace Go.Proofs.YtebbmhlkdfmmcaaGreat
open Go.RowKit Go.Proofs.Kv

/-! ### the reference's back, Back -/
def bakN (l : List Int) (k : Nat) : List Int := (l.drop k).reverse
theorem bak_step {l : List Int} {k : Nat} (h : k < l.length) : bakN l k = bakN l (k + 1) ++ [l.getD k 0] := by
  unfold bakN
  rw [List.drop_eq_getElem_cons h, List.reverse_cons]
  simp [List.getD, List.getElem?_eq_getElem h]
theorem bak_len (l : List Int) (k : Nat) : (bakN l k).length ≤ l.length := by unfold bakN; simp
/-! ### Copy -/
/-- a slice of numbers in memory from block B on -/
structure IntsNew2 (B : Nat) (w : World) (a : Option Addr) (n c : Nat) (l : List Int) : Prop where
  at_ : IntsAt w a n c l
  hi : 0 < n → ∃ b off, a = some ⟨b, off, none⟩ ∧ B ≤ b
theorem IntsNew2.b0 {B n c : Nat} {w w' : World} {a : Option Addr} {l : List Int} (h : IntsNew2 B w a n c l) (hc : Below w.heap.size w w') : IntsNew2 B w' a n c l := ⟨h.at_.below hc (Nat.le_refl _), h.hi⟩
theorem IntsNew2.b1 {B n c : Nat} {w w' : World} {o : Obj} {a : Option Addr} {l : List Int} (h : IntsNew2 B w a n c l) (hc : Below (w.alloc o).heap.size (w.alloc o) w') : IntsNew2 B w' a n c l := (h.b0 (below_alloc w o)).b0 hc
theorem IntsNew2.b2 {B n c : Nat} {w w' : World} {o o2 : Obj} {a : Option Addr} {l : List Int} (h : IntsNew2 B w a n c l) (hc : Below ((w.alloc o).alloc o2).heap.size ((w.alloc o).alloc o2) w') : IntsNew2 B w' a n c l := (h.b0 (below_alloc w o)).b1 hc
theorem IntsNew2.base {B B' n c : Nat} {w : World} {a : Option Addr} {l : List Int} (h : IntsNew2 B w a n c l) (hB : B' ≤ B) : IntsNew2 B' w a n c l :=
  ⟨h.at_, fun hp => by obtain ⟨b, off, e, hb⟩ := h.hi hp; exact ⟨b, off, e, Nat.le_trans hB hb⟩⟩
theorem IntsNew2.setCell {B n c : Nat} {w : World} {a : Option Addr} {l : List Int} (h : IntsNew2 B w a n c l) {b : Nat} (hb : b < B) (i : Nat) (u : Value) : IntsNew2 B (w.setCell ⟨b, i, none⟩ u) a n c l := by
  refine ⟨?_, h.hi⟩
  rcases Nat.eq_zero_or_pos n with rfl | hp
  · exact ⟨h.at_.len, h.at_.le, h.at_.small, fun i hi => absurd hi (by omega)⟩
  · obtain ⟨g, off, rfl, hg⟩ := h.hi hp
    refine h.at_.keep fun g' off' e => ?_
    injection e with e; injection e with e1 e2
    subst e1
    exact Below.heap_setCell w ⟨b, i, none⟩ u g (by show g ≠ b; omega)
/-- a rule's value whose lists lie in memory from block B on -/
def RuleNew (B : Nat) (w : World) (v : Value) (R : Rl) : Prop :=
  ∃ a n c a' n' c' a'' n'' c'', v = .agg #[.int .i64 R.f, .slice a n c, .slice a' n' c', .slice a'' n'' c''] ∧ IntsNew2 B w a n c R.o ∧ IntsNew2 B w a' n' c' R.le ∧ IntsNew2 B w a'' n'' c'' R.ri
theorem RuleNew.rule {B : Nat} {w : World} {v : Value} {R : Rl} (h : RuleNew B w v R) : RuleAt w v R := by
  obtain ⟨a1, n1, c1, a2, n2, c2, a3, n3, c3, rfl, h1, h2, h3⟩ := h
  exact ⟨_, _, _, _, _, _, _, _, _, rfl, h1.at_, h2.at_, h3.at_⟩
theorem step_copyN {ops : Array Oper} {o : Oper} {a : Act} {w : World} {K : Act → World → Prop} {Q : Exit → Act → World → Prop} {E : Prop} (hg : o.guard = none) (s x : Operand)
    (ho : o.op = .call { callee := .builtin .append, args := #[s, x], argTypes := #[23, 23] }) (gb : Nat) (hs : a.eval s = .slice (some ⟨gb, 0, none⟩) 0 0) (A : Option Addr) (m c : Nat) (ys : List Int) (hx : a.eval x = .slice A m c) (hr : IntsAt w A m c ys) (hm : m ≤ 1000)
    (hK : ∀ a' c' w', IntsNew2 w.heap.size w' a' m c' ys → Below w.heap.size w w' → K (a.put o.dst (.slice a' m c')) w') :
    if Region.wanted o (yielded ops a.tmps) = true then Oper.wp Tryz.prog o a w K Q else E := by
  obtain ⟨i0, hi0, hz0, hz1, hz2⟩ := info_parts Tryz.infoInt
  rcases Nat.eq_zero_or_pos m with rfl | hp
  · have hy : ys = [] := List.eq_nil_of_length_eq_zero hr.len
    subst hy
    have hw : Region.wanted o (yielded ops a.tmps) = true := by simp [Region.wanted, hg]
    rw [if_pos hw]
    have hrun : (Builtin.append_ #[23, 23] o.type #[.slice (some ⟨gb, 0, none⟩) 0 0, .slice A 0 c]).run Tryz.prog w = .ok (.slice (some ⟨gb, 0, none⟩) 0 0) w := by
      cases A with
      | none => simp [Builtin.append_, run_underlying Tryz.underlying23, sizeOf, typeInfo, hi0, Builtin.lenOf, Builtin.firstCells, storeCells]
      | some ad => exact run_append_room_cells (P := Tryz.prog) w 23 o.type 3 i0 Tryz.underlying23 hi0 gb 0 0 0 ad 0 c [] (by simp) (fun j u hu => by simp at hu) (fun u hu => by simp at hu) (by omega) (fun j hj => by simp at hj) (fun j hj => by simp at hj)
    unfold Oper.wp
    simp [execOp, ho, resolve, invoke, builtin, hs, hx, hrun, Result.andThen]
    exact hK _ _ w ⟨IntsAt.nil _ _ _ (by omega), fun h => absurd h (by omega)⟩ (Below.refl _ _)
  · obtain ⟨b, off, rfl, -, -⟩ := hr.cells 0 hp
    refine step_append_grows hg s x _ ho 3 i0 (.int .i64 0) 1 8 Tryz.underlying23 hi0 hz0 hz1 hz2 rfl (by omega) (some ⟨gb, 0, none⟩) 0 0 [] hs (fun h => by cases h) (by simp) (fun b hb j u hu => by simp at hu) ⟨b, off, none⟩ m c (ys.map (Value.int .i64)) hx (by simp [hr.len]) hr.cellsIn (ints_oneCell .i64 ys) (by omega) (by unfold maxLen; omega) (by omega) ?_
    intro v' w' hown hgr
    rw [Nat.zero_add, List.nil_append] at hown
    obtain ⟨a', c', rfl, hi⟩ := IntsAt.own hown
    refine hK a' c' w' ⟨hi, fun _ => ?_⟩ ((Below.refl _ w).grown hgr (Nat.le_refl _) (fun k hk => by cases hk))
    rcases hown.2 with ⟨h1, h2⟩ | ⟨g', cap, cur, h1, h2, h3⟩
    · injection h1 with _ h1 _; omega
    · injection h1 with h1 _ _
      subst h1
      exact ⟨g', 0, rfl, h2⟩
end Go.Proofs.YtebbmhlkdfmmcaaGreat
