import Derived.Test.YtgipkbiogldjpaaPqr
import Derived.Test.YtgipkbiogldjpaaRgn
import Derived.Test.YtgipkbiogldjpaaLae
import Derived.Deep.RegionHeld3
import Derived.Deep.RegionLawGrows
import Derived.Laws.EntriesVeiled
namespace Go.Proofs.Ytgipkbiogldjpaa
open Go.RowKit Go.Proofs.Kv

/-! ### the reference's back, Back -/
def bakN (l : List Int) (k : Nat) : List Int := (l.drop k).reverse
theorem bak_step {l : List Int} {k : Nat} (h : k < l.length) : bakN l k = bakN l (k + 1) ++ [l.getD k 0] := by
  unfold bakN
  rw [List.drop_eq_getElem_cons h, List.reverse_cons]
  simp [List.getD, List.getElem?_eq_getElem h]
theorem bak_len (l : List Int) (k : Nat) : (bakN l k).length ≤ l.length := by unfold bakN; simp
/-! ### Copy -/
/-- a slice of numbers in memory from block B on -/
structure IntsNew2 (B : Nat) (w : World) (a : Option Addr) (n c : Nat) (l : List Int) : Prop where
  at_ : IntsAt w a n c l
  hi : 0 < n → ∃ b off, a = some ⟨b, off, none⟩ ∧ B ≤ b
theorem IntsNew2.b0 {B n c : Nat} {w w' : World} {a : Option Addr} {l : List Int} (h : IntsNew2 B w a n c l) (hc : Below w.heap.size w w') : IntsNew2 B w' a n c l := ⟨h.at_.below hc (Nat.le_refl _), h.hi⟩
theorem IntsNew2.b1 {B n c : Nat} {w w' : World} {o : Obj} {a : Option Addr} {l : List Int} (h : IntsNew2 B w a n c l) (hc : Below (w.alloc o).heap.size (w.alloc o) w') : IntsNew2 B w' a n c l := (h.b0 (below_alloc w o)).b0 hc
theorem IntsNew2.b2 {B n c : Nat} {w w' : World} {o o2 : Obj} {a : Option Addr} {l : List Int} (h : IntsNew2 B w a n c l) (hc : Below ((w.alloc o).alloc o2).heap.size ((w.alloc o).alloc o2) w') : IntsNew2 B w' a n c l := (h.b0 (below_alloc w o)).b1 hc
theorem IntsNew2.base {B B' n c : Nat} {w : World} {a : Option Addr} {l : List Int} (h : IntsNew2 B w a n c l) (hB : B' ≤ B) : IntsNew2 B' w a n c l :=
  ⟨h.at_, fun hp => by obtain ⟨b, off, e, hb⟩ := h.hi hp; exact ⟨b, off, e, Nat.le_trans hB hb⟩⟩
theorem IntsNew2.setCell {B n c : Nat} {w : World} {a : Option Addr} {l : List Int} (h : IntsNew2 B w a n c l) {b : Nat} (hb : b < B) (i : Nat) (u : Value) : IntsNew2 B (w.setCell ⟨b, i, none⟩ u) a n c l := by
  refine ⟨?_, h.hi⟩
  rcases Nat.eq_zero_or_pos n with rfl | hp
  · exact ⟨h.at_.len, h.at_.le, h.at_.small, fun i hi => absurd hi (by omega)⟩
  · obtain ⟨g, off, rfl, hg⟩ := h.hi hp
    refine h.at_.keep fun g' off' e => ?_
    injection e with e; injection e with e1 e2
    subst e1
    exact Below.heap_setCell w ⟨b, i, none⟩ u g (by show g ≠ b; omega)
/-- a rule's value whose lists lie in memory from block B on -/
def RuleNew (B : Nat) (w : World) (v : Value) (R : Rl) : Prop :=
  ∃ a n c a' n' c' a'' n'' c'', v = .agg #[.int .i64 R.f, .slice a n c, .slice a' n' c', .slice a'' n'' c''] ∧ IntsNew2 B w a n c R.o ∧ IntsNew2 B w a' n' c' R.le ∧ IntsNew2 B w a'' n'' c'' R.ri
theorem RuleNew.rule {B : Nat} {w : World} {v : Value} {R : Rl} (h : RuleNew B w v R) : RuleAt w v R := by
  obtain ⟨a1, n1, c1, a2, n2, c2, a3, n3, c3, rfl, h1, h2, h3⟩ := h
  exact ⟨_, _, _, _, _, _, _, _, _, rfl, h1.at_, h2.at_, h3.at_⟩
theorem step_copyN {ops : Array Oper} {o : Oper} {a : Act} {w : World} {K : Act → World → Prop} {Q : Exit → Act → World → Prop} {E : Prop} (hg : o.guard = none) (s x : Operand)
    (ho : o.op = .call { callee := .builtin .append, args := #[s, x], argTypes := #[23, 23] }) (gb : Nat) (hs : a.eval s = .slice (some ⟨gb, 0, none⟩) 0 0) (A : Option Addr) (m c : Nat) (ys : List Int) (hx : a.eval x = .slice A m c) (hr : IntsAt w A m c ys) (hm : m ≤ 1000)
    (hK : ∀ a' c' w', IntsNew2 w.heap.size w' a' m c' ys → Below w.heap.size w w' → K (a.put o.dst (.slice a' m c')) w') :
    if Region.wanted o (yielded ops a.tmps) = true then Oper.wp Try.prog o a w K Q else E := by
  obtain ⟨i0, hi0, hz0, hz1, hz2⟩ := info_parts Try.infoInt
  rcases Nat.eq_zero_or_pos m with rfl | hp
  · have hy : ys = [] := List.eq_nil_of_length_eq_zero hr.len
    subst hy
    have hw : Region.wanted o (yielded ops a.tmps) = true := by simp [Region.wanted, hg]
    rw [if_pos hw]
    have hrun : (Builtin.append_ #[23, 23] o.type #[.slice (some ⟨gb, 0, none⟩) 0 0, .slice A 0 c]).run Try.prog w = .ok (.slice (some ⟨gb, 0, none⟩) 0 0) w := by
      cases A with
      | none => simp [Builtin.append_, run_underlying Try.underlying23, sizeOf, typeInfo, hi0, Builtin.lenOf, Builtin.firstCells, storeCells]
      | some ad => exact run_append_room_cells (P := Try.prog) w 23 o.type 3 i0 Try.underlying23 hi0 gb 0 0 0 ad 0 c [] (by simp) (fun j u hu => by simp at hu) (fun u hu => by simp at hu) (by omega) (fun j hj => by simp at hj) (fun j hj => by simp at hj)
    unfold Oper.wp
    simp [execOp, ho, resolve, invoke, builtin, hs, hx, hrun, Result.andThen]
    exact hK _ _ w ⟨IntsAt.nil _ _ _ (by omega), fun h => absurd h (by omega)⟩ (Below.refl _ _)
  · obtain ⟨b, off, rfl, -, -⟩ := hr.cells 0 hp
    refine step_append_grows hg s x _ ho 3 i0 (.int .i64 0) 1 8 Try.underlying23 hi0 hz0 hz1 hz2 rfl (by omega) (some ⟨gb, 0, none⟩) 0 0 [] hs (fun h => by cases h) (by simp) (fun b hb j u hu => by simp at hu) ⟨b, off, none⟩ m c (ys.map (Value.int .i64)) hx (by simp [hr.len]) hr.cellsIn (ints_oneCell .i64 ys) (by omega) (by unfold maxLen; omega) (by omega) ?_
    intro v' w' hown hgr
    rw [Nat.zero_add, List.nil_append] at hown
    obtain ⟨a', c', rfl, hi⟩ := IntsAt.own hown
    refine hK a' c' w' ⟨hi, fun _ => ?_⟩ ((Below.refl _ w).grown hgr (Nat.le_refl _) (fun k hk => by cases hk))
    rcases hown.2 with ⟨h1, h2⟩ | ⟨g', cap, cur, h1, h2, h3⟩
    · injection h1 with _ h1 _; omega
    · injection h1 with h1 _ _
      subst h1
      exact ⟨g', 0, rfl, h2⟩
set_option maxRecDepth 100000 in
set_option maxHeartbeats 16000000 in
theorem copy_calls (v : Value) (R : Rl) (w : World) (hr : RuleAt w v R) (l1 : R.o.length ≤ 1000) (l2 : R.le.length ≤ 1000) (l3 : R.ri.length ≤ 1000) :
    Calls Try.prog 57 #[v] w fun e w' => ∃ v', e = .returned v' ∧ RuleNew w.heap.size w' v' R ∧ Below w.heap.size w w' := by
  obtain ⟨a1, n1, c1, a2, n2, c2, a3, n3, c3, rfl, h1, h2, h3⟩ := hr
  have e1 := h1.len
  have e2 := h2.len
  have e3 := h3.len
  obtain ⟨w1, hw1⟩ : ∃ w1, (w.alloc (.cells #[.int .i64 R.f, .slice a1 n1 c1, .slice a2 n2 c2, .slice a3 n3 c3] 53)).alloc (.cells #[.int .i64 0, .slice none 0 0, .slice none 0 0, .slice none 0 0] 53) = w1 := ⟨_, rfl⟩
  have hb1 : Below w.heap.size w w1 := by rw [← hw1]; exact (below_alloc _ _).alloc (by simp) _
  have hz : w1.heap.size = w.heap.size + 2 := by rw [← hw1]; simp
  have HQ : Hid (∀ W, Below (w.heap.size + 1) w1 W → W.cell? ⟨w.heap.size, 0, none⟩ = some (.int .i64 R.f) ∧ W.cell? ⟨w.heap.size, 1, none⟩ = some (.slice a1 n1 c1) ∧ W.cell? ⟨w.heap.size, 2, none⟩ = some (.slice a2 n2 c2) ∧ W.cell? ⟨w.heap.size, 3, none⟩ = some (.slice a3 n3 c3) ∧ Below (w.heap.size + 1) w1 W) := hid_ (fun W hW => by
    have A : ∀ i, W.cell? ⟨w.heap.size, i, none⟩ = w1.cell? ⟨w.heap.size, i, none⟩ := fun i => hW.cell (by show w.heap.size < _; omega)
    refine ⟨?_, ?_, ?_, ?_, hW⟩ <;> (rw [A, ← hw1]; simp))
  have HRB : Hid (∀ W, Below w1.heap.size w1 W → (W.cell? ⟨w.heap.size + 1, 0, none⟩ = some (.int .i64 0) ∧ W.cell? ⟨w.heap.size + 1, 1, none⟩ = some (.slice none 0 0) ∧ W.cell? ⟨w.heap.size + 1, 2, none⟩ = some (.slice none 0 0) ∧ W.cell? ⟨w.heap.size + 1, 3, none⟩ = some (.slice none 0 0)) ∧ (W.frozen? ⟨w.heap.size + 1, 0, none⟩ = false ∧ W.frozen? ⟨w.heap.size + 1, 1, none⟩ = false ∧ W.frozen? ⟨w.heap.size + 1, 2, none⟩ = false ∧ W.frozen? ⟨w.heap.size + 1, 3, none⟩ = false)) := hid_ (fun W hW => by
    have C : ∀ i, W.cell? ⟨w.heap.size + 1, i, none⟩ = w1.cell? ⟨w.heap.size + 1, i, none⟩ := fun i => hW.cell (by show w.heap.size + 1 < _; omega)
    have F : ∀ i, W.frozen? ⟨w.heap.size + 1, i, none⟩ = w1.frozen? ⟨w.heap.size + 1, i, none⟩ := fun i => hW.frozen (by show w.heap.size + 1 < _; omega)
    have f0 : ∀ i, w1.frozen? ⟨w.heap.size + 1, i, none⟩ = false := fun i => by rw [← hw1]; exact World.frozen?_alloc_at _ _ _ _ (by simp)
    refine ⟨⟨?_, ?_, ?_, ?_⟩, (F _).trans (f0 _), (F _).trans (f0 _), (F _).trans (f0 _), (F _).trans (f0 _)⟩ <;> (rw [C, ← hw1]; simp [World.cell?_alloc_at]))
  have Hb1 := hid_ hb1
  have HI1 := hid_ (fun W (hW : Below (w.heap.size + 1) w1 W) => h1.below (Hb1.out.trans (hW.mono (Nat.le_succ _))) (Nat.le_refl _))
  have HI2 := hid_ (fun W (hW : Below (w.heap.size + 1) w1 W) => h2.below (Hb1.out.trans (hW.mono (Nat.le_succ _))) (Nat.le_refl _))
  have HI3 := hid_ (fun W (hW : Below (w.heap.size + 1) w1 W) => h3.below (Hb1.out.trans (hW.mono (Nat.le_succ _))) (Nat.le_refl _))
  have m1 : n1 ≤ 1000 := by omega
  have m2 : n2 ≤ 1000 := by omega
  have m3 : n3 ≤ 1000 := by omega
  have HZ := hid_ hz
  clear h1 h2 h3 e1 e2 e3 hb1
  have hs1 : w.heap.size + 2 ≤ w1.heap.size := by rw [HZ.out]; exact Nat.le_refl _
  clear hz
  have hbb : Below (w.heap.size + 1) w1 w1 := Below.refl _ _
  have hBB : Below w1.heap.size w1 w1 := Below.refl _ _
  obtain ⟨q0, q1, q2, q3, -⟩ := HQ.out w1 hbb
  go_enter Try.func57, Try.ntmps57
  go_wp2_with fail
  go_region_held3 (fun W => W.cell? ⟨w.heap.size, 0, none⟩ = some (.int .i64 R.f) ∧ W.cell? ⟨w.heap.size, 1, none⟩ = some (.slice a1 n1 c1) ∧ W.cell? ⟨w.heap.size, 2, none⟩ = some (.slice a2 n2 c2) ∧ W.cell? ⟨w.heap.size, 3, none⟩ = some (.slice a3 n3 c3) ∧ Below (w.heap.size + 1) w1 W) ((refine HQ.out _ ?_; (repeat (first | assumption | (with_reducible refine Below.setCell ?_ (by first | omega | (simp; done) | (simp; omega)) _) | (with_reducible refine Below.alloc ?_ (by first | omega | (simp; done) | (simp; omega)) _) | (with_reducible refine Below.drew ?_)))))
    (first
      | ((refine step_copyN rfl (.tmp 5) (.tmp 7) rfl _ (by rfl) a1 n1 c1 _ (by rfl) (HI1.out _ ?_) (by omega) ?_); (focus (repeat (first | assumption | (with_reducible refine Below.setCell ?_ (by first | omega | (simp; done) | (simp; omega)) _) | (with_reducible refine Below.alloc ?_ (by first | omega | (simp; done) | (simp; omega)) _) | (with_reducible refine Below.drew ?_)))); intro x1 k1 w71 E1 hc1; have hb71 : Below (w.heap.size + 1) w1 w71 := Below.trans (b := _) (by (repeat (first | assumption | (with_reducible refine Below.setCell ?_ (by first | omega | (simp; done) | (simp; omega)) _) | (with_reducible refine Below.alloc ?_ (by first | omega | (simp; done) | (simp; omega)) _) | (with_reducible refine Below.drew ?_)))) (hc1.mono (by first | omega | (simp; omega))); have hB71 : Below w1.heap.size w1 w71 := below_then (by (repeat (first | assumption | (with_reducible refine Below.setCell ?_ (by first | omega | (simp; done) | (simp; omega)) _) | (with_reducible refine Below.alloc ?_ (by first | omega | (simp; done) | (simp; omega)) _) | (with_reducible refine Below.drew ?_)))) hc1; have hs71 := hB71.size; (first | (have E2 := E2.b0 hc1) | (have E2 := E2.b1 hc1) | (have E2 := E2.b2 hc1) | skip); (first | (have E3 := E3.b0 hc1) | (have E3 := E3.b1 hc1) | (have E3 := E3.b2 hc1) | skip); obtain ⟨⟨r0, r1, r2, r3⟩, f0, f1, f2, f3⟩ := HRB.out w71 hB71)
      | ((refine step_copyN rfl (.tmp 9) (.tmp 11) rfl _ (by rfl) a2 n2 c2 _ (by rfl) (HI2.out _ ?_) (by omega) ?_); (focus (repeat (first | assumption | (with_reducible refine Below.setCell ?_ (by first | omega | (simp; done) | (simp; omega)) _) | (with_reducible refine Below.alloc ?_ (by first | omega | (simp; done) | (simp; omega)) _) | (with_reducible refine Below.drew ?_)))); intro x2 k2 w72 E2 hc2; have hb72 : Below (w.heap.size + 1) w1 w72 := Below.trans (b := _) (by (repeat (first | assumption | (with_reducible refine Below.setCell ?_ (by first | omega | (simp; done) | (simp; omega)) _) | (with_reducible refine Below.alloc ?_ (by first | omega | (simp; done) | (simp; omega)) _) | (with_reducible refine Below.drew ?_)))) (hc2.mono (by first | omega | (simp; omega))); have hB72 : Below w1.heap.size w1 w72 := below_then (by (repeat (first | assumption | (with_reducible refine Below.setCell ?_ (by first | omega | (simp; done) | (simp; omega)) _) | (with_reducible refine Below.alloc ?_ (by first | omega | (simp; done) | (simp; omega)) _) | (with_reducible refine Below.drew ?_)))) hc2; have hs72 := hB72.size; (first | (have E1 := E1.b0 hc2) | (have E1 := E1.b1 hc2) | (have E1 := E1.b2 hc2) | skip); (first | (have E3 := E3.b0 hc2) | (have E3 := E3.b1 hc2) | (have E3 := E3.b2 hc2) | skip); obtain ⟨⟨r0, r1, r2, r3⟩, f0, f1, f2, f3⟩ := HRB.out w72 hB72)
      | ((refine step_copyN rfl (.tmp 13) (.tmp 15) rfl _ (by rfl) a3 n3 c3 _ (by rfl) (HI3.out _ ?_) (by omega) ?_); (focus (repeat (first | assumption | (with_reducible refine Below.setCell ?_ (by first | omega | (simp; done) | (simp; omega)) _) | (with_reducible refine Below.alloc ?_ (by first | omega | (simp; done) | (simp; omega)) _) | (with_reducible refine Below.drew ?_)))); intro x3 k3 w73 E3 hc3; have hb73 : Below (w.heap.size + 1) w1 w73 := Below.trans (b := _) (by (repeat (first | assumption | (with_reducible refine Below.setCell ?_ (by first | omega | (simp; done) | (simp; omega)) _) | (with_reducible refine Below.alloc ?_ (by first | omega | (simp; done) | (simp; omega)) _) | (with_reducible refine Below.drew ?_)))) (hc3.mono (by first | omega | (simp; omega))); have hB73 : Below w1.heap.size w1 w73 := below_then (by (repeat (first | assumption | (with_reducible refine Below.setCell ?_ (by first | omega | (simp; done) | (simp; omega)) _) | (with_reducible refine Below.alloc ?_ (by first | omega | (simp; done) | (simp; omega)) _) | (with_reducible refine Below.drew ?_)))) hc3; have hs73 := hB73.size; (first | (have E1 := E1.b0 hc3) | (have E1 := E1.b1 hc3) | (have E1 := E1.b2 hc3) | skip); (first | (have E2 := E2.b0 hc3) | (have E2 := E2.b1 hc3) | (have E2 := E2.b2 hc3) | skip); obtain ⟨⟨r0, r1, r2, r3⟩, f0, f1, f2, f3⟩ := HRB.out w73 hB73))
  all_goals
    go_wp2_with fail
    refine bodyPost_ret (v := .agg #[.int .i64 R.f, .slice x1 n1 k1, .slice x2 n2 k2, .slice x3 n3 k3]) ?_ rfl ⟨_, rfl, ?_, ?_⟩
    · simp [results, Try.results57, go_sem, r0, r1, r2, r3]
    · refine ⟨_, _, _, _, _, _, _, _, _, rfl, IntsNew2.base (B := w.heap.size + 2) ?_ (by omega), IntsNew2.base (B := w.heap.size + 2) ?_ (by omega), IntsNew2.base (B := w.heap.size + 2) ?_ (by omega)⟩
      all_goals ((repeat (with_reducible refine IntsNew2.setCell ?_ (by omega) _ _)); (first | refine IntsNew2.base E1 ?_ | refine IntsNew2.base E2 ?_ | refine IntsNew2.base E3 ?_); (first | omega | (simp; omega)))
    · (repeat (with_reducible refine Below.setCell ?_ (by simp) _)); first | exact Hb1.out.trans (hB71.mono Hb1.out.size) | exact Hb1.out.trans (hB72.mono Hb1.out.size) | exact Hb1.out.trans (hB73.mono Hb1.out.size)
end Go.Proofs.Ytgipkbiogldjpaa
