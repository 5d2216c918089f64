import Derived.Test.YtnpdhmejnoplcaaRa
import Derived.Lib.QuietBelow
namespace Go.Proofs.Kv
open Go.RowKit

/-- a rule's fields -/
structure Rl where
  f : Int
  o : List Int
  le : List Int
  ri : List Int
/-- the value v reads as the rule R -/
def RuleAt (w : World) (v : Value) (R : Rl) : Prop :=
  ∃ a n c a' n' c' a'' n'' c'', v = .agg #[.int .i64 R.f, .slice a n c, .slice a' n' c', .slice a'' n'' c''] ∧ IntsAt w a n c R.o ∧ IntsAt w a' n' c' R.le ∧ IntsAt w a'' n'' c'' R.ri
theorem RuleAt.below {w w' : World} {B : Nat} {v : Value} {R : Rl} (h : RuleAt w v R) (hb : Below B w w') (hB : w.heap.size ≤ B) : RuleAt w' v R := by
  obtain ⟨a, n, c, a', n', c', a'', n'', c'', rfl, h1, h2, h3⟩ := h
  exact ⟨a, n, c, a', n', c', a'', n'', c'', rfl, h1.below hb hB, h2.below hb hB, h3.below hb hB⟩
theorem RuleAt.drewN {w : World} {v : Value} {R : Rl} (h : RuleAt w v R) (q : Nat) : RuleAt (w.drewN q) v R := by
  obtain ⟨a, n, c, a', n', c', a'', n'', c'', rfl, h1, h2, h3⟩ := h
  exact ⟨a, n, c, a', n', c', a'', n'', c'', rfl, h1.drewN q, h2.drewN q, h3.drewN q⟩
theorem below_alloc (w : World) (o : Obj) : Below w.heap.size w (w.alloc o) := (Below.refl _ w).alloc (Nat.le_refl _) o
theorem cells_alloc (w : World) (cs : Array Value) (T : TypeId) (i : Nat) : (w.alloc (.cells cs T)).cell? ⟨w.heap.size, i, none⟩ = cs[i]? := by
  rw [World.cell?_alloc_at _ _ _ _ rfl]
theorem below_same {w w' : World} (h : w = w') : Below w.heap.size w w' := by subst h; exact Below.refl _ _
theorem below_drew {w w' : World} (h : ∃ q, w' = w.drewN q) : Below w.heap.size w w' := by obtain ⟨q, rfl⟩ := h; exact below_drewN (Below.refl _ _) q
/-- a contract that leaves the world, or draws, as one over worlds that grow -/
theorem grow_same {P : Program} {f : FuncId} {args : Array Value} {w : World} {v : Value} (h : Calls P f args w fun e w' => e = .returned v ∧ w = w') : Calls P f args w fun e w' => e = .returned v ∧ Below w.heap.size w w' :=
  h.mono fun _ _ ⟨he, hm⟩ => ⟨he, below_same hm⟩
theorem grow_drew {P : Program} {f : FuncId} {args : Array Value} {w : World} {v : Value} (h : Calls P f args w fun e w' => e = .returned v ∧ ∃ q, w' = w.drewN q) : Calls P f args w fun e w' => e = .returned v ∧ Below w.heap.size w w' :=
  h.mono fun _ _ ⟨he, hm⟩ => ⟨he, below_drew hm⟩
theorem IntsAt.grown {w : World} {a : Option Addr} {n c : Nat} {l : List Int} (h : IntsAt w a n c l) (d : Nat) (os : Array Obj) : IntsAt (Go.Sort.grow (redrawn w d) os) a n c l := h.below (below_regrown w d os) (Nat.le_refl _)
theorem RuleAt.grown {w : World} {v : Value} {R : Rl} (h : RuleAt w v R) (d : Nat) (os : Array Obj) : RuleAt (Go.Sort.grow (redrawn w d) os) v R := h.below (below_regrown w d os) (Nat.le_refl _)
theorem below_wq {w wq : World} {p : Regrown} (h : wq = Go.Sort.grow (redrawn w p.d) p.os) : Below w.heap.size w wq := by rw [h]; exact below_regrown _ _ _
end Go.Proofs.Kv
