import Derived.Test.YtnpdhmejnoplcaaLa
import Derived.Test.YtnpdhmejnoplcaaKc
import Derived.Lib.SmallJoins
namespace Go.Proofs.Ytnpdhmejnoplcaa
open Go.RowKit Go.Proofs.Kv


set_option maxRecDepth 100000 in
theorem wpList_copy_ints {ops : Array Oper} {rest : List Oper} {o : Oper} {a : Act} {Q : Exit → Act → World → Prop} (w : World) (hgd : o.guard = none) (s x : Operand)
    (ho : o.op = .call { callee := .builtin .append, args := #[s, x], argTypes := #[22, 22] })
    (hs : a.eval s = .slice (some ⟨w.heap.size, 0, none⟩) 0 0) (A : Option Addr) (m c : Nat) (ys : List Int) (hx : a.eval x = .slice A m c) (hr : IntsAt w A m c ys) (hm : m ≤ 1000)
    (h : ∀ v' w', Made 3 w w' v' ys → wpList Try.prog ops Q rest (a.put o.dst v') w') :
    wpList Try.prog ops Q (o :: rest) a (w.alloc (.cells #[] 3)) := by
  obtain ⟨i0, hi0, hz0, hz1, hz2⟩ := info_parts Try.infoInt
  refine wpList_append_ints _ hgd s x _ ho w.heap.size 3 i0 Try.underlying22 hi0 hz0 hz1 hz2 _ 0 [] hs (World.ownsRow_made w #[] 0 (Nat.le_refl _) (by omega) rfl) A m c ys hx (hr.below (below_alloc w _) (Nat.le_refl _)) (by omega) (by simp) ?_
  intro v' w' hown hg _
  refine h v' w' ⟨?_, (below_alloc w _).grown hg (by simp) (fun k hk => by cases hk; exact Nat.le_refl _)⟩
  rw [Nat.zero_add, List.nil_append, ← hr.len] at hown
  exact hown

/-- the block of an own row, while only newer blocks turn -/
theorem own_block {w : World} {B E n c : Nat} {a : Option Addr} {m : Nat} {xs : List Value} (h : w.ownsRow B E 1 (.slice a n c) m xs) : (n = 0 ∧ m = 0) ∨ ∃ g cur, a = some ⟨g, 0, none⟩ ∧ B ≤ g ∧ w.heap[g]? = some (.cells cur E (0, 0)) ∧ n ≤ cur.size := by
  rcases h.2 with ⟨h1, h2⟩ | ⟨g, cap, cur, h1, h2, h3, h4, _, h6, _⟩
  · injection h1 with _ h1 _
    exact .inl ⟨h1, h2⟩
  · injection h1 with h1 h5 h7
    subst h1; subst h5
    exact .inr ⟨g, cur, rfl, h2, h3, by omega⟩
end Go.Proofs.Ytnpdhmejnoplcaa
