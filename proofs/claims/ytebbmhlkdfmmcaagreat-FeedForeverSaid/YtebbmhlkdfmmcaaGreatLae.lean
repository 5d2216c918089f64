import Derived.Test.YtebbmhlkdfmmcaaGreatPgk
import Derived.Test.YtebbmhlkdfmmcaaGreatKa
import Derived.Lib.SmallJoins
namespace Go.Proofs.YtebbmhlkdfmmcaaGreat
open Go.RowKit Go.Proofs.Kv

/-! ### large, Long -/
def bigOne2 (l : List Int) : Bool := decide (100 < l.length)
def bigR (R : Rl) : Bool := bigOne2 R.o || bigOne2 R.le || bigOne2 R.ri
theorem bigOne2_no {l : List Int} (h : bigOne2 l = false) : l.length ≤ 100 := by simp [bigOne2] at h; exact h
theorem large2_calls (a : Option Addr) (n c : Nat) (l : List Int) (w : World) (h : IntsAt w a n c l) :
    Calls Tryz.prog 46 #[.slice a n c] w fun e w' => e = .returned (.bool (bigOne2 l)) ∧ w = w' := by
  have Hf : Hid (bigOne2 l = decide ((100 : Int) < n)) := hid_ (by rw [bigOne2, h.len]; exact decide_eq_decide.2 (by omega))
  go_enter Tryz.func46, Tryz.ntmps46
  go_wp2
  go_ret
  exact ⟨retB Hf.out, rfl⟩
set_option maxRecDepth 100000 in
theorem long2_calls (v : Value) (R : Rl) (w : World) (hr : RuleAt w v R) :
    Calls Tryz.prog 26 #[v] w fun e w' => e = .returned (.bool (bigR R)) ∧ Below w.heap.size w w' := by
  obtain ⟨a1, n1, c1, a2, n2, c2, a3, n3, c3, rfl, h1, h2, h3⟩ := hr
  obtain ⟨f, o, le, ri⟩ := R
  dsimp only at h1 h2 h3 ⊢
  have HB := hid_ (below_alloc w (.cells #[.int .i64 f, .slice a1 n1 c1, .slice a2 n2 c2, .slice a3 n3 c3] 44))
  have K1 := hid_ (large2_calls _ _ _ _ _ (h1.below HB.out (Nat.le_refl _)))
  have K2 := hid_ (large2_calls _ _ _ _ _ (h2.below HB.out (Nat.le_refl _)))
  have K3 := hid_ (large2_calls _ _ _ _ _ (h3.below HB.out (Nat.le_refl _)))
  have Hf : Hid (bigR ⟨f, o, le, ri⟩ = (bigOne2 o || bigOne2 le || bigOne2 ri)) := hid_ rfl
  clear h1 h2 h3
  generalize bigOne2 o = b1 at *
  generalize bigOne2 le = b2 at *
  generalize bigOne2 ri = b3 at *
  cases b1
  case true =>
    go_enter Tryz.func26, Tryz.ntmps26
    go_wp2_with (go_at_call 46; refine K1.out.mono ?_; rintro e w' ⟨rfl, rfl⟩)
    go_ret
    exact ⟨retB Hf.out, HB.out⟩
  case false =>
    cases b2
    case true =>
      go_enter Tryz.func26, Tryz.ntmps26
      go_wp2_with (first
        | (go_at_call 46; refine K1.out.mono ?_; rintro e w' ⟨rfl, rfl⟩)
        | (go_at_call 46; refine K2.out.mono ?_; rintro e w' ⟨rfl, rfl⟩))
      go_ret
      exact ⟨retB Hf.out, HB.out⟩
    case false =>
      go_enter Tryz.func26, Tryz.ntmps26
      go_wp2_with (first
        | (go_at_call 46; refine K1.out.mono ?_; rintro e w' ⟨rfl, rfl⟩)
        | (go_at_call 46; refine K2.out.mono ?_; rintro e w' ⟨rfl, rfl⟩)
        | (go_at_call 46; refine K3.out.mono ?_; rintro e w' ⟨rfl, rfl⟩))
      go_ret
      exact ⟨retB Hf.out, HB.out⟩

/-! ### known -/
theorem known_all : errAll ⟨0, [1], [1], []⟩ [1, 0, 0] = 0 ∧ resAll ⟨0, [1], [1], []⟩ [1, 0, 0] = [1, 1, 0] := by decide +kernel
theorem known_along : errAlong ⟨0, [1], [1], []⟩ [1, 0, 0] = 0 ∧ resAlong ⟨0, [1], [1], []⟩ [1, 0, 0] = [1, 1, 1] := by decide +kernel
theorem same3_calls (x y z : Int) (w : World) (a : Option Addr) (c : Nat) (h : IntsAt w a 3 c [x, y, z]) :
    Calls Tryz.prog 25 #[.slice a 3 c, .slice (some ⟨w.heap.size, 0, none⟩) 3 3] (w.alloc (.cells #[.int .i64 x, .int .i64 y, .int .i64 z] 3)) fun e w' => e = .returned (.bool true) ∧ Below w.heap.size w w' := by
  refine (same_calls a 3 c [x, y, z] _ 3 3 [x, y, z] _ (h.below (below_alloc w _) (Nat.le_refl _)) (IntsAt.lit w [x, y, z] _ 3 3 rfl rfl (by omega))).mono ?_
  rintro e w' ⟨rfl, hq⟩
  exact ⟨by simp [Same], (below_alloc _ _).trans ((below_drew hq).mono (by simp))⟩
end Go.Proofs.YtebbmhlkdfmmcaaGreat
namespace Go.Proofs.YtebbmhlkdfmmcaaGreat
open Go.RowKit Go.Proofs.Kv


set_option maxRecDepth 100000 in
theorem wpList_copy_ints {ops : Array Oper} {rest : List Oper} {o : Oper} {a : Act} {Q : Exit → Act → World → Prop} (w : World) (hgd : o.guard = none) (s x : Operand)
    (ho : o.op = .call { callee := .builtin .append, args := #[s, x], argTypes := #[23, 23] })
    (hs : a.eval s = .slice (some ⟨w.heap.size, 0, none⟩) 0 0) (A : Option Addr) (m c : Nat) (ys : List Int) (hx : a.eval x = .slice A m c) (hr : IntsAt w A m c ys) (hm : m ≤ 1000)
    (h : ∀ v' w', Made 3 w w' v' ys → wpList Tryz.prog ops Q rest (a.put o.dst v') w') :
    wpList Tryz.prog ops Q (o :: rest) a (w.alloc (.cells #[] 3)) := by
  obtain ⟨i0, hi0, hz0, hz1, hz2⟩ := info_parts Tryz.infoInt
  refine wpList_append_ints _ hgd s x _ ho w.heap.size 3 i0 Tryz.underlying23 hi0 hz0 hz1 hz2 _ 0 [] hs (World.ownsRow_made w #[] 0 (Nat.le_refl _) (by omega) rfl) A m c ys hx (hr.below (below_alloc w _) (Nat.le_refl _)) (by omega) (by simp) ?_
  intro v' w' hown hg _
  refine h v' w' ⟨?_, (below_alloc w _).grown hg (by simp) (fun k hk => by cases hk; exact Nat.le_refl _)⟩
  rw [Nat.zero_add, List.nil_append, ← hr.len] at hown
  exact hown

/-- the block of an own row, while only newer blocks turn -/
theorem own_block {w : World} {B E n c : Nat} {a : Option Addr} {m : Nat} {xs : List Value} (h : w.ownsRow B E 1 (.slice a n c) m xs) : (n = 0 ∧ m = 0) ∨ ∃ g cur, a = some ⟨g, 0, none⟩ ∧ B ≤ g ∧ w.heap[g]? = some (.cells cur E (0, 0)) ∧ n ≤ cur.size := by
  rcases h.2 with ⟨h1, h2⟩ | ⟨g, cap, cur, h1, h2, h3, h4, _, h6, _⟩
  · injection h1 with _ h1 _
    exact .inl ⟨h1, h2⟩
  · injection h1 with h1 h5 h7
    subst h1; subst h5
    exact .inr ⟨g, cur, rfl, h2, h3, by omega⟩
end Go.Proofs.YtebbmhlkdfmmcaaGreat
