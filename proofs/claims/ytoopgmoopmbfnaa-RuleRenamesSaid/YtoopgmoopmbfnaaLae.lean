import Derived.Test.YtoopgmoopmbfnaaPgk
import Derived.Test.YtoopgmoopmbfnaaKa
import Derived.Lib.SmallJoins
namespace Go.Proofs.Ytoopgmoopmbfnaa
open Go.RowKit Go.Proofs.Kv

/-! ### large, Long -/
def bigOne (l : List Int) : Bool := decide (100 < l.length)
def bigR (R : Rl) : Bool := bigOne R.o || bigOne R.le || bigOne R.ri
theorem bigOne_no {l : List Int} (h : bigOne l = false) : l.length ≤ 100 := by simp [bigOne] at h; exact h
theorem large_calls (a : Option Addr) (n c : Nat) (l : List Int) (w : World) (h : IntsAt w a n c l) :
    Calls Try.prog 34 #[.slice a n c] w fun e w' => e = .returned (.bool (bigOne l)) ∧ w = w' := by
  have Hf : Hid (bigOne l = decide ((100 : Int) < n)) := hid_ (by rw [bigOne, h.len]; exact decide_eq_decide.2 (by omega))
  go_enter Try.func34, Try.ntmps34
  go_wp2
  go_ret
  exact ⟨retB Hf.out, rfl⟩
set_option maxRecDepth 100000 in
theorem long_calls (v : Value) (R : Rl) (w : World) (hr : RuleAt w v R) :
    Calls Try.prog 33 #[v] w fun e w' => e = .returned (.bool (bigR R)) ∧ Below w.heap.size w w' := by
  obtain ⟨a1, n1, c1, a2, n2, c2, a3, n3, c3, rfl, h1, h2, h3⟩ := hr
  obtain ⟨f, o, le, ri⟩ := R
  dsimp only at h1 h2 h3 ⊢
  have HB := hid_ (below_alloc w (.cells #[.int .i64 f, .slice a1 n1 c1, .slice a2 n2 c2, .slice a3 n3 c3] 49))
  have K1 := hid_ (large_calls _ _ _ _ _ (h1.below HB.out (Nat.le_refl _)))
  have K2 := hid_ (large_calls _ _ _ _ _ (h2.below HB.out (Nat.le_refl _)))
  have K3 := hid_ (large_calls _ _ _ _ _ (h3.below HB.out (Nat.le_refl _)))
  have Hf : Hid (bigR ⟨f, o, le, ri⟩ = (bigOne o || bigOne le || bigOne ri)) := hid_ rfl
  clear h1 h2 h3
  generalize bigOne o = b1 at *
  generalize bigOne le = b2 at *
  generalize bigOne ri = b3 at *
  cases b1
  case true =>
    go_enter Try.func33, Try.ntmps33
    go_wp2_with (go_at_call 34; refine K1.out.mono ?_; rintro e w' ⟨rfl, rfl⟩)
    go_ret
    exact ⟨retB Hf.out, HB.out⟩
  case false =>
    cases b2
    case true =>
      go_enter Try.func33, Try.ntmps33
      go_wp2_with (first
        | (go_at_call 34; refine K1.out.mono ?_; rintro e w' ⟨rfl, rfl⟩)
        | (go_at_call 34; refine K2.out.mono ?_; rintro e w' ⟨rfl, rfl⟩))
      go_ret
      exact ⟨retB Hf.out, HB.out⟩
    case false =>
      go_enter Try.func33, Try.ntmps33
      go_wp2_with (first
        | (go_at_call 34; refine K1.out.mono ?_; rintro e w' ⟨rfl, rfl⟩)
        | (go_at_call 34; refine K2.out.mono ?_; rintro e w' ⟨rfl, rfl⟩)
        | (go_at_call 34; refine K3.out.mono ?_; rintro e w' ⟨rfl, rfl⟩))
      go_ret
      exact ⟨retB Hf.out, HB.out⟩

/-! ### known -/
theorem known_all : errAll ⟨0, [1], [1], []⟩ [1, 0, 0] = 0 ∧ resAll ⟨0, [1], [1], []⟩ [1, 0, 0] = [1, 1, 0] := by decide +kernel
theorem known_along : errAlong ⟨0, [1], [1], []⟩ [1, 0, 0] = 0 ∧ resAlong ⟨0, [1], [1], []⟩ [1, 0, 0] = [1, 1, 1] := by decide +kernel
theorem same3_calls (x y z : Int) (w : World) (a : Option Addr) (c : Nat) (h : IntsAt w a 3 c [x, y, z]) :
    Calls Try.prog 41 #[.slice a 3 c, .slice (some ⟨w.heap.size, 0, none⟩) 3 3] (w.alloc (.cells #[.int .i64 x, .int .i64 y, .int .i64 z] 3)) fun e w' => e = .returned (.bool true) ∧ Below w.heap.size w w' := by
  refine (same_calls a 3 c [x, y, z] _ 3 3 [x, y, z] _ (h.below (below_alloc w _) (Nat.le_refl _)) (IntsAt.lit w [x, y, z] _ 3 3 rfl rfl (by omega))).mono ?_
  rintro e w' ⟨rfl, hq⟩
  exact ⟨by simp [Same], (below_alloc _ _).trans ((below_drew hq).mono (by simp))⟩
set_option maxRecDepth 100000 in
set_option maxHeartbeats 2000000 in
theorem known_calls (w : World) :
    Calls Try.prog 35 #[] w fun e w' => e = .returned (.bool true) ∧ Below w.heap.size w w' := by
  obtain ⟨wa, hwa⟩ : ∃ wa, (w.alloc (.cells #[.int .i64 1] 3)).alloc (.cells #[.int .i64 1] 3) = wa := ⟨_, rfl⟩
  have hsz : wa.heap.size = w.heap.size + 1 + 1 := by rw [← hwa]; simp
  obtain ⟨w1, hw1⟩ : ∃ w1, wa.alloc (.cells #[.int .i64 0, .slice (some ⟨w.heap.size, 0, none⟩) 1 1, .slice (some ⟨w.heap.size + 1, 0, none⟩) 1 1, .slice none 0 0] 49) = w1 := ⟨_, rfl⟩
  have hsz1 : w1.heap.size = w.heap.size + 1 + 1 + 1 := by rw [← hw1]; simp [hsz]
  have HS1 := hid_ hsz1
  have HSa := hid_ hsz
  have Hba : Hid (Below w.heap.size w wa) := hid_ (by rw [← hwa]; exact (below_alloc _ _).trans ((below_alloc _ _).mono (by simp)))
  have Hb1 : Hid (Below wa.heap.size wa w1) := hid_ (by rw [← hw1]; exact below_alloc _ _)
  have HW1 := hid_ hw1
  have Hi1 : IntsAt wa (some ⟨w.heap.size, 0, none⟩) 1 1 [1] := by
    rw [← hwa]
    exact (IntsAt.lit w [1] #[.int .i64 1] 1 3 rfl rfl (by omega)).below (below_alloc _ _) (Nat.le_refl _)
  have Hi2 : IntsAt wa (some ⟨w.heap.size + 1, 0, none⟩) 1 1 [1] := by
    rw [← hwa]
    have := IntsAt.lit (w.alloc (.cells #[.int .i64 1] 3)) [1] #[.int .i64 1] 1 3 rfl rfl (by omega)
    simpa using this
  have HR : Hid (RuleAt w1 (.agg #[.int .i64 0, .slice (some ⟨w.heap.size, 0, none⟩) 1 1, .slice (some ⟨w.heap.size + 1, 0, none⟩) 1 1, .slice none 0 0]) ⟨0, [1], [1], []⟩) :=
    hid_ ⟨_, _, _, _, _, _, _, _, _, rfl, Hi1.below Hb1.out (Nat.le_refl _), Hi2.below Hb1.out (Nat.le_refl _), IntsAt.nil _ _ _ (by omega)⟩
  clear Hi1 Hi2
  have HA : Hid (∀ W, Below w1.heap.size w1 W → Calls Try.prog 76 #[.agg #[.int .i64 0, .slice (some ⟨w.heap.size, 0, none⟩) 1 1, .slice (some ⟨w.heap.size + 1, 0, none⟩) 1 1, .slice none 0 0], .slice (some ⟨W.heap.size, 0, none⟩) 3 3] (W.alloc (.cells #[.int .i64 1, .int .i64 0, .int .i64 0] 3)) fun e w' => ∃ v', e = .returned (.tuple #[v', .int .i64 0]) ∧ Made 3 (W.alloc (.cells #[.int .i64 1, .int .i64 0, .int .i64 0] 3)) w' v' [1, 1, 0]) := hid_ (fun W hW => by
    have := ruAtAll_calls _ ⟨0, [1], [1], []⟩ _ 3 3 [1, 0, 0] _ ((HR.out.below hW (Nat.le_refl _)).below (below_alloc W (.cells #[.int .i64 1, .int .i64 0, .int .i64 0] 3)) (Nat.le_refl _)) (IntsAt.lit W [1, 0, 0] _ 3 3 rfl rfl (by omega))
    rwa [known_all.1, known_all.2] at this)
  have HB : Hid (∀ W, Below w1.heap.size w1 W → Calls Try.prog 77 #[.agg #[.int .i64 0, .slice (some ⟨w.heap.size, 0, none⟩) 1 1, .slice (some ⟨w.heap.size + 1, 0, none⟩) 1 1, .slice none 0 0], .slice (some ⟨W.heap.size, 0, none⟩) 3 3] (W.alloc (.cells #[.int .i64 1, .int .i64 0, .int .i64 0] 3)) fun e w' => ∃ v', e = .returned (.tuple #[v', .int .i64 0]) ∧ Made 3 (W.alloc (.cells #[.int .i64 1, .int .i64 0, .int .i64 0] 3)) w' v' [1, 1, 1]) := hid_ (fun W hW => by
    have := ruAlong_calls _ ⟨0, [1], [1], []⟩ _ 3 3 [1, 0, 0] _ ((HR.out.below hW (Nat.le_refl _)).below (below_alloc W (.cells #[.int .i64 1, .int .i64 0, .int .i64 0] 3)) (Nat.le_refl _)) (IntsAt.lit W [1, 0, 0] _ 3 3 rfl rfl (by omega))
    rwa [known_along.1, known_along.2] at this)
  have Ha : Hid (Calls Try.prog 76 #[.agg #[.int .i64 0, .slice (some ⟨w.heap.size, 0, none⟩) 1 1, .slice (some ⟨w.heap.size + 1, 0, none⟩) 1 1, .slice none 0 0], .slice (some ⟨w.heap.size + 1 + 1 + 1, 0, none⟩) 3 3] ((((w.alloc (.cells #[.int .i64 1] 3)).alloc (.cells #[.int .i64 1] 3)).alloc (.cells #[.int .i64 0, .slice (some ⟨w.heap.size, 0, none⟩) 1 1, .slice (some ⟨w.heap.size + 1, 0, none⟩) 1 1, .slice none 0 0] 49)).alloc (.cells #[.int .i64 1, .int .i64 0, .int .i64 0] 3)) fun e w' => ∃ v', e = .returned (.tuple #[v', .int .i64 0]) ∧ Made 3 (w1.alloc (.cells #[.int .i64 1, .int .i64 0, .int .i64 0] 3)) w' v' [1, 1, 0]) := hid_ (by
    rw [hwa, hw1, ← hsz1]
    exact HA.out w1 (Below.refl _ _))
  have HQ : Hid (∀ W, Below w1.heap.size w1 W → W.cell? ⟨w.heap.size + 1 + 1, 0, none⟩ = some (.int .i64 0) ∧ W.cell? ⟨w.heap.size + 1 + 1, 1, none⟩ = some (.slice (some ⟨w.heap.size, 0, none⟩) 1 1) ∧ W.cell? ⟨w.heap.size + 1 + 1, 2, none⟩ = some (.slice (some ⟨w.heap.size + 1, 0, none⟩) 1 1) ∧ W.cell? ⟨w.heap.size + 1 + 1, 3, none⟩ = some (.slice none 0 0)) := hid_ (fun W hW => by
    have := box4 HW1.out hW
    rwa [HSa.out] at this)
  have HS := hid_ same3_calls
  clear hwa hw1 hsz hsz1
  go_enter Try.func35, Try.ntmps35
  go_wp2_with (first
    | (go_at_call 76; refine Ha.out.mono ?_; rintro e w2 ⟨v2, rfl, hm2⟩; have hb2 : Below w1.heap.size w1 w2 := (below_alloc _ _).trans (hm2.bel.mono (by simp)); obtain ⟨q0, q1, q2, q3⟩ := HQ.out w2 hb2; obtain ⟨a2, c2, rfl, hi2⟩ := hm2.at_; have Hi2 := hid_ hi2; clear hi2 hm2)
    | (go_at_call 77; refine (HB.out w2 hb2).mono ?_; rintro e w3 ⟨v3, rfl, hm3⟩; have hb3 : Below w2.heap.size w2 w3 := (below_alloc _ _).trans (hm3.bel.mono (by simp)); obtain ⟨a3, c3, rfl, hi3⟩ := hm3.at_; have Hi3 := hid_ hi3; clear hi3 hm3)
    | (go_at_call 41; with_reducible refine (HS.out _ _ _ _ _ _ (Hi2.out.below hb3 (Nat.le_refl _))).mono ?_; rintro e w4 ⟨rfl, hb4⟩)
    | (go_at_call 41; with_reducible refine (HS.out _ _ _ _ _ _ (Hi3.out.below hb4 (Nat.le_refl _))).mono ?_; rintro e w5 ⟨rfl, hb5⟩))
  go_ret
  exact ⟨rfl, Hba.out.trans ((Hb1.out.trans ((hb2.trans ((hb3.trans ((hb4.trans (hb5.mono hb4.size)).mono hb3.size)).mono hb2.size)).mono Hb1.out.size)).mono Hba.out.size)⟩
end Go.Proofs.Ytoopgmoopmbfnaa
namespace Go.Proofs.Ytoopgmoopmbfnaa
open Go.RowKit Go.Proofs.Kv


set_option maxRecDepth 100000 in
theorem wpList_copy_ints {ops : Array Oper} {rest : List Oper} {o : Oper} {a : Act} {Q : Exit → Act → World → Prop} (w : World) (hgd : o.guard = none) (s x : Operand)
    (ho : o.op = .call { callee := .builtin .append, args := #[s, x], argTypes := #[23, 23] })
    (hs : a.eval s = .slice (some ⟨w.heap.size, 0, none⟩) 0 0) (A : Option Addr) (m c : Nat) (ys : List Int) (hx : a.eval x = .slice A m c) (hr : IntsAt w A m c ys) (hm : m ≤ 1000)
    (h : ∀ v' w', Made 3 w w' v' ys → wpList Try.prog ops Q rest (a.put o.dst v') w') :
    wpList Try.prog ops Q (o :: rest) a (w.alloc (.cells #[] 3)) := by
  obtain ⟨i0, hi0, hz0, hz1, hz2⟩ := info_parts Try.infoInt
  refine wpList_append_ints _ hgd s x _ ho w.heap.size 3 i0 Try.underlying23 hi0 hz0 hz1 hz2 _ 0 [] hs (World.ownsRow_made w #[] 0 (Nat.le_refl _) (by omega) rfl) A m c ys hx (hr.below (below_alloc w _) (Nat.le_refl _)) (by omega) (by simp) ?_
  intro v' w' hown hg _
  refine h v' w' ⟨?_, (below_alloc w _).grown hg (by simp) (fun k hk => by cases hk; exact Nat.le_refl _)⟩
  rw [Nat.zero_add, List.nil_append, ← hr.len] at hown
  exact hown

/-- the block of an own row, while only newer blocks turn -/
theorem own_block {w : World} {B E n c : Nat} {a : Option Addr} {m : Nat} {xs : List Value} (h : w.ownsRow B E 1 (.slice a n c) m xs) : (n = 0 ∧ m = 0) ∨ ∃ g cur, a = some ⟨g, 0, none⟩ ∧ B ≤ g ∧ w.heap[g]? = some (.cells cur E (0, 0)) ∧ n ≤ cur.size := by
  rcases h.2 with ⟨h1, h2⟩ | ⟨g, cap, cur, h1, h2, h3, h4, _, h6, _⟩
  · injection h1 with _ h1 _
    exact .inl ⟨h1, h2⟩
  · injection h1 with h1 h5 h7
    subst h1; subst h5
    exact .inr ⟨g, cur, rfl, h2, h3, by omega⟩
end Go.Proofs.Ytoopgmoopmbfnaa
