import Derived.Test.YtebbmhlkdfmmcaaGreatProg
import Derived.Test.YtebbmhlkdfmmcaaGreatKit
import Derived.Lib.QuietBelow
import Derived.StillTail
import Derived.OrdersIn
import Derived.RangeFuncCalls
namespace Go.Proofs.YtebbmhlkdfmmcaaGreat
open Go.RowKit Go.Proofs.Kv

def Has (l : List Int) (x : Int) : Bool := l.contains x
theorem Has_iff {l : List Int} {x : Int} : Has l x = true ↔ x ∈ l := by simp [Has]
def Within (n lo hi : Int) : Bool := decide (lo ≤ n) && decide (n ≤ hi)
def Same (l m : List Int) : Bool := decide (l = m)

theorem within_calls (n lo hi : Int) (w : World) :
    Calls Tryz.prog 108 #[.int .i64 n, .int .i64 lo, .int .i64 hi] w fun e w' => e = .returned (.bool (Within n lo hi)) ∧ w = w' := by
  by_cases h1 : lo ≤ n
  · by_cases h2 : n ≤ hi
    · have H : Hid (Within n lo hi = true) := by simp [Hid, Within, h1, h2]
      go_enter Tryz.func108, Tryz.ntmps108
      go_wp2
      go_ret
      exact ⟨retB H.out, rfl⟩
    · have H : Hid (Within n lo hi = false) := by simp [Hid, Within, h2]
      go_enter Tryz.func108, Tryz.ntmps108
      go_wp2
      go_ret
      exact ⟨retB H.out, rfl⟩
  · have H : Hid (Within n lo hi = false) := by simp [Hid, Within, h1]
    go_enter Tryz.func108, Tryz.ntmps108
    go_wp2
    go_ret
    exact ⟨retB H.out, rfl⟩

theorem has_calls (a : Option Addr) (n c : Nat) (l : List Int) (x : Int) (w : World) (h : IntsAt w a n c l) :
    Calls Tryz.prog 126 #[.slice a n c, .int .i64 x] w fun e w' => e = .returned (.bool (Has l x)) ∧ w = w' := by
  have hn : n ≤ 9223372036854775807 := Nat.le_trans h.le h.small
  go_enter Tryz.func126, Tryz.ntmps126
  go_wp2
  go_loop [5] (fun i => ∃ k : Nat, k ≤ n ∧ i = .int .i64 k ∧ ∀ j, j < k → l.getD j 0 ≠ x) (fun i => n - (intOf i).toNat)
  case atStart => exact ⟨0, Nat.zero_le _, rfl, fun _ h => absurd h (by omega)⟩
  case round =>
    obtain ⟨k, hk, rfl, hno⟩ := hrel
    have Hno := hid_ hno; clear hno
    by_cases hlt : k < n
    · obtain ⟨b, off, rfl, hb, hcell⟩ := h.cells k hlt
      generalize hy : l.getD k 0 = y at hcell
      have Hy := hid_ hy; clear hy
      by_cases he : y = x
      · have hq : (y == x) = true := by simpa using he
        have He := hid_ he; clear he
        have Hf : Hid (Has l x = true) := by
          refine hid_ (Has_iff.2 ?_)
          rw [← He.out, ← Hy.out]
          exact getD_mem (by rw [h.len]; exact hlt)
        go_wp2
        go_ret
        exact ⟨retB Hf.out, rfl⟩
      · have hq : (y == x) = false := by simpa using he
        have He := hid_ he; clear he
        go_wp2
        go_round
        case rel => exact ⟨k + 1, by omega, by go_num, lt_snoc Hno.out (by rw [Hy.out]; exact He.out)⟩
        case measure => simp [intOf]; omega
    · have HH : Hid (Has l x = false) := by
        refine hid_ (Bool.eq_false_iff.2 fun hc => ?_)
        obtain ⟨i, hi, hx⟩ := mem_getD (Has_iff.1 hc)
        exact Hno.out i (by have := h.len; omega) hx
      go_wp2
      go_ret
      exact ⟨retB HH.out, rfl⟩

theorem has_as {a : Option Addr} {n c : Nat} {l : List Int} {x : Int} {w : World} {b : Bool} (h : IntsAt w a n c l) (hb : Has l x = b) :
    Calls Tryz.prog 126 #[.slice a n c, .int .i64 x] w fun e w' => e = .returned (.bool b) ∧ w = w' := by subst hb; exact has_calls a n c l x w h

theorem same_calls (a : Option Addr) (n c : Nat) (l : List Int) (a' : Option Addr) (n' c' : Nat) (l' : List Int) (w : World) (h : IntsAt w a n c l) (h' : IntsAt w a' n' c' l') :
    Calls Tryz.prog 25 #[.slice a n c, .slice a' n' c'] w fun e w' => e = .returned (.bool (Same l l')) ∧ ∃ q, w' = w.drewN q := by
  have hn : n ≤ 9223372036854775807 := Nat.le_trans h.le h.small
  by_cases hnn : n = n'
  · subst hnn
    have hb1 : ((n : Int) != (n : Int)) = false := by simp
    go_enter Tryz.func25, Tryz.ntmps25
    go_wp2
    go_loopw [5] (fun i wr => ∃ k q : Nat, k ≤ n ∧ i = .int .i64 k ∧ wr = w.drewN q ∧ ∀ j, j < k → l.getD j 0 = l'.getD j 0) (fun i _ => n - (intOf i).toNat)
    case atStart => exact ⟨0, 0, Nat.zero_le _, rfl, rfl, fun _ h => absurd h (by omega)⟩
    case round =>
      obtain ⟨k, q, hk, rfl, rfl, hall⟩ := hrel
      have Hall := hid_ hall; clear hall
      by_cases hlt : k < n
      · obtain ⟨b, off, rfl, hb, hcell⟩ := h.cells k hlt
        obtain ⟨b', off', rfl, hb', hcell'⟩ := h'.cells k hlt
        generalize hy : l.getD k 0 = y at hcell
        have Hy := hid_ hy; clear hy
        generalize hy' : l'.getD k 0 = y' at hcell'
        have Hy' := hid_ hy'; clear hy'
        by_cases he : y = y'
        · have hq : (y != y') = false := by simpa using he
          have He := hid_ he; clear he
          go_wp2
          go_quiet (fail)
          go_wp2
          go_roundw
          case rel => exact ⟨k + 1, _, by omega, by go_num, rfl, lt_snoc Hall.out (by rw [Hy.out, Hy'.out]; exact He.out)⟩
          case measure => simp [intOf]; omega
        · have hq : (y != y') = true := by simpa using he
          have Hf : Hid (Same l l' = false) := by
            refine hid_ (decide_eq_false fun e => he ?_)
            rw [← Hy.out, ← Hy'.out, e]
          have He := hid_ he; clear he
          go_wp2
          go_quiet (fail)
          go_wp2
          go_ret
          exact ⟨retB Hf.out, _, drewN2 _ _ _⟩
      · have Hf : Hid (Same l l' = true) := hid_ (decide_eq_true (ext_getD h.len h'.len fun j hj => Hall.out j (by omega)))
        go_wp2
        go_ret
        exact ⟨retB Hf.out, _, rfl⟩
  · have hb1 : ((n : Int) != (n' : Int)) = true := by simp; omega
    have Hf : Hid (Same l l' = false) := hid_ (decide_eq_false fun e => hnn (by rw [← h.len, ← h'.len, e]))
    have Hn := hid_ hnn; clear hnn
    go_enter Tryz.func25, Tryz.ntmps25
    go_wp2
    go_ret
    exact ⟨retB Hf.out, 0, rfl⟩

theorem quiet_left {P : Program} {f : FuncId} {args : Array Value} {w : World} {n : Nat} {v : Value}
    (h : Calls P f args (w.drewN n) fun e w' => e = .returned v ∧ w.drewN n = w') : Calls P f args (w.drewN n) fun e w'' => e = .returned v ∧ ∃ m, w'' = w.drewN m :=
  h.mono fun _ _ ⟨he, hm⟩ => ⟨he, n, hm.symm⟩
theorem quiet_more {P : Program} {f : FuncId} {args : Array Value} {w : World} {n : Nat} {v : Value}
    (h : Calls P f args (w.drewN n) fun e w' => e = .returned v ∧ ∃ q, w' = (w.drewN n).drewN q) : Calls P f args (w.drewN n) fun e w'' => e = .returned v ∧ ∃ m, w'' = w.drewN m :=
  h.mono fun _ _ ⟨he, q, hm⟩ => ⟨he, n + q, by rw [hm, drewN2]⟩

/-! ### IsSet -/
def setBad (l : List Int) (lo hi : Int) (i : Nat) : Bool := !Within (l.getD i 0) lo hi || (decide (0 < i) && decide (l.getD i 0 ≤ l.getD (i - 1) 0))
def IsSet (l : List Int) (lo hi : Int) : Bool := (List.range l.length).all fun i => !setBad l lo hi i
theorem IsSet_yes {l : List Int} {lo hi : Int} {n : Nat} (hl : l.length = n) (h : ∀ j, j < n → setBad l lo hi j = false) : IsSet l lo hi = true := by
  simp only [IsSet, List.all_eq_true, List.mem_range, hl]
  intro i hi'; rw [h i hi']; rfl
theorem IsSet_no {l : List Int} {lo hi : Int} {k : Nat} (hl : k < l.length) (h : setBad l lo hi k = true) : IsSet l lo hi = false := by
  rw [Bool.eq_false_iff]
  intro e
  simp only [IsSet, List.all_eq_true, List.mem_range] at e
  have := e k hl
  rw [h] at this; cases this

set_option maxRecDepth 100000 in
theorem isSet_calls (a : Option Addr) (n c : Nat) (l : List Int) (lo hi : Int) (w : World) (h : IntsAt w a n c l) :
    Calls Tryz.prog 101 #[.slice a n c, .int .i64 lo, .int .i64 hi] w fun e w' => e = .returned (.bool (IsSet l lo hi)) ∧ ∃ q, w' = w.drewN q := by
  have hn : n ≤ 9223372036854775807 := Nat.le_trans h.le h.small
  go_enter Tryz.func101, Tryz.ntmps101
  go_wp2
  go_loopw [7] (fun i wr => ∃ k q : Nat, k ≤ n ∧ i = .int .i64 k ∧ wr = w.drewN q ∧ ∀ j, j < k → setBad l lo hi j = false) (fun i _ => n - (intOf i).toNat)
  case atStart => exact ⟨0, 0, Nat.zero_le _, rfl, rfl, fun _ h => absurd h (by omega)⟩
  case round =>
    obtain ⟨k, q, hk, rfl, hq, hall⟩ := hrel
    have hI : IntsAt wr a n c l := by rw [hq]; exact h.drewN q
    have Hq := hid_ hq; clear hq
    have Hall := hid_ hall; clear hall
    by_cases hlt : k < n
    · obtain ⟨b, off, rfl, hb, hcell⟩ := hI.cells k hlt
      have hprev : 0 < k → wr.cell? ⟨b, off + (k - 1), none⟩ = some (.int .i64 (l.getD (k - 1) 0)) := fun h0 => by
        obtain ⟨b', off', e, _, hc⟩ := hI.cells (k - 1) (by omega)
        injection e with e; injection e with e1 e2; subst e1; subst e2; exact hc
      generalize hy : l.getD k 0 = y at hcell
      generalize hz : l.getD (k - 1) 0 = z at hprev
      have Hbad : Hid (setBad l lo hi k = (!Within y lo hi || (decide (0 < k) && decide (y ≤ z)))) := hid_ (by rw [setBad, hy, hz])
      clear hy hz
      have hl : k < l.length := by rw [h.len]; exact hlt
      cases hw : Within y lo hi with
      | false =>
        have Hf : Hid (IsSet l lo hi = false) := hid_ (IsSet_no hl (by rw [Hbad.out, hw]; rfl))
        clear Hbad hprev
        go_wp2
        go_quiet ((go_at_call 108; exact quiet_left (within_calls _ _ _ _)))
        go_wp2
        go_ret
        exact ⟨retB Hf.out, _, by rw [Hq.out, drewN2]⟩
      | true =>
        by_cases h0 : 0 < k
        · have hcell2 := hprev h0
          have hk1 : (0 : Int) ≤ (k : Int) - 1 := by omega
          have hk2 : (k : Int) - 1 < (n : Int) := by omega
          have hk3 : ((k : Int) - 1).toNat = k - 1 := by omega
          have hw1 : IntKind.i64.wrap ((k : Int) - 1) = (k : Int) - 1 := IntWalk.i64_in _ (by omega)
          by_cases hyz : y ≤ z
          · have Hf : Hid (IsSet l lo hi = false) := hid_ (IsSet_no hl (by rw [Hbad.out, hw]; simp [h0, hyz]))
            clear Hbad hprev
            go_wp2
            go_quiet ((go_at_call 108; exact quiet_left (within_calls _ _ _ _)))
            clear hk3 hw1
            go_wp2
            go_ret
            exact ⟨retB Hf.out, _, by rw [Hq.out, drewN2]⟩
          · have Hf : Hid (setBad l lo hi k = false) := hid_ (by rw [Hbad.out, hw]; simp [hyz])
            clear Hbad hprev
            go_wp2
            go_quiet ((go_at_call 108; exact quiet_left (within_calls _ _ _ _)))
            clear hk3 hw1
            go_wp2
            go_roundw
            case rel => exact ⟨k + 1, _, by omega, by go_num, by rw [Hq.out, drewN2], lt_snoc Hall.out Hf.out⟩
            case measure => simp [intOf]; omega
        · have hd : decide ((0 : Int) < (k : Int)) = false := by simp; omega
          have Hf : Hid (setBad l lo hi k = false) := hid_ (by rw [Hbad.out, hw]; simp [h0])
          clear Hbad hprev
          go_wp2
          go_quiet ((go_at_call 108; exact quiet_left (within_calls _ _ _ _)))
          go_wp2
          go_roundw
          case rel => exact ⟨k + 1, _, by omega, by go_num, by rw [Hq.out, drewN2], lt_snoc Hall.out Hf.out⟩
          case measure => simp [intOf]; omega
    · have Hf : Hid (IsSet l lo hi = true) := hid_ (IsSet_yes h.len fun j hj => Hall.out j (by omega))
      go_wp2
      go_ret
      exact ⟨retB Hf.out, _, Hq.out⟩

/-! ### isOrder -/
def IsOrd (l : List Int) (n : Int) : Bool := decide ((l.length : Int) = n) && (List.range n.toNat).all fun i => Has l (i : Int)
end Go.Proofs.YtebbmhlkdfmmcaaGreat
namespace Go.Proofs.YtebbmhlkdfmmcaaGreat
open Go.RowKit Go.Proofs.Kv
theorem Tryz.infoInt : (Tryz.prog.info? 3).map (fun i => (i.zero, i.size, i.bytes)) = some (some (.int .i64 0), 1, 8) := by kernel_rfl
end Go.Proofs.YtebbmhlkdfmmcaaGreat
namespace Go.Proofs.Kv
open Go.RowKit

/-- a rule's fields -/
structure Rl where
  f : Int
  o : List Int
  le : List Int
  ri : List Int
/-- the value v reads as the rule R -/
def RuleAt (w : World) (v : Value) (R : Rl) : Prop :=
  ∃ a n c a' n' c' a'' n'' c'', v = .agg #[.int .i64 R.f, .slice a n c, .slice a' n' c', .slice a'' n'' c''] ∧ IntsAt w a n c R.o ∧ IntsAt w a' n' c' R.le ∧ IntsAt w a'' n'' c'' R.ri
theorem RuleAt.below {w w' : World} {B : Nat} {v : Value} {R : Rl} (h : RuleAt w v R) (hb : Below B w w') (hB : w.heap.size ≤ B) : RuleAt w' v R := by
  obtain ⟨a, n, c, a', n', c', a'', n'', c'', rfl, h1, h2, h3⟩ := h
  exact ⟨a, n, c, a', n', c', a'', n'', c'', rfl, h1.below hb hB, h2.below hb hB, h3.below hb hB⟩
theorem RuleAt.drewN {w : World} {v : Value} {R : Rl} (h : RuleAt w v R) (q : Nat) : RuleAt (w.drewN q) v R := by
  obtain ⟨a, n, c, a', n', c', a'', n'', c'', rfl, h1, h2, h3⟩ := h
  exact ⟨a, n, c, a', n', c', a'', n'', c'', rfl, h1.drewN q, h2.drewN q, h3.drewN q⟩
theorem below_alloc (w : World) (o : Obj) : Below w.heap.size w (w.alloc o) := (Below.refl _ w).alloc (Nat.le_refl _) o
theorem cells_alloc (w : World) (cs : Array Value) (T : TypeId) (i : Nat) : (w.alloc (.cells cs T)).cell? ⟨w.heap.size, i, none⟩ = cs[i]? := by
  rw [World.cell?_alloc_at _ _ _ _ rfl]
theorem below_same {w w' : World} (h : w = w') : Below w.heap.size w w' := by subst h; exact Below.refl _ _
theorem below_drew {w w' : World} (h : ∃ q, w' = w.drewN q) : Below w.heap.size w w' := by obtain ⟨q, rfl⟩ := h; exact below_drewN (Below.refl _ _) q
/-- a contract that leaves the world, or draws, as one over worlds that grow -/
theorem grow_same {P : Program} {f : FuncId} {args : Array Value} {w : World} {v : Value} (h : Calls P f args w fun e w' => e = .returned v ∧ w = w') : Calls P f args w fun e w' => e = .returned v ∧ Below w.heap.size w w' :=
  h.mono fun _ _ ⟨he, hm⟩ => ⟨he, below_same hm⟩
theorem grow_drew {P : Program} {f : FuncId} {args : Array Value} {w : World} {v : Value} (h : Calls P f args w fun e w' => e = .returned v ∧ ∃ q, w' = w.drewN q) : Calls P f args w fun e w' => e = .returned v ∧ Below w.heap.size w w' :=
  h.mono fun _ _ ⟨he, hm⟩ => ⟨he, below_drew hm⟩
theorem IntsAt.grown {w : World} {a : Option Addr} {n c : Nat} {l : List Int} (h : IntsAt w a n c l) (d : Nat) (os : Array Obj) : IntsAt (Go.Sort.grow (redrawn w d) os) a n c l := h.below (below_regrown w d os) (Nat.le_refl _)
theorem RuleAt.grown {w : World} {v : Value} {R : Rl} (h : RuleAt w v R) (d : Nat) (os : Array Obj) : RuleAt (Go.Sort.grow (redrawn w d) os) v R := h.below (below_regrown w d os) (Nat.le_refl _)
theorem below_wq {w wq : World} {p : Regrown} (h : wq = Go.Sort.grow (redrawn w p.d) p.os) : Below w.heap.size w wq := by rw [h]; exact below_regrown _ _ _
end Go.Proofs.Kv
namespace Go.Proofs.Kv
open Go Go.RowKit

section
variable {P : Program} {ops : Array Oper} {md : Region.Mode} {C : World → Prop}
/-- the first n operations in whatever order, each quiet in a class of worlds; then L -/
def wpAnyT (P : Program) (md : Region.Mode) (ops : Array Oper) (C : World → Prop) (n : Nat) (L : Array Bool → Act → Prop) : Nat → Array Bool → Act → Prop
  | 0, listed, a => L listed a
  | f + 1, listed, a =>
    Region.ready md ops listed ≠ [] ∧ ∀ i ∈ Region.ready md ops listed, i < n ∧ qOp P ops C i (wpAnyT P md ops C n L f (listed.setIfInBounds i true)) a
theorem wpAny_of_headT {n g : Nat} {L : Array Bool → Act → Prop} {Q' : Exit → Act → World → Prop} (hL : ∀ listed a w, C w → L listed a → wpAny P md ops Q' g listed a w) :
    ∀ (f : Nat) (listed : Array Bool) (a : Act) (w : World), C w → wpAnyT P md ops C n L f listed a → wpAny P md ops Q' (f + g) listed a w
  | 0, listed, a, w, hw, h => by rw [Nat.zero_add]; exact hL _ _ _ hw h
  | f + 1, listed, a, w, hw, h => by
    rw [show f + 1 + g = (f + g) + 1 by omega]
    exact ⟨fun h0 => absurd h0 h.1, fun i hi => wpOp_of_qOp hw (fun a' w' hw' h' => wpAny_of_headT hL f _ a' w' hw' h') (h.2 i hi).2⟩
theorem wpAnyT_first {n i : Nat} {oi : Oper} {v : Value} {L : Array Bool → Act → Prop} (hi : ops[i]? = some oi) (hsel : ∀ (j : Nat) (o : Oper) cs b, ops[j]? = some o → o.op ≠ .select cs b)
    (hs : Region.sinkB md ops n = true) (hc : Region.chainB md ops n = true) (hn : n < ops.size) (hin : i < n)
    (hdone : ∀ listed a, L listed a → ∀ j ∈ Region.ready md ops listed, n ≤ j) :
    ∀ (f : Nat) (listed : Array Bool) (a : Act), HeadInv md ops n listed →
      (∀ j oj, ops[j]? = some oj → j ≠ i → listed.getD j true = false → (∀ e ∈ oj.after, Region.binds md e = true → e.on ≠ i) → oi.apart ops oj = true) →
      i ∈ Region.ready md ops listed → YieldsIn P ops C oi v a →
      wpAnyT P md ops C n L f (listed.setIfInBounds i true) (a.put oi.dst v) → wpAnyT P md ops C n L (f + 1) listed a := by
  intro f
  induction f with
  | zero =>
    intro listed a inv _ hr hy H
    have hun := (mem_ready.1 hr).1
    refine ⟨fun h => (by rw [h] at hr; cases hr), fun j hj => ?_⟩
    have hjn : j < n := by
      rcases Nat.lt_or_ge j n with h | h
      · exact h
      · exact absurd hj (tail_waits hs hc hn inv _ i rfl hin hun j h)
    refine ⟨hjn, ?_⟩
    by_cases hji : j = i
    · subst hji; exact hy.qOp hi H
    · have := hdone _ _ H j (ready_mono hj hji)
      omega
  | succ f ih =>
    intro listed a inv hfree hr hy H
    have hun := (mem_ready.1 hr).1
    refine ⟨fun h => (by rw [h] at hr; cases hr), fun j hj => ?_⟩
    have hjn : j < n := by
      rcases Nat.lt_or_ge j n with h | h
      · exact h
      · exact absurd hj (tail_waits hs hc hn inv _ i rfl hin hun j h)
    refine ⟨hjn, ?_⟩
    by_cases hji : j = i
    · subst hji; exact hy.qOp hi H
    · have h1 := (H.2 j (ready_mono hj hji)).2
      obtain ⟨hjun, oj, hoj, hall⟩ := mem_ready.1 hj
      have hnot : ∀ e ∈ oj.after, Region.binds md e = true → e.on ≠ i := fun e he hb heq => by
        have h1 := hall e he hb
        rw [heq, getD_both hun] at h1
        cases h1
      have h2 := qOp_put hoj (hfree j oj hoj hji hjun hnot) (fun cs b => hsel i oi cs b hi) (fun cs b => hsel j oj cs b hoj) hy h1
      have hfree' : ∀ k ok, ops[k]? = some ok → k ≠ i → (listed.setIfInBounds j true).getD k true = false →
          (∀ e ∈ ok.after, Region.binds md e = true → e.on ≠ i) → oi.apart ops ok = true := fun k ok hk hki hun hno => by
        refine hfree k ok hk hki ?_ hno
        by_cases hjk : j = k
        · subst hjk; exact hjun
        · rw [getD_set_ne true hjk] at hun; exact hun
      refine qOp_mono (fun a' h3 => ih (listed.setIfInBounds j true) a' (inv.set hj hjn) hfree' (ready_mono hr (Ne.symm hji)) h3.1 ?_) h2
      rw [Array.setIfInBounds_comm _ _ hji]
      exact h3.2
theorem wpAnyT_lex {n g : Nat} {Lq : Act → Prop} (hsel : Region.noSelect ops = true) (hs : Region.sinkB md ops n = true) (hc : Region.chainB md ops n = true) (hn : n < ops.size) :
    ∀ (l : List Oper) (k : Nat) (listed : Array Bool) (a : Act), (∀ j, j < l.length → l[j]? = ops[k + j]?) → k + l.length = n → HeadInv md ops n listed →
    Region.lexHead md ops g l.length k listed = true → wpQuiet P ops C Lq l a →
    wpAnyT P md ops C n (fun listed' a' => Region.seqB md ops g n listed' = true ∧ Lq a') l.length listed a
  | [], k, listed, a, _, hk, _, hB, h => by
    have : k = n := by simpa using hk
    subst this
    exact ⟨by simpa [Region.lexHead] using hB, h⟩
  | o :: l, k, listed, a, hl, hk, inv, hB, h => by
    have h0 : ops[k]? = some o := by simpa using (hl 0 (by simp)).symm
    simp only [List.length_cons, Region.lexHead, Bool.and_eq_true] at hB
    obtain ⟨⟨hr, hf⟩, hB'⟩ := hB
    have hkn : k < n := by simp only [List.length_cons] at hk; omega
    have hr' : k ∈ Region.ready md ops listed := by simpa using hr
    have hst : qOp P ops C k (wpQuiet P ops C Lq l) a := by unfold qOp; simp only [h0]; exact h
    obtain ⟨v, hy, hK⟩ := yieldsIn_of_qOp h0 hst
    exact wpAnyT_first h0 (Region.noSelect_spec hsel) hs hc hn hkn (fun listed' a' hL => seqB_ready hL.1) l.length listed a inv (Region.free_spec h0 hf) hr' hy
      (wpAnyT_lex hsel hs hc hn l (k + 1) _ _ (fun j hj => by have := hl (j + 1) (by simp; omega); simpa [Nat.add_assoc, Nat.add_comm 1 j] using this) (by simp only [List.length_cons] at hk; omega) (inv.set hr' hkn) hB' hK)
/-- A region that draws its order: the first n operations only read, or call what keeps the class; the others come one by one behind them, in some world of the class. -/
theorem wpAny_tail {Q : Exit → Act → World → Prop} {a : Act} {w : World} {l : List Oper} (n : Nat) (hB : Region.lexTailB .any l.toArray n = true) (hC : C w)
    (h : wpQuiet P l.toArray C (fun a' => ∀ w', C w' → wpList P l.toArray Q (l.drop n) a' w') (l.take n) a) : wpAny P .any l.toArray Q l.toArray.size (Array.replicate l.toArray.size false) a w := by
  simp only [Region.lexTailB, Bool.and_eq_true, decide_eq_true_eq] at hB
  obtain ⟨⟨⟨⟨hsel, hn⟩, hs⟩, hc⟩, hlex⟩ := hB
  have hn' : n < l.length := by simpa using hn
  have htl : (l.take n).length = n := by simp; omega
  have hdl : (l.drop n).length = l.toArray.size - n := by simp
  have inv0 : HeadInv .any l.toArray n (Array.replicate l.toArray.size false) :=
    ⟨by simp, fun j oj _ hl => (by rw [getD_replicate_false] at hl; cases hl), fun t _ ht => getD_in (by simpa using ht) (getD_replicate_false _ _)⟩
  have H := wpAnyT_lex (md := .any) (g := l.toArray.size - n) hsel hs hc hn (l.take n) 0 _ a (fun j hj => by
    have hj' : j < n := by rw [htl] at hj; exact hj
    simp [hj']) (by simpa using htl) inv0 (by rw [htl]; exact hlex) h
  have := wpAny_of_headT (Q' := Q) (g := l.toArray.size - n) (fun listed a' w' hw' hL => by
    have := wpAny_of_seq (md := .any) (Q' := Q) (l.drop n) n listed a' w' (fun j => by simp [List.getElem?_drop]) (by rw [hdl]; exact hL.1) (hL.2 w' hw')
    rwa [hdl] at this) _ _ _ _ hC H
  rw [htl, show n + (l.toArray.size - n) = l.toArray.size by omega] at this
  exact this
theorem wp_region_quiet_tail {id : Nat} {Q : Exit → Act → World → Prop} {a : Act} {w : World} {l : List Oper} (n : Nat) (hm : P.follows .mixedOrders = true) (hB : Region.lexTailB .any l.toArray n = true) (hC : C { w with drawn := w.drawn + 1 })
    (h : wpQuiet P l.toArray C (fun a' => ∀ w', C w' → wpList P l.toArray Q (l.drop n) a' w') (l.take n) a) : (Code.region id l.toArray true).wp P Q a w :=
  wp_region_any hm (wpAny_tail n hB hC h)
/-- what is walked in the open is walked in a round of a range over a function, where nothing is deferred -/
def noDefer (ops : Array Oper) : Bool := ops.all fun o => match o.op with | .defer _ => false | _ => true
theorem noDefer_at {i : Nat} {o : Oper} (h : noDefer ops = true) (ho : ops[i]? = some o) : ∀ c, o.op ≠ .defer c := by
  intro c e
  have := Array.all_eq_true'.1 h o (Array.mem_of_getElem? ho)
  rw [e] at this
  cases this
theorem wpOpIn_round {L n i : Nat} {Q : Exit → Act → World → Prop} {K K' : Act → World → Prop} {a : Act} {w : World} (hQ : ¬ LetsOut Q) (hp : noDefer ops = true) (hK : ∀ a w, K a w → K' a w) (h : wpOp P ops Q i K a w) : wpOpIn (Fence.wide.inRound L) n P ops Q i K' a w := by
  unfold wpOp at h
  unfold wpOpIn
  split
  · rename_i ho; simp only [ho] at h; exact hK _ _ h
  · rename_i o ho
    simp only [ho] at h
    split
    · rename_i hw
      simp only [hw, if_true] at h
      rcases h with h | ⟨-, h⟩
      · refine ⟨fun _ _ => trivial, ?_⟩
        rw [Oper.semAt_eq _ _ _ (noDefer_at hp ho)]
        unfold Oper.wp at h
        generalize (execOp a.eval o).run P w = r at *
        cases r with
        | ok x w' =>
          cases x <;> simp only [Oper.upon] at h <;> simp only [Oper.uponIn]
          case value => exact hK _ _ h
          case skip => exact hK _ _ h
          case defer => exact hK _ _ h
          case enter => exact ⟨fun h => by simp [Fence.wide] at h, ((callsIn_wide.2 h).inRound L).mono fun e w'' he => by cases e <;> first | exact hK _ _ he | exact he⟩
          case row => exact ⟨fun h => by simp [Fence.wide] at h, fun c cs hb => by
            obtain ⟨v, w2, hR, hs⟩ := h c cs
            exact ⟨v, w2, hK _ _ hR, by rw [fenced_inRound]; exact stepsIn_wide.2 hs⟩⟩
        | halt x w' => cases x <;> simp only [Oper.upon] at h <;> first | exact h | exact h.elim
      · exact absurd h hQ
    · rename_i hw; simp only [hw] at h; exact ⟨fun _ _ => trivial, hK _ _ h⟩
theorem wpAnyIn_round {L n : Nat} {Q : Exit → Act → World → Prop} (hQ : ¬ LetsOut Q) (hp : noDefer ops = true) : ∀ (fuel : Nat) (listed : Array Bool) (a : Act) (w : World), wpAny P md ops Q fuel listed a w → wpAnyIn (Fence.wide.inRound L) n P md ops Q fuel listed a w
  | 0, _, _, _, h => h
  | fuel + 1, _, _, _, h => ⟨h.1, fun i hi => wpOpIn_round hQ hp (fun a' w' h' => wpAnyIn_round hQ hp fuel _ a' w' h') (h.2 i hi)⟩
theorem wpIn_region_tail_round {L id m : Nat} {Q : Exit → Act → World → Prop} {a : Act} {w : World} {l : List Oper} (n : Nat) (hQ : ¬ LetsOut Q) (hp : noDefer l.toArray = true) (hm : P.follows .mixedOrders = true) (hB : Region.lexTailB .any l.toArray n = true) (hC : C { w with drawn := w.drawn + 1 })
    (h : wpQuiet P l.toArray C (fun a' => ∀ w', C w' → wpList P l.toArray Q (l.drop n) a' w') (l.take n) a) : (Code.region id l.toArray true).wpIn (Fence.wide.inRound L) m P Q a w :=
  wpIn_region_any hm (wpAnyIn_round hQ hp _ _ _ _ (wpAny_tail n hB hC h))
end
/-- .. at the class of the worlds that have grown -/
theorem wp_region_tail {P : Program} {id : Nat} {Q : Exit → Act → World → Prop} {a : Act} {w : World} {l : List Oper} (n : Nat) (hm : P.follows .mixedOrders = true) (hB : Region.lexTailB .any l.toArray n = true)
    (h : wpQuiet P l.toArray (fun w' => ∃ p : Regrown, w' = Go.Sort.grow (redrawn w p.d) p.os) (fun a' => ∀ w', (∃ p : Regrown, w' = Go.Sort.grow (redrawn w p.d) p.os) → wpList P l.toArray Q (l.drop n) a' w') (l.take n) a) : (Code.region id l.toArray true).wp P Q a w :=
  wp_region_quiet_tail (C := fun w' => ∃ p : Regrown, w' = Go.Sort.grow (redrawn w p.d) p.os) n hm hB ⟨⟨w.drawn + 1, #[]⟩, by rw [Go.Sort.grow_empty]; rfl⟩ h
/-- .. in a round of a range over a function -/
theorem wpIn_tail_round {P : Program} {L id m : Nat} {Q : Exit → Act → World → Prop} {a : Act} {w : World} {l : List Oper} (n : Nat) (hQ : ¬ LetsOut Q) (hp : noDefer l.toArray = true) (hm : P.follows .mixedOrders = true) (hB : Region.lexTailB .any l.toArray n = true)
    (h : wpQuiet P l.toArray (fun w' => ∃ p : Regrown, w' = Go.Sort.grow (redrawn w p.d) p.os) (fun a' => ∀ w', (∃ p : Regrown, w' = Go.Sort.grow (redrawn w p.d) p.os) → wpList P l.toArray Q (l.drop n) a' w') (l.take n) a) : (Code.region id l.toArray true).wpIn (Fence.wide.inRound L) m P Q a w :=
  wpIn_region_tail_round (C := fun w' => ∃ p : Regrown, w' = Go.Sort.grow (redrawn w p.d) p.os) n hQ hp hm hB ⟨⟨w.drawn + 1, #[]⟩, by rw [Go.Sort.grow_empty]; rfl⟩ h
end Go.Proofs.Kv
namespace Go.Proofs.Kv
open Go Go.RowKit

/-- four cells that were boxed read the same while only newer blocks turn -/
theorem box4 {w w1 W : World} {v0 v1 v2 v3 : Value} {T : TypeId} (hw1 : w.alloc (.cells #[v0, v1, v2, v3] T) = w1) (hb : Below w1.heap.size w1 W) :
    W.cell? ⟨w.heap.size, 0, none⟩ = some v0 ∧ W.cell? ⟨w.heap.size, 1, none⟩ = some v1 ∧ W.cell? ⟨w.heap.size, 2, none⟩ = some v2 ∧ W.cell? ⟨w.heap.size, 3, none⟩ = some v3 := by
  have hz : w.heap.size < w1.heap.size := by rw [← hw1]; simp
  refine ⟨(hb.cell (p := ⟨w.heap.size, 0, none⟩) hz).trans ?_, (hb.cell (p := ⟨w.heap.size, 1, none⟩) hz).trans ?_, (hb.cell (p := ⟨w.heap.size, 2, none⟩) hz).trans ?_, (hb.cell (p := ⟨w.heap.size, 3, none⟩) hz).trans ?_⟩ <;> (rw [← hw1, cells_alloc]; rfl)
/-- the numbers below k at which p holds -/
def pl (p : Int → Bool) (k : Nat) : List Int := ((List.range k).map fun i : Nat => (i : Int)).filter p
theorem pl_zero (p : Int → Bool) : pl p 0 = [] := rfl
theorem pl_hit {p : Int → Bool} {k : Nat} (h : p k = true) : pl p (k + 1) = pl p k ++ [(k : Int)] := by simp [pl, List.range_succ, h]
theorem pl_miss {p : Int → Bool} {k : Nat} (h : p k = false) : pl p (k + 1) = pl p k := by simp [pl, List.range_succ, h]
theorem pl_le (p : Int → Bool) (k : Nat) : (pl p k).length ≤ k := by
  unfold pl
  refine Nat.le_trans (List.length_filter_le _ _) ?_
  simp
theorem mem_pl {p : Int → Bool} {k : Nat} {x : Int} : x ∈ pl p k ↔ 0 ≤ x ∧ x < k ∧ p x = true := by
  simp only [pl, List.mem_filter, List.mem_map, List.mem_range]
  constructor
  · rintro ⟨⟨i, hi, rfl⟩, hp⟩
    exact ⟨by omega, by omega, hp⟩
  · rintro ⟨h0, hk, hp⟩
    exact ⟨⟨x.toNat, by omega, by omega⟩, hp⟩
theorem own_grown {w w' : World} {B E size : Nat} {v : Value} {n : Nat} {xs : List Value} (h : w.ownsRow B E size v n xs) (hb : Below w.heap.size w w') : w'.ownsRow B E size v n xs := own_below h hb (Nat.le_refl _)
end Go.Proofs.Kv
namespace Go.Proofs.Kv
open Go.RowKit

/-- the slice value (a, n, c) reads as the rules L (four cells each) -/
structure RulesAt (w : World) (a : Option Addr) (n c : Nat) (L : List Rl) : Prop where
  len : L.length = n
  le : n ≤ c
  small : c ≤ 9223372036854775807
  cells : ∀ i, i < n → ∃ b off c0 c1 c2 c3, a = some ⟨b, off, none⟩ ∧ b < w.heap.size ∧ w.cell? ⟨b, off + i * 4, none⟩ = some c0 ∧ w.cell? ⟨b, off + i * 4 + 1, none⟩ = some c1 ∧ w.cell? ⟨b, off + i * 4 + 2, none⟩ = some c2 ∧ w.cell? ⟨b, off + i * 4 + 3, none⟩ = some c3 ∧ RuleAt w (.agg #[c0, c1, c2, c3]) (L.getD i ⟨0, [], [], []⟩)
theorem RulesAt.nil (w : World) (a : Option Addr) (c : Nat) (hc : c ≤ 9223372036854775807) : RulesAt w a 0 c [] := ⟨rfl, by omega, hc, fun i h => absurd h (by omega)⟩
theorem RulesAt.below {w w' : World} {B : Nat} {a : Option Addr} {n c : Nat} {L : List Rl} (h : RulesAt w a n c L) (hb : Below B w w') (hB : w.heap.size ≤ B) : RulesAt w' a n c L :=
  ⟨h.len, h.le, h.small, fun i hi => by
    obtain ⟨b, off, c0, c1, c2, c3, ha, hlt, h0, h1, h2, h3, hr⟩ := h.cells i hi
    have hl : b < B := Nat.lt_of_lt_of_le hlt hB
    exact ⟨b, off, c0, c1, c2, c3, ha, Nat.lt_of_lt_of_le hlt hb.size, (hb.cell (p := ⟨b, off + i * 4, none⟩) hl).trans h0, (hb.cell (p := ⟨b, off + i * 4 + 1, none⟩) hl).trans h1, (hb.cell (p := ⟨b, off + i * 4 + 2, none⟩) hl).trans h2, (hb.cell (p := ⟨b, off + i * 4 + 3, none⟩) hl).trans h3, hr.below hb hB⟩⟩
theorem RulesAt.grown {w : World} {a : Option Addr} {n c : Nat} {L : List Rl} (h : RulesAt w a n c L) (d : Nat) (os : Array Obj) : RulesAt (Go.Sort.grow (redrawn w d) os) a n c L := h.below (below_regrown w d os) (Nat.le_refl _)
theorem RulesAt.at_ {w : World} {a : Option Addr} {n c : Nat} {L : List Rl} (h : RulesAt w a n c L) {i : Nat} (hi : i < n) :
    ∃ b off a1 n1 c1 a2 n2 c2 a3 n3 c3, a = some ⟨b, off, none⟩ ∧ b < w.heap.size ∧ w.cell? ⟨b, off + i * 4, none⟩ = some (.int .i64 (L.getD i ⟨0, [], [], []⟩).f) ∧ w.cell? ⟨b, off + i * 4 + 1, none⟩ = some (.slice a1 n1 c1) ∧ w.cell? ⟨b, off + i * 4 + 2, none⟩ = some (.slice a2 n2 c2) ∧ w.cell? ⟨b, off + i * 4 + 3, none⟩ = some (.slice a3 n3 c3) ∧
      RuleAt w (.agg #[.int .i64 (L.getD i ⟨0, [], [], []⟩).f, .slice a1 n1 c1, .slice a2 n2 c2, .slice a3 n3 c3]) (L.getD i ⟨0, [], [], []⟩) := by
  obtain ⟨b, off, c0, c1, c2, c3, ha, hlt, h0, h1, h2, h3, hr⟩ := h.cells i hi
  have Hr := hr
  obtain ⟨a1, n1, k1, a2, n2, k2, a3, n3, k3, e, i1, i2, i3⟩ := hr
  injection e with e; injection e with e; injection e with y0 e; injection e with y1 e; injection e with y2 e; injection e with y3 e
  subst y0 y1 y2 y3
  exact ⟨b, off, _, _, _, _, _, _, _, _, _, ha, hlt, h0, h1, h2, h3, Hr⟩
/-- two rules that were just laid down side by side -/
theorem RulesAt.two {w : World} {c0 c1 c2 c3 d0 d1 d2 d3 : Value} {R S : Rl} (T : TypeId) (hr : RuleAt w (.agg #[c0, c1, c2, c3]) R) (hs : RuleAt w (.agg #[d0, d1, d2, d3]) S) :
    RulesAt (w.alloc (.cells #[c0, c1, c2, c3, d0, d1, d2, d3] T)) (some ⟨w.heap.size, 0, none⟩) 2 2 [R, S] := by
  have hb := below_alloc w (.cells #[c0, c1, c2, c3, d0, d1, d2, d3] T)
  refine ⟨rfl, Nat.le_refl _, by omega, fun i hi => ?_⟩
  have : i = 0 ∨ i = 1 := by omega
  rcases this with rfl | rfl
  · exact ⟨w.heap.size, 0, c0, c1, c2, c3, rfl, by simp, by rw [cells_alloc]; rfl, by rw [cells_alloc]; rfl, by rw [cells_alloc]; rfl, by rw [cells_alloc]; rfl, hr.below hb (Nat.le_refl _)⟩
  · exact ⟨w.heap.size, 0, d0, d1, d2, d3, rfl, by simp, by rw [cells_alloc]; rfl, by rw [cells_alloc]; rfl, by rw [cells_alloc]; rfl, by rw [cells_alloc]; rfl, hs.below hb (Nat.le_refl _)⟩
end Go.Proofs.Kv
