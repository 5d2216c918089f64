import Derived.Test.YtdnlpikfibdjoaaKa
import Derived.Deep.RegionHeld3
/-! A region that draws its order and whose last operation waits for all others: the others are held under S, the last one comes behind them (out of layer6). -/
namespace Go.Proofs.Kv
open Go.RowKit Go
section
variable {P : Program} {ops : Array Oper} {Q : Exit → Act → World → Prop} {md : Region.Mode} {S : World → Prop}

/-- what is to be shown behind all operations but the last -/
def lastPost (P : Program) (ops : Array Oper) (Q : Exit → Act → World → Prop) (n : Nat) : Exit → Act → World → Prop
  | .normal, a, w => wpOp P ops Q n (fun a' w' => Q .normal a' w') a w
  | e, a, w => Q e a w
theorem last_of {n : Nat} {a : Act} {w : World} (h : wpOp P ops Q n (fun a' w' => Q .normal a' w') a w) : lastPost P ops Q n .normal a w := h
theorem lets_last {n : Nat} : LetsOut (lastPost P ops Q n) ↔ LetsOut Q := ⟨fun ⟨a, w, h⟩ => ⟨a, w, h⟩, fun ⟨a, w, h⟩ => ⟨a, w, h⟩⟩
theorem wp_last {n : Nat} {o : Oper} {a : Act} {w : World} {K : Act → World → Prop} (h : o.wp P a w K (lastPost P ops Q n)) : o.wp P a w K Q := by
  unfold Oper.wp at *
  generalize (execOp a.eval o).run P w = r at *
  cases r with
  | ok x w' =>
    cases x <;> simp only [Oper.upon] at h ⊢
    case value => exact h
    case skip => exact h
    case defer => exact h
    case enter => exact Calls.mono h (fun e w'' he => by cases e <;> first | exact he | exact lets_last.1 he)
    case row => exact h
  | halt x w' => cases x <;> simp only [Oper.upon] at h ⊢ <;> first | exact h | exact h.elim
theorem wpOp_last {n i : Nat} {a : Act} {w : World} {K K' : Act → World → Prop} (hk : ∀ a w, K a w → K' a w) (h : wpOp P ops (lastPost P ops Q n) i K a w) : wpOp P ops Q i K' a w := by
  refine wpOp_mono hk ?_
  unfold wpOp at *
  split
  · rename_i ho; simpa only [ho] using h
  · rename_i o ho
    simp only [ho] at h
    split
    · rename_i hw
      simp only [hw, if_true] at h
      exact h.imp wp_last fun ⟨h1, h2⟩ => ⟨h1, lets_last.1 h2⟩
    · rename_i hw; simp only [hw] at h; exact h
/-- the last operation waits for all others, and each waits only for those in front of it -/
def lastB (md : Region.Mode) (ops : Array Oper) (n : Nat) : Bool :=
  decide (ops.size = n + 1) && ((List.range (n + 1)).all fun j => ((ops[j]?).map fun o => o.after.all fun e => !Region.binds md e || decide (e.on < j)).getD true) &&
  ((List.range n).all fun j => ((ops[n]?).map fun o => o.after.any fun e => Region.binds md e && e.on == j).getD false)
theorem wpAny_last {n : Nat} (hB : lastB md ops n = true) : ∀ (fuel : Nat) (listed : Array Bool) (a : Act) (w : World), listed.size = n + 1 → listed.getD n true = false →
    wpAnyH P md ops (lastPost P ops Q n) S fuel (listed.setIfInBounds n true) a w → wpAny P md ops Q (fuel + 1) listed a w := by
  simp only [lastB, Bool.and_eq_true, decide_eq_true_eq, List.all_eq_true, List.mem_range] at hB
  obtain ⟨⟨hsz, hlt⟩, hall⟩ := hB
  have hlt' : ∀ j o, ops[j]? = some o → ∀ e ∈ o.after, Region.binds md e = true → e.on < j := fun j o ho e he hb => by
    have hj : j < n + 1 := by rw [← hsz]; exact (Array.getElem?_eq_some_iff.1 ho).1
    have := hlt j hj
    rw [ho] at this
    simp only [Option.map_some, Option.getD_some, Array.all_eq_true'] at this
    have := this e he
    rw [hb] at this
    simpa using this
  have hwait : ∀ listed : Array Bool, n ∈ Region.ready md ops listed → ∀ j, j < n → listed.getD j false = true := fun listed hr j hj => by
    obtain ⟨-, o, ho, h⟩ := mem_ready.1 hr
    have := hall j hj
    rw [ho] at this
    simp only [Option.map_some, Option.getD_some, Array.any_eq_true'] at this
    obtain ⟨e, he, hb⟩ := this
    rw [Bool.and_eq_true] at hb
    have e2 : e.on = j := by simpa using hb.2
    rw [← e2]
    exact h e he hb.1
  have hfirst : ∀ listed : Array Bool, listed.size = n + 1 → Region.ready md ops (listed.setIfInBounds n true) = [] → ∀ j, j < n → listed.getD j false = true := fun listed hl hr j => by
    induction j using Nat.strongRecOn with
    | ind j ih =>
      intro hj
      cases hc : listed.getD j false with
      | true => rfl
      | false =>
        have hj' : listed.getD j true = false := getD_in (by omega) hc
        obtain ⟨o, ho⟩ : ∃ o, ops[j]? = some o := ⟨_, Array.getElem?_eq_getElem (by omega)⟩
        have hm : j ∈ Region.ready md ops (listed.setIfInBounds n true) := mem_ready.2 ⟨by rw [getD_set_ne true (by omega)]; exact hj', o, ho, fun e he hb => by
          have h1 := hlt' j o ho e he hb
          rw [getD_set_ne false (by omega)]
          exact ih e.on h1 (by omega)⟩
        rw [hr] at hm; cases hm
  have hnone : ∀ (listed : Array Bool) (a : Act) (w : World) (fuel : Nat), listed.size = n + 1 → listed.getD n true = false → Region.ready md ops (listed.setIfInBounds n true) = [] → lastPost P ops Q n .normal a w → wpAny P md ops Q (fuel + 1) listed a w := fun listed a w fuel hl h0 hr hp => by
    have hls := hfirst listed hl hr
    obtain ⟨o, ho⟩ : ∃ o, ops[n]? = some o := ⟨_, Array.getElem?_eq_getElem (by omega)⟩
    have hm : n ∈ Region.ready md ops listed := mem_ready.2 ⟨h0, o, ho, fun e he hb => hls e.on (hlt' n o ho e he hb)⟩
    refine ⟨fun h => (by rw [h] at hm; cases hm), fun i hi => ?_⟩
    have e : i = n := by
      obtain ⟨h1, oi, hoi, -⟩ := mem_ready.1 hi
      have hin : i < n + 1 := by rw [← hsz]; exact (Array.getElem?_eq_some_iff.1 hoi).1
      rcases Nat.lt_or_ge i n with h | h
      · have := hls i h
        rw [getD_both h1] at this; cases this
      · omega
    subst e
    refine wpOp_mono (fun a' w' hq => ?_) hp
    cases fuel with
    | zero => exact ⟨hr, hq⟩
    | succ f => exact ⟨fun _ => hq, fun j hj => by rw [hr] at hj; cases hj⟩
  intro fuel
  induction fuel with
  | zero => exact fun listed a w hl h0 h => hnone listed a w 0 hl h0 h.1 h.2
  | succ fuel ih =>
    intro listed a w hl h0 h
    by_cases hr : Region.ready md ops (listed.setIfInBounds n true) = []
    · exact hnone listed a w _ hl h0 hr (h.1 hr)
    · obtain ⟨j, hj⟩ := List.exists_mem_of_ne_nil _ hr
      have hne : ∀ i, i ∈ Region.ready md ops listed → i ≠ n := fun i hi e => by
        subst e
        obtain ⟨h1, oj, hoj, -⟩ := mem_ready.1 hj
        have hjn : j < i + 1 := by rw [← hsz]; exact (Array.getElem?_eq_some_iff.1 hoj).1
        have hji : j ≠ i := fun e => by
          subst e
          have : (listed.setIfInBounds j true).getD j true = true := by
            simp [hl]
          rw [this] at h1; cases h1
        rw [getD_set_ne true (Ne.symm hji)] at h1
        have := hwait listed hi j (by omega)
        rw [getD_both h1] at this; cases this
      refine ⟨fun e => ?_, fun i hi => ?_⟩
      · obtain ⟨h1, oj, hoj, h2⟩ := mem_ready.1 hj
        exfalso
        have hjn : j < n + 1 := by rw [← hsz]; exact (Array.getElem?_eq_some_iff.1 hoj).1
        have hji : j ≠ n := fun e => by
          subst e
          have : (listed.setIfInBounds j true).getD j true = true := by
            simp [hl]
          rw [this] at h1; cases h1
        have hm : j ∈ Region.ready md ops listed := mem_ready.2 ⟨by rw [getD_set_ne true (Ne.symm hji)] at h1; exact h1, oj, hoj, fun e he hb => by
          have := h2 e he hb
          have hlt2 := hlt' j oj hoj e he hb
          rwa [getD_set_ne false (by omega)] at this⟩
        rw [e] at hm; cases hm
      · have hin := hne i hi
        have hm := ready_mono hi hin
        have hs := h.2 i hm
        refine wpOp_last (fun a' w' hk => ?_) hs
        refine ih _ a' w' (by simpa using hl) (by rw [getD_set_ne true hin]; exact h0) ?_
        rw [Array.setIfInBounds_comm _ _ hin]
        exact hk.2
/-- .. in the open -/
theorem wp_region_last {id n : Nat} {a : Act} {w : World} {l : List Oper} (hm : P.follows .mixedOrders = true) (hB : lastB .any l.toArray n = true) (hS : S w.drew)
    (h : S w.drew → wpAnyH P .any l.toArray (lastPost P l.toArray Q n) S n ((Array.replicate l.toArray.size false).setIfInBounds n true) a w.drew) : (Code.region id l.toArray true).wp P Q a w := by
  have hsz : l.toArray.size = n + 1 := by
    simp only [lastB, Bool.and_eq_true, decide_eq_true_eq] at hB
    exact hB.1.1
  refine wp_region_any hm ?_
  have := wpAny_last hB n (Array.replicate l.toArray.size false) a w.drew (by rw [Array.size_replicate, hsz]) (by
    rw [hsz]; simp) (h hS)
  rw [hsz] at this ⊢
  exact this
end
end Go.Proofs.Kv
namespace Go.Proofs.Ytdnlpikfibdjoaa
open Go.RowKit Go.Proofs.Kv Go
theorem step_append_row {ops : Array Oper} {o : Oper} {a : Act} {w : World} {K : Act → World → Prop} {Q : Exit → Act → World → Prop} {E : Prop} (hg : o.guard = none) (s x : Operand)
    (ho : o.op = .call { callee := .builtin .append, args := #[s, x], argTypes := #[22, 22] }) (base : Nat) (v : Value) (n : Nat) (xs : List Int) (hs : a.eval s = v) (hown : w.ownsRow base 3 1 v n (xs.map (Value.int .i64)))
    (A : Option Addr) (m c : Nat) (ys : List Int) (hx : a.eval x = .slice A m c) (hr : IntsAt w A m c ys) (hsm : n + m ≤ 1000000) (hbase : base ≤ w.heap.size)
    (hK : ∀ v' w', w'.ownsRow base 3 1 v' (n + m) ((xs ++ ys).map (Value.int .i64)) → w.grownBy w' v.ownBlock → (v'.ownBlock = v.ownBlock ∨ v'.ownBlock = some w.heap.size) → K (a.put o.dst v') w') :
    if Region.wanted o (yielded ops a.tmps) = true then Oper.wp Try.prog o a w K Q else E := by
  obtain ⟨i0, hi0, hz0, hz1, hz2⟩ := info_parts Try.infoInt
  have hw : Region.wanted o (yielded ops a.tmps) = true := by simp [Region.wanted, hg]
  rw [if_pos hw]
  obtain ⟨v', w', hrun, h2, h3, h4⟩ := run_append_ints (P := Try.prog) w base 22 o.type 3 i0 Try.underlying22 hi0 hz0 hz1 hz2 v n xs hown A m c ys hr hsm hbase
  unfold Oper.wp
  simp [execOp, ho, resolve, invoke, builtin, hs, hx, hrun, Result.andThen]
  exact hK _ _ h2 h3 h4

end Go.Proofs.Ytdnlpikfibdjoaa
