import Derived.Test.YtgpenbajhndhiaaVow
/-! regions whose last operation waits for all others, be it through others -/
namespace Go.Proofs.Kv
open Go.RowKit Go
/-- i waits for j, be it through others -/
def waits (md : Region.Mode) (ops : Array Oper) : Nat → Nat → Nat → Bool
  | 0, _, _ => false
  | f + 1, i, j => ((ops[i]?).map fun o => o.after.any fun e => Region.binds md e && (e.on == j || waits md ops f e.on j)).getD false
/-- what is listed has all it waits for listed -/
def Closed (md : Region.Mode) (ops : Array Oper) (listed : Array Bool) : Prop := ∀ i o, ops[i]? = some o → listed.getD i false = true → ∀ e ∈ o.after, Region.binds md e = true → listed.getD e.on false = true
theorem Closed.start {md : Region.Mode} (ops : Array Oper) (n : Nat) : Closed md ops (Array.replicate n false) := fun i o _ h => by
  exfalso
  revert h
  by_cases hi : i < n
  · simp [hi]
  · simp [hi]
theorem Closed.listed {md : Region.Mode} {ops : Array Oper} {listed : Array Bool} (h : Closed md ops listed) : ∀ (f i j : Nat), listed.getD i false = true → waits md ops f i j = true → listed.getD j false = true
  | 0, _, _, _, hw => by simp [waits] at hw
  | f + 1, i, j, hi, hw => by
    unfold waits at hw
    cases ho : ops[i]? with
    | none => rw [ho] at hw; simp at hw
    | some o =>
      rw [ho] at hw
      simp only [Option.map_some, Option.getD_some, Array.any_eq_true', Bool.and_eq_true, Bool.or_eq_true, beq_iff_eq] at hw
      obtain ⟨e, he, hb, hor⟩ := hw
      have h1 := h i o ho hi e he hb
      rcases hor with rfl | h2
      · exact h1
      · exact h.listed f e.on j h1 h2
theorem Closed.ready {md : Region.Mode} {ops : Array Oper} {listed : Array Bool} (h : Closed md ops listed) {f i j : Nat} {o : Oper} (ho : ops[i]? = some o) (hr : ∀ e ∈ o.after, Region.binds md e = true → listed.getD e.on false = true) (hw : waits md ops f i j = true) : listed.getD j false = true := by
  cases f with
  | zero => simp [waits] at hw
  | succ f =>
    unfold waits at hw
    rw [ho] at hw
    simp only [Option.map_some, Option.getD_some, Array.any_eq_true', Bool.and_eq_true, Bool.or_eq_true, beq_iff_eq] at hw
    obtain ⟨e, he, hb, hor⟩ := hw
    have h1 := hr e he hb
    rcases hor with rfl | h2
    · exact h1
    · exact h.listed f e.on j h1 h2
theorem Closed.step {md : Region.Mode} {ops : Array Oper} {listed : Array Bool} (h : Closed md ops listed) {i : Nat} (hi : i ∈ Region.ready md ops listed) : Closed md ops (listed.setIfInBounds i true) := fun k o ho hk e he hb => by
  obtain ⟨-, oi, hoi, hall⟩ := mem_ready.1 hi
  by_cases hki : k = i
  · subst hki
    rw [ho] at hoi; injection hoi with hoi; subst hoi
    exact getD_set_true (hall e he hb)
  · rw [getD_set_ne false (Ne.symm hki)] at hk
    exact getD_set_true (h k o ho hk e he hb)
/-- the last operation waits for all others, and each waits only for those in front of it -/
def lastT (md : Region.Mode) (ops : Array Oper) (n : Nat) : Bool :=
  decide (ops.size = n + 1) && ((List.range (n + 1)).all fun j => ((ops[j]?).map fun o => o.after.all fun e => !Region.binds md e || decide (e.on < j)).getD true) &&
  ((List.range n).all fun j => waits md ops (n + 1) n j)
section
variable {P : Program} {ops : Array Oper} {Q : Exit → Act → World → Prop} {md : Region.Mode} {S : World → Prop}
theorem wpAny_last2 {n : Nat} (hB : lastT md ops n = true) : ∀ (fuel : Nat) (listed : Array Bool) (a : Act) (w : World), Closed md ops listed → listed.size = n + 1 → listed.getD n true = false →
    wpAnyH P md ops (lastPost P ops Q n) S fuel (listed.setIfInBounds n true) a w → wpAny P md ops Q (fuel + 1) listed a w := by
  simp only [lastT, Bool.and_eq_true, decide_eq_true_eq, List.all_eq_true, List.mem_range] at hB
  obtain ⟨⟨hsz, hlt⟩, hall⟩ := hB
  have hlt' : ∀ j o, ops[j]? = some o → ∀ e ∈ o.after, Region.binds md e = true → e.on < j := fun j o ho e he hb => by
    have hj : j < n + 1 := by rw [← hsz]; exact (Array.getElem?_eq_some_iff.1 ho).1
    have := hlt j hj
    rw [ho] at this
    simp only [Option.map_some, Option.getD_some, Array.all_eq_true'] at this
    have := this e he
    rw [hb] at this
    simpa using this
  have hwait : ∀ listed : Array Bool, Closed md ops listed → n ∈ Region.ready md ops listed → ∀ j, j < n → listed.getD j false = true := fun listed hc hr j hj => by
    obtain ⟨-, o, ho, h⟩ := mem_ready.1 hr
    exact hc.ready ho h (hall j hj)
  have hfirst : ∀ listed : Array Bool, listed.size = n + 1 → Region.ready md ops (listed.setIfInBounds n true) = [] → ∀ j, j < n → listed.getD j false = true := fun listed hl hr j => by
    induction j using Nat.strongRecOn with
    | ind j ih =>
      intro hj
      cases hc : listed.getD j false with
      | true => rfl
      | false =>
        have hj' : listed.getD j true = false := getD_in (by omega) hc
        obtain ⟨o, ho⟩ : ∃ o, ops[j]? = some o := ⟨_, Array.getElem?_eq_getElem (by omega)⟩
        have hm : j ∈ Region.ready md ops (listed.setIfInBounds n true) := mem_ready.2 ⟨by rw [getD_set_ne true (by omega)]; exact hj', o, ho, fun e he hb => by
          have h1 := hlt' j o ho e he hb
          rw [getD_set_ne false (by omega)]
          exact ih e.on h1 (by omega)⟩
        rw [hr] at hm; cases hm
  have hnone : ∀ (listed : Array Bool) (a : Act) (w : World) (fuel : Nat), listed.size = n + 1 → listed.getD n true = false → Region.ready md ops (listed.setIfInBounds n true) = [] → lastPost P ops Q n .normal a w → wpAny P md ops Q (fuel + 1) listed a w := fun listed a w fuel hl h0 hr hp => by
    have hls := hfirst listed hl hr
    obtain ⟨o, ho⟩ : ∃ o, ops[n]? = some o := ⟨_, Array.getElem?_eq_getElem (by omega)⟩
    have hm : n ∈ Region.ready md ops listed := mem_ready.2 ⟨h0, o, ho, fun e he hb => hls e.on (hlt' n o ho e he hb)⟩
    refine ⟨fun h => (by rw [h] at hm; cases hm), fun i hi => ?_⟩
    have e : i = n := by
      obtain ⟨h1, oi, hoi, -⟩ := mem_ready.1 hi
      have hin : i < n + 1 := by rw [← hsz]; exact (Array.getElem?_eq_some_iff.1 hoi).1
      rcases Nat.lt_or_ge i n with h | h
      · have := hls i h
        rw [getD_both h1] at this; cases this
      · omega
    subst e
    refine wpOp_mono (fun a' w' hq => ?_) hp
    cases fuel with
    | zero => exact ⟨hr, hq⟩
    | succ f => exact ⟨fun _ => hq, fun j hj => by rw [hr] at hj; cases hj⟩
  intro fuel
  induction fuel with
  | zero => exact fun listed a w _ hl h0 h => hnone listed a w 0 hl h0 h.1 h.2
  | succ fuel ih =>
    intro listed a w hc hl h0 h
    by_cases hr : Region.ready md ops (listed.setIfInBounds n true) = []
    · exact hnone listed a w _ hl h0 hr (h.1 hr)
    · obtain ⟨j, hj⟩ := List.exists_mem_of_ne_nil _ hr
      have hne : ∀ i, i ∈ Region.ready md ops listed → i ≠ n := fun i hi e => by
        subst e
        obtain ⟨h1, oj, hoj, -⟩ := mem_ready.1 hj
        have hjn : j < i + 1 := by rw [← hsz]; exact (Array.getElem?_eq_some_iff.1 hoj).1
        have hji : j ≠ i := fun e => by
          subst e
          have : (listed.setIfInBounds j true).getD j true = true := by
            simp [hl]
          rw [this] at h1; cases h1
        rw [getD_set_ne true (Ne.symm hji)] at h1
        have := hwait listed hc hi j (by omega)
        rw [getD_both h1] at this; cases this
      refine ⟨fun e => ?_, fun i hi => ?_⟩
      · obtain ⟨h1, oj, hoj, h2⟩ := mem_ready.1 hj
        exfalso
        have hjn : j < n + 1 := by rw [← hsz]; exact (Array.getElem?_eq_some_iff.1 hoj).1
        have hji : j ≠ n := fun e => by
          subst e
          have : (listed.setIfInBounds j true).getD j true = true := by
            simp [hl]
          rw [this] at h1; cases h1
        have hm : j ∈ Region.ready md ops listed := mem_ready.2 ⟨by rw [getD_set_ne true (Ne.symm hji)] at h1; exact h1, oj, hoj, fun e he hb => by
          have := h2 e he hb
          have hlt2 := hlt' j oj hoj e he hb
          rwa [getD_set_ne false (by omega)] at this⟩
        rw [e] at hm; cases hm
      · have hin := hne i hi
        have hm := ready_mono hi hin
        have hs := h.2 i hm
        refine wpOp_last (fun a' w' hk => ?_) hs
        refine ih _ a' w' (hc.step hi) (by simpa using hl) (by rw [getD_set_ne true hin]; exact h0) ?_
        rw [Array.setIfInBounds_comm _ _ hin]
        exact hk.2
/-- .. in the open -/
theorem wp_region_last2 {id n : Nat} {a : Act} {w : World} {l : List Oper} (hm : P.follows .mixedOrders = true) (hB : lastT .any l.toArray n = true) (hS : S w.drew)
    (h : S w.drew → wpAnyH P .any l.toArray (lastPost P l.toArray Q n) S n ((Array.replicate l.toArray.size false).setIfInBounds n true) a w.drew) : (Code.region id l.toArray true).wp P Q a w := by
  have hsz : l.toArray.size = n + 1 := by
    simp only [lastT, Bool.and_eq_true, decide_eq_true_eq] at hB
    exact hB.1.1
  refine wp_region_any hm ?_
  have := wpAny_last2 hB n (Array.replicate l.toArray.size false) a w.drew (Closed.start _ _) (by rw [Array.size_replicate, hsz]) (by
    rw [hsz]; simp) (h hS)
  rw [hsz] at this ⊢
  exact this
end
end Go.Proofs.Kv
