import Derived.Test.YtgpenbajhndhiaaVa
import Derived.Deep.RegionHeld3
/-! own rows in an own list; regions whose last operation is a store (out of layer7) -/
namespace Go.Proofs.Kv
open Go.RowKit Go
section
variable {P : Program} {ops : Array Oper} {Q : Exit → Act → World → Prop} {md : Region.Mode} {S : World → Prop}

/-- what is to be shown behind all operations but the last -/
def lastPost (P : Program) (ops : Array Oper) (Q : Exit → Act → World → Prop) (n : Nat) : Exit → Act → World → Prop
  | .normal, a, w => wpOp P ops Q n (fun a' w' => Q .normal a' w') a w
  | e, a, w => Q e a w
theorem last_of {n : Nat} {a : Act} {w : World} (h : wpOp P ops Q n (fun a' w' => Q .normal a' w') a w) : lastPost P ops Q n .normal a w := h
theorem lets_last {n : Nat} : LetsOut (lastPost P ops Q n) ↔ LetsOut Q := ⟨fun ⟨a, w, h⟩ => ⟨a, w, h⟩, fun ⟨a, w, h⟩ => ⟨a, w, h⟩⟩
theorem wp_last {n : Nat} {o : Oper} {a : Act} {w : World} {K : Act → World → Prop} (h : o.wp P a w K (lastPost P ops Q n)) : o.wp P a w K Q := by
  unfold Oper.wp at *
  generalize (execOp a.eval o).run P w = r at *
  cases r with
  | ok x w' =>
    cases x <;> simp only [Oper.upon] at h ⊢
    case value => exact h
    case skip => exact h
    case defer => exact h
    case enter => exact Calls.mono h (fun e w'' he => by cases e <;> first | exact he | exact lets_last.1 he)
    case row => exact h
  | halt x w' => cases x <;> simp only [Oper.upon] at h ⊢ <;> first | exact h | exact h.elim
theorem wpOp_last {n i : Nat} {a : Act} {w : World} {K K' : Act → World → Prop} (hk : ∀ a w, K a w → K' a w) (h : wpOp P ops (lastPost P ops Q n) i K a w) : wpOp P ops Q i K' a w := by
  refine wpOp_mono hk ?_
  unfold wpOp at *
  split
  · rename_i ho; simpa only [ho] using h
  · rename_i o ho
    simp only [ho] at h
    split
    · rename_i hw
      simp only [hw, if_true] at h
      exact h.imp wp_last fun ⟨h1, h2⟩ => ⟨h1, lets_last.1 h2⟩
    · rename_i hw; simp only [hw] at h; exact h
/-- the last operation waits for all others, and each waits only for those in front of it -/
def lastB (md : Region.Mode) (ops : Array Oper) (n : Nat) : Bool :=
  decide (ops.size = n + 1) && ((List.range (n + 1)).all fun j => ((ops[j]?).map fun o => o.after.all fun e => !Region.binds md e || decide (e.on < j)).getD true) &&
  ((List.range n).all fun j => ((ops[n]?).map fun o => o.after.any fun e => Region.binds md e && e.on == j).getD false)
theorem wpAny_last {n : Nat} (hB : lastB md ops n = true) : ∀ (fuel : Nat) (listed : Array Bool) (a : Act) (w : World), listed.size = n + 1 → listed.getD n true = false →
    wpAnyH P md ops (lastPost P ops Q n) S fuel (listed.setIfInBounds n true) a w → wpAny P md ops Q (fuel + 1) listed a w := by
  simp only [lastB, Bool.and_eq_true, decide_eq_true_eq, List.all_eq_true, List.mem_range] at hB
  obtain ⟨⟨hsz, hlt⟩, hall⟩ := hB
  have hlt' : ∀ j o, ops[j]? = some o → ∀ e ∈ o.after, Region.binds md e = true → e.on < j := fun j o ho e he hb => by
    have hj : j < n + 1 := by rw [← hsz]; exact (Array.getElem?_eq_some_iff.1 ho).1
    have := hlt j hj
    rw [ho] at this
    simp only [Option.map_some, Option.getD_some, Array.all_eq_true'] at this
    have := this e he
    rw [hb] at this
    simpa using this
  have hwait : ∀ listed : Array Bool, n ∈ Region.ready md ops listed → ∀ j, j < n → listed.getD j false = true := fun listed hr j hj => by
    obtain ⟨-, o, ho, h⟩ := mem_ready.1 hr
    have := hall j hj
    rw [ho] at this
    simp only [Option.map_some, Option.getD_some, Array.any_eq_true'] at this
    obtain ⟨e, he, hb⟩ := this
    rw [Bool.and_eq_true] at hb
    have e2 : e.on = j := by simpa using hb.2
    rw [← e2]
    exact h e he hb.1
  have hfirst : ∀ listed : Array Bool, listed.size = n + 1 → Region.ready md ops (listed.setIfInBounds n true) = [] → ∀ j, j < n → listed.getD j false = true := fun listed hl hr j => by
    induction j using Nat.strongRecOn with
    | ind j ih =>
      intro hj
      cases hc : listed.getD j false with
      | true => rfl
      | false =>
        have hj' : listed.getD j true = false := getD_in (by omega) hc
        obtain ⟨o, ho⟩ : ∃ o, ops[j]? = some o := ⟨_, Array.getElem?_eq_getElem (by omega)⟩
        have hm : j ∈ Region.ready md ops (listed.setIfInBounds n true) := mem_ready.2 ⟨by rw [getD_set_ne true (by omega)]; exact hj', o, ho, fun e he hb => by
          have h1 := hlt' j o ho e he hb
          rw [getD_set_ne false (by omega)]
          exact ih e.on h1 (by omega)⟩
        rw [hr] at hm; cases hm
  have hnone : ∀ (listed : Array Bool) (a : Act) (w : World) (fuel : Nat), listed.size = n + 1 → listed.getD n true = false → Region.ready md ops (listed.setIfInBounds n true) = [] → lastPost P ops Q n .normal a w → wpAny P md ops Q (fuel + 1) listed a w := fun listed a w fuel hl h0 hr hp => by
    have hls := hfirst listed hl hr
    obtain ⟨o, ho⟩ : ∃ o, ops[n]? = some o := ⟨_, Array.getElem?_eq_getElem (by omega)⟩
    have hm : n ∈ Region.ready md ops listed := mem_ready.2 ⟨h0, o, ho, fun e he hb => hls e.on (hlt' n o ho e he hb)⟩
    refine ⟨fun h => (by rw [h] at hm; cases hm), fun i hi => ?_⟩
    have e : i = n := by
      obtain ⟨h1, oi, hoi, -⟩ := mem_ready.1 hi
      have hin : i < n + 1 := by rw [← hsz]; exact (Array.getElem?_eq_some_iff.1 hoi).1
      rcases Nat.lt_or_ge i n with h | h
      · have := hls i h
        rw [getD_both h1] at this; cases this
      · omega
    subst e
    refine wpOp_mono (fun a' w' hq => ?_) hp
    cases fuel with
    | zero => exact ⟨hr, hq⟩
    | succ f => exact ⟨fun _ => hq, fun j hj => by rw [hr] at hj; cases hj⟩
  intro fuel
  induction fuel with
  | zero => exact fun listed a w hl h0 h => hnone listed a w 0 hl h0 h.1 h.2
  | succ fuel ih =>
    intro listed a w hl h0 h
    by_cases hr : Region.ready md ops (listed.setIfInBounds n true) = []
    · exact hnone listed a w _ hl h0 hr (h.1 hr)
    · obtain ⟨j, hj⟩ := List.exists_mem_of_ne_nil _ hr
      have hne : ∀ i, i ∈ Region.ready md ops listed → i ≠ n := fun i hi e => by
        subst e
        obtain ⟨h1, oj, hoj, -⟩ := mem_ready.1 hj
        have hjn : j < i + 1 := by rw [← hsz]; exact (Array.getElem?_eq_some_iff.1 hoj).1
        have hji : j ≠ i := fun e => by
          subst e
          have : (listed.setIfInBounds j true).getD j true = true := by
            simp [hl]
          rw [this] at h1; cases h1
        rw [getD_set_ne true (Ne.symm hji)] at h1
        have := hwait listed hi j (by omega)
        rw [getD_both h1] at this; cases this
      refine ⟨fun e => ?_, fun i hi => ?_⟩
      · obtain ⟨h1, oj, hoj, h2⟩ := mem_ready.1 hj
        exfalso
        have hjn : j < n + 1 := by rw [← hsz]; exact (Array.getElem?_eq_some_iff.1 hoj).1
        have hji : j ≠ n := fun e => by
          subst e
          have : (listed.setIfInBounds j true).getD j true = true := by
            simp [hl]
          rw [this] at h1; cases h1
        have hm : j ∈ Region.ready md ops listed := mem_ready.2 ⟨by rw [getD_set_ne true (Ne.symm hji)] at h1; exact h1, oj, hoj, fun e he hb => by
          have := h2 e he hb
          have hlt2 := hlt' j oj hoj e he hb
          rwa [getD_set_ne false (by omega)] at this⟩
        rw [e] at hm; cases hm
      · have hin := hne i hi
        have hm := ready_mono hi hin
        have hs := h.2 i hm
        refine wpOp_last (fun a' w' hk => ?_) hs
        refine ih _ a' w' (by simpa using hl) (by rw [getD_set_ne true hin]; exact h0) ?_
        rw [Array.setIfInBounds_comm _ _ hin]
        exact hk.2
/-- .. in the open -/
theorem wp_region_last {id n : Nat} {a : Act} {w : World} {l : List Oper} (hm : P.follows .mixedOrders = true) (hB : lastB .any l.toArray n = true) (hS : S w.drew)
    (h : S w.drew → wpAnyH P .any l.toArray (lastPost P l.toArray Q n) S n ((Array.replicate l.toArray.size false).setIfInBounds n true) a w.drew) : (Code.region id l.toArray true).wp P Q a w := by
  have hsz : l.toArray.size = n + 1 := by
    simp only [lastB, Bool.and_eq_true, decide_eq_true_eq] at hB
    exact hB.1.1
  refine wp_region_any hm ?_
  have := wpAny_last hB n (Array.replicate l.toArray.size false) a w.drew (by rw [Array.size_replicate, hsz]) (by
    rw [hsz]; simp) (h hS)
  rw [hsz] at this ⊢
  exact this
end
end Go.Proofs.Kv
namespace Go.Proofs.Ytgpenbajhndhiaa
open Go.RowKit Go.Proofs.Kv Go
theorem step_append_row {ops : Array Oper} {o : Oper} {a : Act} {w : World} {K : Act → World → Prop} {Q : Exit → Act → World → Prop} {E : Prop} (hg : o.guard = none) (s x : Operand)
    (ho : o.op = .call { callee := .builtin .append, args := #[s, x], argTypes := #[26, 26] }) (base : Nat) (v : Value) (n : Nat) (xs : List Int) (hs : a.eval s = v) (hown : w.ownsRow base 3 1 v n (xs.map (Value.int .i64)))
    (A : Option Addr) (m c : Nat) (ys : List Int) (hx : a.eval x = .slice A m c) (hr : IntsAt w A m c ys) (hsm : n + m ≤ 1000000) (hbase : base ≤ w.heap.size)
    (hK : ∀ v' w', w'.ownsRow base 3 1 v' (n + m) ((xs ++ ys).map (Value.int .i64)) → w.grownBy w' v.ownBlock → (v'.ownBlock = v.ownBlock ∨ v'.ownBlock = some w.heap.size) → K (a.put o.dst v') w') :
    if Region.wanted o (yielded ops a.tmps) = true then Oper.wp Try.prog o a w K Q else E := by
  obtain ⟨i0, hi0, hz0, hz1, hz2⟩ := info_parts Try.infoInt
  have hw : Region.wanted o (yielded ops a.tmps) = true := by simp [Region.wanted, hg]
  rw [if_pos hw]
  obtain ⟨v', w', hrun, h2, h3, h4⟩ := run_append_ints (P := Try.prog) w base 26 o.type 3 i0 Try.underlying26 hi0 hz0 hz1 hz2 v n xs hown A m c ys hr hsm hbase
  unfold Oper.wp
  simp [execOp, ho, resolve, invoke, builtin, hs, hx, hrun, Result.andThen]
  exact hK _ _ h2 h3 h4

end Go.Proofs.Ytgpenbajhndhiaa

namespace Go.Proofs.Kv
open Go.RowKit Go
section
variable {P : Program} (w : World)
/-- append of one value of one cell, which lies in a new block; where the row lies then -/
theorem wpList_push_val2 {ops : Array Oper} {rest : List Oper} {o : Oper} {a : Act} {Q : Exit → Act → World → Prop} (hgd : o.guard = none) (s x : Operand) (t : TypeId)
    (ho : o.op = .call { callee := .builtin .append, args := #[s, x], argTypes := #[t, t] })
    (base : Nat) (e : TypeId) (i : TypeInfo) {z : Value} {by_ : Nat} (ht : P.underlying t = some (.slice e)) (hi : P.info? e = some i) (hz : i.zero = some z) (hzc : z.cells.size = 1) (hsize : i.size = 1) (hby : i.bytes = by_) (hb0 : by_ ≤ 24)
    (v : Value) (n : Nat) (xs : List Value) (hs : a.eval s = v) (hown : w.ownsRow base e 1 v n xs)
    (u : Value) (hu : u.oneCell' = true) (E : TypeId) (hx : a.eval x = .slice (some ⟨w.heap.size, 0, none⟩) 1 1) (hsm : n + 1 ≤ 1000000) (hbase : base ≤ w.heap.size)
    (h : ∀ v' w', w'.ownsRow base e 1 v' (n + 1) (xs ++ [u]) → (w.alloc (.cells #[u] E)).grownBy w' v.ownBlock → (v'.ownBlock = v.ownBlock ∨ v'.ownBlock = some (w.heap.size + 1)) → wpList P ops Q rest (a.put o.dst v') w') :
    wpList P ops Q (o :: rest) a (w.alloc (.cells #[u] E)) := by
  have hm : (n + 1) * by_ ≤ 1000000 * 24 := Nat.mul_le_mul hsm hb0
  have hcells : ∀ j u', [u][j]? = some u' → (w.alloc (.cells #[u] E)).cell? ((⟨w.heap.size, 0, none⟩ : Addr).add j) = some u' := by
    intro j u' hu'
    have hj : j = 0 := by
      rcases Nat.eq_zero_or_pos j with h | h
      · exact h
      · rw [List.getElem?_eq_none (by simp; omega)] at hu'; cases hu'
    subst hj
    simp at hu'; subst hu'
    show (w.alloc _).cell? ⟨w.heap.size, 0, none⟩ = _
    rw [World.cell?_alloc_at _ _ _ _ (by rfl)]; rfl
  refine wpList_plain hgd fun K hK => ?_
  obtain ⟨v', w', hrun, h2, h3, _, h5⟩ := run_append_own_at (P := P) (w.alloc (.cells #[u] E)) base t o.type e i z 1 by_ ht hi hz hsize hby hzc (by omega) v n xs (hown.alloc _) ⟨w.heap.size, 0, none⟩ 1 1 [u] (by simp) hcells
    (by intro u' hu'; rw [List.mem_singleton] at hu'; subst hu'; exact hu) (by unfold maxLen; omega) (by omega) (le_alloc hbase)
  unfold Oper.wp execOp
  simp only [ho, resolve, invoke, builtin, Sem.run_bind, Sem.run_pure, Result.andThen_ok, List.map_toArray, List.map_cons, List.map_nil, hs, hx, hrun]
  exact hK _ _ (h v' w' h2 h3 (by simpa using h5))
end
theorem below_new {w w1 : World} {o : Obj} {n c : Nat} (hg : (w.alloc o).grownBy w1 (Value.ownBlock (.slice (some ⟨w.heap.size, 0, none⟩) n c))) : Below w.heap.size w w1 :=
  ((Below.refl _ w).alloc (Nat.le_refl _) o).grown hg (by simp) fun k hk => by
    have : some w.heap.size = some k := hk
    injection this with this
    omega
theorem own_apart {w : World} {B B' E E' s s' n n' : Nat} {v v' : Value} {xs xs' : List Value} (h : w.ownsRow B E s v n xs) (h' : w.ownsRow B' E' s' v' n' xs') (hE : E ≠ E') : ∀ b, v.ownBlock = some b → v'.ownBlock ≠ some b := by
  intro b hb hb'
  rcases h.2 with ⟨rfl, _⟩ | ⟨g, cap, cur, rfl, _, hg, _⟩
  · simp [Value.ownBlock] at hb
  · rcases h'.2 with ⟨rfl, _⟩ | ⟨g', cap', cur', rfl, _, hg', _⟩
    · simp [Value.ownBlock] at hb'
    · have e1 : g = b := by simpa [Value.ownBlock] using hb
      have e2 : g' = b := by simpa [Value.ownBlock] using hb'
      subst e1; subst e2
      rw [hg] at hg'
      injection hg' with hg'
      injection hg' with _ q _
      exact hE q
theorem getD_app7 {α : Type} (L : List α) (r d : α) (i : Nat) : (L ++ [r]).getD i d = if i < L.length then L.getD i d else [r].getD (i - L.length) d := by
  by_cases h : i < L.length
  · simp [List.getD, h, List.getElem?_append_left h]
  · rw [if_neg h]; simp only [List.getD]; rw [List.getElem?_append_right (by omega)]
/-- a list of lists that the call owns, row by row: each row is one of the call's own, in a block of its own -/
structure OwnRw (E E1 : TypeId) (w : World) (B : Nat) (v : Value) (us : List Value) (L : List (List Int)) : Prop where
  ne : E ≠ E1
  top : w.ownsRow B E 1 v L.length us
  row : ∀ i, i < L.length → ∃ u, us[i]? = some u ∧ w.ownsRow B E1 1 u (L.getD i []).length ((L.getD i []).map (Value.int .i64))
  apart : ∀ (i j : Nat) (u u' : Value) (b : Nat), i ≠ j → us[i]? = some u → us[j]? = some u' → u.ownBlock = some b → u'.ownBlock ≠ some b
theorem OwnRw.len {E E1 : TypeId} {w : World} {B : Nat} {v : Value} {us : List Value} {L : List (List Int)} (h : OwnRw E E1 w B v us L) : us.length = L.length := by have := h.top.1; omega
theorem OwnRw.diff {E E1 : TypeId} {w : World} {B : Nat} {v : Value} {us : List Value} {L : List (List Int)} (h : OwnRw E E1 w B v us L) {i : Nat} {u : Value} (hu : us[i]? = some u) : ∀ b, u.ownBlock = some b → v.ownBlock ≠ some b := by
  have hi : i < L.length := by rw [← h.len]; exact (List.getElem?_eq_some_iff.1 hu).1
  obtain ⟨u', e, ho⟩ := h.row i hi
  rw [hu] at e; injection e with e; subst e
  exact own_apart ho h.top (Ne.symm h.ne)
theorem OwnRw.at_ {E E1 : TypeId} {w : World} {B : Nat} {v : Value} {us : List Value} {L : List (List Int)} (h : OwnRw E E1 w B v us L) {i : Nat} {u : Value} (hu : us[i]? = some u) : w.ownsRow B E1 1 u (L.getD i []).length ((L.getD i []).map (Value.int .i64)) := by
  have hi : i < L.length := by rw [← h.len]; exact (List.getElem?_eq_some_iff.1 hu).1
  obtain ⟨u', e, ho⟩ := h.row i hi
  rw [hu] at e; injection e with e; subst e
  exact ho
theorem OwnRw.lt {E E1 : TypeId} {w : World} {B : Nat} {v : Value} {us : List Value} {L : List (List Int)} (h : OwnRw E E1 w B v us L) {i : Nat} {u : Value} (hu : us[i]? = some u) : ∀ b, u.ownBlock = some b → B ≤ b ∧ b < w.heap.size := (h.at_ hu).lt
theorem OwnRw.nil {E E1 : TypeId} (w : World) (B : Nat) (hE : E ≠ E1) : OwnRw E E1 w B (.slice none 0 0) [] [] := ⟨hE, World.ownsRow_nil _ _ _ _, fun i h => absurd h (by simp), fun i j u u' b _ h => by simp at h⟩
theorem OwnRw.below {E E1 : TypeId} {w w' : World} {B B' : Nat} {v : Value} {us : List Value} {L : List (List Int)} (h : OwnRw E E1 w B v us L) (hb : Below B' w w') (hB : w.heap.size ≤ B') : OwnRw E E1 w' B v us L :=
  ⟨h.ne, own_below h.top hb hB, fun i hi => by obtain ⟨u, e, ho⟩ := h.row i hi; exact ⟨u, e, own_below ho hb hB⟩, h.apart⟩
theorem OwnRw.base {E E1 : TypeId} {w : World} {B B' : Nat} {v : Value} {us : List Value} {L : List (List Int)} (h : OwnRw E E1 w B' v us L) (hB : B ≤ B') : OwnRw E E1 w B v us L :=
  ⟨h.ne, own_base h.top hB, fun i hi => by obtain ⟨u, e, ho⟩ := h.row i hi; exact ⟨u, e, own_base ho hB⟩, h.apart⟩
theorem OwnRw.drewN {E E1 : TypeId} {w : World} {B : Nat} {v : Value} {us : List Value} {L : List (List Int)} (h : OwnRw E E1 w B v us L) (q : Nat) : OwnRw E E1 (w.drewN q) B v us L := ⟨h.ne, h.top, h.row, h.apart⟩
theorem OwnRw.lists {E E1 : TypeId} {w : World} {B : Nat} {v : Value} {us : List Value} {L : List (List Int)} (h : OwnRw E E1 w B v us L) : ∃ a c, v = .slice a L.length c ∧ ListsAt w a L.length c L := by
  rcases h.top.2 with ⟨rfl, h0⟩ | ⟨g, cap, cur, rfl, _, hg, hn, hm, hs, ht⟩
  · rw [h0]
    exact ⟨none, 0, rfl, h0, Nat.le_refl _, by omega, fun i hi => absurd hi (by omega)⟩
  · refine ⟨_, cap, rfl, rfl, hn, by unfold maxLen at hm; omega, fun i hi => ?_⟩
    obtain ⟨u, e, ho⟩ := h.row i hi
    obtain ⟨a, c, rfl, hI⟩ := IntsAt.own ho
    have hc := h.top.cells (g := g) rfl i _ e
    have : (⟨g, 0, none⟩ : Addr).add i = ⟨g, 0 + i, none⟩ := by unfold Addr.add; split <;> simp_all
    rw [this] at hc
    exact ⟨g, 0, a, _, c, rfl, (Array.getElem?_eq_some_iff.1 hg).1, hc, hI⟩
/-- a new own row put behind -/
theorem OwnRw.push {E E1 : TypeId} {w w1 w2 : World} {B : Nat} {v v2 u : Value} {L : List (List Int)} {us : List Value} {r : List Int} (hB : B ≤ w.heap.size) (h : OwnRw E E1 w B v us L)
    (hb1 : Below w.heap.size w w1) (hown1 : w1.ownsRow w.heap.size E1 1 u r.length (r.map (Value.int .i64)))
    {o : Obj} (hown2 : w2.ownsRow B E 1 v2 (L.length + 1) (us ++ [u])) (hg2 : (w1.alloc o).grownBy w2 v.ownBlock) :
    OwnRw E E1 w2 B v2 (us ++ [u]) (L ++ [r]) := by
  have hul := h.len
  have hvb : ∀ k, v.ownBlock = some k → k < w.heap.size := fun k hk => (h.top.lt k hk).2
  have hku := hown1.lt
  refine ⟨h.ne, by simpa using hown2, fun i hi => ?_, fun i j x y b hij hx hy hb => ?_⟩
  · rw [List.length_append, List.length_singleton] at hi
    rw [getD_app7]
    by_cases hl : i < L.length
    · obtain ⟨u', e, ho⟩ := h.row i hl
      rw [if_pos hl]
      refine ⟨u', by rw [List.getElem?_append_left (by omega)]; exact e, ?_⟩
      refine ((own_below ho hb1 (Nat.le_refl _)).alloc _).kept hg2 ?_
      by_cases hn : u'.ownBlock = none
      · exact .inl hn
      · obtain ⟨b, hb⟩ := Option.ne_none_iff_exists'.1 hn
        exact .inr (by rw [hb]; exact fun q => h.diff e b hb q.symm)
    · obtain rfl : i = L.length := by omega
      rw [if_neg hl, Nat.sub_self]
      refine ⟨u, by rw [List.getElem?_append_right (by omega), hul, Nat.sub_self]; rfl, ?_⟩
      refine ((own_base hown1 hB).alloc _).kept hg2 ?_
      by_cases hn : u.ownBlock = none
      · exact .inl hn
      · obtain ⟨b, hb⟩ := Option.ne_none_iff_exists'.1 hn
        exact .inr (by rw [hb]; exact fun q => by have := hvb b q.symm; have := hku b hb; omega)
  · have hl : ∀ k z, (us ++ [u])[k]? = some z → (k < L.length ∧ us[k]? = some z) ∨ (k = L.length ∧ z = u) := fun k z hz => by
      by_cases hk : k < L.length
      · rw [List.getElem?_append_left (by omega)] at hz; exact .inl ⟨hk, hz⟩
      · have hk2 := (List.getElem?_eq_some_iff.1 hz).1
        rw [List.length_append, List.length_singleton] at hk2
        obtain rfl : k = L.length := by omega
        rw [List.getElem?_append_right (by omega), hul, Nat.sub_self] at hz
        exact .inr ⟨rfl, by simpa using hz.symm⟩
    intro hyb
    rcases hl i x hx with ⟨h1, h2⟩ | ⟨h1, h2⟩ <;> rcases hl j y hy with ⟨h3, h4⟩ | ⟨h3, h4⟩
    · exact h.apart i j x y b hij h2 h4 hb hyb
    · subst h4; have := (h.lt h2 b hb).2; have := (hku b hyb).1; omega
    · subst h2; have := (h.lt h4 b hyb).2; have := (hku b hb).1; omega
    · omega
/-- row i turns, in its block or into a new one, and its new value is put in its place -/
theorem OwnRw.put {E E1 : TypeId} {w w' : World} {B n cap g i : Nat} {u u' : Value} {us : List Value} {L : List (List Int)} {r : List Int} (h : OwnRw E E1 w B (.slice (some ⟨g, 0, none⟩) n cap) us L) (hn : n = L.length) (hu : us[i]? = some u)
    (hg : w.grownBy w' u.ownBlock) (hu' : w'.ownsRow B E1 1 u' r.length (r.map (Value.int .i64))) (hat : ∀ b, u'.ownBlock = some b → u.ownBlock = some b ∨ w.heap.size ≤ b) :
    OwnRw E E1 (w'.setCell ⟨g, i, none⟩ u') B (.slice (some ⟨g, 0, none⟩) n cap) (us.set i u') (L.set i r) := by
  have hi : i < L.length := by rw [← h.len]; exact (List.getElem?_eq_some_iff.1 hu).1
  have htop : w'.ownsRow B E 1 (.slice (some ⟨g, 0, none⟩) n cap) n us := by
    have h0 := h.top
    rw [← hn] at h0
    refine h0.kept hg ?_
    by_cases hx : u.ownBlock = none
    · exact .inr (by rw [hx]; simp [Value.ownBlock])
    · obtain ⟨b, hb⟩ := Option.ne_none_iff_exists'.1 hx
      exact .inr (by rw [hb]; exact h.diff hu b hb)
  obtain ⟨s1, s2⟩ := htop.stored i u'
  have hset : ∀ j, (L.set i r).getD j [] = if j = i then r else L.getD j [] := fun j => by
    by_cases e : j = i
    · subst e; simp [List.getD, hi]
    · simp [List.getD, e, List.getElem?_set_ne (Ne.symm e)]
  have hset2 : ∀ j z, (us.set i u')[j]? = some z → (j = i ∧ z = u') ∨ (j ≠ i ∧ us[j]? = some z) := fun j z hz => by
    by_cases e : j = i
    · subst e
      rw [List.getElem?_set_self (by rw [h.len]; exact hi)] at hz
      exact .inl ⟨rfl, by injection hz with hz; exact hz.symm⟩
    · rw [List.getElem?_set_ne (Ne.symm e)] at hz; exact .inr ⟨e, hz⟩
  refine ⟨h.ne, by rw [List.length_set, ← hn]; exact s1, fun j hj => ?_, fun j k x y b hjk hx hy hb => ?_⟩
  · rw [List.length_set] at hj
    rw [hset j]
    by_cases e : j = i
    · subst e
      rw [if_pos rfl]
      refine ⟨u', List.getElem?_set_self (by rw [h.len]; exact hi), hu'.kept s2 ?_⟩
      by_cases hx : u'.ownBlock = none
      · exact .inl hx
      · obtain ⟨b, hb⟩ := Option.ne_none_iff_exists'.1 hx
        exact .inr (by rw [hb]; exact fun q => own_apart hu' htop (Ne.symm h.ne) b hb q.symm)
    · rw [if_neg e]
      obtain ⟨x, ex, ho⟩ := h.row j hj
      refine ⟨x, by rw [List.getElem?_set_ne (Ne.symm e)]; exact ex, (ho.kept hg ?_).kept s2 ?_⟩
      · by_cases hx : x.ownBlock = none
        · exact .inl hx
        · obtain ⟨b, hb⟩ := Option.ne_none_iff_exists'.1 hx
          exact .inr (by rw [hb]; exact fun q => h.apart j i x u b e ex hu hb q.symm)
      · by_cases hx : x.ownBlock = none
        · exact .inl hx
        · obtain ⟨b, hb⟩ := Option.ne_none_iff_exists'.1 hx
          exact .inr (by rw [hb]; exact fun q => h.diff ex b hb q.symm)
  · intro hyb
    rcases hset2 j x hx with ⟨h1, h2⟩ | ⟨h1, h2⟩ <;> rcases hset2 k y hy with ⟨h3, h4⟩ | ⟨h3, h4⟩
    · omega
    · subst h1; subst h2
      rcases hat b hb with q | q
      · exact h.apart j k u y b hjk hu h4 q hyb
      · have := (h.lt h4 b hyb).2; omega
    · subst h3; subst h4
      rcases hat b hyb with q | q
      · exact h.apart j k x u b hjk h2 hu hb q
      · have := (h.lt h2 b hb).2; omega
    · exact h.apart j k x y b hjk h2 h4 hb hyb
/-- row i turns in its own block, its value stays -/
theorem OwnRw.turn {E E1 : TypeId} {w w' : World} {B i : Nat} {v u : Value} {us : List Value} {L : List (List Int)} {r : List Int} (h : OwnRw E E1 w B v us L) (hu : us[i]? = some u)
    (hg : w.grownBy w' u.ownBlock) (hu' : w'.ownsRow B E1 1 u r.length (r.map (Value.int .i64))) : OwnRw E E1 w' B v us (L.set i r) := by
  have hi : i < L.length := by rw [← h.len]; exact (List.getElem?_eq_some_iff.1 hu).1
  have hset : ∀ j, (L.set i r).getD j [] = if j = i then r else L.getD j [] := fun j => by
    by_cases e : j = i
    · subst e; simp [List.getD, hi]
    · simp [List.getD, e, List.getElem?_set_ne (Ne.symm e)]
  refine ⟨h.ne, by
    rw [List.length_set]
    refine h.top.kept hg ?_
    by_cases hx : v.ownBlock = none
    · exact .inl hx
    · obtain ⟨b, hb⟩ := Option.ne_none_iff_exists'.1 hx
      exact .inr (by rw [hb]; exact fun q => h.diff hu b q.symm hb), fun j hj => ?_, h.apart⟩
  rw [List.length_set] at hj
  rw [hset j]
  by_cases e : j = i
  · subst e
    rw [if_pos rfl]
    exact ⟨u, hu, hu'⟩
  · rw [if_neg e]
    obtain ⟨x, ex, ho⟩ := h.row j hj
    refine ⟨x, ex, ho.kept hg ?_⟩
    by_cases hx : x.ownBlock = none
    · exact .inl hx
    · obtain ⟨b, hb⟩ := Option.ne_none_iff_exists'.1 hx
      exact .inr (by rw [hb]; exact fun q => h.apart j i x u b e ex hu hb q.symm)
theorem step_push_val2 {P : Program} {ops : Array Oper} {o : Oper} {a : Act} {w : World} {K : Act → World → Prop} {Q : Exit → Act → World → Prop} {E0 : Prop} (hgd : o.guard = none) (s x : Operand) (t : TypeId)
    (ho : o.op = .call { callee := .builtin .append, args := #[s, x], argTypes := #[t, t] })
    (base : Nat) (e : TypeId) (i : TypeInfo) {z : Value} {by_ : Nat} (ht : P.underlying t = some (.slice e)) (hi : P.info? e = some i) (hz : i.zero = some z) (hzc : z.cells.size = 1) (hsize : i.size = 1) (hby : i.bytes = by_) (hb0 : by_ ≤ 24)
    (v : Value) (n : Nat) (xs : List Value) (hs : a.eval s = v) (hown : w.ownsRow base e 1 v n xs)
    (u : Value) (hu : u.oneCell' = true) (g : Nat) (hx : a.eval x = .slice (some ⟨g, 0, none⟩) 1 1) (hc : w.cell? ⟨g, 0, none⟩ = some u) (hsm : n + 1 ≤ 1000000) (hbase : base ≤ w.heap.size)
    (hK : ∀ v' w', w'.ownsRow base e 1 v' (n + 1) (xs ++ [u]) → w.grownBy w' v.ownBlock → K (a.put o.dst v') w') :
    if Region.wanted o (yielded ops a.tmps) = true then Oper.wp P o a w K Q else E0 := by
  have hw : Region.wanted o (yielded ops a.tmps) = true := by simp [Region.wanted, hgd]
  rw [if_pos hw]
  have hm : (n + 1) * by_ ≤ 1000000 * 24 := Nat.mul_le_mul hsm hb0
  have hcells : ∀ j u', [u][j]? = some u' → w.cell? ((⟨g, 0, none⟩ : Addr).add j) = some u' := by
    intro j u' hu'
    have hj : j = 0 := by
      rcases Nat.eq_zero_or_pos j with h | h
      · exact h
      · rw [List.getElem?_eq_none (by simp; omega)] at hu'; cases hu'
    subst hj
    simp at hu'; subst hu'
    exact hc
  obtain ⟨v', w', hrun, h2, h3, _, h5⟩ := run_append_own_at (P := P) w base t o.type e i z 1 by_ ht hi hz hsize hby hzc (by omega) v n xs hown ⟨g, 0, none⟩ 1 1 [u] (by simp) hcells
    (by intro u' hu'; rw [List.mem_singleton] at hu'; subst hu'; exact hu) (by unfold maxLen; omega) (by omega) hbase
  unfold Oper.wp
  simp [execOp, ho, resolve, invoke, builtin, hs, hx, hrun, Result.andThen]
  exact hK _ _ h2 h3
end Go.Proofs.Kv
