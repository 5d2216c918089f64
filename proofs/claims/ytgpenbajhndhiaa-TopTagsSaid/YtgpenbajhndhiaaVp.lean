import Derived.Test.YtgpenbajhndhiaaVo
namespace Go.Proofs.Kv
open Go.RowKit Go
theorem IntsAt.short {w w' : World} {a : Option Addr} {n c : Nat} {l : List Int} (h : IntsAt w a n c l) (h0 : n = 0) : IntsAt w' a n c l := ⟨h.len, h.le, h.small, fun i hi => absurd hi (by omega)⟩
theorem IntsAt.dropAny {w : World} {a : Option Addr} {n c : Nat} {l : List Int} (h : IntsAt w a n c l) {k : Nat} (hk : k ≤ n) : IntsAt w (if c = k then a else a.map (·.add k)) (n - k) (c - k) (l.drop k) := by
  have hle := h.le
  have hs := h.small
  have hl : (l.drop k).length = n - k := by rw [List.length_drop, h.len]
  refine ⟨hl, by omega, by omega, fun i hi => ?_⟩
  obtain ⟨b, off, rfl, hb, hc⟩ := h.cells (k + i) (by omega)
  rw [if_neg (by omega)]
  refine ⟨b, off + k, by simp [Option.map, add_at], hb, ?_⟩
  rw [Nat.add_assoc, hc]
  simp [List.getD]
/-- v is a slice of numbers l, not in the block X -/
def SlAt (w : World) (X : Option Nat) (v : Value) (l : List Int) : Prop := ∃ a c, v = .slice a l.length c ∧ IntsAt w a l.length c l ∧ ∀ b off, a = some ⟨b, off, none⟩ → 0 < l.length → X ≠ some b
theorem SlAt.below {w w' : World} {B : Nat} {X : Option Nat} {v : Value} {l : List Int} (h : SlAt w X v l) (hb : Below B w w') (hB : w.heap.size ≤ B) : SlAt w' X v l := by
  obtain ⟨a, c, e, h1, h2⟩ := h
  exact ⟨a, c, e, h1.below hb hB, h2⟩
theorem SlAt.next {w w' : World} {X Y : Option Nat} {v : Value} {l : List Int} (h : SlAt w X v l) (hg : w.grownBy w' X) (hY : Y = X ∨ ∃ g, Y = some g ∧ w.heap.size ≤ g) : SlAt w' Y v l := by
  obtain ⟨a, c, e, h1, h2⟩ := h
  by_cases h0 : l.length = 0
  · exact ⟨a, c, e, h1.short h0, fun b off _ hp => absurd hp (by omega)⟩
  · obtain ⟨b0, off0, rfl, hlt, -⟩ := h1.cells 0 (by omega)
    have hx := h2 b0 off0 rfl (by omega)
    refine ⟨_, c, e, h1.keep fun b off ha => ?_, fun b off ha hp => ?_⟩
    · injection ha with ha; injection ha with e1 e2; subst e1
      exact hg.block b0 hlt (fun q => hx q.symm)
    · injection ha with ha; injection ha with e1 e2; subst e1
      rcases hY with rfl | ⟨g, rfl, hg⟩
      · exact hx
      · intro q; injection q with q; omega
theorem SlAt.new {w' : World} {X : Option Nat} {B E : Nat} {v : Value} {n : Nat} {l : List Int} (h : w'.ownsRow B E 1 v n (l.map (Value.int .i64))) (hX : ∀ b, X = some b → b < B) : SlAt w' X v l := by
  have hl : l.length = n := by have := h.1; simpa using this
  have hlt := h.lt
  obtain ⟨a, c, rfl, hi⟩ := IntsAt.own h
  subst hl
  refine ⟨a, c, rfl, hi, fun b off ha _ q => ?_⟩
  subst ha
  have := hX b q
  have := (hlt b rfl).1
  omega
theorem SlAt.drop {w : World} {X : Option Nat} {a : Option Addr} {c : Nat} {l : List Int} (h : SlAt w X (.slice a l.length c) l) {k : Nat} (hk : k ≤ l.length) : SlAt w X (.slice (if c = k then a else a.map (·.add k)) (l.length - k) (c - k)) (l.drop k) := by
  obtain ⟨a', c', e, h1, h2⟩ := h
  injection e with e1 e2 e3
  subst e1; subst e3
  have hl : (l.drop k).length = l.length - k := List.length_drop
  refine ⟨_, _, by rw [hl], by rw [hl]; exact h1.dropAny hk, fun b off ha hp => ?_⟩
  rw [hl] at hp
  obtain ⟨b0, off0, rfl, -, -⟩ := h1.cells 0 (by omega)
  have hx := h2 b0 off0 rfl (by omega)
  split at ha
  · injection ha with ha; injection ha with e1 e2; subst e1; exact hx
  · simp only [Option.map, add_at] at ha
    injection ha with ha; injection ha with e1 e2; subst e1; exact hx
structure Pr where
  short : List Int
  long : List Int
  left : List Int
abbrev P0 : Pr := ⟨[], [], []⟩
def PrAt (w : World) (X : Option Nat) (v1 v2 v3 : Value) (p : Pr) : Prop := SlAt w X v1 p.short ∧ SlAt w X v2 p.long ∧ SlAt w X v3 p.left
theorem PrAt.below {w w' : World} {B : Nat} {X : Option Nat} {v1 v2 v3 : Value} {p : Pr} (h : PrAt w X v1 v2 v3 p) (hb : Below B w w') (hB : w.heap.size ≤ B) : PrAt w' X v1 v2 v3 p := ⟨h.1.below hb hB, h.2.1.below hb hB, h.2.2.below hb hB⟩
theorem PrAt.next {w w' : World} {X Y : Option Nat} {v1 v2 v3 : Value} {p : Pr} (h : PrAt w X v1 v2 v3 p) (hg : w.grownBy w' X) (hY : Y = X ∨ ∃ g, Y = some g ∧ w.heap.size ≤ g) : PrAt w' Y v1 v2 v3 p := ⟨h.1.next hg hY, h.2.1.next hg hY, h.2.2.next hg hY⟩
/-- an own row of pairs -/
structure OwnP (E : TypeId) (w : World) (B : Nat) (v : Value) (cs : List Value) (ps : List Pr) : Prop where
  top : w.ownsRow B E 3 v ps.length cs
  at_ : ∀ i, i < ps.length → ∃ v1 v2 v3, cs[i * 3]? = some v1 ∧ cs[i * 3 + 1]? = some v2 ∧ cs[i * 3 + 2]? = some v3 ∧ PrAt w v.ownBlock v1 v2 v3 (ps.getD i P0)
theorem OwnP.nil (E : TypeId) (w : World) (B : Nat) : OwnP E w B (.slice none 0 0) [] [] := ⟨World.ownsRow_nil _ _ _ _, fun i hi => absurd hi (by simp)⟩
theorem OwnP.below {E : TypeId} {w w' : World} {B B' : Nat} {v : Value} {cs : List Value} {ps : List Pr} (h : OwnP E w B v cs ps) (hb : Below B' w w') (hB : w.heap.size ≤ B') : OwnP E w' B v cs ps :=
  ⟨own_below h.top hb hB, fun i hi => by obtain ⟨v1, v2, v3, a1, a2, a3, h1⟩ := h.at_ i hi; exact ⟨v1, v2, v3, a1, a2, a3, h1.below hb hB⟩⟩
theorem OwnP.base {E : TypeId} {w : World} {B B' : Nat} {v : Value} {cs : List Value} {ps : List Pr} (h : OwnP E w B' v cs ps) (hB : B ≤ B') : OwnP E w B v cs ps := ⟨own_base h.top hB, h.at_⟩
theorem OwnP.lt {E : TypeId} {w : World} {B : Nat} {v : Value} {cs : List Value} {ps : List Pr} (h : OwnP E w B v cs ps) : ∀ b, v.ownBlock = some b → b < w.heap.size := fun b hb => (h.top.lt b hb).2
theorem OwnP.push {E : TypeId} {w w' : World} {B : Nat} {v v' v1 v2 v3 : Value} {cs : List Value} {ps : List Pr} {p : Pr} {o : Obj} (h : OwnP E w B v cs ps) (hp : PrAt w v.ownBlock v1 v2 v3 p)
    (hown : w'.ownsRow B E 3 v' (ps.length + 1) (cs ++ [v1, v2, v3])) (hg : (w.alloc o).grownBy w' v.ownBlock) (hat : v'.ownBlock = v.ownBlock ∨ v'.ownBlock = some (w.heap.size + 1)) :
    OwnP E w' B v' (cs ++ [v1, v2, v3]) (ps ++ [p]) := by
  have hY : v'.ownBlock = v.ownBlock ∨ ∃ g, v'.ownBlock = some g ∧ (w.alloc o).heap.size ≤ g := hat.imp id fun e => ⟨_, e, by simp⟩
  have hba := below_alloc w o
  have hcl : cs.length = ps.length * 3 := h.top.1
  refine ⟨by simpa using hown, fun i hi => ?_⟩
  rw [List.length_append, List.length_singleton] at hi
  by_cases hl : i < ps.length
  · obtain ⟨u1, u2, u3, a1, a2, a3, h1⟩ := h.at_ i hl
    refine ⟨u1, u2, u3, by rw [List.getElem?_append_left (by omega)]; exact a1, by rw [List.getElem?_append_left (by omega)]; exact a2, by rw [List.getElem?_append_left (by omega)]; exact a3, ?_⟩
    rw [show (ps ++ [p]).getD i P0 = ps.getD i P0 by simp [List.getD, List.getElem?_append_left hl]]
    exact (h1.below hba (Nat.le_refl _)).next hg hY
  · obtain rfl : i = ps.length := by omega
    refine ⟨v1, v2, v3, by rw [List.getElem?_append_right (by omega), hcl, Nat.sub_self]; rfl, by rw [List.getElem?_append_right (by omega), hcl, show ps.length * 3 + 1 - ps.length * 3 = 1 by omega]; rfl, by rw [List.getElem?_append_right (by omega), hcl, show ps.length * 3 + 2 - ps.length * 3 = 2 by omega]; rfl, ?_⟩
    rw [show (ps ++ [p]).getD ps.length P0 = p by simp [List.getD]]
    exact (hp.below hba (Nat.le_refl _)).next hg hY
section
variable {P : Program} (w : World)
theorem wpList_push3 {ops : Array Oper} {rest : List Oper} {o : Oper} {a : Act} {Q : Exit → Act → World → Prop} (hgd : o.guard = none) (s x : Operand) (t : TypeId)
    (ho : o.op = .call { callee := .builtin .append, args := #[s, x], argTypes := #[t, t] })
    (base : Nat) (e : TypeId) (i : TypeInfo) {z : Value} {by_ : Nat} (ht : P.underlying t = some (.slice e)) (hi : P.info? e = some i) (hz : i.zero = some z) (hzc : z.cells.size = 3) (hsize : i.size = 3) (hby : i.bytes = by_) (hb0 : by_ ≤ 72)
    (v : Value) (n : Nat) (xs : List Value) (hs : a.eval s = v) (hown : w.ownsRow base e 3 v n xs)
    (u1 u2 u3 : Value) (hu1 : u1.oneCell' = true) (hu2 : u2.oneCell' = true) (hu3 : u3.oneCell' = true) (E : TypeId) (hx : a.eval x = .slice (some ⟨w.heap.size, 0, none⟩) 1 1) (hsm : n + 1 ≤ 1000000) (hbase : base ≤ w.heap.size)
    (h : ∀ v' w', w'.ownsRow base e 3 v' (n + 1) (xs ++ [u1, u2, u3]) → (w.alloc (.cells #[u1, u2, u3] E)).grownBy w' v.ownBlock → (v'.ownBlock = v.ownBlock ∨ v'.ownBlock = some (w.heap.size + 1)) → wpList P ops Q rest (a.put o.dst v') w') :
    wpList P ops Q (o :: rest) a (w.alloc (.cells #[u1, u2, u3] E)) := by
  have hm : (n + 1) * by_ ≤ 1000000 * 72 := Nat.mul_le_mul hsm hb0
  have hcells : ∀ j u', [u1, u2, u3][j]? = some u' → (w.alloc (.cells #[u1, u2, u3] E)).cell? ((⟨w.heap.size, 0, none⟩ : Addr).add j) = some u' := by
    intro j u' hu'
    rw [add_at, Nat.zero_add, cells_alloc]
    have hj := (List.getElem?_eq_some_iff.1 hu').1
    simp only [List.length_cons, List.length_nil] at hj
    rcases (show j = 0 ∨ j = 1 ∨ j = 2 by omega) with rfl | rfl | rfl <;> exact hu'
  refine wpList_plain hgd fun K hK => ?_
  obtain ⟨v', w', hrun, h2, h3, _, h5⟩ := run_append_own_at (P := P) (w.alloc (.cells #[u1, u2, u3] E)) base t o.type e i z 3 by_ ht hi hz hsize hby hzc (by omega) v n xs (hown.alloc _) ⟨w.heap.size, 0, none⟩ 1 1 [u1, u2, u3] (by simp) hcells
    (by intro u' hu'; simp at hu'; rcases hu' with rfl | rfl | rfl <;> assumption) (by unfold maxLen; omega) (by omega) (le_alloc hbase)
  unfold Oper.wp execOp
  simp only [ho, resolve, invoke, builtin, Sem.run_bind, Sem.run_pure, Result.andThen_ok, List.map_toArray, List.map_cons, List.map_nil, hs, hx, hrun]
  exact hK _ _ (h v' w' h2 h3 (by simpa using h5))
end
end Go.Proofs.Kv
namespace Go.Proofs.Ytgpenbajhndhiaa
open Go.RowKit Go.Proofs.Kv Go

theorem run_slice_low (a : Option Addr) (n c k : Nat) (hk : k ≤ n) (W : World) :
    (Instr.slice 26 (.slice a n c) (some (.int .i64 (k : Int))) none none).run Try.prog W = .ok (.slice (if c = k then a else a.map (·.add k)) (n - k) (c - k)) W := by
  have hu := Try.underlying26
  simp [Instr.slice, run_underlying hu, go_sem, Instr.sliceBounds, Instr.sliceBound, hk]
/-! ### a beginning -/
def begT (x l : List Int) : Bool := decide (x.length ≤ l.length) && decide (l.take x.length = x)
theorem begT_iff {x l : List Int} : begT x l = true ↔ ∃ r, l = x ++ r := by
  unfold begT
  rw [Bool.and_eq_true, decide_eq_true_eq, decide_eq_true_eq]
  constructor
  · rintro ⟨h1, h2⟩; exact ⟨l.drop x.length, by rw [show x ++ l.drop x.length = l.take x.length ++ l.drop x.length by rw [h2]]; exact (List.take_append_drop _ _).symm⟩
  · rintro ⟨r, rfl⟩; exact ⟨by simp, List.take_left⟩
set_option maxRecDepth 100000 in
set_option maxHeartbeats 2000000 in
theorem isBeg_calls (a : Option Addr) (n c : Nat) (x : List Int) (a2 : Option Addr) (n2 c2 : Nat) (l : List Int) (w : World) (h : IntsAt w a n c x) (h2 : IntsAt w a2 n2 c2 l) :
    Calls Try.prog 91 #[.slice a n c, .slice a2 n2 c2] w fun e w' => e = .returned (.bool (begT x l)) ∧ ∃ q, w' = w.drewN q := by
  have HB : Hid (begT x l = (decide (n ≤ n2) && decide (l.take n = x))) := hid_ (by rw [begT, h.len, h2.len])
  by_cases hle : n ≤ n2
  · have hnc : n ≤ c2 := Nat.le_trans hle h2.le
    have hle2 := h2.le
    have hsm := h2.small
    have HE := hid_ (equal8_calls a n c x _ _ _ _ w h (h2.take hle))
    have Hc : Hid (decide (l.take n = x) = decide (x = l.take n)) := hid_ (decide_eq_decide.2 ⟨fun e => e.symm, fun e => e.symm⟩)
    rw [decide_eq_true hle, Bool.true_and] at HB
    generalize begT x l = R at *
    clear h h2
    go_enter Try.func91, Try.ntmps91
    go_wp2_with (go_at_call 37; (with_reducible refine HE.out.mono ?_); rintro e w2 ⟨rfl, q, rfl⟩)
    go_ret
    exact ⟨by rw [HB.out, Hc.out]; rfl, _, rfl⟩
  · rw [decide_eq_false hle, Bool.false_and] at HB
    generalize begT x l = R at *
    clear h h2
    go_enter Try.func91, Try.ntmps91
    go_wp2
    go_ret
    exact ⟨by rw [HB.out]; rfl, 0, rfl⟩
end Go.Proofs.Ytgpenbajhndhiaa
