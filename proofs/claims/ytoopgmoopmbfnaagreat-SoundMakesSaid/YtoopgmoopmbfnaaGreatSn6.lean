import Derived.Test.YtoopgmoopmbfnaaGreatSn5
import Derived.Laws.OwnMore
import Derived.Test.YtoopgmoopmbfnaaGreatSn4
import Derived.Deep.RegionHeld3
import Derived.Deep.RegionLawGrows
import Derived.Laws.EntriesVeiled
namespace Go.Proofs.Kv
open Go.RowKit
section
variable {P : Program} (w : World)
/-- append of one value of one cell, which lies in a new block; where the row lies then -/
theorem wpList_push_val2 {ops : Array Oper} {rest : List Oper} {o : Oper} {a : Act} {Q : Exit → Act → World → Prop} (hgd : o.guard = none) (s x : Operand) (t : TypeId)
    (ho : o.op = .call { callee := .builtin .append, args := #[s, x], argTypes := #[t, t] })
    (base : Nat) (e : TypeId) (i : TypeInfo) {z : Value} {by_ : Nat} (ht : P.underlying t = some (.slice e)) (hi : P.info? e = some i) (hz : i.zero = some z) (hzc : z.cells.size = 1) (hsize : i.size = 1) (hby : i.bytes = by_) (hb0 : by_ ≤ 24)
    (v : Value) (n : Nat) (xs : List Value) (hs : a.eval s = v) (hown : w.ownsRow base e 1 v n xs)
    (u : Value) (hu : u.oneCell' = true) (E : TypeId) (hx : a.eval x = .slice (some ⟨w.heap.size, 0, none⟩) 1 1) (hsm : n + 1 ≤ 1000000) (hbase : base ≤ w.heap.size)
    (h : ∀ v' w', w'.ownsRow base e 1 v' (n + 1) (xs ++ [u]) → (w.alloc (.cells #[u] E)).grownBy w' v.ownBlock → (v'.ownBlock = v.ownBlock ∨ v'.ownBlock = some (w.heap.size + 1)) → wpList P ops Q rest (a.put o.dst v') w') :
    wpList P ops Q (o :: rest) a (w.alloc (.cells #[u] E)) := by
  have hm : (n + 1) * by_ ≤ 1000000 * 24 := Nat.mul_le_mul hsm hb0
  have hcells : ∀ j u', [u][j]? = some u' → (w.alloc (.cells #[u] E)).cell? ((⟨w.heap.size, 0, none⟩ : Addr).add j) = some u' := by
    intro j u' hu'
    have hj : j = 0 := by
      rcases Nat.eq_zero_or_pos j with h | h
      · exact h
      · rw [List.getElem?_eq_none (by simp; omega)] at hu'; cases hu'
    subst hj
    simp at hu'; subst hu'
    show (w.alloc _).cell? ⟨w.heap.size, 0, none⟩ = _
    rw [World.cell?_alloc_at _ _ _ _ (by rfl)]; rfl
  refine wpList_plain hgd fun K hK => ?_
  obtain ⟨v', w', hrun, h2, h3, _, h5⟩ := run_append_own_at (P := P) (w.alloc (.cells #[u] E)) base t o.type e i z 1 by_ ht hi hz hsize hby hzc (by omega) v n xs (hown.alloc _) ⟨w.heap.size, 0, none⟩ 1 1 [u] (by simp) hcells
    (by intro u' hu'; rw [List.mem_singleton] at hu'; subst hu'; exact hu) (by unfold maxLen; omega) (by omega) (le_alloc hbase)
  unfold Oper.wp execOp
  simp only [ho, resolve, invoke, builtin, Sem.run_bind, Sem.run_pure, Result.andThen_ok, List.map_toArray, List.map_cons, List.map_nil, hs, hx, hrun]
  exact hK _ _ (h v' w' h2 h3 (by simpa using h5))
end
theorem below_new {w w1 : World} {o : Obj} {n c : Nat} (hg : (w.alloc o).grownBy w1 (Value.ownBlock (.slice (some ⟨w.heap.size, 0, none⟩) n c))) : Below w.heap.size w w1 :=
  ((Below.refl _ w).alloc (Nat.le_refl _) o).grown hg (by simp) fun k hk => by
    have : some w.heap.size = some k := hk
    injection this with this
    omega
/-- a list of lists that the call owns, whose last list is an own row too (in block g) -/
def OwnR (E E1 : TypeId) (w : World) (B : Nat) (v : Value) (L : List (List Int)) (g : Nat) (r : List Int) : Prop :=
  ∃ vs n c, w.ownsRow B E 1 v (L.length + 1) (vs ++ [.slice (some ⟨g, 0, none⟩) n c]) ∧ vs.length = L.length ∧
    (∀ i, i < L.length → ∃ a n c, vs[i]? = some (.slice a n c) ∧ IntsAt w a n c (L.getD i []) ∧ ∀ b off, 0 < n → a = some ⟨b, off, none⟩ → v.ownBlock ≠ some b ∧ b ≠ g) ∧
    w.ownsRow B E1 1 (.slice (some ⟨g, 0, none⟩) n c) n (r.map (Value.int .i64)) ∧ v.ownBlock ≠ some g
theorem OwnR.ownL {E E1 : TypeId} {w : World} {B g : Nat} {v : Value} {L : List (List Int)} {r : List Int} (h : OwnR E E1 w B v L g r) : OwnL E w B v (L ++ [r]) := by
  obtain ⟨vs, n, c, h1, h2, h3, h4, h5⟩ := h
  refine ⟨_, by simpa using h1, fun i hi => ?_⟩
  rw [List.length_append, List.length_singleton] at hi
  rw [getD_app]
  by_cases hl : i < L.length
  · obtain ⟨a, n', c', e, hI, hd⟩ := h3 i hl
    refine ⟨a, n', c', by rw [List.getElem?_append_left (by omega)]; exact e, by rw [if_pos hl]; exact hI, fun b off hn ha => (hd b off hn ha).1⟩
  · obtain rfl : i = L.length := by omega
    obtain ⟨a, c', e, hI⟩ := IntsAt.own h4
    injection e with e1 e2 e3
    subst e1; subst e3
    refine ⟨_, n, c, by rw [List.getElem?_append_right (by omega), h2, Nat.sub_self]; rfl, by rw [if_neg hl, Nat.sub_self]; exact hI, fun b off hn ha => ?_⟩
    injection ha with ha; injection ha with ha _
    subst ha; exact h5
/-- a new own row put behind -/
theorem ownR_push {E E1 : TypeId} {w w1 w2 : World} {B : Nat} {v v1 v2 : Value} {L : List (List Int)} {vs : List Value} {r : List Int} {m : Nat} (hB : B ≤ w.heap.size)
    (hvl : vs.length = L.length) (hel : ∀ i, i < L.length → ∃ a n c, vs[i]? = some (.slice a n c) ∧ IntsAt w a n c (L.getD i []) ∧ ∀ b off, 0 < n → a = some ⟨b, off, none⟩ → v.ownBlock ≠ some b)
    (hvb : ∀ k, v.ownBlock = some k → k < w.heap.size) (hb1 : Below w.heap.size w w1) (h0 : 0 < m) (hown1 : w1.ownsRow w.heap.size E1 1 v1 m (r.map (Value.int .i64)))
    {E' : TypeId} (hown2 : w2.ownsRow B E 1 v2 (L.length + 1) (vs ++ [v1])) (hg2 : (w1.alloc (.cells #[v1] E')).grownBy w2 v.ownBlock) (hat : v2.ownBlock = v.ownBlock ∨ v2.ownBlock = some (w1.heap.size + 1)) :
    ∃ g, OwnR E E1 w2 B v2 L g r := by
  obtain ⟨g, cap, rfl, k1, k2, k3, k4⟩ := own_form hown1 h0
  have hv2g : v2.ownBlock ≠ some g := by
    intro e
    rcases hat with h | h
    · have := hvb g (by rw [← h]; exact e); omega
    · rw [e] at h; injection h with h; omega
  have hvg : v.ownBlock ≠ some g := fun e => by have := hvb g e; omega
  refine ⟨g, vs, m, cap, hown2, hvl, fun i hi => ?_, ?_, hv2g⟩
  · obtain ⟨a, n, c, e, hI, hd⟩ := hel i hi
    have hI1 := (hI.below hb1 (Nat.le_refl _)).below ((Below.refl w1.heap.size w1).alloc (Nat.le_refl _) (.cells #[.slice (some ⟨g, 0, none⟩) m cap] E')) (Nat.le_refl _)
    refine ⟨a, n, c, e, ?_, fun b off hn ha => ?_⟩
    · rcases Nat.eq_zero_or_pos n with hz | hn
      · subst hz
        exact ⟨hI.len, hI.le, hI.small, fun j hj => absurd hj (by omega)⟩
      · refine hI1.keep fun b off ha => ?_
        obtain ⟨b', off', ha', hlt, _⟩ := hI1.cells 0 hn
        rw [ha] at ha'; injection ha' with ha'; injection ha' with ha' _
        subst ha'
        exact hg2.block _ hlt fun e => hd _ _ hn ha e.symm
    · obtain ⟨b', off', ha', hlt, _⟩ := hI.cells 0 hn
      rw [ha] at ha'; injection ha' with ha'; injection ha' with ha' _
      subst ha'
      refine ⟨fun e => ?_, by omega⟩
      rcases hat with h | h
      · exact hd _ _ hn ha (by rw [← h]; exact e)
      · rw [e] at h; injection h with h
        have := hb1.size; omega
  · exact (own_base hown1 hB).alloc _ |>.kept hg2 (.inr fun e => hvg (by rw [← e]; rfl))
/-- the last row made longer and stored again -/
theorem ownR_longer {E E1 : TypeId} {w w1 : World} {B g gv nv cv n c : Nat} {v' : Value} {L : List (List Int)} {s : List Int} {vs : List Value}
    (hv : w.ownsRow B E 1 (.slice (some ⟨gv, 0, none⟩) nv cv) (L.length + 1) (vs ++ [.slice (some ⟨g, 0, none⟩) n c])) (hvl : vs.length = L.length)
    (hel : ∀ i, i < L.length → ∃ a n c, vs[i]? = some (.slice a n c) ∧ IntsAt w a n c (L.getD i []) ∧ ∀ b off, 0 < n → a = some ⟨b, off, none⟩ → gv ≠ b ∧ b ≠ g) (hgv : gv ≠ g)
    {m : Nat} (hown1 : w1.ownsRow B E1 1 v' m (s.map (Value.int .i64))) (hg1 : w.grownBy w1 (some g)) (hat : v'.ownBlock = some g ∨ v'.ownBlock = some w.heap.size) (hm : 0 < m) (hgw : gv < w.heap.size) :
    OwnL E (w1.setCell ⟨gv, L.length, none⟩ v') B (.slice (some ⟨gv, 0, none⟩) nv cv) (L ++ [s]) := by
  have hk := hv.kept hg1 (.inr (by simp [Value.ownBlock]; exact hgv))
  have hnv : nv = L.length + 1 := by
    rcases hk.2 with ⟨e, _⟩ | ⟨_, _, _, e, _⟩
    · simp at e
    · simp at e; exact e.2.1
  subst hnv
  obtain ⟨h1, h2⟩ := hk.stored L.length v'
  have hset : (vs ++ [Value.slice (some ⟨g, 0, none⟩) n c]).set L.length v' = vs ++ [v'] := by
    rw [List.set_append_right _ _ (by omega), hvl, Nat.sub_self]; rfl
  rw [hset] at h1
  refine ⟨_, by simpa using h1, fun i hi => ?_⟩
  rw [List.length_append, List.length_singleton] at hi
  rw [getD_app]
  by_cases hl : i < L.length
  · obtain ⟨a, n', c', e, hI, hd⟩ := hel i hl
    refine ⟨a, n', c', by rw [List.getElem?_append_left (by omega)]; exact e, ?_, fun b off hn ha => ?_⟩
    · rw [if_pos hl]
      rcases Nat.eq_zero_or_pos n' with hz | hn
      · subst hz
        exact ⟨hI.len, hI.le, hI.small, fun j hj => absurd hj (by omega)⟩
      · refine hI.keep fun b off ha => ?_
        obtain ⟨b', off', ha', hlt, _⟩ := hI.cells 0 hn
        rw [ha] at ha'; injection ha' with ha'; injection ha' with ha' _
        subst ha'
        obtain ⟨d1, d2⟩ := hd _ _ hn ha
        rw [Below.heap_setCell _ _ _ _ (Ne.symm d1)]
        exact hg1.block _ hlt (by simp; exact d2)
    · have := (hd b off hn ha).1
      simp [Value.ownBlock]; exact this
  · obtain rfl : i = L.length := by omega
    obtain ⟨g', cap, rfl, k1, k2, k3, k4⟩ := own_form hown1 hm
    have hgg : gv ≠ g' := by
      rcases hat with h | h
      · simp [Value.ownBlock] at h; subst h; exact hgv
      · simp [Value.ownBlock] at h; omega
    obtain ⟨a, c', e, hI⟩ := IntsAt.own hown1
    injection e with e1 e2 e3
    subst e1; subst e3
    refine ⟨_, m, cap, by rw [List.getElem?_append_right (by omega), hvl, Nat.sub_self]; rfl, ?_, fun b off hn ha => ?_⟩
    · rw [if_neg hl, Nat.sub_self]
      refine hI.keep fun b off ha => ?_
      injection ha with ha; injection ha with ha _
      subst ha
      exact Below.heap_setCell _ _ _ _ (Ne.symm hgg)
    · injection ha with ha; injection ha with ha _
      subst ha
      simp [Value.ownBlock]; exact hgg
end Go.Proofs.Kv
namespace Go.Proofs.YtoopgmoopmbfnaaGreat
open Go.RowKit Go.Proofs.Kv Go.Proofs.Snd

/-- append of a slice onto an own row, as one step of a region that draws its order -/
theorem step_append_row {ops : Array Oper} {o : Oper} {a : Act} {w : World} {K : Act → World → Prop} {Q : Exit → Act → World → Prop} {E : Prop} (hg : o.guard = none) (s x : Operand)
    (ho : o.op = .call { callee := .builtin .append, args := #[s, x], argTypes := #[33, 33] }) (base : Nat) (v : Value) (n : Nat) (xs : List Int) (hs : a.eval s = v) (hown : w.ownsRow base 3 1 v n (xs.map (Value.int .i64)))
    (A : Option Addr) (m c : Nat) (ys : List Int) (hx : a.eval x = .slice A m c) (hr : IntsAt w A m c ys) (hsm : n + m ≤ 1000000) (hbase : base ≤ w.heap.size)
    (hK : ∀ v' w', w'.ownsRow base 3 1 v' (n + m) ((xs ++ ys).map (Value.int .i64)) → w.grownBy w' v.ownBlock → (v'.ownBlock = v.ownBlock ∨ v'.ownBlock = some w.heap.size) → K (a.put o.dst v') w') :
    if Region.wanted o (yielded ops a.tmps) = true then Oper.wp Tryz.prog o a w K Q else E := by
  obtain ⟨i0, hi0, hz0, hz1, hz2⟩ := info_parts Tryz.infoInt
  have hw : Region.wanted o (yielded ops a.tmps) = true := by simp [Region.wanted, hg]
  rw [if_pos hw]
  obtain ⟨v', w', hrun, h2, h3, h4⟩ := run_append_ints (P := Tryz.prog) w base 33 o.type 3 i0 Tryz.underlying33 hi0 hz0 hz1 hz2 v n xs hown A m c ys hr hsm hbase
  unfold Oper.wp
  simp [execOp, ho, resolve, invoke, builtin, hs, hx, hrun, Result.andThen]
  exact hK _ _ h2 h3 h4

/-! ### the document's Join -/
theorem within_as {n lo hi : Int} {w : World} {b : Bool} (h : Within n lo hi = b) :
    Calls Tryz.prog 32 #[.int .i64 n, .int .i64 lo, .int .i64 hi] w fun e w' => e = .returned (.bool b) ∧ w = w' := by subst h; exact within_calls n lo hi w
def jn (L : List (List Int)) (r k : Nat) : List (List Int) := if k ≤ r + 1 then L.take k else L.take r ++ ((L.getD r [] ++ L.getD (r + 1) []) :: (L.drop (r + 2)).take (k - (r + 2)))
theorem jn_push {L : List (List Int)} {r k : Nat} (hk : k < L.length) (h : k ≠ r + 1) : jn L r (k + 1) = jn L r k ++ [L.getD k []] := by
  unfold jn
  by_cases h1 : k ≤ r
  · rw [if_pos (by omega), if_pos (by omega), Kv.take_snoc L [] k hk]
  · rw [if_neg (by omega), if_neg (by omega), show k + 1 - (r + 2) = k - (r + 2) + 1 by omega, Kv.take_snoc (L.drop (r + 2)) [] (k - (r + 2)) (by rw [List.length_drop]; omega)]
    have : (L.drop (r + 2)).getD (k - (r + 2)) [] = L.getD k [] := by
      simp only [List.getD, List.getElem?_drop]; rw [show r + 2 + (k - (r + 2)) = k by omega]
    rw [this]; simp
theorem jn_join (L : List (List Int)) (r : Nat) : jn L r (r + 2) = L.take r ++ [L.getD r [] ++ L.getD (r + 1) []] := by
  unfold jn; rw [if_neg (by omega), Nat.sub_self, List.take_zero]
theorem jn_all {L : List (List Int)} {r : Nat} (h : r + 1 < L.length) : jn L r L.length = joinL L r := by
  unfold jn joinL
  rw [if_neg (by omega), List.take_of_length_le (l := L.drop (r + 2)) (by rw [List.length_drop]; omega)]
theorem jn_len (L : List (List Int)) (r k : Nat) : (jn L r k).length ≤ k + 1 := by
  unfold jn
  split
  · rw [List.length_take]; omega
  · rw [List.length_append, List.length_cons, List.length_take, List.length_take]; omega
theorem jn_zero (L : List (List Int)) (r : Nat) : jn L r 0 = [] := by unfold jn; rw [if_pos (by omega)]; rfl
theorem jn_pre {L : List (List Int)} {r : Nat} (h : r < L.length) : jn L r (r + 1) = L.take r ++ [L.getD r []] := by unfold jn; rw [if_pos (by omega), Kv.take_snoc L [] r h]
/-- what the document's Join holds behind k rows -/
def JAt (B : Nat) (w : World) (v : Value) (L : List (List Int)) (r k : Nat) : Prop :=
  (k ≠ r + 1 → OwnL 33 w B v (jn L r k)) ∧ (k = r + 1 → ∃ g, OwnR 33 3 w B v (L.take r) g (L.getD r []))
theorem joinErr_ok {L : List (List Int)} {r : Int} (h : joinErr L r = 0) : validT L = 0 ∧ ∃ k : Nat, r = k ∧ k + 1 < L.length := by
  unfold joinErr at h
  by_cases he : validT L = 0
  · rw [if_pos he] at h
    by_cases hr : r < 0 ∨ (L.length : Int) - 1 ≤ r
    · rw [if_pos hr] at h; cases h
    · exact ⟨he, r.toNat, by omega, by omega⟩
  · rw [if_neg he] at h; exact absurd h he
end Go.Proofs.YtoopgmoopmbfnaaGreat
namespace Go.Proofs.YtoopgmoopmbfnaaGreat
open Go.RowKit Go.Proofs.Kv Go.Proofs.Snd

/-! ### the document's Copy -/
end Go.Proofs.YtoopgmoopmbfnaaGreat
namespace Go.Proofs.Kv
open Go.RowKit
/-- a list of lists that the call owns, row by row: each row lies in a block of its own -/
structure OwnRows (E E1 : TypeId) (w : World) (B : Nat) (v : Value) (vs : List Value) (L : List (List Int)) : Prop where
  top : w.ownsRow B E 1 v L.length vs
  row : ∀ i, i < L.length → ∃ g c, vs[i]? = some (.slice (some ⟨g, 0, none⟩) (L.getD i []).length c) ∧ w.ownsRow B E1 1 (.slice (some ⟨g, 0, none⟩) (L.getD i []).length c) (L.getD i []).length ((L.getD i []).map (Value.int .i64)) ∧ v.ownBlock ≠ some g
  apart : ∀ i j g c g' c' n n', i < L.length → j < L.length → i ≠ j → vs[i]? = some (.slice (some ⟨g, 0, none⟩) n c) → vs[j]? = some (.slice (some ⟨g', 0, none⟩) n' c') → g ≠ g'
theorem OwnRows.nil (E E1 : TypeId) (w : World) (B : Nat) : OwnRows E E1 w B (.slice none 0 0) [] [] := ⟨World.ownsRow_nil _ _ _ _, fun i h => absurd h (by simp), fun i j g c g' c' n n' h => absurd h (by simp)⟩
theorem OwnRows.ownL {E E1 : TypeId} {w : World} {B : Nat} {v : Value} {vs : List Value} {L : List (List Int)} (h : OwnRows E E1 w B v vs L) : OwnL E w B v L :=
  ⟨vs, h.top, fun i hi => by
    obtain ⟨g, c, e, ho, hd⟩ := h.row i hi
    obtain ⟨a, c', e', hI⟩ := IntsAt.own ho
    injection e' with e1 e2 e3
    subst e1; subst e3
    exact ⟨_, _, c, e, hI, fun b off _ ha => by injection ha with ha; injection ha with ha _; subst ha; exact hd⟩⟩
theorem OwnRows.below {E E1 : TypeId} {w w' : World} {B B' : Nat} {v : Value} {vs : List Value} {L : List (List Int)} (h : OwnRows E E1 w B v vs L) (hb : Below B' w w') (hB : w.heap.size ≤ B') : OwnRows E E1 w' B v vs L :=
  ⟨own_below h.top hb hB, fun i hi => by
    obtain ⟨g, c, e, ho, hd⟩ := h.row i hi
    exact ⟨g, c, e, own_below ho hb hB, hd⟩, h.apart⟩
theorem OwnRows.base {E E1 : TypeId} {w : World} {B B' : Nat} {v : Value} {vs : List Value} {L : List (List Int)} (h : OwnRows E E1 w B' v vs L) (hB : B ≤ B') : OwnRows E E1 w B v vs L :=
  ⟨own_base h.top hB, fun i hi => by
    obtain ⟨g, c, e, ho, hd⟩ := h.row i hi
    exact ⟨g, c, e, own_base ho hB, hd⟩, h.apart⟩
/-- a new own row put behind -/
theorem ownRows_push {E E1 : TypeId} {w w1 w2 : World} {B : Nat} {v v2 : Value} {L : List (List Int)} {vs : List Value} {r : List Int} {g cap : Nat} (hB : B ≤ w.heap.size) (h : OwnRows E E1 w B v vs L)
    (hb1 : Below w.heap.size w w1) (hown1 : w1.ownsRow w.heap.size E1 1 (.slice (some ⟨g, 0, none⟩) r.length cap) r.length (r.map (Value.int .i64)))
    {E' : TypeId} (hown2 : w2.ownsRow B E 1 v2 (L.length + 1) (vs ++ [.slice (some ⟨g, 0, none⟩) r.length cap])) (hg2 : (w1.alloc (.cells #[.slice (some ⟨g, 0, none⟩) r.length cap] E')).grownBy w2 v.ownBlock) (hat : v2.ownBlock = v.ownBlock ∨ v2.ownBlock = some (w1.heap.size + 1)) :
    OwnRows E E1 w2 B v2 (vs ++ [.slice (some ⟨g, 0, none⟩) r.length cap]) (L ++ [r]) := by
  obtain ⟨k1, k2⟩ := hown1.lt g rfl
  have hvl : vs.length = L.length := by simpa using h.top.1
  have hvb : ∀ k, v.ownBlock = some k → k < w.heap.size := fun k hk => (h.top.lt k hk).2
  have hv2 : ∀ b, b < w.heap.size → v.ownBlock ≠ some b → v2.ownBlock ≠ some b := fun b hb hd e => by
    rcases hat with q | q
    · exact hd (by rw [← q]; exact e)
    · rw [e] at q; injection q with q
      have := hb1.size; omega
  have hv2g : v2.ownBlock ≠ some g := by
    intro e
    rcases hat with q | q
    · have := hvb g (by rw [← q]; exact e); omega
    · rw [e] at q; injection q with q; omega
  have hvg : v.ownBlock ≠ some g := fun e => by have := hvb g e; omega
  have hlt : ∀ i g' c' n', i < L.length → vs[i]? = some (.slice (some ⟨g', 0, none⟩) n' c') → g' < w.heap.size := fun i g' c' n' hi e => by
    obtain ⟨g1, c1, e1, ho, _⟩ := h.row i hi
    rw [e] at e1
    injection e1 with e1; injection e1 with e1 e2 e3; injection e1 with e1; injection e1 with e1 _
    subst e1
    exact (ho.lt g' rfl).2
  refine ⟨by simpa using hown2, fun i hi => ?_, fun i j ga ca gb cb n n' hi hj hij ei ej => ?_⟩
  · rw [List.length_append, List.length_singleton] at hi
    rw [getD_app]
    by_cases hl : i < L.length
    · obtain ⟨g', c', e, ho, hd⟩ := h.row i hl
      have hg' := hlt i g' c' _ hl e
      rw [if_pos hl]
      refine ⟨g', c', by rw [List.getElem?_append_left (by omega)]; exact e, ?_, hv2 g' hg' hd⟩
      exact ((own_below ho hb1 (Nat.le_refl _)).alloc _).kept hg2 (.inr fun e => hd (by rw [← e]; rfl))
    · obtain rfl : i = L.length := by omega
      rw [if_neg hl, Nat.sub_self]
      refine ⟨g, cap, by rw [List.getElem?_append_right (by omega), hvl, Nat.sub_self]; rfl, ?_, hv2g⟩
      exact ((own_base hown1 hB).alloc _).kept hg2 (.inr fun e => hvg (by rw [← e]; rfl))
  · rw [List.length_append, List.length_singleton] at hi hj
    by_cases h1 : i < L.length
    · rw [List.getElem?_append_left (by omega)] at ei
      by_cases h2 : j < L.length
      · rw [List.getElem?_append_left (by omega)] at ej
        exact h.apart i j ga ca gb cb n n' h1 h2 hij ei ej
      · obtain rfl : j = L.length := by omega
        rw [List.getElem?_append_right (by omega), hvl, Nat.sub_self] at ej
        simp at ej
        have := hlt i ga ca n h1 ei
        omega
    · obtain rfl : i = L.length := by omega
      rw [List.getElem?_append_right (by omega), hvl, Nat.sub_self] at ei
      simp at ei
      have hj2 : j < L.length := by omega
      rw [List.getElem?_append_left (by omega)] at ej
      have := hlt j gb cb n' hj2 ej
      omega
/-- a number stored in a row -/
theorem ownRows_set {E E1 : TypeId} {w : World} {B : Nat} {v : Value} {L : List (List Int)} {vs : List Value} (h : OwnRows E E1 w B v vs L) {i : Nat} (hi : i < L.length) {g n c : Nat} (e : vs[i]? = some (.slice (some ⟨g, 0, none⟩) n c)) (k : Nat) (x : Int) :
    OwnRows E E1 (w.setCell ⟨g, k, none⟩ (.int .i64 x)) B v vs (L.set i ((L.getD i []).set k x)) ∧ B ≤ g := by
  obtain ⟨g0, c0, e0, ho, hd⟩ := h.row i hi
  rw [e] at e0
  injection e0 with e0; injection e0 with e1 e2 e3; injection e1 with e1; injection e1 with e1 _
  subst e1; subst e2; subst e3
  obtain ⟨s1, s2⟩ := ho.stored k (.int .i64 x)
  have hset : ((L.getD i []).map (Value.int .i64)).set k (.int .i64 x) = ((L.getD i []).set k x).map (Value.int .i64) := by rw [List.map_set]
  rw [hset] at s1
  have hat : ∀ j, (L.set i ((L.getD i []).set k x)).getD j [] = if j = i then (L.getD i []).set k x else L.getD j [] := fun j => by
    by_cases hj : j = i
    · subst hj; simp [List.getD, hi]
    · rw [if_neg hj]; simp only [List.getD]; rw [List.getElem?_set_ne (Ne.symm hj)]
  refine ⟨⟨?_, fun j hj => ?_, fun a b ga ca gb cb n n' ha hb => h.apart a b ga ca gb cb n n' (by simpa using ha) (by simpa using hb)⟩, (ho.lt g rfl).1⟩
  · rw [List.length_set]; exact h.top.kept s2 (.inr hd)
  · rw [List.length_set] at hj
    rw [hat j]
    by_cases hj' : j = i
    · subst hj'
      rw [if_pos rfl, List.length_set]
      exact ⟨g, c, e, s1, hd⟩
    · rw [if_neg hj']
      obtain ⟨g', c', e', ho', hd'⟩ := h.row j hj
      exact ⟨g', c', e', ho'.kept s2 (.inr (by simp [Value.ownBlock]; exact h.apart j i g' c' g c _ _ hj hi hj' e' e)), hd'⟩
end Go.Proofs.Kv
namespace Go.Proofs.YtoopgmoopmbfnaaGreat
open Go.RowKit Go.Proofs.Kv Go.Proofs.Snd

/-! ### the document's Copy, row by row -/
/-! ### the document's Rename -/
/-- rows of which the first i, and k numbers of the next one, are other ones -/
def ren (f : Int → Int) (L : List (List Int)) (i k : Nat) : List (List Int) := (L.take i).map (List.map f) ++ (match L.drop i with | [] => [] | r :: R => ((r.take k).map f ++ r.drop k) :: R)
theorem ren_zero (f : Int → Int) (L : List (List Int)) (i : Nat) : ren f L i 0 = (L.take i).map (List.map f) ++ L.drop i := by
  unfold ren; cases L.drop i <;> simp
theorem ren_all (f : Int → Int) (L : List (List Int)) : ren f L L.length 0 = L.map (List.map f) := by rw [ren_zero]; simp
theorem ren_at (f : Int → Int) (L : List (List Int)) {i k : Nat} (hi : i < L.length) : ren f L i k = (L.take i).map (List.map f) ++ ((((L.getD i []).take k).map f ++ (L.getD i []).drop k) :: L.drop (i + 1)) := by
  unfold ren
  rw [List.drop_eq_getElem_cons hi]
  simp [List.getD, hi]
theorem ren_next (f : Int → Int) (L : List (List Int)) {i : Nat} (hi : i < L.length) : ren f L i (L.getD i []).length = ren f L (i + 1) 0 := by
  rw [ren_at f L hi, ren_zero, Kv.take_snoc L [] i hi]; simp
theorem ren_len (f : Int → Int) (L : List (List Int)) {i k : Nat} (hi : i < L.length) : (ren f L i k).length = L.length := by
  rw [ren_at f L hi]; simp; omega
theorem ren_row (f : Int → Int) (L : List (List Int)) {i k : Nat} (hi : i < L.length) : (ren f L i k).getD i [] = ((L.getD i []).take k).map f ++ (L.getD i []).drop k := by
  rw [ren_at f L hi, List.getD, List.getElem?_append_right (by simp; omega)]
  simp [Nat.min_eq_left (Nat.le_of_lt hi)]
theorem ren_set (f : Int → Int) (L : List (List Int)) {i k : Nat} (hi : i < L.length) (hk : k < (L.getD i []).length) : (ren f L i k).set i (((ren f L i k).getD i []).set k (f ((L.getD i []).getD k 0))) = ren f L i (k + 1) := by
  rw [ren_row f L hi, ren_at f L hi, ren_at f L hi]
  have hl : ((L.take i).map (List.map f)).length = i := by simp; omega
  rw [List.set_append_right _ _ (by omega), hl, Nat.sub_self, List.set_cons_zero]
  congr 2
  have hl2 : (((L.getD i []).take k).map f).length = k := by rw [List.length_map, List.length_take]; omega
  rw [List.set_append_right _ _ (by omega), hl2, Nat.sub_self, List.drop_eq_getElem_cons hk, List.set_cons_zero, Kv.take_snoc _ 0 k hk]
  simp
/-- the number behind a sound -/
def toF (T : List Int) (x : Int) : Int := T.getD x.toNat 0
def renErr (L : List (List Int)) (T : List Int) : Int := if validT L = 0 then (if IsOrd T 6 then 0 else 1) else validT L
def renRes (L : List (List Int)) (T : List Int) : List (List Int) := if renErr L T = 0 then L.map (List.map (toF T)) else []
theorem map_at {l : List Int} {m : Nat} (h : m < l.length) : (l.map (Value.int .i64))[m]? = some (.int .i64 (l.getD m 0)) := by
  rw [List.getElem?_map, List.getElem?_eq_getElem h]; simp [List.getD, h]
theorem isOrder_as {a : Option Addr} {n c : Nat} {l : List Int} {m : Int} {w : World} {b : Bool} (h : IntsAt w a n c l) (hb : IsOrd l m = b) :
    Calls Tryz.prog 21 #[.slice a n c, .int .i64 m] w fun e w' => e = .returned (.bool b) ∧ w = w' := by subst hb; exact isOrder_calls a n c l m w h
end Go.Proofs.YtoopgmoopmbfnaaGreat
namespace Go.Proofs.YtoopgmoopmbfnaaGreat
open Go.RowKit Go.Proofs.Kv Go.Proofs.Snd

/-! ### the program's Rename -/
def mixF (f : Int → Int) (F : List Int) (k : Nat) : List Int := (F.take k).map f ++ F.drop k
theorem mix_zero (f : Int → Int) (F : List Int) : mixF f F 0 = F := by simp [mixF]
theorem mix_all (f : Int → Int) (F : List Int) : mixF f F F.length = F.map f := by simp [mixF]
theorem mix_len (f : Int → Int) (F : List Int) (k : Nat) : (mixF f F k).length = F.length := by simp [mixF]; omega
theorem mix_at (f : Int → Int) {F : List Int} {k : Nat} (h : k < F.length) : (mixF f F k).getD k 0 = F.getD k 0 := by
  have hl : ((F.take k).map f).length = k := by rw [List.length_map, List.length_take]; omega
  rw [mixF, List.getD, List.getElem?_append_right (by omega), hl, Nat.sub_self]
  simp [List.getD]
theorem mix_set (f : Int → Int) {F : List Int} {k : Nat} (h : k < F.length) : (mixF f F k).set k (f (F.getD k 0)) = mixF f F (k + 1) := by
  have hl : ((F.take k).map f).length = k := by rw [List.length_map, List.length_take]; omega
  rw [mixF, List.set_append_right _ _ (by omega), hl, Nat.sub_self, List.drop_eq_getElem_cons h, List.set_cons_zero, mixF, Kv.take_snoc _ 0 k h]
  simp
theorem endsF_map (f : Int → Int) : ∀ (d : Nat) (L : List (List Int)), endsF d (L.map (List.map f)) = endsF d L
  | _, [] => rfl
  | d, r :: L => by rw [List.map_cons, endsF, endsF, List.length_map, endsF_map f]
theorem cut_map (f : Int → Int) (L : List (List Int)) : cutF (L.flatten.map f) 0 (endsF 0 L) = L.map (List.map f) := by
  have := cut_ends (L.map (List.map f))
  rwa [endsF_map, ← List.map_flatten] at this
end Go.Proofs.YtoopgmoopmbfnaaGreat
namespace Go.Proofs.YtoopgmoopmbfnaaGreat
open Go.RowKit Go.Proofs.Kv Go.Proofs.Snd

/-! ### other sounds -/
theorem ord_len {T : List Int} (h : IsOrd T 6 = true) : T.length = 6 := by
  simp only [IsOrd, Bool.and_eq_true, decide_eq_true_eq] at h; omega
theorem ord_has {T : List Int} (h : IsOrd T 6 = true) {x : Int} (h0 : 0 ≤ x) (h5 : x ≤ 5) : x ∈ T := by
  simp only [IsOrd, Bool.and_eq_true, decide_eq_true_eq, List.all_eq_true, List.mem_range] at h
  have := h.2 x.toNat (by omega)
  rwa [Has_iff, Int.toNat_of_nonneg h0] at this
theorem perm_sub {α : Type} [DecidableEq α] : ∀ {l m : List α}, l.Nodup → (∀ x ∈ l, x ∈ m) → m.length ≤ l.length → m.Perm l
  | [], m, _, _, h => by
    rw [List.length_nil, Nat.le_zero] at h
    rw [List.eq_nil_of_length_eq_zero h]
  | a :: l, m, hn, hs, h => by
    rw [List.nodup_cons] at hn
    have ha : a ∈ m := hs a (by simp)
    refine (List.perm_cons_erase ha).trans (List.Perm.cons a (perm_sub hn.2 (fun x hx => ?_) ?_))
    · have hne : x ≠ a := fun e => by subst e; exact hn.1 hx
      exact (List.mem_erase_of_ne hne).2 (hs x (by simp [hx]))
    · rw [List.length_erase_of_mem ha]; rw [List.length_cons] at h; omega
theorem ord_perm {T : List Int} (h : IsOrd T 6 = true) : T.Perm six :=
  perm_sub sixNodup (fun x hx => ord_has h ((mem_six x).1 hx).1 ((mem_six x).1 hx).2) (by rw [ord_len h]; decide)
theorem ord_nodup {T : List Int} (h : IsOrd T 6 = true) : T.Nodup := (ord_perm h).symm.nodup sixNodup
theorem toF_rg {T : List Int} (h : IsOrd T 6 = true) {x : Int} (h0 : 0 ≤ x) (h5 : x ≤ 5) : 0 ≤ toF T x ∧ toF T x ≤ 5 := by
  have hl := ord_len h
  have hm : toF T x ∈ T := getD_mem (by omega)
  exact (mem_six _).1 ((ord_perm h).mem_iff.1 hm)
theorem toF_inj {T : List Int} (h : IsOrd T 6 = true) {x y : Int} (hx0 : 0 ≤ x) (hx5 : x ≤ 5) (hy0 : 0 ≤ y) (hy5 : y ≤ 5) (e : toF T x = toF T y) : x = y := by
  have hl := ord_len h
  have := nodup_at (ord_nodup h) (i := x.toNat) (j := y.toNat) (by omega) (by omega) (by
    simpa [toF, List.getD, show x.toNat < T.length by omega, show y.toNat < T.length by omega] using e)
  omega
theorem nodup_mapF {T : List Int} (h : IsOrd T 6 = true) {G : List Int} (hn : G.Nodup) (hr : ∀ x ∈ G, 0 ≤ x ∧ x ≤ 5) : (G.map (toF T)).Nodup :=
  nodup_map_on hn fun x hx y hy e => toF_inj h (hr x hx).1 (hr x hx).2 (hr y hy).1 (hr y hy).2 e
theorem from_map {T : List Int} (h : IsOrd T 6 = true) {x : Int} (h0 : 0 ≤ x) (h5 : x ≤ 5) : ∀ {G : List Int}, (∀ y ∈ G, 0 ≤ y ∧ y ≤ 5) → from_ (toF T x) (G.map (toF T)) = (from_ x G).map (toF T)
  | [], _ => rfl
  | y :: G, hr => by
    have ih := from_map h h0 h5 (G := G) fun z hz => hr z (by simp [hz])
    obtain ⟨y0, y5⟩ := hr y (by simp)
    by_cases e : y = x
    · subst e; simp [from_]
    · have e' : ¬ toF T y = toF T x := fun e' => e (toF_inj h y0 y5 h0 h5 e')
      unfold from_ at ih ⊢
      simp [e, e'] at ih ⊢
      exact ih
theorem sorted_congr {l m : List Int} (h : ∀ x, x ∈ l ↔ x ∈ m) : sorted l = sorted m :=
  asc_int (sorted_pairwise l) (sorted_pairwise m) fun x => by rw [Snd.mem_sorted, Snd.mem_sorted, h x]
theorem good_ren {L : List (List Int)} (hg : Good L) {T : List Int} (h : IsOrd T 6 = true) : Good (L.map (List.map (toF T))) where
  n1 := by rw [List.length_map]; exact hg.n1
  n6 := by rw [List.length_map]; exact hg.n6
  ne := by
    intro s hs
    obtain ⟨r, hr, rfl⟩ := List.mem_map.1 hs
    intro e
    exact hg.ne r hr (List.map_eq_nil_iff.1 e)
  nd := by rw [← List.map_flatten]; exact nodup_mapF h hg.nd hg.rg
  rg := by
    rw [← List.map_flatten]
    intro z hz
    obtain ⟨x, hx, rfl⟩ := List.mem_map.1 hz
    exact toF_rg h (hg.rg x hx).1 (hg.rg x hx).2
  flat := by rw [← List.map_flatten, List.length_map]; exact hg.flat
  row := by
    intro s hs
    obtain ⟨r, hr, rfl⟩ := List.mem_map.1 hs
    rw [List.length_map]; exact hg.row r hr
theorem ren_classes {L : List (List Int)} (hg : Good L) {T : List Int} (h : IsOrd T 6 = true) :
    foldI ((classesS L).map fun c => sorted (c.map (toF T))) = classesS (L.map (List.map (toF T))) := by
  have hg' := good_ren hg h
  have h1 := fold_ins ((classesS L).map fun c => sorted (c.map (toF T))) (acc := []) List.Pairwise.nil
  have h2 := fold_ins ((namesR (L.map (List.map (toF T)))).map fun p => standL (L.map (List.map (toF T))) p.1 p.2) (acc := []) List.Pairwise.nil
  refine asc_unique LtL_irr LtL_tr h1.1 (by rw [classesS_eq hg']; exact h2.1) fun z => ?_
  rw [show (z ∈ foldI ((classesS L).map fun c => sorted (c.map (toF T))) ↔ _) from h1.2 z, mem_classesS hg']
  have ht : ∀ k, ((L.map (List.map (toF T))).take k).flatten = ((L.take k).flatten).map (toF T) := fun k => by rw [← List.map_take, List.map_flatten]
  have hrg : ∀ k, ∀ x ∈ (L.take k).flatten, 0 ≤ x ∧ x ≤ 5 := fun k x hx => hg.rg x (by
    obtain ⟨s, hs, hx⟩ := List.mem_flatten.1 hx
    exact List.mem_flatten.2 ⟨s, List.mem_of_mem_take hs, hx⟩)
  have key : ∀ G : List Int, (∀ x ∈ G, 0 ≤ x ∧ x ≤ 5) → sorted ((sorted G).map (toF T)) = sorted (G.map (toF T)) := fun G hG => by
    refine sorted_congr fun x => ?_
    simp only [List.mem_map, Snd.mem_sorted]
    exact ⟨fun ⟨y, ⟨h1, _⟩, e⟩ => ⟨y, h1, e⟩, fun ⟨y, h1, e⟩ => ⟨y, ⟨h1, hG y h1⟩, e⟩⟩
  have hfrom : ∀ x (G : List Int), ∀ y ∈ from_ x G, y ∈ G := fun x G y hy => by
    unfold from_ at hy
    exact (List.dropWhile_sublist _).subset hy
  simp only [List.not_mem_nil, false_or, List.mem_map]
  constructor
  · rintro ⟨c, hc, rfl⟩
    obtain ⟨x, y, hy, hx, rfl⟩ := (mem_classesS hg).1 hc
    refine ⟨toF T x, y, by rw [List.length_map]; exact hy, by rw [ht]; exact List.mem_map_of_mem hx, ?_⟩
    have hb := hrg _ x hx
    rw [ht, from_map h hb.1 hb.2 (hrg _), key _ fun y hy => hrg _ y (hfrom _ _ y hy)]
  · rintro ⟨x', y, hy, hx', rfl⟩
    rw [ht] at hx' ⊢
    rw [List.length_map] at hy
    obtain ⟨x, hx, rfl⟩ := List.mem_map.1 hx'
    refine ⟨_, (mem_classesS hg).2 ⟨x, y, hy, hx, rfl⟩, ?_⟩
    have hb := hrg _ x hx
    rw [from_map h hb.1 hb.2 (hrg _), key _ fun y hy => hrg _ y (hfrom _ _ y hy)]
theorem classesS_nodup {L : List (List Int)} (hg : Good L) : (classesS L).Nodup := by
  rw [classesS_eq hg]
  exact (fold_ins _ (acc := []) List.Pairwise.nil).1.imp fun h e => by subst e; exact LtL_irr _ h
theorem classes_rg {L : List (List Int)} (hg : Good L) {c : List Int} (hc : c ∈ classesS L) : ∀ x ∈ c, 0 ≤ x ∧ x ≤ 5 := by
  obtain ⟨x, y, hy, hx, rfl⟩ := (mem_classesS hg).1 hc
  intro z hz
  exact (Snd.mem_sorted.1 hz).2
theorem ren_inj {L : List (List Int)} (hg : Good L) {T : List Int} (h : IsOrd T 6 = true) {c d : List Int} (hc : c ∈ classesS L) (hd : d ∈ classesS L) (e : sorted (c.map (toF T)) = sorted (d.map (toF T))) : c = d := by
  have hs : ∀ {c}, c ∈ classesS L → c.Pairwise (· < ·) := fun {c} hc => by
    obtain ⟨x, y, hy, hx, rfl⟩ := (mem_classesS hg).1 hc
    exact sorted_pairwise _
  have key : ∀ {c}, c ∈ classesS L → ∀ x, 0 ≤ x → x ≤ 5 → (x ∈ c ↔ toF T x ∈ sorted (c.map (toF T))) := fun {c} hc x h0 h5 => by
    rw [Snd.mem_sorted, List.mem_map]
    constructor
    · exact fun hx => ⟨⟨x, hx, rfl⟩, toF_rg h h0 h5⟩
    · rintro ⟨⟨y, hy, e⟩, _⟩
      obtain ⟨y0, y5⟩ := classes_rg hg hc y hy
      rwa [← toF_inj h y0 y5 h0 h5 e]
  refine asc_int (hs hc) (hs hd) fun x => ⟨fun hx => ?_, fun hx => ?_⟩
  · obtain ⟨x0, x5⟩ := classes_rg hg hc x hx
    exact (key hd x x0 x5).2 (e ▸ (key hc x x0 x5).1 hx)
  · obtain ⟨x0, x5⟩ := classes_rg hg hd x hx
    exact (key hc x x0 x5).2 (e ▸ (key hd x x0 x5).1 hx)
theorem ren_classes_len {L : List (List Int)} (hg : Good L) {T : List Int} (h : IsOrd T 6 = true) : (classesS (L.map (List.map (toF T)))).length = (classesS L).length := by
  have hn : ((classesS L).map fun c => sorted (c.map (toF T))).Nodup := nodup_map_on (classesS_nodup hg) fun x hx y hy e => ren_inj hg h hx hy e
  rw [← ren_classes hg h, ← sortL_eq hn, List.length_mergeSort, List.length_map]
theorem ren_facts {L : List (List Int)} {T : List Int} (h : renErr L T = 0) : IsOrd T 6 = true ∧ validT L = 0 ∧ validT (renRes L T) = 0 ∧ (classesRes (renRes L T)).length = (classesRes L).length ∧
    foldI ((classesRes L).map fun c => sorted (c.map (toF T))) = classesRes (renRes L T) ∧ (∀ c ∈ classesRes L, c.length ≤ 6 ∧ ∀ x ∈ c, 0 ≤ x ∧ x ≤ 5) ∧ (classesRes L).length ≤ 3600 := by
  have hh := h
  unfold renErr at hh
  by_cases hv : validT L = 0
  · rw [if_pos hv] at hh
    cases hT : IsOrd T 6 with
    | false => rw [hT] at hh; simp at hh
    | true =>
      have hg := good_of hv
      have e : renRes L T = L.map (List.map (toF T)) := by rw [renRes, if_pos h]
      have hv2 : validT (L.map (List.map (toF T))) = 0 := valid_of (good_ren hg hT)
      rw [e]
      unfold classesRes
      rw [if_pos hv, if_pos hv2]
      refine ⟨rfl, hv, hv2, ren_classes_len hg hT, ren_classes hg hT, fun c hc => ⟨?_, classes_rg hg hc⟩, ?_⟩
      · obtain ⟨x, y, hy, hx, rfl⟩ := (mem_classesS hg).1 hc
        exact Nat.le_trans (List.length_filter_le _ _) (by decide)
      · rw [classes_len, namesS_eq hg]; exact namesR_len hg
  · rw [if_neg hv] at hh; exact absurd hh hv
end Go.Proofs.YtoopgmoopmbfnaaGreat
