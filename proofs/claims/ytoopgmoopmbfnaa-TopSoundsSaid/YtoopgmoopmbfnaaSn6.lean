import Derived.Test.YtoopgmoopmbfnaaSn5
import Derived.Laws.OwnMore
import Derived.Test.YtoopgmoopmbfnaaSn4
import Derived.Deep.RegionHeld3
import Derived.Deep.RegionLawGrows
import Derived.Laws.EntriesVeiled
namespace Go.Proofs.Kv
open Go.RowKit
section
variable {P : Program} (w : World)
/-- append of one value of one cell, which lies in a new block; where the row lies then -/
theorem wpList_push_val2 {ops : Array Oper} {rest : List Oper} {o : Oper} {a : Act} {Q : Exit → Act → World → Prop} (hgd : o.guard = none) (s x : Operand) (t : TypeId)
    (ho : o.op = .call { callee := .builtin .append, args := #[s, x], argTypes := #[t, t] })
    (base : Nat) (e : TypeId) (i : TypeInfo) {z : Value} {by_ : Nat} (ht : P.underlying t = some (.slice e)) (hi : P.info? e = some i) (hz : i.zero = some z) (hzc : z.cells.size = 1) (hsize : i.size = 1) (hby : i.bytes = by_) (hb0 : by_ ≤ 24)
    (v : Value) (n : Nat) (xs : List Value) (hs : a.eval s = v) (hown : w.ownsRow base e 1 v n xs)
    (u : Value) (hu : u.oneCell' = true) (E : TypeId) (hx : a.eval x = .slice (some ⟨w.heap.size, 0, none⟩) 1 1) (hsm : n + 1 ≤ 1000000) (hbase : base ≤ w.heap.size)
    (h : ∀ v' w', w'.ownsRow base e 1 v' (n + 1) (xs ++ [u]) → (w.alloc (.cells #[u] E)).grownBy w' v.ownBlock → (v'.ownBlock = v.ownBlock ∨ v'.ownBlock = some (w.heap.size + 1)) → wpList P ops Q rest (a.put o.dst v') w') :
    wpList P ops Q (o :: rest) a (w.alloc (.cells #[u] E)) := by
  have hm : (n + 1) * by_ ≤ 1000000 * 24 := Nat.mul_le_mul hsm hb0
  have hcells : ∀ j u', [u][j]? = some u' → (w.alloc (.cells #[u] E)).cell? ((⟨w.heap.size, 0, none⟩ : Addr).add j) = some u' := by
    intro j u' hu'
    have hj : j = 0 := by
      rcases Nat.eq_zero_or_pos j with h | h
      · exact h
      · rw [List.getElem?_eq_none (by simp; omega)] at hu'; cases hu'
    subst hj
    simp at hu'; subst hu'
    show (w.alloc _).cell? ⟨w.heap.size, 0, none⟩ = _
    rw [World.cell?_alloc_at _ _ _ _ (by rfl)]; rfl
  refine wpList_plain hgd fun K hK => ?_
  obtain ⟨v', w', hrun, h2, h3, _, h5⟩ := run_append_own_at (P := P) (w.alloc (.cells #[u] E)) base t o.type e i z 1 by_ ht hi hz hsize hby hzc (by omega) v n xs (hown.alloc _) ⟨w.heap.size, 0, none⟩ 1 1 [u] (by simp) hcells
    (by intro u' hu'; rw [List.mem_singleton] at hu'; subst hu'; exact hu) (by unfold maxLen; omega) (by omega) (le_alloc hbase)
  unfold Oper.wp execOp
  simp only [ho, resolve, invoke, builtin, Sem.run_bind, Sem.run_pure, Result.andThen_ok, List.map_toArray, List.map_cons, List.map_nil, hs, hx, hrun]
  exact hK _ _ (h v' w' h2 h3 (by simpa using h5))
end
theorem below_new {w w1 : World} {o : Obj} {n c : Nat} (hg : (w.alloc o).grownBy w1 (Value.ownBlock (.slice (some ⟨w.heap.size, 0, none⟩) n c))) : Below w.heap.size w w1 :=
  ((Below.refl _ w).alloc (Nat.le_refl _) o).grown hg (by simp) fun k hk => by
    have : some w.heap.size = some k := hk
    injection this with this
    omega
/-- a list of lists that the call owns, whose last list is an own row too (in block g) -/
def OwnR (E E1 : TypeId) (w : World) (B : Nat) (v : Value) (L : List (List Int)) (g : Nat) (r : List Int) : Prop :=
  ∃ vs n c, w.ownsRow B E 1 v (L.length + 1) (vs ++ [.slice (some ⟨g, 0, none⟩) n c]) ∧ vs.length = L.length ∧
    (∀ i, i < L.length → ∃ a n c, vs[i]? = some (.slice a n c) ∧ IntsAt w a n c (L.getD i []) ∧ ∀ b off, 0 < n → a = some ⟨b, off, none⟩ → v.ownBlock ≠ some b ∧ b ≠ g) ∧
    w.ownsRow B E1 1 (.slice (some ⟨g, 0, none⟩) n c) n (r.map (Value.int .i64)) ∧ v.ownBlock ≠ some g
theorem OwnR.ownL {E E1 : TypeId} {w : World} {B g : Nat} {v : Value} {L : List (List Int)} {r : List Int} (h : OwnR E E1 w B v L g r) : OwnL E w B v (L ++ [r]) := by
  obtain ⟨vs, n, c, h1, h2, h3, h4, h5⟩ := h
  refine ⟨_, by simpa using h1, fun i hi => ?_⟩
  rw [List.length_append, List.length_singleton] at hi
  rw [getD_app]
  by_cases hl : i < L.length
  · obtain ⟨a, n', c', e, hI, hd⟩ := h3 i hl
    refine ⟨a, n', c', by rw [List.getElem?_append_left (by omega)]; exact e, by rw [if_pos hl]; exact hI, fun b off hn ha => (hd b off hn ha).1⟩
  · obtain rfl : i = L.length := by omega
    obtain ⟨a, c', e, hI⟩ := IntsAt.own h4
    injection e with e1 e2 e3
    subst e1; subst e3
    refine ⟨_, n, c, by rw [List.getElem?_append_right (by omega), h2, Nat.sub_self]; rfl, by rw [if_neg hl, Nat.sub_self]; exact hI, fun b off hn ha => ?_⟩
    injection ha with ha; injection ha with ha _
    subst ha; exact h5
/-- a new own row put behind -/
theorem ownR_push {E E1 : TypeId} {w w1 w2 : World} {B : Nat} {v v1 v2 : Value} {L : List (List Int)} {vs : List Value} {r : List Int} {m : Nat} (hB : B ≤ w.heap.size)
    (hvl : vs.length = L.length) (hel : ∀ i, i < L.length → ∃ a n c, vs[i]? = some (.slice a n c) ∧ IntsAt w a n c (L.getD i []) ∧ ∀ b off, 0 < n → a = some ⟨b, off, none⟩ → v.ownBlock ≠ some b)
    (hvb : ∀ k, v.ownBlock = some k → k < w.heap.size) (hb1 : Below w.heap.size w w1) (h0 : 0 < m) (hown1 : w1.ownsRow w.heap.size E1 1 v1 m (r.map (Value.int .i64)))
    {E' : TypeId} (hown2 : w2.ownsRow B E 1 v2 (L.length + 1) (vs ++ [v1])) (hg2 : (w1.alloc (.cells #[v1] E')).grownBy w2 v.ownBlock) (hat : v2.ownBlock = v.ownBlock ∨ v2.ownBlock = some (w1.heap.size + 1)) :
    ∃ g, OwnR E E1 w2 B v2 L g r := by
  obtain ⟨g, cap, rfl, k1, k2, k3, k4⟩ := own_form hown1 h0
  have hv2g : v2.ownBlock ≠ some g := by
    intro e
    rcases hat with h | h
    · have := hvb g (by rw [← h]; exact e); omega
    · rw [e] at h; injection h with h; omega
  have hvg : v.ownBlock ≠ some g := fun e => by have := hvb g e; omega
  refine ⟨g, vs, m, cap, hown2, hvl, fun i hi => ?_, ?_, hv2g⟩
  · obtain ⟨a, n, c, e, hI, hd⟩ := hel i hi
    have hI1 := (hI.below hb1 (Nat.le_refl _)).below ((Below.refl w1.heap.size w1).alloc (Nat.le_refl _) (.cells #[.slice (some ⟨g, 0, none⟩) m cap] E')) (Nat.le_refl _)
    refine ⟨a, n, c, e, ?_, fun b off hn ha => ?_⟩
    · rcases Nat.eq_zero_or_pos n with hz | hn
      · subst hz
        exact ⟨hI.len, hI.le, hI.small, fun j hj => absurd hj (by omega)⟩
      · refine hI1.keep fun b off ha => ?_
        obtain ⟨b', off', ha', hlt, _⟩ := hI1.cells 0 hn
        rw [ha] at ha'; injection ha' with ha'; injection ha' with ha' _
        subst ha'
        exact hg2.block _ hlt fun e => hd _ _ hn ha e.symm
    · obtain ⟨b', off', ha', hlt, _⟩ := hI.cells 0 hn
      rw [ha] at ha'; injection ha' with ha'; injection ha' with ha' _
      subst ha'
      refine ⟨fun e => ?_, by omega⟩
      rcases hat with h | h
      · exact hd _ _ hn ha (by rw [← h]; exact e)
      · rw [e] at h; injection h with h
        have := hb1.size; omega
  · exact (own_base hown1 hB).alloc _ |>.kept hg2 (.inr fun e => hvg (by rw [← e]; rfl))
/-- the last row made longer and stored again -/
theorem ownR_longer {E E1 : TypeId} {w w1 : World} {B g gv nv cv n c : Nat} {v' : Value} {L : List (List Int)} {s : List Int} {vs : List Value}
    (hv : w.ownsRow B E 1 (.slice (some ⟨gv, 0, none⟩) nv cv) (L.length + 1) (vs ++ [.slice (some ⟨g, 0, none⟩) n c])) (hvl : vs.length = L.length)
    (hel : ∀ i, i < L.length → ∃ a n c, vs[i]? = some (.slice a n c) ∧ IntsAt w a n c (L.getD i []) ∧ ∀ b off, 0 < n → a = some ⟨b, off, none⟩ → gv ≠ b ∧ b ≠ g) (hgv : gv ≠ g)
    {m : Nat} (hown1 : w1.ownsRow B E1 1 v' m (s.map (Value.int .i64))) (hg1 : w.grownBy w1 (some g)) (hat : v'.ownBlock = some g ∨ v'.ownBlock = some w.heap.size) (hm : 0 < m) (hgw : gv < w.heap.size) :
    OwnL E (w1.setCell ⟨gv, L.length, none⟩ v') B (.slice (some ⟨gv, 0, none⟩) nv cv) (L ++ [s]) := by
  have hk := hv.kept hg1 (.inr (by simp [Value.ownBlock]; exact hgv))
  have hnv : nv = L.length + 1 := by
    rcases hk.2 with ⟨e, _⟩ | ⟨_, _, _, e, _⟩
    · simp at e
    · simp at e; exact e.2.1
  subst hnv
  obtain ⟨h1, h2⟩ := hk.stored L.length v'
  have hset : (vs ++ [Value.slice (some ⟨g, 0, none⟩) n c]).set L.length v' = vs ++ [v'] := by
    rw [List.set_append_right _ _ (by omega), hvl, Nat.sub_self]; rfl
  rw [hset] at h1
  refine ⟨_, by simpa using h1, fun i hi => ?_⟩
  rw [List.length_append, List.length_singleton] at hi
  rw [getD_app]
  by_cases hl : i < L.length
  · obtain ⟨a, n', c', e, hI, hd⟩ := hel i hl
    refine ⟨a, n', c', by rw [List.getElem?_append_left (by omega)]; exact e, ?_, fun b off hn ha => ?_⟩
    · rw [if_pos hl]
      rcases Nat.eq_zero_or_pos n' with hz | hn
      · subst hz
        exact ⟨hI.len, hI.le, hI.small, fun j hj => absurd hj (by omega)⟩
      · refine hI.keep fun b off ha => ?_
        obtain ⟨b', off', ha', hlt, _⟩ := hI.cells 0 hn
        rw [ha] at ha'; injection ha' with ha'; injection ha' with ha' _
        subst ha'
        obtain ⟨d1, d2⟩ := hd _ _ hn ha
        rw [Below.heap_setCell _ _ _ _ (Ne.symm d1)]
        exact hg1.block _ hlt (by simp; exact d2)
    · have := (hd b off hn ha).1
      simp [Value.ownBlock]; exact this
  · obtain rfl : i = L.length := by omega
    obtain ⟨g', cap, rfl, k1, k2, k3, k4⟩ := own_form hown1 hm
    have hgg : gv ≠ g' := by
      rcases hat with h | h
      · simp [Value.ownBlock] at h; subst h; exact hgv
      · simp [Value.ownBlock] at h; omega
    obtain ⟨a, c', e, hI⟩ := IntsAt.own hown1
    injection e with e1 e2 e3
    subst e1; subst e3
    refine ⟨_, m, cap, by rw [List.getElem?_append_right (by omega), hvl, Nat.sub_self]; rfl, ?_, fun b off hn ha => ?_⟩
    · rw [if_neg hl, Nat.sub_self]
      refine hI.keep fun b off ha => ?_
      injection ha with ha; injection ha with ha _
      subst ha
      exact Below.heap_setCell _ _ _ _ (Ne.symm hgg)
    · injection ha with ha; injection ha with ha _
      subst ha
      simp [Value.ownBlock]; exact hgg
end Go.Proofs.Kv
namespace Go.Proofs.Ytoopgmoopmbfnaa
open Go.RowKit Go.Proofs.Kv Go.Proofs.Snd

/-- append of a slice onto an own row, as one step of a region that draws its order -/
theorem step_append_row {ops : Array Oper} {o : Oper} {a : Act} {w : World} {K : Act → World → Prop} {Q : Exit → Act → World → Prop} {E : Prop} (hg : o.guard = none) (s x : Operand)
    (ho : o.op = .call { callee := .builtin .append, args := #[s, x], argTypes := #[23, 23] }) (base : Nat) (v : Value) (n : Nat) (xs : List Int) (hs : a.eval s = v) (hown : w.ownsRow base 3 1 v n (xs.map (Value.int .i64)))
    (A : Option Addr) (m c : Nat) (ys : List Int) (hx : a.eval x = .slice A m c) (hr : IntsAt w A m c ys) (hsm : n + m ≤ 1000000) (hbase : base ≤ w.heap.size)
    (hK : ∀ v' w', w'.ownsRow base 3 1 v' (n + m) ((xs ++ ys).map (Value.int .i64)) → w.grownBy w' v.ownBlock → (v'.ownBlock = v.ownBlock ∨ v'.ownBlock = some w.heap.size) → K (a.put o.dst v') w') :
    if Region.wanted o (yielded ops a.tmps) = true then Oper.wp Try.prog o a w K Q else E := by
  obtain ⟨i0, hi0, hz0, hz1, hz2⟩ := info_parts Try.infoInt
  have hw : Region.wanted o (yielded ops a.tmps) = true := by simp [Region.wanted, hg]
  rw [if_pos hw]
  obtain ⟨v', w', hrun, h2, h3, h4⟩ := run_append_ints (P := Try.prog) w base 23 o.type 3 i0 Try.underlying23 hi0 hz0 hz1 hz2 v n xs hown A m c ys hr hsm hbase
  unfold Oper.wp
  simp [execOp, ho, resolve, invoke, builtin, hs, hx, hrun, Result.andThen]
  exact hK _ _ h2 h3 h4

/-! ### the document's Join -/
theorem within_as {n lo hi : Int} {w : World} {b : Bool} (h : Within n lo hi = b) :
    Calls Try.prog 72 #[.int .i64 n, .int .i64 lo, .int .i64 hi] w fun e w' => e = .returned (.bool b) ∧ w = w' := by subst h; exact within_calls n lo hi w
def jn (L : List (List Int)) (r k : Nat) : List (List Int) := if k ≤ r + 1 then L.take k else L.take r ++ ((L.getD r [] ++ L.getD (r + 1) []) :: (L.drop (r + 2)).take (k - (r + 2)))
theorem jn_push {L : List (List Int)} {r k : Nat} (hk : k < L.length) (h : k ≠ r + 1) : jn L r (k + 1) = jn L r k ++ [L.getD k []] := by
  unfold jn
  by_cases h1 : k ≤ r
  · rw [if_pos (by omega), if_pos (by omega), Kv.take_snoc L [] k hk]
  · rw [if_neg (by omega), if_neg (by omega), show k + 1 - (r + 2) = k - (r + 2) + 1 by omega, Kv.take_snoc (L.drop (r + 2)) [] (k - (r + 2)) (by rw [List.length_drop]; omega)]
    have : (L.drop (r + 2)).getD (k - (r + 2)) [] = L.getD k [] := by
      simp only [List.getD, List.getElem?_drop]; rw [show r + 2 + (k - (r + 2)) = k by omega]
    rw [this]; simp
theorem jn_join (L : List (List Int)) (r : Nat) : jn L r (r + 2) = L.take r ++ [L.getD r [] ++ L.getD (r + 1) []] := by
  unfold jn; rw [if_neg (by omega), Nat.sub_self, List.take_zero]
theorem jn_all {L : List (List Int)} {r : Nat} (h : r + 1 < L.length) : jn L r L.length = joinL L r := by
  unfold jn joinL
  rw [if_neg (by omega), List.take_of_length_le (l := L.drop (r + 2)) (by rw [List.length_drop]; omega)]
theorem jn_len (L : List (List Int)) (r k : Nat) : (jn L r k).length ≤ k + 1 := by
  unfold jn
  split
  · rw [List.length_take]; omega
  · rw [List.length_append, List.length_cons, List.length_take, List.length_take]; omega
theorem jn_zero (L : List (List Int)) (r : Nat) : jn L r 0 = [] := by unfold jn; rw [if_pos (by omega)]; rfl
theorem jn_pre {L : List (List Int)} {r : Nat} (h : r < L.length) : jn L r (r + 1) = L.take r ++ [L.getD r []] := by unfold jn; rw [if_pos (by omega), Kv.take_snoc L [] r h]
/-- what the document's Join holds behind k rows -/
def JAt (B : Nat) (w : World) (v : Value) (L : List (List Int)) (r k : Nat) : Prop :=
  (k ≠ r + 1 → OwnL 23 w B v (jn L r k)) ∧ (k = r + 1 → ∃ g, OwnR 23 3 w B v (L.take r) g (L.getD r []))
theorem joinErr_ok {L : List (List Int)} {r : Int} (h : joinErr L r = 0) : validT L = 0 ∧ ∃ k : Nat, r = k ∧ k + 1 < L.length := by
  unfold joinErr at h
  by_cases he : validT L = 0
  · rw [if_pos he] at h
    by_cases hr : r < 0 ∨ (L.length : Int) - 1 ≤ r
    · rw [if_pos hr] at h; cases h
    · exact ⟨he, r.toNat, by omega, by omega⟩
  · rw [if_neg he] at h; exact absurd h he
set_option maxRecDepth 100000 in
theorem refJoin_calls (a : Option Addr) (n c : Nat) (L : List (List Int)) (r : Int) (w : World) (h : ListsAt w a n c L) (hs : L.flatten.length ≤ 100000) :
    Calls Try.prog 27 #[.slice a n c, .int .i64 r] w fun e w' => ∃ v, e = .returned (.tuple #[v, .int .i64 (joinErr L r)]) ∧ MadeL 23 w w' v (joinRes L r) := by
  have hval := refValidate_calls a n c L w h hs
  have hlen := h.len
  by_cases he : validT L = 0
  · rw [he] at hval
    have Hv := hid_ hval; clear hval
    have hg := good_of he
    have hn6 : n ≤ 6 := by have := hg.n6; omega
    have hn1 : 1 ≤ n := by have := hg.n1; omega
    by_cases hr : Within r 0 ((n : Int) - 2) = true
    · have hr' : 0 ≤ r ∧ r ≤ (n : Int) - 2 := by simpa [Within] using hr
      obtain ⟨r', rfl⟩ := Int.eq_ofNat_of_zero_le hr'.1
      have hrl : r' + 1 < L.length := by omega
      have He : Hid (joinErr L r' = 0) := hid_ (by rw [joinErr, if_pos he, if_neg (by omega)])
      have Hf : Hid (joinRes L r' = jn L r' n) := hid_ (by rw [joinRes, He.out, ← hlen, jn_all hrl]; rfl)
      have HL := hid_ (fun W (hW : Below w.heap.size w W) => h.below hW (Nat.le_refl _))
      have hrw : IntKind.i64.wrap ((r' : Int) + 1) = r' + 1 := IntWalk.i64_in _ (by omega)
      have Hr := hid_ hr
      have Hlen := hid_ hlen
      have Hne := hid_ hg.ne
      have Hrow := hid_ hg.row
      have hrn : r' + 1 < n := by omega
      clear he hg h hr hr' hlen hrl
      obtain ⟨i0, hi0, hz0, hz1, hz2⟩ := info_parts Try.infoInt
      obtain ⟨i1, hi1, hz0', hz1', hz2'⟩ := info_parts Try.infoInts
      go_enter Try.func27, Try.ntmps27
      go_wp2_with fail
      refine Hv.out.mono ?_
      rintro e w1 ⟨rfl, hb1⟩
      go_wp2_with (go_at_call 72; refine (within_as Hr.out).mono ?_; rintro e w' ⟨rfl, rfl⟩)
      go_loopw [7, 8] (fun v i wr => ∃ k : Nat, k ≤ n ∧ i = .int .i64 k ∧ JAt w.heap.size wr v L r' k ∧ Below w.heap.size w wr) (fun _ i _ => n - (intOf i).toNat)
      case atStart => exact ⟨0, Nat.zero_le _, rfl, ⟨fun _ => by rw [jn_zero]; exact OwnL.nil _ _ _, fun h => absurd h (by omega)⟩, hb1⟩
      case round =>
        obtain ⟨k, hk, rfl, hJ, hbel⟩ := hrel
        have hsz := hbel.size
        by_cases hlt : k < n
        · obtain ⟨b, off, a1, n1, c1, rfl, hb, hcell, hrow⟩ := (HL.out wr hbel).cells k hlt
          have hkl : k < L.length := by rw [Hlen.out]; exact hlt
          have hmem : L.getD k [] ∈ L := by rw [List.getD, List.getElem?_eq_getElem hkl, Option.getD_some]; exact List.getElem_mem _
          have hpos : 0 < n1 := by rw [← hrow.len]; exact List.length_pos_iff.2 (Hne.out _ hmem)
          have hle : n1 ≤ 6 := by rw [← hrow.len]; exact Hrow.out _ hmem
          by_cases hkr : k = r' + 1
          · subst hkr
            obtain ⟨g, vs, m, cm, o1, o2, o3, o4, o5⟩ := hJ.2 rfl
            have htl : (L.take r').length = r' := by rw [List.length_take]; omega
            rw [htl] at o1
            obtain ⟨gv, cv, rfl, p1, p2, p3, p4⟩ := own_form o1 (by omega)
            have hgv : gv ≠ g := by simpa [Value.ownBlock] using o5
            have hc1 : wr.cell? ⟨gv, r', none⟩ = some (.slice (some ⟨g, 0, none⟩) m cm) := by
              rw [o1.cellAt r' (by omega), List.getElem?_append_right (by omega), o2, htl, Nat.sub_self]; rfl
            have hf1 : wr.frozen? ⟨gv, r', none⟩ = false := o1.frozenAt r'
            have hml : (L.getD r' []).length = m := by simpa using o4.1
            have hm6 : m ≤ 6 := by rw [← hml]; exact Hrow.out _ (by rw [List.getD, List.getElem?_eq_getElem (by omega), Option.getD_some]; exact List.getElem_mem _)
            have hg0 : wr.grownBy wr.drew (some g) := ⟨rfl, rfl, rfl, Nat.le_refl _, fun _ _ _ => rfl⟩
            have hnew : ∀ v' w1, w1.ownsRow w.heap.size 3 1 v' (m + n1) ((L.getD r' [] ++ L.getD (r' + 1) []).map (Value.int .i64)) → wr.drew.grownBy w1 (some g) → (v'.ownBlock = some g ∨ v'.ownBlock = some wr.heap.size) →
                (w1.cell? ⟨gv, r', none⟩ = some (.slice (some ⟨g, 0, none⟩) m cm) ∧ w1.frozen? ⟨gv, r', none⟩ = false) ∧ OwnL 23 (w1.setCell ⟨gv, r', none⟩ v') w.heap.size (.slice (some ⟨gv, 0, none⟩) (r' + 1) cv) (jn L r' (r' + 2)) ∧ Below w.heap.size w (w1.setCell ⟨gv, r', none⟩ v') := fun v' w1 q1 q2' q3 => by
              have q2 : wr.grownBy w1 (some g) := hg0.trans q2'
              refine ⟨⟨q2.cell hc1 (by simp; exact hgv), (World.frozen?_of_block (q2.block gv p4 (by simp; exact hgv))).trans hf1⟩, ?_, (hbel.grown q2 hsz (fun k hk => by cases hk; exact (o4.lt g rfl).1)).setCell p3 v'⟩
              rw [jn_join]
              have := ownR_longer (E := 23) (E1 := 3) (nv := r' + 1) (cv := cv) (n := m) (c := cm) (L := L.take r') (by rw [htl]; exact o1) o2 (fun i hi => by
                obtain ⟨a, n, c, e, hI, hd⟩ := o3 i hi
                exact ⟨a, n, c, e, hI, fun b off hn ha => ⟨fun e => (hd b off hn ha).1 (by rw [← e]; rfl), (hd b off hn ha).2⟩⟩) hgv q1 q2 q3 (by omega) p4
              rw [htl] at this
              exact this
            have Hnew := hid_ hnew
            have HO4 : Hid (wr.drew.ownsRow w.heap.size 3 1 (.slice (some ⟨g, 0, none⟩) m cm) m ((L.getD r' []).map (Value.int .i64))) := hid_ o4
            have HI : Hid (IntsAt wr.drew a1 n1 c1 (L.getD (r' + 1) [])) := hid_ ⟨hrow.len, hrow.le, hrow.small, hrow.cells⟩
            have Hp4 := hid_ p4
            have hkk : ((r' : Int) + 1 == (r' : Int) + 1) = true := by simp
            have hr0 : (0 : Int) ≤ (r' : Int) := by omega
            have hr1 : (r' : Int) < (r' : Int) + 1 := by omega
            have hr2 : (0 : Int) ≤ (r' : Int) + 1 := by omega
            have hr3 : (r' : Int) + 1 < (n : Int) := by omega
            have hr4 : ((r' : Int) + 1).toNat = r' + 1 := by omega
            clear hnew o1 o2 o3 o4 o5 hrow hJ hml htl hmem hgv
            go_wp2
            go_region_law (refine step_append_row rfl (.tmp 35) (.tmp 39) rfl w.heap.size (.slice (some ⟨g, 0, none⟩) m cm) m _ (by simp [Act.eval]) HO4.out _ n1 c1 _ (by simp [Act.eval]) HI.out (by omega) (by simpa using hsz) ?_; intro v' w1 k1 k2 k3; obtain ⟨g', cap', rfl, -, -, -, -⟩ := own_form k1 (by omega); obtain ⟨⟨c', f'⟩, hO, hB⟩ := Hnew.out _ w1 k1 k2 k3)
            all_goals
              have HO := hid_ hO
              have HB := hid_ hB
              clear hO hB k1 k2 k3
              go_wp2
              exact ⟨⟨r' + 2, by omega, by go_num, ⟨fun _ => HO.out, fun h => absurd h (by omega)⟩, HB.out⟩, by simp [intOf]; omega⟩
          · have hO := hJ.1 hkr
            obtain ⟨vs, o1, o2⟩ := hO.has
            have hvl : vs.length = (jn L r' k).length := by simpa using o1.1
            have hvb := o1.lt
            have hjl := jn_len L r' k
            have Hpush := hid_ (jn_push (r := r') hkl hkr)
            have hown0 : (wr.alloc (.cells #[] 3)).ownsRow wr.heap.size 3 1 (.slice (some ⟨wr.heap.size, 0, none⟩) 0 0) 0 (([] : List Int).map (Value.int .i64)) := World.ownsRow_made wr #[] 0 (Nat.le_refl _) (by omega) rfl
            have hI := hrow.below ((Below.refl _ wr).alloc (Nat.le_refl _) (.cells #[] 3)) (Nat.le_refl _)
            have hkk : ((k : Int) == (r' : Int) + 1) = false := by simp; omega
            have Hkr := hid_ hkr
            have Ho2 := hid_ o2
            have Hvl := hid_ hvl
            have Hvb := hid_ hvb
            have HHrow := hid_ hrow
            have Hjl := hid_ hjl
            obtain ⟨y, hy⟩ : ∃ y, L.getD k [] = y := ⟨_, rfl⟩
            rw [hy] at HHrow Hpush hrow hI
            have Hy := hid_ hy
            clear hy
            clear hJ hO o2 hkr hvl hvb hjl hmem hrow
            go_wp2_with (first
              | (at_builtin; refine wpList_append_ints _ rfl (.tmp 43) (.tmp 47) _ rfl wr.heap.size 3 i0 Try.underlying23 hi0 hz0 hz1 hz2 _ _ _ rfl hown0 _ _ _ _ rfl hI (by omega) (by simp) ?_; intro v1 w2 hown2 hg2 hat2; have hb2 : Below wr.heap.size wr w2 := below_new hg2; rw [Nat.zero_add, List.nil_append] at hown2; obtain ⟨g1, cap1, rfl, k1, k2, k3, k4⟩ := own_form hown2 hpos; have o1' := own_below o1 hb2 (Nat.le_refl _); have hsz2 := hb2.size)
              | (at_builtin; refine wpList_push_val2 _ rfl (.tmp 42) (.tmp 49) _ rfl w.heap.size 23 i1 Try.underlying22 hi1 hz0' rfl hz1' hz2' (by omega) _ _ _ rfl o1' (.slice (some ⟨g1, 0, none⟩) n1 cap1) rfl 23 rfl (by have := Hjl.out; omega) (by omega) ?_; intro v3 w3 hown3 hg3 hat3))
            obtain ⟨g, hR⟩ := ownR_push (L := jn L r' k) (r := y) hsz Hvl.out Ho2.out (fun k hk => (Hvb.out k hk).2) hb2 hpos hown2 hown3 hg3 hat3
            have HR := hid_ hR
            have hbel2 : Below w.heap.size w w2 := hbel.trans (hb2.mono hsz)
            have hbel3 : Below w.heap.size w w3 := below_app hbel2 (Nat.le_trans hsz hsz2) o1' hg3
            go_roundw
            case rel =>
              refine ⟨k + 1, by omega, by go_num, ⟨fun h => ?_, fun h => ?_⟩, hbel3⟩
              · rw [Hpush.out]; exact HR.out.ownL
              · obtain rfl : k = r' := by omega
                have e : jn L k k = L.take k := by unfold jn; rw [if_pos (by omega)]
                have := HR.out
                rw [e, ← Hy.out] at this
                exact ⟨g, this⟩
            case measure => simp [intOf]; omega
        · obtain rfl : k = n := by omega
          have HO := hid_ (hJ.1 (by omega))
          have HB := hid_ hbel
          clear hJ hbel
          go_wp2
          go_ret2
          exact ⟨_, by rw [He.out]; rfl, by rw [Hf.out]; exact ⟨HO.out, HB.out⟩⟩
    · have hr' : Within r 0 ((n : Int) - 2) = false := by simpa using hr
      have He : Hid (joinErr L r = 4) := hid_ (by rw [joinErr, if_pos he, if_pos (by simp [Within] at hr; omega)])
      have Hf : Hid (joinRes L r = []) := hid_ (by rw [joinRes, He.out]; rfl)
      clear he hg hlen hr
      go_enter Try.func27, Try.ntmps27
      go_wp2_with fail
      refine Hv.out.mono ?_
      rintro e w1 ⟨rfl, hb1⟩
      go_wp2_with (go_at_call 72; refine (within_calls _ _ _ _).mono ?_; rintro e w' ⟨rfl, rfl⟩)
      go_ret2
      exact ⟨_, by rw [He.out]; rfl, by rw [Hf.out]; exact MadeL.none_ _ hb1⟩
  · have He : Hid (joinErr L r = validT L) := hid_ (if_neg he)
    have Hf : Hid (joinRes L r = []) := hid_ (by rw [joinRes, if_neg (by rw [He.out]; exact he)])
    generalize validT L = er at hval he He
    have hq : (er != 0) = true := by simpa using he
    have Hv := hid_ hval; clear hval he hlen
    go_enter Try.func27, Try.ntmps27
    go_wp2_with fail
    refine Hv.out.mono ?_
    rintro e w2 ⟨rfl, hb2⟩
    go_wp2
    go_ret2
    exact ⟨_, by rw [He.out]; rfl, by rw [Hf.out]; exact MadeL.none_ _ hb2⟩
end Go.Proofs.Ytoopgmoopmbfnaa
namespace Go.Proofs.Ytoopgmoopmbfnaa
open Go.RowKit Go.Proofs.Kv Go.Proofs.Snd

/-! ### the document's Copy -/
set_option maxRecDepth 100000 in
theorem refCopy_calls (a : Option Addr) (n c : Nat) (L : List (List Int)) (w : World) (h : ListsAt w a n c L) (hn : n ≤ 1000) (hs : ∀ r ∈ L, r.length ≤ 1000) :
    Calls Try.prog 20 #[.slice a n c] w fun e w' => ∃ v, e = .returned v ∧ MadeL 23 w w' v L := by
  have Hlen := hid_ h.len
  have Hrow := hid_ hs
  have HL := hid_ (fun W (hW : Below w.heap.size w W) => h.below hW (Nat.le_refl _))
  obtain ⟨i0, hi0, hz0, hz1, hz2⟩ := info_parts Try.infoInt
  obtain ⟨i1, hi1, hz0', hz1', hz2'⟩ := info_parts Try.infoInts
  clear h hs
  go_enter Try.func20, Try.ntmps20
  go_wp2
  go_loopw [3, 4] (fun v i wr => ∃ k : Nat, k ≤ n ∧ i = .int .i64 k ∧ OwnL 23 wr w.heap.size v (L.take k) ∧ Below w.heap.size w wr) (fun _ i _ => n - (intOf i).toNat)
  case atStart => exact ⟨0, Nat.zero_le _, rfl, OwnL.nil _ _ _, Below.refl _ _⟩
  case round =>
    obtain ⟨k, hk, rfl, hO, hbel⟩ := hrel
    have hsz := hbel.size
    by_cases hlt : k < n
    · obtain ⟨b, off, a1, n1, c1, rfl, hb, hcell, hrow⟩ := (HL.out wr hbel).cells k hlt
      have hkl : k < L.length := by rw [Hlen.out]; exact hlt
      have hle : n1 ≤ 1000 := by rw [← hrow.len]; exact Hrow.out _ (by rw [List.getD, List.getElem?_eq_getElem hkl, Option.getD_some]; exact List.getElem_mem _)
      have Hpush : Hid (L.take (k + 1) = L.take k ++ [L.getD k []]) := hid_ (Kv.take_snoc L [] k hkl)
      have hown0 : (wr.alloc (.cells #[] 3)).ownsRow wr.heap.size 3 1 (.slice (some ⟨wr.heap.size, 0, none⟩) 0 0) 0 (([] : List Int).map (Value.int .i64)) := World.ownsRow_made wr #[] 0 (Nat.le_refl _) (by omega) rfl
      have hI := hrow.below ((Below.refl _ wr).alloc (Nat.le_refl _) (.cells #[] 3)) (Nat.le_refl _)
      have Hjl : Hid ((L.take k).length ≤ k) := hid_ (List.length_take_le _ _)
      have HO := hid_ hO
      generalize L.getD k [] = y at *
      clear hrow hO
      go_wp2_with (first
        | (at_builtin; refine wpList_append_ints _ rfl (.tmp 12) (.tmp 16) _ rfl wr.heap.size 3 i0 Try.underlying23 hi0 hz0 hz1 hz2 _ _ _ rfl hown0 _ _ _ _ rfl hI (by omega) (by simp) ?_; intro v1 w2 hown2 hg2 hat2; have hb2 : Below wr.heap.size wr w2 := below_new hg2; rw [Nat.zero_add, List.nil_append] at hown2; obtain ⟨a2, c2, rfl, hI2⟩ := IntsAt.own hown2; have hO2 := HO.out.below hb2 (Nat.le_refl _); have hsz2 := hb2.size)
        | (at_builtin; refine wpList_push_list _ rfl (.tmp 11) (.tmp 18) _ rfl w.heap.size 23 i1 Try.underlying22 hi1 hz0' hz1' hz2' u3 _ rfl hO2 a2 n1 c2 y 23 rfl hI2 (fun b off hn ha e => by have h1 := (HO.out.lt b e).2; have h2 := (hown2.lt b (by rw [ha]; rfl)).1; omega) (by have := Hjl.out; omega) (by omega) ?_; intro v3 w3 hO3 hg3 hat3))
      have Hb3 : Hid (Below w.heap.size w w3) := hid_ (belowL_app (hbel.trans (hb2.mono hsz)) (Nat.le_trans hsz hsz2) hO2 hg3)
      have HO3 := hid_ hO3
      clear hO3 hg3 hat3 hO2 hown2 hI2 hg2 hat2
      go_roundw
      case rel => exact ⟨k + 1, by omega, by go_num, by rw [Hpush.out]; exact HO3.out, Hb3.out⟩
      case measure => simp [intOf]; omega
    · obtain rfl : k = n := by omega
      rw [show L.take k = L from List.take_of_length_le (by rw [Hlen.out]; exact Nat.le_refl _)] at hO
      have HO := hid_ hO
      clear hO
      go_wp2
      go_ret
      exact ⟨_, rfl, HO.out, hbel⟩
end Go.Proofs.Ytoopgmoopmbfnaa
namespace Go.Proofs.Kv
open Go.RowKit
/-- a list of lists that the call owns, row by row: each row lies in a block of its own -/
structure OwnRows (E E1 : TypeId) (w : World) (B : Nat) (v : Value) (vs : List Value) (L : List (List Int)) : Prop where
  top : w.ownsRow B E 1 v L.length vs
  row : ∀ i, i < L.length → ∃ g c, vs[i]? = some (.slice (some ⟨g, 0, none⟩) (L.getD i []).length c) ∧ w.ownsRow B E1 1 (.slice (some ⟨g, 0, none⟩) (L.getD i []).length c) (L.getD i []).length ((L.getD i []).map (Value.int .i64)) ∧ v.ownBlock ≠ some g
  apart : ∀ i j g c g' c' n n', i < L.length → j < L.length → i ≠ j → vs[i]? = some (.slice (some ⟨g, 0, none⟩) n c) → vs[j]? = some (.slice (some ⟨g', 0, none⟩) n' c') → g ≠ g'
theorem OwnRows.nil (E E1 : TypeId) (w : World) (B : Nat) : OwnRows E E1 w B (.slice none 0 0) [] [] := ⟨World.ownsRow_nil _ _ _ _, fun i h => absurd h (by simp), fun i j g c g' c' n n' h => absurd h (by simp)⟩
theorem OwnRows.ownL {E E1 : TypeId} {w : World} {B : Nat} {v : Value} {vs : List Value} {L : List (List Int)} (h : OwnRows E E1 w B v vs L) : OwnL E w B v L :=
  ⟨vs, h.top, fun i hi => by
    obtain ⟨g, c, e, ho, hd⟩ := h.row i hi
    obtain ⟨a, c', e', hI⟩ := IntsAt.own ho
    injection e' with e1 e2 e3
    subst e1; subst e3
    exact ⟨_, _, c, e, hI, fun b off _ ha => by injection ha with ha; injection ha with ha _; subst ha; exact hd⟩⟩
theorem OwnRows.below {E E1 : TypeId} {w w' : World} {B B' : Nat} {v : Value} {vs : List Value} {L : List (List Int)} (h : OwnRows E E1 w B v vs L) (hb : Below B' w w') (hB : w.heap.size ≤ B') : OwnRows E E1 w' B v vs L :=
  ⟨own_below h.top hb hB, fun i hi => by
    obtain ⟨g, c, e, ho, hd⟩ := h.row i hi
    exact ⟨g, c, e, own_below ho hb hB, hd⟩, h.apart⟩
theorem OwnRows.base {E E1 : TypeId} {w : World} {B B' : Nat} {v : Value} {vs : List Value} {L : List (List Int)} (h : OwnRows E E1 w B' v vs L) (hB : B ≤ B') : OwnRows E E1 w B v vs L :=
  ⟨own_base h.top hB, fun i hi => by
    obtain ⟨g, c, e, ho, hd⟩ := h.row i hi
    exact ⟨g, c, e, own_base ho hB, hd⟩, h.apart⟩
/-- a new own row put behind -/
theorem ownRows_push {E E1 : TypeId} {w w1 w2 : World} {B : Nat} {v v2 : Value} {L : List (List Int)} {vs : List Value} {r : List Int} {g cap : Nat} (hB : B ≤ w.heap.size) (h : OwnRows E E1 w B v vs L)
    (hb1 : Below w.heap.size w w1) (hown1 : w1.ownsRow w.heap.size E1 1 (.slice (some ⟨g, 0, none⟩) r.length cap) r.length (r.map (Value.int .i64)))
    {E' : TypeId} (hown2 : w2.ownsRow B E 1 v2 (L.length + 1) (vs ++ [.slice (some ⟨g, 0, none⟩) r.length cap])) (hg2 : (w1.alloc (.cells #[.slice (some ⟨g, 0, none⟩) r.length cap] E')).grownBy w2 v.ownBlock) (hat : v2.ownBlock = v.ownBlock ∨ v2.ownBlock = some (w1.heap.size + 1)) :
    OwnRows E E1 w2 B v2 (vs ++ [.slice (some ⟨g, 0, none⟩) r.length cap]) (L ++ [r]) := by
  obtain ⟨k1, k2⟩ := hown1.lt g rfl
  have hvl : vs.length = L.length := by simpa using h.top.1
  have hvb : ∀ k, v.ownBlock = some k → k < w.heap.size := fun k hk => (h.top.lt k hk).2
  have hv2 : ∀ b, b < w.heap.size → v.ownBlock ≠ some b → v2.ownBlock ≠ some b := fun b hb hd e => by
    rcases hat with q | q
    · exact hd (by rw [← q]; exact e)
    · rw [e] at q; injection q with q
      have := hb1.size; omega
  have hv2g : v2.ownBlock ≠ some g := by
    intro e
    rcases hat with q | q
    · have := hvb g (by rw [← q]; exact e); omega
    · rw [e] at q; injection q with q; omega
  have hvg : v.ownBlock ≠ some g := fun e => by have := hvb g e; omega
  have hlt : ∀ i g' c' n', i < L.length → vs[i]? = some (.slice (some ⟨g', 0, none⟩) n' c') → g' < w.heap.size := fun i g' c' n' hi e => by
    obtain ⟨g1, c1, e1, ho, _⟩ := h.row i hi
    rw [e] at e1
    injection e1 with e1; injection e1 with e1 e2 e3; injection e1 with e1; injection e1 with e1 _
    subst e1
    exact (ho.lt g' rfl).2
  refine ⟨by simpa using hown2, fun i hi => ?_, fun i j ga ca gb cb n n' hi hj hij ei ej => ?_⟩
  · rw [List.length_append, List.length_singleton] at hi
    rw [getD_app]
    by_cases hl : i < L.length
    · obtain ⟨g', c', e, ho, hd⟩ := h.row i hl
      have hg' := hlt i g' c' _ hl e
      rw [if_pos hl]
      refine ⟨g', c', by rw [List.getElem?_append_left (by omega)]; exact e, ?_, hv2 g' hg' hd⟩
      exact ((own_below ho hb1 (Nat.le_refl _)).alloc _).kept hg2 (.inr fun e => hd (by rw [← e]; rfl))
    · obtain rfl : i = L.length := by omega
      rw [if_neg hl, Nat.sub_self]
      refine ⟨g, cap, by rw [List.getElem?_append_right (by omega), hvl, Nat.sub_self]; rfl, ?_, hv2g⟩
      exact ((own_base hown1 hB).alloc _).kept hg2 (.inr fun e => hvg (by rw [← e]; rfl))
  · rw [List.length_append, List.length_singleton] at hi hj
    by_cases h1 : i < L.length
    · rw [List.getElem?_append_left (by omega)] at ei
      by_cases h2 : j < L.length
      · rw [List.getElem?_append_left (by omega)] at ej
        exact h.apart i j ga ca gb cb n n' h1 h2 hij ei ej
      · obtain rfl : j = L.length := by omega
        rw [List.getElem?_append_right (by omega), hvl, Nat.sub_self] at ej
        simp at ej
        have := hlt i ga ca n h1 ei
        omega
    · obtain rfl : i = L.length := by omega
      rw [List.getElem?_append_right (by omega), hvl, Nat.sub_self] at ei
      simp at ei
      have hj2 : j < L.length := by omega
      rw [List.getElem?_append_left (by omega)] at ej
      have := hlt j gb cb n' hj2 ej
      omega
/-- a number stored in a row -/
theorem ownRows_set {E E1 : TypeId} {w : World} {B : Nat} {v : Value} {L : List (List Int)} {vs : List Value} (h : OwnRows E E1 w B v vs L) {i : Nat} (hi : i < L.length) {g n c : Nat} (e : vs[i]? = some (.slice (some ⟨g, 0, none⟩) n c)) (k : Nat) (x : Int) :
    OwnRows E E1 (w.setCell ⟨g, k, none⟩ (.int .i64 x)) B v vs (L.set i ((L.getD i []).set k x)) ∧ B ≤ g := by
  obtain ⟨g0, c0, e0, ho, hd⟩ := h.row i hi
  rw [e] at e0
  injection e0 with e0; injection e0 with e1 e2 e3; injection e1 with e1; injection e1 with e1 _
  subst e1; subst e2; subst e3
  obtain ⟨s1, s2⟩ := ho.stored k (.int .i64 x)
  have hset : ((L.getD i []).map (Value.int .i64)).set k (.int .i64 x) = ((L.getD i []).set k x).map (Value.int .i64) := by rw [List.map_set]
  rw [hset] at s1
  have hat : ∀ j, (L.set i ((L.getD i []).set k x)).getD j [] = if j = i then (L.getD i []).set k x else L.getD j [] := fun j => by
    by_cases hj : j = i
    · subst hj; simp [List.getD, hi]
    · rw [if_neg hj]; simp only [List.getD]; rw [List.getElem?_set_ne (Ne.symm hj)]
  refine ⟨⟨?_, fun j hj => ?_, fun a b ga ca gb cb n n' ha hb => h.apart a b ga ca gb cb n n' (by simpa using ha) (by simpa using hb)⟩, (ho.lt g rfl).1⟩
  · rw [List.length_set]; exact h.top.kept s2 (.inr hd)
  · rw [List.length_set] at hj
    rw [hat j]
    by_cases hj' : j = i
    · subst hj'
      rw [if_pos rfl, List.length_set]
      exact ⟨g, c, e, s1, hd⟩
    · rw [if_neg hj']
      obtain ⟨g', c', e', ho', hd'⟩ := h.row j hj
      exact ⟨g', c', e', ho'.kept s2 (.inr (by simp [Value.ownBlock]; exact h.apart j i g' c' g c _ _ hj hi hj' e' e)), hd'⟩
end Go.Proofs.Kv
namespace Go.Proofs.Ytoopgmoopmbfnaa
open Go.RowKit Go.Proofs.Kv Go.Proofs.Snd

/-! ### the document's Copy, row by row -/
set_option maxRecDepth 100000 in
theorem refCopyR_calls (a : Option Addr) (n c : Nat) (L : List (List Int)) (w : World) (h : ListsAt w a n c L) (hn : n ≤ 1000) (hs : ∀ r ∈ L, r.length ≤ 1000) (hne : ∀ r ∈ L, r ≠ []) :
    Calls Try.prog 20 #[.slice a n c] w fun e w' => ∃ v vs, e = .returned v ∧ OwnRows 23 3 w' w.heap.size v vs L ∧ Below w.heap.size w w' := by
  have Hlen := hid_ h.len
  have Hrow := hid_ hs
  have Hne := hid_ hne
  have HL := hid_ (fun W (hW : Below w.heap.size w W) => h.below hW (Nat.le_refl _))
  obtain ⟨i0, hi0, hz0, hz1, hz2⟩ := info_parts Try.infoInt
  obtain ⟨i1, hi1, hz0', hz1', hz2'⟩ := info_parts Try.infoInts
  clear h hs hne
  go_enter Try.func20, Try.ntmps20
  go_wp2
  go_loopw [3, 4] (fun v i wr => ∃ (k : Nat) (vs : List Value), k ≤ n ∧ i = .int .i64 k ∧ OwnRows 23 3 wr w.heap.size v vs (L.take k) ∧ Below w.heap.size w wr) (fun _ i _ => n - (intOf i).toNat)
  case atStart => exact ⟨0, [], Nat.zero_le _, rfl, OwnRows.nil _ _ _ _, Below.refl _ _⟩
  case round =>
    obtain ⟨k, vs, hk, rfl, hO, hbel⟩ := hrel
    have hsz := hbel.size
    by_cases hlt : k < n
    · obtain ⟨b, off, a1, n1, c1, rfl, hb, hcell, hrow⟩ := (HL.out wr hbel).cells k hlt
      have hkl : k < L.length := by rw [Hlen.out]; exact hlt
      have hmem : L.getD k [] ∈ L := by rw [List.getD, List.getElem?_eq_getElem hkl, Option.getD_some]; exact List.getElem_mem _
      have hle : n1 ≤ 1000 := by rw [← hrow.len]; exact Hrow.out _ hmem
      have hpos : 0 < n1 := by rw [← hrow.len]; exact List.length_pos_iff.2 (Hne.out _ hmem)
      have Hpush : Hid (L.take (k + 1) = L.take k ++ [L.getD k []]) := hid_ (Kv.take_snoc L [] k hkl)
      have hown0 : (wr.alloc (.cells #[] 3)).ownsRow wr.heap.size 3 1 (.slice (some ⟨wr.heap.size, 0, none⟩) 0 0) 0 (([] : List Int).map (Value.int .i64)) := World.ownsRow_made wr #[] 0 (Nat.le_refl _) (by omega) rfl
      have hI := hrow.below ((Below.refl _ wr).alloc (Nat.le_refl _) (.cells #[] 3)) (Nat.le_refl _)
      have Hjl : Hid ((L.take k).length = k) := hid_ (by rw [List.length_take]; omega)
      have HO := hid_ hO
      have Hyl := hid_ hrow.len
      generalize L.getD k [] = y at *
      clear hrow hO hmem
      go_wp2_with (first
        | (at_builtin; refine wpList_append_ints _ rfl (.tmp 12) (.tmp 16) _ rfl wr.heap.size 3 i0 Try.underlying23 hi0 hz0 hz1 hz2 _ _ _ rfl hown0 _ _ _ _ rfl hI (by omega) (by simp) ?_; intro v1 w2 hown2 hg2 hat2; have hb2 : Below wr.heap.size wr w2 := below_new hg2; rw [Nat.zero_add, List.nil_append] at hown2; obtain ⟨g1, cap1, rfl, k1, k2, k3, k4⟩ := own_form hown2 hpos; have hO2 := (HO.out.below hb2 (Nat.le_refl _)).top; have hsz2 := hb2.size)
        | (at_builtin; refine wpList_push_val2 _ rfl (.tmp 11) (.tmp 18) _ rfl w.heap.size 23 i1 Try.underlying22 hi1 hz0' rfl hz1' hz2' (by omega) u3 _ _ rfl hO2 (.slice (some ⟨g1, 0, none⟩) n1 cap1) rfl 23 rfl (by have := Hjl.out; omega) (by omega) ?_; intro v3 w3 hown3 hg3 hat3))
      have Hb3 : Hid (Below w.heap.size w w3) := hid_ (below_app (hbel.trans (hb2.mono hsz)) (Nat.le_trans hsz hsz2) hO2 hg3)
      have HO3 := hid_ (ownRows_push (r := y) hsz HO.out hb2 (by rw [Hyl.out]; exact hown2) (by rw [Hyl.out]; exact hown3) (by rw [Hyl.out]; exact hg3) hat3)
      clear hown3 hg3 hat3 hO2 hown2 hg2 hat2
      go_roundw
      case rel => exact ⟨k + 1, _, by omega, by go_num, by rw [Hpush.out]; exact HO3.out, Hb3.out⟩
      case measure => simp [intOf]; omega
    · obtain rfl : k = n := by omega
      rw [show L.take k = L from List.take_of_length_le (by rw [Hlen.out]; exact Nat.le_refl _)] at hO
      have HO := hid_ hO
      clear hO
      go_wp2
      go_ret
      exact ⟨_, vs, rfl, HO.out, hbel⟩

/-! ### the document's Rename -/
/-- rows of which the first i, and k numbers of the next one, are other ones -/
def ren (f : Int → Int) (L : List (List Int)) (i k : Nat) : List (List Int) := (L.take i).map (List.map f) ++ (match L.drop i with | [] => [] | r :: R => ((r.take k).map f ++ r.drop k) :: R)
theorem ren_zero (f : Int → Int) (L : List (List Int)) (i : Nat) : ren f L i 0 = (L.take i).map (List.map f) ++ L.drop i := by
  unfold ren; cases L.drop i <;> simp
theorem ren_all (f : Int → Int) (L : List (List Int)) : ren f L L.length 0 = L.map (List.map f) := by rw [ren_zero]; simp
theorem ren_at (f : Int → Int) (L : List (List Int)) {i k : Nat} (hi : i < L.length) : ren f L i k = (L.take i).map (List.map f) ++ ((((L.getD i []).take k).map f ++ (L.getD i []).drop k) :: L.drop (i + 1)) := by
  unfold ren
  rw [List.drop_eq_getElem_cons hi]
  simp [List.getD, hi]
theorem ren_next (f : Int → Int) (L : List (List Int)) {i : Nat} (hi : i < L.length) : ren f L i (L.getD i []).length = ren f L (i + 1) 0 := by
  rw [ren_at f L hi, ren_zero, Kv.take_snoc L [] i hi]; simp
theorem ren_len (f : Int → Int) (L : List (List Int)) {i k : Nat} (hi : i < L.length) : (ren f L i k).length = L.length := by
  rw [ren_at f L hi]; simp; omega
theorem ren_row (f : Int → Int) (L : List (List Int)) {i k : Nat} (hi : i < L.length) : (ren f L i k).getD i [] = ((L.getD i []).take k).map f ++ (L.getD i []).drop k := by
  rw [ren_at f L hi, List.getD, List.getElem?_append_right (by simp; omega)]
  simp [Nat.min_eq_left (Nat.le_of_lt hi)]
theorem ren_set (f : Int → Int) (L : List (List Int)) {i k : Nat} (hi : i < L.length) (hk : k < (L.getD i []).length) : (ren f L i k).set i (((ren f L i k).getD i []).set k (f ((L.getD i []).getD k 0))) = ren f L i (k + 1) := by
  rw [ren_row f L hi, ren_at f L hi, ren_at f L hi]
  have hl : ((L.take i).map (List.map f)).length = i := by simp; omega
  rw [List.set_append_right _ _ (by omega), hl, Nat.sub_self, List.set_cons_zero]
  congr 2
  have hl2 : (((L.getD i []).take k).map f).length = k := by rw [List.length_map, List.length_take]; omega
  rw [List.set_append_right _ _ (by omega), hl2, Nat.sub_self, List.drop_eq_getElem_cons hk, List.set_cons_zero, Kv.take_snoc _ 0 k hk]
  simp
/-- the number behind a sound -/
def toF (T : List Int) (x : Int) : Int := T.getD x.toNat 0
def renErr (L : List (List Int)) (T : List Int) : Int := if validT L = 0 then (if IsOrd T 6 then 0 else 1) else validT L
def renRes (L : List (List Int)) (T : List Int) : List (List Int) := if renErr L T = 0 then L.map (List.map (toF T)) else []
theorem map_at {l : List Int} {m : Nat} (h : m < l.length) : (l.map (Value.int .i64))[m]? = some (.int .i64 (l.getD m 0)) := by
  rw [List.getElem?_map, List.getElem?_eq_getElem h]; simp [List.getD, h]
theorem isOrder_as {a : Option Addr} {n c : Nat} {l : List Int} {m : Int} {w : World} {b : Bool} (h : IntsAt w a n c l) (hb : IsOrd l m = b) :
    Calls Try.prog 66 #[.slice a n c, .int .i64 m] w fun e w' => e = .returned (.bool b) ∧ w = w' := by subst hb; exact isOrder_calls a n c l m w h
set_option maxRecDepth 100000 in
theorem refRename_calls (a : Option Addr) (n c : Nat) (L : List (List Int)) (a' : Option Addr) (n' c' : Nat) (T : List Int) (w : World) (h : ListsAt w a n c L) (h' : IntsAt w a' n' c' T) (hs : L.flatten.length ≤ 100000) :
    Calls Try.prog 29 #[.slice a n c, .slice a' n' c'] w fun e w' => ∃ v, e = .returned (.tuple #[v, .int .i64 (renErr L T)]) ∧ MadeL 23 w w' v (renRes L T) := by
  have hval := refValidate_calls a n c L w h hs
  have hlen := h.len
  by_cases he : validT L = 0
  · rw [he] at hval
    have Hv := hid_ hval; clear hval
    have hg := good_of he
    have hn6 : n ≤ 6 := by have := hg.n6; omega
    cases hT : IsOrd T 6 with
    | true =>
      have He : Hid (renErr L T = 0) := hid_ (by rw [renErr, if_pos he, hT]; rfl)
      have Hf : Hid (renRes L T = ren (toF T) L n 0) := hid_ (by rw [renRes, He.out, ← hlen, ren_all]; rfl)
      have hTl : (n' : Int) = 6 := by rw [← h'.len]; simp only [IsOrd, Bool.and_eq_true, decide_eq_true_eq] at hT; exact hT.1
      have HL := hid_ (fun W (hW : Below w.heap.size w W) => h.below hW (Nat.le_refl _))
      have HT := hid_ (fun W (hW : Below w.heap.size w W) => h'.below hW (Nat.le_refl _))
      have Hlen := hid_ hlen
      have Hg := hid_ hg
      have HTo := hid_ hT
      clear he hg h h' hlen hT
      go_enter Try.func29, Try.ntmps29
      go_wp2_with fail
      refine Hv.out.mono ?_
      rintro e w1 ⟨rfl, hb1⟩
      go_wp2_with (first
        | (go_at_call 66; refine (isOrder_as (HT.out _ hb1) HTo.out).mono ?_; rintro e w' ⟨rfl, rfl⟩)
        | (go_at_call 20; refine (refCopyR_calls _ _ _ _ _ (HL.out _ hb1) (by omega) (fun r hr => Nat.le_trans (Hg.out.row r hr) (by omega)) Hg.out.ne).mono ?_; rintro e w2 ⟨v2, vs2, rfl, hO2, hb2⟩))
      have Hb2 := hid_ (below_then hb1 hb2)
      have hO2' := hO2.base hb1.size
      obtain ⟨gv, cv, rfl, -, -, -, -⟩ := own_form hO2'.top (by have := Hg.out.n1; omega)
      rw [Hlen.out]
      have HO2 := hid_ hO2'
      clear hO2 hb2 hb1 hO2'
      go_loopw [8, 9] (fun i _ wr => ∃ k : Nat, k ≤ n ∧ i = .int .i64 k ∧ OwnRows 23 3 wr w.heap.size (.slice (some ⟨gv, 0, none⟩) n cv) vs2 (ren (toF T) L k 0) ∧ Below w.heap.size w wr) (fun i _ _ => n - (intOf i).toNat)
      case atStart => exact ⟨0, Nat.zero_le _, rfl, by rw [ren_zero, ← Hlen.out]; simpa using HO2.out, Hb2.out⟩
      case round =>
        obtain ⟨k, hk, rfl, hO, hbel⟩ := hrel
        have hsz := hbel.size
        by_cases hlt : k < n
        · have hkl : k < L.length := by rw [Hlen.out]; exact hlt
          have hmem : L.getD k [] ∈ L := by rw [List.getD, List.getElem?_eq_getElem hkl, Option.getD_some]; exact List.getElem_mem _
          have hle := Hg.out.row _ hmem
          have Hrg : Hid (∀ x ∈ L.getD k [], 0 ≤ x ∧ x ≤ 5) := hid_ fun x hx => Hg.out.rg x (List.mem_flatten.2 ⟨_, hmem, hx⟩)
          have Hset := hid_ (fun j hj => @ren_set (toF T) L k j hkl hj)
          have Hrow := hid_ (fun j => @ren_row (toF T) L k j hkl)
          have Hrl := hid_ (fun j => @ren_len (toF T) L k j hkl)
          have Hnx := hid_ (@ren_next (toF T) L k hkl)
          have HO := hid_ hO
          have HB := hid_ hbel
          clear hO hbel hmem
          obtain ⟨y, hy⟩ : ∃ y, L.getD k [] = y := ⟨_, rfl⟩
          rw [hy] at hle Hrg Hset Hrow Hnx
          have Hy := hid_ hy
          clear hy
          obtain ⟨ln, hln⟩ : ∃ ln, y.length = ln := ⟨_, rfl⟩
          rw [hln] at hle Hnx Hset
          have Hln := hid_ hln
          clear hln
          obtain ⟨wo, rfl⟩ : ∃ wo : World, wo = wr := ⟨_, rfl⟩
          clear hsz
          go_wp2
          go_loopw [9] (fun i wr => ∃ m : Nat, m ≤ ln ∧ i = .int .i64 m ∧ OwnRows 23 3 wr w.heap.size (.slice (some ⟨gv, 0, none⟩) n cv) vs2 (ren (toF T) L k m) ∧ Below w.heap.size w wr) (fun i _ => ln - (intOf i).toNat)
          case atStart => exact ⟨0, Nat.zero_le _, rfl, HO.out, HB.out⟩
          case round =>
            obtain ⟨m, hm, rfl, hO, hbel⟩ := hrel
            obtain ⟨g, c3, e3, ho, -⟩ := hO.row k (by rw [Hrl.out]; exact hkl)
            have hrl : ((ren (toF T) L k m).getD k []).length = ln := by rw [Hrow.out, List.length_append, List.length_map, List.length_take, List.length_drop, Hln.out]; omega
            rw [hrl] at ho e3
            have hc1 : wr.cell? ⟨gv, k, none⟩ = some (.slice (some ⟨g, 0, none⟩) ln c3) := by
              have htop := hO.top
              rw [Hrl.out, Hlen.out] at htop
              rw [htop.cellAt k (by omega)]; exact e3
            by_cases hlt2 : m < ln
            · have hf1 := ho.frozenAt m
              have hc2 : wr.cell? ⟨g, m, none⟩ = some (.int .i64 (((ren (toF T) L k m).getD k []).getD m 0)) := by
                rw [ho.cellAt m (by omega)]; exact map_at (by rw [hrl]; exact hlt2)
              generalize ((ren (toF T) L k m).getD k []).getD m 0 = z at hc2
              obtain ⟨b, off, a1, n1, c1, rfl, hb, hcell, hrow⟩ := (HL.out wr hbel).cells k hlt
              rw [Hy.out] at hrow
              have hn1 : n1 = ln := by rw [← hrow.len]; exact Hln.out
              subst hn1
              obtain ⟨b1, off1, rfl, hb1, hcx⟩ := hrow.cells m hlt2
              have hxr := Hrg.out (y.getD m 0) (getD_mem (by rw [Hln.out]; exact hlt2))
              have HS : Hid (_ ∧ _) := hid_ (ownRows_set (hO.below ((Below.refl wr.heap.size wr).drew) (Nat.le_refl _)) (by rw [Hrl.out]; exact hkl) e3 m (toF T (y.getD m 0)))
              rw [Hset.out m hlt2] at HS
              obtain ⟨x, hx⟩ := Int.eq_ofNat_of_zero_le hxr.1
              have htf : toF T (y.getD m 0) = T.getD x 0 := by rw [hx]; rfl
              rw [htf] at HS
              rw [hx] at hcx
              have hx6 : x < n' := by omega
              obtain ⟨b2, off2, rfl, hb2, hct⟩ := (HT.out wr hbel).cells x hx6
              generalize T.getD x 0 = u at hct HS
              have HB2 : Hid (Below w.heap.size w (wr.drew.setCell ⟨g, m, none⟩ (.int .i64 u))) := hid_ ((Below.drew hbel).setCell HS.out.2 _)
              clear hO ho hrow hx htf hxr hrl hbel
              go_wp2
              go_region
              all_goals
                go_wp2
                go_roundw
                case rel => exact ⟨m + 1, by omega, by go_num, HS.out.1, HB2.out⟩
                case measure => simp [intOf]; omega
            · obtain rfl : m = ln := by omega
              have HO3 := hid_ hO
              rw [Hnx.out] at HO3
              have HB3 := hid_ hbel
              clear hO hbel ho hrl
              go_wp2
              go_roundw
              case rel => exact ⟨k + 1, by omega, by go_num, HO3.out, HB3.out⟩
              case measure => simp [intOf]; omega
        · obtain rfl : k = n := by omega
          have HO := hid_ hO
          have HB := hid_ hbel
          clear hO hbel
          go_wp2
          go_ret2
          exact ⟨_, by rw [He.out]; rfl, by rw [Hf.out]; exact ⟨HO.out.ownL, HB.out⟩⟩
    | false =>
      have He : Hid (renErr L T = 1) := hid_ (by rw [renErr, if_pos he, hT]; rfl)
      have Hf : Hid (renRes L T = []) := hid_ (by rw [renRes, He.out]; rfl)
      have HT := hid_ (fun W (hW : Below w.heap.size w W) => h'.below hW (Nat.le_refl _))
      have HTo := hid_ hT
      clear he hg hlen hT h'
      go_enter Try.func29, Try.ntmps29
      go_wp2_with fail
      refine Hv.out.mono ?_
      rintro e w1 ⟨rfl, hb1⟩
      go_wp2_with (go_at_call 66; refine (isOrder_as (HT.out _ hb1) HTo.out).mono ?_; rintro e w' ⟨rfl, rfl⟩)
      go_ret2
      exact ⟨_, by rw [He.out]; rfl, by rw [Hf.out]; exact MadeL.none_ _ hb1⟩
  · have He : Hid (renErr L T = validT L) := hid_ (if_neg he)
    have Hf : Hid (renRes L T = []) := hid_ (by rw [renRes, if_neg (by rw [He.out]; exact he)])
    generalize validT L = er at hval he He
    have hq : (er != 0) = true := by simpa using he
    have Hv := hid_ hval; clear hval he hlen
    go_enter Try.func29, Try.ntmps29
    go_wp2_with fail
    refine Hv.out.mono ?_
    rintro e w2 ⟨rfl, hb2⟩
    go_wp2
    go_ret2
    exact ⟨_, by rw [He.out]; rfl, by rw [Hf.out]; exact MadeL.none_ _ hb2⟩
end Go.Proofs.Ytoopgmoopmbfnaa
namespace Go.Proofs.Ytoopgmoopmbfnaa
open Go.RowKit Go.Proofs.Kv Go.Proofs.Snd

/-! ### the program's Rename -/
def mixF (f : Int → Int) (F : List Int) (k : Nat) : List Int := (F.take k).map f ++ F.drop k
theorem mix_zero (f : Int → Int) (F : List Int) : mixF f F 0 = F := by simp [mixF]
theorem mix_all (f : Int → Int) (F : List Int) : mixF f F F.length = F.map f := by simp [mixF]
theorem mix_len (f : Int → Int) (F : List Int) (k : Nat) : (mixF f F k).length = F.length := by simp [mixF]; omega
theorem mix_at (f : Int → Int) {F : List Int} {k : Nat} (h : k < F.length) : (mixF f F k).getD k 0 = F.getD k 0 := by
  have hl : ((F.take k).map f).length = k := by rw [List.length_map, List.length_take]; omega
  rw [mixF, List.getD, List.getElem?_append_right (by omega), hl, Nat.sub_self]
  simp [List.getD]
theorem mix_set (f : Int → Int) {F : List Int} {k : Nat} (h : k < F.length) : (mixF f F k).set k (f (F.getD k 0)) = mixF f F (k + 1) := by
  have hl : ((F.take k).map f).length = k := by rw [List.length_map, List.length_take]; omega
  rw [mixF, List.set_append_right _ _ (by omega), hl, Nat.sub_self, List.drop_eq_getElem_cons h, List.set_cons_zero, mixF, Kv.take_snoc _ 0 k h]
  simp
theorem endsF_map (f : Int → Int) : ∀ (d : Nat) (L : List (List Int)), endsF d (L.map (List.map f)) = endsF d L
  | _, [] => rfl
  | d, r :: L => by rw [List.map_cons, endsF, endsF, List.length_map, endsF_map f]
theorem cut_map (f : Int → Int) (L : List (List Int)) : cutF (L.flatten.map f) 0 (endsF 0 L) = L.map (List.map f) := by
  have := cut_ends (L.map (List.map f))
  rwa [endsF_map, ← List.map_flatten] at this
set_option maxRecDepth 100000 in
theorem sndRename_calls (a : Option Addr) (n c : Nat) (L : List (List Int)) (a' : Option Addr) (n' c' : Nat) (T : List Int) (w : World) (h : ListsAt w a n c L) (h' : IntsAt w a' n' c' T) :
    Calls Try.prog 28 #[.slice a n c, .slice a' n' c'] w fun e w' => ∃ v, e = .returned (.tuple #[v, .int .i64 (renErr L T)]) ∧ MadeL 23 w w' v (renRes L T) := by
  have hval := sndValidate_calls a n c L w h
  have hlen := h.len
  have HT := hid_ (fun W (hW : Below w.heap.size w W) => h'.below hW (Nat.le_refl _))
  by_cases he : validT L = 0
  · rw [he] at hval
    have Hv := hid_ hval; clear hval
    have hg := good_of he
    have hn6 : n ≤ 6 := by have := hg.n6; omega
    cases hT : IsOrd T 6 with
    | true =>
      have He : Hid (renErr L T = 0) := hid_ (by rw [renErr, if_pos he, hT]; rfl)
      have Hf : Hid (renRes L T = cutF (L.flatten.map (toF T)) 0 (endsF 0 L)) := hid_ (by rw [renRes, He.out, cut_map]; rfl)
      have hTl : (n' : Int) = 6 := by rw [← h'.len]; simp only [IsOrd, Bool.and_eq_true, decide_eq_true_eq] at hT; exact hT.1
      have HL := hid_ (fun W (hW : Below w.heap.size w W) => h.below hW (Nat.le_refl _))
      have hpos : 0 < L.flatten.length := by
        have hm : L.getD 0 [] ∈ L := by rw [List.getD, List.getElem?_eq_getElem (by have := hg.n1; omega), Option.getD_some]; exact List.getElem_mem _
        exact Nat.lt_of_lt_of_le (List.length_pos_iff.2 (hg.ne _ hm)) (List.sublist_flatten_of_mem hm).length_le
      have hfl : L.flatten.length ≤ 100000 := by have := hg.flat; omega
      have Hasc : Hid (Asc L.flatten.length 0 (endsF 0 L)) := hid_ (asc_ends _ _ _ hg.ne (by omega))
      have Hends : Hid (endsI L n = (endsF 0 L).map fun x : Nat => (x : Int)) := hid_ (by rw [endsI, ← hlen, endsN_eq])
      have Hel : Hid ((endsF 0 L).length = n) := hid_ (by rw [endsF_len, hlen])
      have Hrg : Hid (∀ x ∈ L.flatten, 0 ≤ x ∧ x ≤ 5) := hid_ hg.rg
      have Hff : Hid (∀ W, ListsAt W a n c L → Calls Try.prog 69 #[.slice a n c] W fun e w' => ∃ v, e = .returned v ∧ Made 3 W w' v (endsI L n)) := hid_ fun W hW => rowEnds_calls a n c L W hW hfl (by omega)
      have Hcc := hid_ (fun W hW => concat_calls a n c L W hW hfl)
      have HTo := hid_ hT
      generalize L.flatten = FL at *
      obtain ⟨m, hm⟩ : ∃ m, FL.length = m := ⟨_, rfl⟩
      rw [hm] at hpos hfl Hasc
      have Hm := hid_ hm
      clear he hg h h' hlen hT hm
      go_enter Try.func28, Try.ntmps28
      go_wp2_with fail
      refine Hv.out.mono ?_
      rintro e w1 ⟨rfl, hb1⟩
      go_wp2_with fail
      have Hio := hid_ (sndIsOrder_calls _ _ _ _ 6 _ (HT.out _ hb1) (by omega))
      rw [HTo.out] at Hio
      refine Hio.out.mono ?_
      rintro e w2 ⟨rfl, hb2⟩
      have hb2' := below_then hb1 hb2
      have HC := hid_ (Hcc.out w2 (HL.out w2 hb2'))
      clear hb1 hb2 Hio
      go_wp2_with fail
      refine HC.out.mono ?_
      rintro e w3 ⟨v3, rfl, hm3⟩
      have hown3 := hm3.own
      rw [Hm.out] at hown3
      obtain ⟨g, cap, rfl, q1, q2, q3, q4⟩ := own_form hown3 hpos
      have Hb3 := hid_ (below_then hb2' hm3.bel)
      have HO3 := hid_ (own_base hown3 hb2'.size)
      have hgb : w.heap.size ≤ g := Nat.le_trans hb2'.size q3
      clear hown3 hm3 HC hb2'
      go_wp2
      go_loopw [22] (fun i wr => ∃ k : Nat, k ≤ m ∧ i = .int .i64 k ∧ wr.ownsRow w.heap.size 3 1 (.slice (some ⟨g, 0, none⟩) m cap) m ((mixF (toF T) FL k).map (Value.int .i64)) ∧ Below w.heap.size w wr) (fun i _ => m - (intOf i).toNat)
      case atStart => exact ⟨0, Nat.zero_le _, rfl, by rw [mix_zero]; exact HO3.out, Hb3.out⟩
      case round =>
        obtain ⟨k, hk, rfl, hO, hbel⟩ := hrel
        by_cases hlt : k < m
        · have hkl : k < FL.length := by rw [Hm.out]; exact hlt
          have hc0 : wr.cell? ⟨g, k, none⟩ = some (.int .i64 (FL.getD k 0)) := by
            rw [hO.cellAt k (by omega), map_at (by rw [mix_len]; exact hkl), mix_at _ hkl]
          have hf0 := hO.frozenAt k
          have hxr := Hrg.out (FL.getD k 0) (getD_mem hkl)
          have HS := hid_ (hO.stored k (.int .i64 (toF T (FL.getD k 0)))).1
          have Hset := hid_ (mix_set (toF T) hkl)
          obtain ⟨x, hx⟩ := Int.eq_ofNat_of_zero_le hxr.1
          have htf : toF T (FL.getD k 0) = T.getD x 0 := by rw [hx]; rfl
          rw [← List.map_set, Hset.out] at HS
          rw [htf] at HS
          rw [hx] at hc0
          have hx6 : x < n' := by omega
          obtain ⟨b2, off2, rfl, hb2, hct⟩ := (HT.out wr hbel).cells x hx6
          generalize T.getD x 0 = u at hct HS
          have HB := hid_ (hbel.setCell (p := ⟨g, k, none⟩) hgb (.int .i64 u))
          clear hO hx htf hxr hbel
          go_wp2
          go_roundw
          case rel => exact ⟨k + 1, by omega, by go_num, HS.out, HB.out⟩
          case measure => simp [intOf]; omega
        · obtain rfl : k = m := by omega
          have hO' := hO
          rw [← Hm.out, mix_all, Hm.out] at hO'
          obtain ⟨a5, c5, e5, hI5⟩ := IntsAt.own hO'
          injection e5 with z1 z2 z3
          subst z1; subst z3
          have Hre := hid_ (Hff.out wr (HL.out wr hbel))
          have hgw := (hO.lt g rfl).2
          have Hbel := hid_ hbel
          clear hO hO' hbel
          go_wp2_with fail
          refine Hre.out.mono ?_
          rintro e w6 ⟨v6, rfl, hm6⟩
          have hI6 := hI5.below hm6.bel (Nat.le_refl _)
          have hown6 := hm6.own
          rw [endsI_len, Hends.out] at hown6
          obtain ⟨a6, c6, rfl, hE6⟩ := IntsAt.own hown6
          have hgw6 : g < w6.heap.size := Nat.lt_of_lt_of_le hgw hm6.bel.size
          have Hcut := hid_ (cut_calls g 0 _ _ _ _ _ _ _ w6 hI6 hE6 Hasc.out (by omega))
          have HI := hid_ hI6
          have Hb6 := hid_ (below_then Hbel.out hm6.bel)
          clear hm6 hI6 hE6 hown6 Hre hI5
          go_wp2_with fail
          refine Hcut.out.mono ?_
          rintro e w7 ⟨v7, rfl, hown7, hb7⟩
          have Hres : Hid (OwnL 23 w7 w.heap.size v7 (renRes L T)) := hid_ (by
            rw [Hf.out]
            refine (ownL_cut hown7 (HI.out.below hb7 (Nat.le_refl _)) Hasc.out fun e => ?_).base Hb6.out.size
            have := (hown7.lt g e).1
            omega)
          clear hown7
          go_wp2
          go_ret2
          exact ⟨v7, by rw [He.out]; rfl, ⟨Hres.out, below_then Hb6.out hb7⟩⟩
    | false =>
      have He : Hid (renErr L T = 1) := hid_ (by rw [renErr, if_pos he, hT]; rfl)
      have Hf : Hid (renRes L T = []) := hid_ (by rw [renRes, He.out]; rfl)
      have HTo := hid_ hT
      clear he hg hlen hT h'
      go_enter Try.func28, Try.ntmps28
      go_wp2_with fail
      refine Hv.out.mono ?_
      rintro e w1 ⟨rfl, hb1⟩
      go_wp2_with fail
      have Hio := hid_ (sndIsOrder_calls _ _ _ _ 6 _ (HT.out _ hb1) (by omega))
      rw [HTo.out] at Hio
      refine Hio.out.mono ?_
      rintro e w2 ⟨rfl, hb2⟩
      go_wp2
      go_ret2
      exact ⟨_, by rw [He.out]; rfl, by rw [Hf.out]; exact MadeL.none_ _ (below_then hb1 hb2)⟩
  · have He : Hid (renErr L T = validT L) := hid_ (if_neg he)
    have Hf : Hid (renRes L T = []) := hid_ (by rw [renRes, if_neg (by rw [He.out]; exact he)])
    generalize validT L = er at hval he He
    have hq : (er != 0) = true := by simpa using he
    have Hv := hid_ hval; clear hval he hlen
    go_enter Try.func28, Try.ntmps28
    go_wp2_with fail
    refine Hv.out.mono ?_
    rintro e w2 ⟨rfl, hb2⟩
    go_wp2
    go_ret2
    exact ⟨_, by rw [He.out]; rfl, by rw [Hf.out]; exact MadeL.none_ _ hb2⟩
end Go.Proofs.Ytoopgmoopmbfnaa
namespace Go.Proofs.Ytoopgmoopmbfnaa
open Go.RowKit Go.Proofs.Kv Go.Proofs.Snd

/-! ### other sounds -/
theorem ord_len {T : List Int} (h : IsOrd T 6 = true) : T.length = 6 := by
  simp only [IsOrd, Bool.and_eq_true, decide_eq_true_eq] at h; omega
theorem ord_has {T : List Int} (h : IsOrd T 6 = true) {x : Int} (h0 : 0 ≤ x) (h5 : x ≤ 5) : x ∈ T := by
  simp only [IsOrd, Bool.and_eq_true, decide_eq_true_eq, List.all_eq_true, List.mem_range] at h
  have := h.2 x.toNat (by omega)
  rwa [Has_iff, Int.toNat_of_nonneg h0] at this
theorem perm_sub {α : Type} [DecidableEq α] : ∀ {l m : List α}, l.Nodup → (∀ x ∈ l, x ∈ m) → m.length ≤ l.length → m.Perm l
  | [], m, _, _, h => by
    rw [List.length_nil, Nat.le_zero] at h
    rw [List.eq_nil_of_length_eq_zero h]
  | a :: l, m, hn, hs, h => by
    rw [List.nodup_cons] at hn
    have ha : a ∈ m := hs a (by simp)
    refine (List.perm_cons_erase ha).trans (List.Perm.cons a (perm_sub hn.2 (fun x hx => ?_) ?_))
    · have hne : x ≠ a := fun e => by subst e; exact hn.1 hx
      exact (List.mem_erase_of_ne hne).2 (hs x (by simp [hx]))
    · rw [List.length_erase_of_mem ha]; rw [List.length_cons] at h; omega
theorem ord_perm {T : List Int} (h : IsOrd T 6 = true) : T.Perm six :=
  perm_sub sixNodup (fun x hx => ord_has h ((mem_six x).1 hx).1 ((mem_six x).1 hx).2) (by rw [ord_len h]; decide)
theorem ord_nodup {T : List Int} (h : IsOrd T 6 = true) : T.Nodup := (ord_perm h).symm.nodup sixNodup
theorem toF_rg {T : List Int} (h : IsOrd T 6 = true) {x : Int} (h0 : 0 ≤ x) (h5 : x ≤ 5) : 0 ≤ toF T x ∧ toF T x ≤ 5 := by
  have hl := ord_len h
  have hm : toF T x ∈ T := getD_mem (by omega)
  exact (mem_six _).1 ((ord_perm h).mem_iff.1 hm)
theorem toF_inj {T : List Int} (h : IsOrd T 6 = true) {x y : Int} (hx0 : 0 ≤ x) (hx5 : x ≤ 5) (hy0 : 0 ≤ y) (hy5 : y ≤ 5) (e : toF T x = toF T y) : x = y := by
  have hl := ord_len h
  have := nodup_at (ord_nodup h) (i := x.toNat) (j := y.toNat) (by omega) (by omega) (by
    simpa [toF, List.getD, show x.toNat < T.length by omega, show y.toNat < T.length by omega] using e)
  omega
theorem nodup_mapF {T : List Int} (h : IsOrd T 6 = true) {G : List Int} (hn : G.Nodup) (hr : ∀ x ∈ G, 0 ≤ x ∧ x ≤ 5) : (G.map (toF T)).Nodup :=
  nodup_map_on hn fun x hx y hy e => toF_inj h (hr x hx).1 (hr x hx).2 (hr y hy).1 (hr y hy).2 e
theorem from_map {T : List Int} (h : IsOrd T 6 = true) {x : Int} (h0 : 0 ≤ x) (h5 : x ≤ 5) : ∀ {G : List Int}, (∀ y ∈ G, 0 ≤ y ∧ y ≤ 5) → from_ (toF T x) (G.map (toF T)) = (from_ x G).map (toF T)
  | [], _ => rfl
  | y :: G, hr => by
    have ih := from_map h h0 h5 (G := G) fun z hz => hr z (by simp [hz])
    obtain ⟨y0, y5⟩ := hr y (by simp)
    by_cases e : y = x
    · subst e; simp [from_]
    · have e' : ¬ toF T y = toF T x := fun e' => e (toF_inj h y0 y5 h0 h5 e')
      unfold from_ at ih ⊢
      simp [e, e'] at ih ⊢
      exact ih
theorem sorted_congr {l m : List Int} (h : ∀ x, x ∈ l ↔ x ∈ m) : sorted l = sorted m :=
  asc_int (sorted_pairwise l) (sorted_pairwise m) fun x => by rw [Snd.mem_sorted, Snd.mem_sorted, h x]
theorem good_ren {L : List (List Int)} (hg : Good L) {T : List Int} (h : IsOrd T 6 = true) : Good (L.map (List.map (toF T))) where
  n1 := by rw [List.length_map]; exact hg.n1
  n6 := by rw [List.length_map]; exact hg.n6
  ne := by
    intro s hs
    obtain ⟨r, hr, rfl⟩ := List.mem_map.1 hs
    intro e
    exact hg.ne r hr (List.map_eq_nil_iff.1 e)
  nd := by rw [← List.map_flatten]; exact nodup_mapF h hg.nd hg.rg
  rg := by
    rw [← List.map_flatten]
    intro z hz
    obtain ⟨x, hx, rfl⟩ := List.mem_map.1 hz
    exact toF_rg h (hg.rg x hx).1 (hg.rg x hx).2
  flat := by rw [← List.map_flatten, List.length_map]; exact hg.flat
  row := by
    intro s hs
    obtain ⟨r, hr, rfl⟩ := List.mem_map.1 hs
    rw [List.length_map]; exact hg.row r hr
theorem ren_classes {L : List (List Int)} (hg : Good L) {T : List Int} (h : IsOrd T 6 = true) :
    foldI ((classesS L).map fun c => sorted (c.map (toF T))) = classesS (L.map (List.map (toF T))) := by
  have hg' := good_ren hg h
  have h1 := fold_ins ((classesS L).map fun c => sorted (c.map (toF T))) (acc := []) List.Pairwise.nil
  have h2 := fold_ins ((namesR (L.map (List.map (toF T)))).map fun p => standL (L.map (List.map (toF T))) p.1 p.2) (acc := []) List.Pairwise.nil
  refine asc_unique LtL_irr LtL_tr h1.1 (by rw [classesS_eq hg']; exact h2.1) fun z => ?_
  rw [show (z ∈ foldI ((classesS L).map fun c => sorted (c.map (toF T))) ↔ _) from h1.2 z, mem_classesS hg']
  have ht : ∀ k, ((L.map (List.map (toF T))).take k).flatten = ((L.take k).flatten).map (toF T) := fun k => by rw [← List.map_take, List.map_flatten]
  have hrg : ∀ k, ∀ x ∈ (L.take k).flatten, 0 ≤ x ∧ x ≤ 5 := fun k x hx => hg.rg x (by
    obtain ⟨s, hs, hx⟩ := List.mem_flatten.1 hx
    exact List.mem_flatten.2 ⟨s, List.mem_of_mem_take hs, hx⟩)
  have key : ∀ G : List Int, (∀ x ∈ G, 0 ≤ x ∧ x ≤ 5) → sorted ((sorted G).map (toF T)) = sorted (G.map (toF T)) := fun G hG => by
    refine sorted_congr fun x => ?_
    simp only [List.mem_map, Snd.mem_sorted]
    exact ⟨fun ⟨y, ⟨h1, _⟩, e⟩ => ⟨y, h1, e⟩, fun ⟨y, h1, e⟩ => ⟨y, ⟨h1, hG y h1⟩, e⟩⟩
  have hfrom : ∀ x (G : List Int), ∀ y ∈ from_ x G, y ∈ G := fun x G y hy => by
    unfold from_ at hy
    exact (List.dropWhile_sublist _).subset hy
  simp only [List.not_mem_nil, false_or, List.mem_map]
  constructor
  · rintro ⟨c, hc, rfl⟩
    obtain ⟨x, y, hy, hx, rfl⟩ := (mem_classesS hg).1 hc
    refine ⟨toF T x, y, by rw [List.length_map]; exact hy, by rw [ht]; exact List.mem_map_of_mem hx, ?_⟩
    have hb := hrg _ x hx
    rw [ht, from_map h hb.1 hb.2 (hrg _), key _ fun y hy => hrg _ y (hfrom _ _ y hy)]
  · rintro ⟨x', y, hy, hx', rfl⟩
    rw [ht] at hx' ⊢
    rw [List.length_map] at hy
    obtain ⟨x, hx, rfl⟩ := List.mem_map.1 hx'
    refine ⟨_, (mem_classesS hg).2 ⟨x, y, hy, hx, rfl⟩, ?_⟩
    have hb := hrg _ x hx
    rw [from_map h hb.1 hb.2 (hrg _), key _ fun y hy => hrg _ y (hfrom _ _ y hy)]
theorem classesS_nodup {L : List (List Int)} (hg : Good L) : (classesS L).Nodup := by
  rw [classesS_eq hg]
  exact (fold_ins _ (acc := []) List.Pairwise.nil).1.imp fun h e => by subst e; exact LtL_irr _ h
theorem classes_rg {L : List (List Int)} (hg : Good L) {c : List Int} (hc : c ∈ classesS L) : ∀ x ∈ c, 0 ≤ x ∧ x ≤ 5 := by
  obtain ⟨x, y, hy, hx, rfl⟩ := (mem_classesS hg).1 hc
  intro z hz
  exact (Snd.mem_sorted.1 hz).2
theorem ren_inj {L : List (List Int)} (hg : Good L) {T : List Int} (h : IsOrd T 6 = true) {c d : List Int} (hc : c ∈ classesS L) (hd : d ∈ classesS L) (e : sorted (c.map (toF T)) = sorted (d.map (toF T))) : c = d := by
  have hs : ∀ {c}, c ∈ classesS L → c.Pairwise (· < ·) := fun {c} hc => by
    obtain ⟨x, y, hy, hx, rfl⟩ := (mem_classesS hg).1 hc
    exact sorted_pairwise _
  have key : ∀ {c}, c ∈ classesS L → ∀ x, 0 ≤ x → x ≤ 5 → (x ∈ c ↔ toF T x ∈ sorted (c.map (toF T))) := fun {c} hc x h0 h5 => by
    rw [Snd.mem_sorted, List.mem_map]
    constructor
    · exact fun hx => ⟨⟨x, hx, rfl⟩, toF_rg h h0 h5⟩
    · rintro ⟨⟨y, hy, e⟩, _⟩
      obtain ⟨y0, y5⟩ := classes_rg hg hc y hy
      rwa [← toF_inj h y0 y5 h0 h5 e]
  refine asc_int (hs hc) (hs hd) fun x => ⟨fun hx => ?_, fun hx => ?_⟩
  · obtain ⟨x0, x5⟩ := classes_rg hg hc x hx
    exact (key hd x x0 x5).2 (e ▸ (key hc x x0 x5).1 hx)
  · obtain ⟨x0, x5⟩ := classes_rg hg hd x hx
    exact (key hc x x0 x5).2 (e ▸ (key hd x x0 x5).1 hx)
theorem ren_classes_len {L : List (List Int)} (hg : Good L) {T : List Int} (h : IsOrd T 6 = true) : (classesS (L.map (List.map (toF T)))).length = (classesS L).length := by
  have hn : ((classesS L).map fun c => sorted (c.map (toF T))).Nodup := nodup_map_on (classesS_nodup hg) fun x hx y hy e => ren_inj hg h hx hy e
  rw [← ren_classes hg h, ← sortL_eq hn, List.length_mergeSort, List.length_map]
theorem ren_facts {L : List (List Int)} {T : List Int} (h : renErr L T = 0) : IsOrd T 6 = true ∧ validT L = 0 ∧ validT (renRes L T) = 0 ∧ (classesRes (renRes L T)).length = (classesRes L).length ∧
    foldI ((classesRes L).map fun c => sorted (c.map (toF T))) = classesRes (renRes L T) ∧ (∀ c ∈ classesRes L, c.length ≤ 6 ∧ ∀ x ∈ c, 0 ≤ x ∧ x ≤ 5) ∧ (classesRes L).length ≤ 3600 := by
  have hh := h
  unfold renErr at hh
  by_cases hv : validT L = 0
  · rw [if_pos hv] at hh
    cases hT : IsOrd T 6 with
    | false => rw [hT] at hh; simp at hh
    | true =>
      have hg := good_of hv
      have e : renRes L T = L.map (List.map (toF T)) := by rw [renRes, if_pos h]
      have hv2 : validT (L.map (List.map (toF T))) = 0 := valid_of (good_ren hg hT)
      rw [e]
      unfold classesRes
      rw [if_pos hv, if_pos hv2]
      refine ⟨rfl, hv, hv2, ren_classes_len hg hT, ren_classes hg hT, fun c hc => ⟨?_, classes_rg hg hc⟩, ?_⟩
      · obtain ⟨x, y, hy, hx, rfl⟩ := (mem_classesS hg).1 hc
        exact Nat.le_trans (List.length_filter_le _ _) (by decide)
      · rw [classes_len, namesS_eq hg]; exact namesR_len hg
  · rw [if_neg hv] at hh; exact absurd hh hv
end Go.Proofs.Ytoopgmoopmbfnaa
