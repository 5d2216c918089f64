import Derived.Test.YtoopgmoopmbfnaaGreatRf2
import Derived.Test.YtoopgmoopmbfnaaGreatSn3
import Derived.Test.YtoopgmoopmbfnaaGreatSn4
import Derived.Test.YtoopgmoopmbfnaaGreatShelfB
namespace Go.Proofs.Kv
open Go.RowKit
section
variable {P : Program} (w : World)
/-- append of one value of one cell, which lies in a new block -/
theorem wpList_push_val {ops : Array Oper} {rest : List Oper} {o : Oper} {a : Act} {Q : Exit → Act → World → Prop} (hgd : o.guard = none) (s x : Operand) (t : TypeId)
    (ho : o.op = .call { callee := .builtin .append, args := #[s, x], argTypes := #[t, t] })
    (base : Nat) (e : TypeId) (i : TypeInfo) {z : Value} {by_ : Nat} (ht : P.underlying t = some (.slice e)) (hi : P.info? e = some i) (hz : i.zero = some z) (hzc : z.cells.size = 1) (hsize : i.size = 1) (hby : i.bytes = by_) (hb0 : by_ ≤ 24)
    (v : Value) (n : Nat) (xs : List Value) (hs : a.eval s = v) (hown : w.ownsRow base e 1 v n xs)
    (u : Value) (hu : u.oneCell' = true) (E : TypeId) (hx : a.eval x = .slice (some ⟨w.heap.size, 0, none⟩) 1 1) (hsm : n + 1 ≤ 1000000) (hbase : base ≤ w.heap.size)
    (h : ∀ v' w', w'.ownsRow base e 1 v' (n + 1) (xs ++ [u]) → (w.alloc (.cells #[u] E)).grownBy w' v.ownBlock → wpList P ops Q rest (a.put o.dst v') w') :
    wpList P ops Q (o :: rest) a (w.alloc (.cells #[u] E)) := by
  have hm : (n + 1) * by_ ≤ 1000000 * 24 := Nat.mul_le_mul hsm hb0
  refine wpList_append_own _ hgd s x t ho base e i z 1 by_ ht hi hz hsize hby hzc (by omega) v n xs hs (hown.alloc _) ⟨w.heap.size, 0, none⟩ 1 1 [u] hx rfl ?_
    (by intro u' hu'; rw [List.mem_singleton] at hu'; subst hu'; exact hu) (by unfold maxLen; omega) (by omega) (le_alloc hbase) fun v' w' h1 h2 _ => h v' w' h1 h2
  intro j u' hu'
  have hj : j = 0 := by
    rcases Nat.eq_zero_or_pos j with h | h
    · exact h
    · rw [List.getElem?_eq_none (by simp; omega)] at hu'; cases hu'
  subst hj
  simp at hu'; subst hu'
  show (w.alloc _).cell? ⟨w.heap.size, 0, none⟩ = _
  rw [World.cell?_alloc_at _ _ _ _ (by rfl)]; rfl
end

/-- parts of a list, each up to the next one of the ends -/
def cutF (l : List Int) : Nat → List Nat → List (List Int)
  | _, [] => []
  | f, e :: N => (l.take e).drop f :: cutF l e N
/-- the slices of a row that hold these parts -/
def cutV (b off : Nat) : Nat → List Nat → List Value
  | _, [] => []
  | f, e :: N => .slice (some ⟨b, off + f, none⟩) (e - f) (e - f) :: cutV b off e N
def lastF (f : Nat) (N : List Nat) : Nat := N.getLastD f
/-- the ends come one behind the other -/
def Asc (m : Nat) : Nat → List Nat → Prop
  | _, [] => True
  | f, e :: N => f < e ∧ e ≤ m ∧ Asc m e N
theorem cutF_len (l : List Int) : ∀ (f : Nat) (N : List Nat), (cutF l f N).length = N.length
  | _, [] => rfl
  | _, e :: N => by rw [cutF, List.length_cons, cutF_len l e N, List.length_cons]
theorem cutV_len (b off : Nat) : ∀ (f : Nat) (N : List Nat), (cutV b off f N).length = N.length
  | _, [] => rfl
  | _, e :: N => by rw [cutV, List.length_cons, cutV_len b off e N, List.length_cons]
theorem cutV_snoc (b off : Nat) : ∀ (f : Nat) (N : List Nat) (e : Nat), cutV b off f (N ++ [e]) = cutV b off f N ++ [.slice (some ⟨b, off + lastF f N, none⟩) (e - lastF f N) (e - lastF f N)]
  | f, [], e => rfl
  | f, x :: N, e => by
    rw [List.cons_append, cutV, cutV, cutV_snoc b off x N e, List.cons_append]
    have : lastF f (x :: N) = lastF x N := by
      unfold lastF
      cases N with
      | nil => rfl
      | cons y N => rw [List.getLastD_cons, List.getLastD_cons]
    rw [this]
theorem lastF_snoc (f : Nat) (N : List Nat) (e : Nat) : lastF f (N ++ [e]) = e := by
  unfold lastF; rw [List.getLastD_eq_getLast?]; simp
theorem asc_at {m : Nat} : ∀ {f : Nat} {N : List Nat}, Asc m f N → ∀ k, k < N.length → lastF f (N.take k) < N.getD k 0 ∧ N.getD k 0 ≤ m
  | f, e :: N, h, 0, _ => ⟨h.1, h.2.1⟩
  | f, e :: N, h, k + 1, hk => by
    have := asc_at h.2.2 k (by simpa using hk)
    have hl : lastF f ((e :: N).take (k + 1)) = lastF e (N.take k) := by
      rw [List.take_succ_cons]
      unfold lastF
      cases N.take k with
      | nil => rfl
      | cons y N => rw [List.getLastD_cons, List.getLastD_cons]
    rw [hl]
    exact this
theorem cutV_at {w : World} {b off n c : Nat} {l : List Int} (h : IntsAt w (some ⟨b, off, none⟩) n c l) : ∀ {f : Nat} {N : List Nat}, Asc n f N → ∀ i, i < N.length →
    ∃ o m, (cutV b off f N)[i]? = some (.slice (some ⟨b, o, none⟩) m m) ∧ IntsAt w (some ⟨b, o, none⟩) m m ((cutF l f N).getD i []) ∧ 0 < m ∧ off ≤ o ∧ o + m ≤ off + n
  | f, e :: N, ha, 0, _ => by
    have hl := h.len
    obtain ⟨h1, h2, _⟩ := ha
    refine ⟨off + f, e - f, rfl, ⟨?_, Nat.le_refl _, ?_, fun i hi => ?_⟩, by omega, by omega, by omega⟩
    · show ((l.take e).drop f).length = _
      rw [List.length_drop, List.length_take]; omega
    · have := h.le; have := h.small; omega
    · obtain ⟨b', off', e1, hb, hc⟩ := h.cells (f + i) (by omega)
      injection e1 with e1; injection e1 with q1 q2
      subst q1; subst q2
      refine ⟨b, off + f, rfl, hb, ?_⟩
      rw [Nat.add_assoc, hc]
      show _ = some (Value.int .i64 (((l.take e).drop f).getD i 0))
      simp [List.getD, show f + i < e by omega]
  | f, e :: N, ha, i + 1, hi => by
    obtain ⟨o, m, h1, h2, h3⟩ := cutV_at h ha.2.2 i (by simpa using hi)
    exact ⟨o, m, by rw [cutV, List.getElem?_cons_succ]; exact h1, by rw [cutF]; simpa [List.getD] using h2, h3⟩
/-- a row of such slices reads as the parts -/
theorem ownL_cut {E : TypeId} {w : World} {B b off n c : Nat} {v : Value} {l : List Int} {N : List Nat} (hown : w.ownsRow B E 1 v N.length (cutV b off 0 N)) (h : IntsAt w (some ⟨b, off, none⟩) n c l) (ha : Asc n 0 N) (hne : v.ownBlock ≠ some b) : OwnL E w B v (cutF l 0 N) := by
  refine ⟨cutV b off 0 N, by rw [cutF_len]; exact hown, fun i hi => ?_⟩
  rw [cutF_len] at hi
  obtain ⟨o, m, h1, h2, _⟩ := cutV_at h ha i hi
  exact ⟨_, _, _, h1, h2, fun b' off' _ e => by injection e with e; injection e with q1; rw [← q1]; exact hne⟩
end Go.Proofs.Kv
namespace Go.Proofs.YtoopgmoopmbfnaaGreat
open Go.RowKit Go.Proofs.Kv Go.Proofs.Snd

/-! ### rowEnds -/
def endsN (L : List (List Int)) (k : Nat) : List Nat := (List.range k).map fun i => (L.take (i + 1)).flatten.length
def endsI (L : List (List Int)) (k : Nat) : List Int := (endsN L k).map fun x : Nat => (x : Int)
theorem endsN_snoc (L : List (List Int)) (k : Nat) : endsN L (k + 1) = endsN L k ++ [(L.take (k + 1)).flatten.length] := by simp [endsN, List.range_succ]
theorem endsI_snoc (L : List (List Int)) (k : Nat) : endsI L (k + 1) = endsI L k ++ [((L.take (k + 1)).flatten.length : Int)] := by simp [endsI, endsN_snoc]
theorem endsI_len (L : List (List Int)) (k : Nat) : (endsI L k).length = k := by simp [endsI, endsN]
/-! ### cut -/
set_option maxRecDepth 100000 in
theorem cut_calls (b off n c : Nat) (l : List Int) (a' : Option Addr) (n' c' : Nat) (N : List Nat) (w : World) (h : IntsAt w (some ⟨b, off, none⟩) n c l) (h' : IntsAt w a' n' c' (N.map fun x : Nat => (x : Int))) (ha : Asc n 0 N) (hn : n' ≤ 1000) :
    Calls Tryz.prog 15 #[.slice (some ⟨b, off, none⟩) n c, .slice a' n' c'] w fun e w' => ∃ v, e = .returned v ∧ w'.ownsRow w.heap.size 33 1 v N.length (cutV b off 0 N) ∧ Below w.heap.size w w' := by
  obtain ⟨i0, hi0, hz0, hz1, hz2⟩ := info_parts Tryz.infoInts
  have hnc := h.le
  have hc9 := h.small
  have hNl : N.length = n' := by simpa using h'.len
  have Hat := hid_ (asc_at ha)
  clear h ha
  go_enter Tryz.func15, Tryz.ntmps15
  go_wp2
  go_loopw [5, 6, 11] (fun v f i wr => ∃ k : Nat, k ≤ n' ∧ i = .int .i64 k ∧ f = .int .i64 (lastF 0 (N.take k)) ∧ wr.ownsRow w.heap.size 33 1 v k (cutV b off 0 (N.take k)) ∧ Below w.heap.size w wr) (fun _ _ i _ => n' - (intOf i).toNat)
  case atStart => exact ⟨0, Nat.zero_le _, rfl, rfl, World.ownsRow_nil _ _ _ _, Below.refl _ _⟩
  case round =>
    obtain ⟨k, hk, rfl, rfl, hown, hbel⟩ := hrel
    by_cases hlt : k < n'
    · obtain ⟨b1, off1, rfl, hb1, hc1⟩ := (h'.below hbel (Nat.le_refl _)).cells k hlt
      obtain ⟨g1, g2⟩ := Hat.out k (by omega)
      have hkN : k < N.length := by omega
      have hcast : (N.map fun x : Nat => (x : Int)).getD k 0 = (N.getD k 0 : Nat) := by simp [List.getD, List.getElem?_eq_getElem hkN]
      rw [hcast] at hc1
      have Hsn : Hid (cutV b off 0 (N.take (k + 1)) = cutV b off 0 (N.take k) ++ [.slice (some ⟨b, off + lastF 0 (N.take k), none⟩) (N.getD k 0 - lastF 0 (N.take k)) (N.getD k 0 - lastF 0 (N.take k))]) := hid_ (by
        rw [Kv.take_snoc N 0 k hkN, cutV_snoc])
      have Hl : Hid (lastF 0 (N.take (k + 1)) = N.getD k 0) := hid_ (by rw [Kv.take_snoc N 0 k hkN, lastF_snoc])
      have hsz := hbel.size
      have hkk : k + 1 ≤ 1000000 := by omega
      clear hcast hkN hNl
      generalize lastF 0 (N.take k) = f at g1 Hsn
      generalize N.getD k 0 = e at g1 g2 hc1 Hsn Hl
      have hq1 : f ≤ e := by omega
      have hq2 : e ≤ c := by omega
      have hq3 : ¬ c = f := by omega
      have hq4 : ¬ e = f := by omega
      go_wp2_with (at_builtin; refine wpList_push_val _ rfl (.tmp 15) (.tmp 21) _ rfl w.heap.size 33 i0 Tryz.underlying22 hi0 hz0 rfl hz1 hz2 (by omega) _ k _ rfl hown (.slice (some ⟨b, off + f, none⟩) (e - f) (e - f)) rfl 33 rfl hkk hsz ?_; intro v' w1 hown1 hg1)
      go_roundw
      case rel => exact ⟨k + 1, by omega, by go_num, by rw [Hl.out], by rw [Hsn.out]; exact hown1, (hbel.alloc hsz _).grown hg1 (le_alloc hsz) fun r e => (hown.lt r e).1⟩
      case measure => simp [intOf]; omega
    · obtain rfl : k = n' := by omega
      rw [List.take_of_length_le (by omega)] at hown
      go_wp2
      go_ret
      exact ⟨_, rfl, by rw [hNl]; exact hown, hbel⟩
end Go.Proofs.YtoopgmoopmbfnaaGreat
namespace Go.Proofs.Kv
open Go.RowKit
theorem own_setCells_at {B e size n g cap : Nat} : ∀ (vs : List Value) (o : Nat) {w : World} {xs : List Value}, w.ownsRow B e size (.slice (some ⟨g, 0, none⟩) n cap) n xs → o + vs.length ≤ xs.length →
    (w.setCells g o vs).ownsRow B e size (.slice (some ⟨g, 0, none⟩) n cap) n (xs.take o ++ vs ++ xs.drop (o + vs.length)) ∧ w.grownBy (w.setCells g o vs) (some g)
  | [], o, w, xs, h, _ => ⟨by simpa [World.setCells] using h, World.grownBy.refl w _⟩
  | v :: vs, o, w, xs, h, hl => by
    obtain ⟨h1, h2⟩ := h.stored o v
    rw [List.length_cons] at hl
    obtain ⟨h3, h4⟩ := own_setCells_at vs (o + 1) h1 (by simp; omega)
    refine ⟨?_, h2.trans h4⟩
    have e : (xs.set o v).take (o + 1) ++ vs ++ (xs.set o v).drop (o + 1 + vs.length) = xs.take o ++ v :: vs ++ xs.drop (o + (v :: vs).length) := by
      have e1 : (xs.set o v).take (o + 1) = xs.take o ++ [v] := by
        rw [Kv.take_snoc _ v o (by simp; omega), List.take_set, List.set_eq_of_length_le (by rw [List.length_take]; omega)]
        simp [List.getD, show o < xs.length by omega]
      have e2 : o + (v :: vs).length = o + 1 + vs.length := by rw [List.length_cons]; omega
      rw [e1, List.drop_set_of_lt (by omega), e2]
      simp
    rw [← e]; exact h3
theorem own_form {B e size n : Nat} {v : Value} {w : World} {xs : List Value} (h : w.ownsRow B e size v n xs) (h0 : 0 < n) : ∃ g cap, v = .slice (some ⟨g, 0, none⟩) n cap ∧ n ≤ cap ∧ cap ≤ 9223372036854775807 ∧ B ≤ g ∧ g < w.heap.size := by
  rcases h.2 with ⟨_, rfl⟩ | ⟨g, cap, cur, rfl, hb, hg, hnc, hm, _⟩
  · omega
  · exact ⟨g, cap, rfl, hnc, by unfold maxLen at hm; omega, hb, (Array.getElem?_eq_some_iff.1 hg).1⟩
theorem below_setCells {B : Nat} {a w : World} (h : Below B a w) {g : Nat} (hg : B ≤ g) : ∀ (vs : List Value) (o : Nat), Below B a (w.setCells g o vs)
  | [], _ => h
  | v :: vs, o => below_setCells (h.setCell (p := ⟨g, o, none⟩) hg v) hg vs (o + 1)
end Go.Proofs.Kv
namespace Go.Proofs.YtoopgmoopmbfnaaGreat
open Go.RowKit Go.Proofs.Kv Go.Proofs.Snd

/-! ### slices.Delete of one number of an own row -/
/-! ### rows and their ends -/
def endsF (f : Nat) : List (List Int) → List Nat
  | [] => []
  | r :: L => (f + r.length) :: endsF (f + r.length) L
theorem endsF_eq : ∀ (f : Nat) (L : List (List Int)), endsF f L = (List.range L.length).map fun i => f + (L.take (i + 1)).flatten.length
  | _, [] => rfl
  | f, r :: L => by
    rw [endsF, endsF_eq (f + r.length) L, List.length_cons, List.range_succ_eq_map, List.map_cons, List.map_map]
    congr 1
    · simp
    · apply List.map_congr_left
      intro i _
      simp; omega
theorem endsN_eq (L : List (List Int)) : endsN L L.length = endsF 0 L := by rw [endsF_eq]; simp [endsN]
theorem endsF_append : ∀ (f : Nat) (A B : List (List Int)), endsF f (A ++ B) = endsF f A ++ endsF (f + A.flatten.length) B
  | f, [], B => by simp [endsF]
  | f, r :: A, B => by
    rw [List.cons_append, endsF, endsF, endsF_append (f + r.length) A B, List.cons_append]
    congr 2
    rw [List.flatten_cons, List.length_append, Nat.add_assoc]
theorem endsF_len : ∀ (f : Nat) (L : List (List Int)), (endsF f L).length = L.length
  | _, [] => rfl
  | f, r :: L => by rw [endsF, List.length_cons, endsF_len, List.length_cons]
theorem cutF_ends : ∀ (L : List (List Int)) (p : List Int), cutF (p ++ L.flatten) p.length (endsF p.length L) = L
  | [], _ => rfl
  | r :: L, p => by
    rw [endsF, cutF, List.flatten_cons]
    have h := cutF_ends L (p ++ r)
    rw [List.length_append, List.append_assoc] at h
    rw [h]
    congr 1
    rw [← List.append_assoc, ← List.length_append, List.take_left' rfl, List.drop_left' rfl]
theorem cut_ends (L : List (List Int)) : cutF L.flatten 0 (endsF 0 L) = L := cutF_ends L []
theorem asc_ends : ∀ (L : List (List Int)) (f m : Nat), (∀ r ∈ L, r ≠ []) → f + L.flatten.length ≤ m → Asc m f (endsF f L)
  | [], _, _, _, _ => trivial
  | r :: L, f, m, h, hm => by
    rw [List.flatten_cons, List.length_append] at hm
    have := List.length_pos_iff.2 (h r (by simp))
    exact ⟨by omega, by omega, asc_ends L _ _ (fun x hx => h x (by simp [hx])) (by omega)⟩
/-- two rows made one -/
def joinL (L : List (List Int)) (r : Nat) : List (List Int) := L.take r ++ ((L.getD r [] ++ L.getD (r + 1) []) :: L.drop (r + 2))
theorem split_two {L : List (List Int)} {r : Nat} (h : r + 1 < L.length) : L = L.take r ++ (L.getD r [] :: L.getD (r + 1) [] :: L.drop (r + 2)) := by
  have e1 : L.drop r = L.getD r [] :: L.drop (r + 1) := by
    rw [List.drop_eq_getElem_cons (by omega)]; simp [List.getD, show r < L.length by omega]
  have e2 : L.drop (r + 1) = L.getD (r + 1) [] :: L.drop (r + 2) := by
    rw [List.drop_eq_getElem_cons h]; simp [List.getD, h]
  rw [← e2, ← e1, List.take_append_drop]
theorem joinL_flat {L : List (List Int)} {r : Nat} (h : r + 1 < L.length) : (joinL L r).flatten = L.flatten := by
  have e := congrArg List.flatten (split_two h)
  rw [e, joinL]; simp
theorem joinL_ends {L : List (List Int)} {r : Nat} (h : r + 1 < L.length) : endsF 0 (joinL L r) = (endsF 0 L).take r ++ (endsF 0 L).drop (r + 1) := by
  have e := congrArg (endsF 0) (split_two h)
  rw [endsF_append, endsF, endsF] at e
  have hl : (endsF 0 (L.take r)).length = r := by rw [endsF_len, List.length_take]; omega
  rw [e, List.take_left' hl, joinL, endsF_append, endsF]
  congr 1
  have hd : ∀ (A B : List Nat) (x y : Nat), A.length = r → (A ++ x :: y :: B).drop (r + 1) = y :: B := fun A B x y ha => by
    rw [← List.drop_drop, List.drop_left' ha]; rfl
  rw [hd _ _ _ _ hl, List.length_append]
  simp only [Nat.add_assoc]

/-! ### Join -/
def joinErr (L : List (List Int)) (r : Int) : Int := if validT L = 0 then (if r < 0 ∨ (L.length : Int) - 1 ≤ r then 4 else 0) else validT L
def joinRes (L : List (List Int)) (r : Int) : List (List Int) := if joinErr L r = 0 then joinL L r.toNat else []
end Go.Proofs.YtoopgmoopmbfnaaGreat
namespace Go.Proofs.YtoopgmoopmbfnaaGreat
open Go.RowKit Go.Proofs.Kv Go.Proofs.Snd

/-! ### the classes of a joined table -/
theorem valid_of {L : List (List Int)} (h : Good L) : validT L = 0 := by
  unfold validT
  rw [if_neg (by have := h.n1; have := h.n6; omega)]
  have h1 : L.all okRow = true := List.all_eq_true.2 fun r hr => by
    unfold okRow
    rw [Bool.and_eq_true]
    refine ⟨by simpa using h.ne r hr, List.all_eq_true.2 fun x hx => ?_⟩
    obtain ⟨a, b⟩ := h.rg x (List.mem_flatten.2 ⟨r, hr, hx⟩)
    unfold okS; simp [a, b]
  rw [h1, if_neg (by simp), (dup_iff _).2 h.nd]; rfl
theorem joinL_len {L : List (List Int)} {r : Nat} (h : r + 1 < L.length) : (joinL L r).length = L.length - 1 := by
  unfold joinL
  rw [List.length_append, List.length_take, List.length_cons, List.length_drop]; omega
theorem joinL_ne {L : List (List Int)} (hn : ∀ s ∈ L, s ≠ []) {r : Nat} (h : r + 1 < L.length) : ∀ s ∈ joinL L r, s ≠ [] := by
  intro x hx
  unfold joinL at hx
  rcases List.mem_append.1 hx with hx | hx
  · exact hn x (List.mem_of_mem_take hx)
  · rcases List.mem_cons.1 hx with hx | hx
    · rw [hx]
      intro e
      have e1 := (List.append_eq_nil_iff.1 e).1
      exact hn (L.getD r []) (by rw [List.getD, List.getElem?_eq_getElem (by omega), Option.getD_some]; exact List.getElem_mem _) e1
    · exact hn x (List.mem_of_mem_drop hx)
theorem good_join {L : List (List Int)} (hg : Good L) {r : Nat} (h : r + 1 < L.length) : Good (joinL L r) where
  n1 := by rw [joinL_len h]; omega
  n6 := by have := hg.n6; rw [joinL_len h]; omega
  ne := joinL_ne hg.ne h
  nd := by rw [joinL_flat h]; exact hg.nd
  rg := by rw [joinL_flat h]; exact hg.rg
  flat := by rw [joinL_flat h]; exact hg.flat
  row := fun s hs => by
    have h1 := (List.sublist_flatten_of_mem hs).length_le
    rw [joinL_flat h] at h1
    exact Nat.le_trans h1 hg.flat
theorem join_take {L : List (List Int)} {r y : Nat} (h : r + 1 < L.length) (hy : y + 1 < L.length) : ∃ z, z < L.length ∧ ((joinL L r).take (y + 1)).flatten = (L.take (z + 1)).flatten := by
  have hl : (L.take r).length = r := by rw [List.length_take]; omega
  by_cases hyr : y < r
  · refine ⟨y, by omega, ?_⟩
    rw [joinL, List.take_append_of_le_length (by omega), List.take_take, Nat.min_eq_left (by omega)]
  · refine ⟨y + 1, by omega, ?_⟩
    obtain ⟨d, rfl⟩ : ∃ d, y = r + d := ⟨y - r, by omega⟩
    have e := congrArg (fun M => (M.take (r + d + 1 + 1)).flatten) (split_two h)
    refine Eq.trans ?_ e.symm
    show ((joinL L r).take (r + d + 1)).flatten = ((L.take r ++ (L.getD r [] :: L.getD (r + 1) [] :: L.drop (r + 2))).take (r + d + 1 + 1)).flatten
    rw [joinL, List.take_append, List.take_append, hl, show r + d + 1 - r = d + 1 by omega, show r + d + 1 + 1 - r = d + 1 + 1 by omega, List.take_succ_cons, List.take_succ_cons, List.take_succ_cons,
      List.take_of_length_le (show (L.take r).length ≤ r + d + 1 by omega), List.take_of_length_le (show (L.take r).length ≤ r + d + 1 + 1 by omega)]
    simp
theorem names_of {L : List (List Int)} (hg : Good L) {x : Int} {y : Nat} (hy : y < L.length) (hx : x ∈ (L.take (y + 1)).flatten) : (x, (y : Int)) ∈ namesR L := by
  rw [mem_namesR hg, mem_rkTo]
  obtain ⟨s, hs, hxs⟩ := List.mem_flatten.1 hx
  obtain ⟨i, hi, rfl⟩ := List.mem_iff_getElem.1 hs
  rw [List.length_take] at hi
  refine ⟨i, by omega, x, ?_, y, hy, by omega, rfl⟩
  rw [getD_at (by omega)]
  rw [List.getElem_take] at hxs
  exact hxs
theorem mem_classesS {L : List (List Int)} (hg : Good L) {c : List Int} : c ∈ classesS L ↔ ∃ (x : Int) (y : Nat), y < L.length ∧ x ∈ (L.take (y + 1)).flatten ∧ c = sorted (from_ x (L.take (y + 1)).flatten) := by
  unfold classesS
  rw [List.mem_mergeSort, namesS_eq hg, List.mem_map]
  constructor
  · rintro ⟨p, hp, rfl⟩
    obtain ⟨y, e, hy, hx⟩ := names_in hp hg
    exact ⟨p.1, y, hy, hx, by unfold standL; rw [e]; rfl⟩
  · rintro ⟨x, y, hy, hx, rfl⟩
    exact ⟨(x, (y : Int)), names_of hg hy hx, rfl⟩
theorem join_classes {L : List (List Int)} (hg : Good L) {r : Nat} (h : r + 1 < L.length) : ∀ c ∈ classesS (joinL L r), c ∈ classesS L := by
  intro c hc
  obtain ⟨x, y, hy, hx, rfl⟩ := (mem_classesS (good_join hg h)).1 hc
  rw [joinL_len h] at hy
  obtain ⟨z, hz, e⟩ := join_take h (y := y) (by omega)
  rw [e] at hx ⊢
  exact (mem_classesS hg).2 ⟨x, z, hz, hx, rfl⟩

/-! ### a row made two -/
def splitL (L : List (List Int)) (r p : Nat) : List (List Int) := L.take r ++ ((L.getD r []).take p :: (L.getD r []).drop p :: L.drop (r + 1))
theorem split_one {L : List (List Int)} {r : Nat} (h : r < L.length) : L = L.take r ++ (L.getD r [] :: L.drop (r + 1)) := by
  have e1 : L.drop r = L.getD r [] :: L.drop (r + 1) := by
    rw [List.drop_eq_getElem_cons h]; simp [List.getD, h]
  rw [← e1, List.take_append_drop]
theorem splitL_len {L : List (List Int)} {r p : Nat} (h : r < L.length) : (splitL L r p).length = L.length + 1 := by
  unfold splitL
  rw [List.length_append, List.length_take, List.length_cons, List.length_cons, List.length_drop]; omega
theorem splitL_flat {L : List (List Int)} {r p : Nat} (h : r < L.length) : (splitL L r p).flatten = L.flatten := by
  have e := congrArg List.flatten (split_one h)
  refine Eq.trans ?_ e.symm
  unfold splitL
  simp only [List.flatten_append, List.flatten_cons, ← List.append_assoc, List.take_append_drop]
  first | done | rw [List.append_assoc (L.take r).flatten, List.take_append_drop]
theorem good_split {L : List (List Int)} (hg : Good L) {r p : Nat} (h : r < L.length) (h6 : L.length < 6) (h0 : 0 < p) (hp : p < (L.getD r []).length) : Good (splitL L r p) where
  n1 := by rw [splitL_len h]; omega
  n6 := by rw [splitL_len h]; omega
  ne := by
    intro x hx
    unfold splitL at hx
    rcases List.mem_append.1 hx with hx | hx
    · exact hg.ne x (List.mem_of_mem_take hx)
    · rcases List.mem_cons.1 hx with hx | hx
      · rw [hx]; exact List.ne_nil_of_length_pos (by rw [List.length_take]; omega)
      · rcases List.mem_cons.1 hx with hx | hx
        · rw [hx]; exact List.ne_nil_of_length_pos (by rw [List.length_drop]; omega)
        · exact hg.ne x (List.mem_of_mem_drop hx)
  nd := by rw [splitL_flat h]; exact hg.nd
  rg := by rw [splitL_flat h]; exact hg.rg
  flat := by rw [splitL_flat h]; exact hg.flat
  row := fun s hs => by
    have h1 := (List.sublist_flatten_of_mem hs).length_le
    rw [splitL_flat h] at h1
    exact Nat.le_trans h1 hg.flat
theorem join_split {L : List (List Int)} {r p : Nat} (h : r < L.length) : joinL (splitL L r p) r = L := by
  have hl : (L.take r).length = r := by rw [List.length_take]; omega
  unfold joinL splitL
  refine Eq.trans ?_ (split_one h).symm
  have e1 : (L.take r ++ ((L.getD r []).take p :: (L.getD r []).drop p :: L.drop (r + 1))).take r = L.take r := List.take_left' hl
  have e2 : (L.take r ++ ((L.getD r []).take p :: (L.getD r []).drop p :: L.drop (r + 1))).getD r [] = (L.getD r []).take p := by
    rw [List.getD, List.getElem?_append_right (by omega), hl, Nat.sub_self]; rfl
  have e3 : (L.take r ++ ((L.getD r []).take p :: (L.getD r []).drop p :: L.drop (r + 1))).getD (r + 1) [] = (L.getD r []).drop p := by
    rw [List.getD, List.getElem?_append_right (by omega), hl, show r + 1 - r = 1 by omega]; rfl
  have e4 : (L.take r ++ ((L.getD r []).take p :: (L.getD r []).drop p :: L.drop (r + 1))).drop (r + 2) = L.drop (r + 1) := by
    rw [← List.drop_drop, List.drop_left' hl]; rfl
  rw [e1, e2, e3, e4, List.take_append_drop]
theorem split_classes {L : List (List Int)} (hg : Good L) {r p : Nat} (h : r < L.length) (h6 : L.length < 6) (h0 : 0 < p) (hp : p < (L.getD r []).length) : ∀ c ∈ classesS L, c ∈ classesS (splitL L r p) := by
  intro c hc
  have := join_classes (good_split hg h h6 h0 hp) (r := r) (by rw [splitL_len h]; omega) c
  rw [join_split h] at this
  exact this hc
theorem splitL_ends {L : List (List Int)} {r p : Nat} (h : r < L.length) (hp : p ≤ (L.getD r []).length) : endsF 0 (splitL L r p) = (endsF 0 L).take r ++ (((L.take r).flatten.length + p) :: (endsF 0 L).drop r) := by
  have e := congrArg (endsF 0) (split_one h)
  rw [endsF_append, endsF] at e
  have hl : (endsF 0 (L.take r)).length = r := by rw [endsF_len, List.length_take]; omega
  rw [e, List.take_left' hl, List.drop_left' hl, splitL, endsF_append, endsF, endsF, List.length_take, List.length_drop, Nat.min_eq_left hp, Nat.zero_add, show (L.take r).flatten.length + p + ((L.getD r []).length - p) = (L.take r).flatten.length + (L.getD r []).length by omega]
end Go.Proofs.YtoopgmoopmbfnaaGreat
