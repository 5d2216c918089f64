import Derived.Test.YtoopgmoopmbfnaaRf2
import Derived.Test.YtoopgmoopmbfnaaSn3
import Derived.Test.YtoopgmoopmbfnaaSn4
import Derived.Test.YtoopgmoopmbfnaaShelfB
namespace Go.Proofs.Kv
open Go.RowKit
section
variable {P : Program} (w : World)
/-- append of one value of one cell, which lies in a new block -/
theorem wpList_push_val {ops : Array Oper} {rest : List Oper} {o : Oper} {a : Act} {Q : Exit → Act → World → Prop} (hgd : o.guard = none) (s x : Operand) (t : TypeId)
    (ho : o.op = .call { callee := .builtin .append, args := #[s, x], argTypes := #[t, t] })
    (base : Nat) (e : TypeId) (i : TypeInfo) {z : Value} {by_ : Nat} (ht : P.underlying t = some (.slice e)) (hi : P.info? e = some i) (hz : i.zero = some z) (hzc : z.cells.size = 1) (hsize : i.size = 1) (hby : i.bytes = by_) (hb0 : by_ ≤ 24)
    (v : Value) (n : Nat) (xs : List Value) (hs : a.eval s = v) (hown : w.ownsRow base e 1 v n xs)
    (u : Value) (hu : u.oneCell' = true) (E : TypeId) (hx : a.eval x = .slice (some ⟨w.heap.size, 0, none⟩) 1 1) (hsm : n + 1 ≤ 1000000) (hbase : base ≤ w.heap.size)
    (h : ∀ v' w', w'.ownsRow base e 1 v' (n + 1) (xs ++ [u]) → (w.alloc (.cells #[u] E)).grownBy w' v.ownBlock → wpList P ops Q rest (a.put o.dst v') w') :
    wpList P ops Q (o :: rest) a (w.alloc (.cells #[u] E)) := by
  have hm : (n + 1) * by_ ≤ 1000000 * 24 := Nat.mul_le_mul hsm hb0
  refine wpList_append_own _ hgd s x t ho base e i z 1 by_ ht hi hz hsize hby hzc (by omega) v n xs hs (hown.alloc _) ⟨w.heap.size, 0, none⟩ 1 1 [u] hx rfl ?_
    (by intro u' hu'; rw [List.mem_singleton] at hu'; subst hu'; exact hu) (by unfold maxLen; omega) (by omega) (le_alloc hbase) fun v' w' h1 h2 _ => h v' w' h1 h2
  intro j u' hu'
  have hj : j = 0 := by
    rcases Nat.eq_zero_or_pos j with h | h
    · exact h
    · rw [List.getElem?_eq_none (by simp; omega)] at hu'; cases hu'
  subst hj
  simp at hu'; subst hu'
  show (w.alloc _).cell? ⟨w.heap.size, 0, none⟩ = _
  rw [World.cell?_alloc_at _ _ _ _ (by rfl)]; rfl
end

/-- parts of a list, each up to the next one of the ends -/
def cutF (l : List Int) : Nat → List Nat → List (List Int)
  | _, [] => []
  | f, e :: N => (l.take e).drop f :: cutF l e N
/-- the slices of a row that hold these parts -/
def cutV (b off : Nat) : Nat → List Nat → List Value
  | _, [] => []
  | f, e :: N => .slice (some ⟨b, off + f, none⟩) (e - f) (e - f) :: cutV b off e N
def lastF (f : Nat) (N : List Nat) : Nat := N.getLastD f
/-- the ends come one behind the other -/
def Asc (m : Nat) : Nat → List Nat → Prop
  | _, [] => True
  | f, e :: N => f < e ∧ e ≤ m ∧ Asc m e N
theorem cutF_len (l : List Int) : ∀ (f : Nat) (N : List Nat), (cutF l f N).length = N.length
  | _, [] => rfl
  | _, e :: N => by rw [cutF, List.length_cons, cutF_len l e N, List.length_cons]
theorem cutV_len (b off : Nat) : ∀ (f : Nat) (N : List Nat), (cutV b off f N).length = N.length
  | _, [] => rfl
  | _, e :: N => by rw [cutV, List.length_cons, cutV_len b off e N, List.length_cons]
theorem cutV_snoc (b off : Nat) : ∀ (f : Nat) (N : List Nat) (e : Nat), cutV b off f (N ++ [e]) = cutV b off f N ++ [.slice (some ⟨b, off + lastF f N, none⟩) (e - lastF f N) (e - lastF f N)]
  | f, [], e => rfl
  | f, x :: N, e => by
    rw [List.cons_append, cutV, cutV, cutV_snoc b off x N e, List.cons_append]
    have : lastF f (x :: N) = lastF x N := by
      unfold lastF
      cases N with
      | nil => rfl
      | cons y N => rw [List.getLastD_cons, List.getLastD_cons]
    rw [this]
theorem lastF_snoc (f : Nat) (N : List Nat) (e : Nat) : lastF f (N ++ [e]) = e := by
  unfold lastF; rw [List.getLastD_eq_getLast?]; simp
theorem asc_at {m : Nat} : ∀ {f : Nat} {N : List Nat}, Asc m f N → ∀ k, k < N.length → lastF f (N.take k) < N.getD k 0 ∧ N.getD k 0 ≤ m
  | f, e :: N, h, 0, _ => ⟨h.1, h.2.1⟩
  | f, e :: N, h, k + 1, hk => by
    have := asc_at h.2.2 k (by simpa using hk)
    have hl : lastF f ((e :: N).take (k + 1)) = lastF e (N.take k) := by
      rw [List.take_succ_cons]
      unfold lastF
      cases N.take k with
      | nil => rfl
      | cons y N => rw [List.getLastD_cons, List.getLastD_cons]
    rw [hl]
    exact this
theorem cutV_at {w : World} {b off n c : Nat} {l : List Int} (h : IntsAt w (some ⟨b, off, none⟩) n c l) : ∀ {f : Nat} {N : List Nat}, Asc n f N → ∀ i, i < N.length →
    ∃ o m, (cutV b off f N)[i]? = some (.slice (some ⟨b, o, none⟩) m m) ∧ IntsAt w (some ⟨b, o, none⟩) m m ((cutF l f N).getD i []) ∧ 0 < m ∧ off ≤ o ∧ o + m ≤ off + n
  | f, e :: N, ha, 0, _ => by
    have hl := h.len
    obtain ⟨h1, h2, _⟩ := ha
    refine ⟨off + f, e - f, rfl, ⟨?_, Nat.le_refl _, ?_, fun i hi => ?_⟩, by omega, by omega, by omega⟩
    · show ((l.take e).drop f).length = _
      rw [List.length_drop, List.length_take]; omega
    · have := h.le; have := h.small; omega
    · obtain ⟨b', off', e1, hb, hc⟩ := h.cells (f + i) (by omega)
      injection e1 with e1; injection e1 with q1 q2
      subst q1; subst q2
      refine ⟨b, off + f, rfl, hb, ?_⟩
      rw [Nat.add_assoc, hc]
      show _ = some (Value.int .i64 (((l.take e).drop f).getD i 0))
      simp [List.getD, show f + i < e by omega]
  | f, e :: N, ha, i + 1, hi => by
    obtain ⟨o, m, h1, h2, h3⟩ := cutV_at h ha.2.2 i (by simpa using hi)
    exact ⟨o, m, by rw [cutV, List.getElem?_cons_succ]; exact h1, by rw [cutF]; simpa [List.getD] using h2, h3⟩
/-- a row of such slices reads as the parts -/
theorem ownL_cut {E : TypeId} {w : World} {B b off n c : Nat} {v : Value} {l : List Int} {N : List Nat} (hown : w.ownsRow B E 1 v N.length (cutV b off 0 N)) (h : IntsAt w (some ⟨b, off, none⟩) n c l) (ha : Asc n 0 N) (hne : v.ownBlock ≠ some b) : OwnL E w B v (cutF l 0 N) := by
  refine ⟨cutV b off 0 N, by rw [cutF_len]; exact hown, fun i hi => ?_⟩
  rw [cutF_len] at hi
  obtain ⟨o, m, h1, h2, _⟩ := cutV_at h ha i hi
  exact ⟨_, _, _, h1, h2, fun b' off' _ e => by injection e with e; injection e with q1; rw [← q1]; exact hne⟩
end Go.Proofs.Kv
namespace Go.Proofs.Ytoopgmoopmbfnaa
open Go.RowKit Go.Proofs.Kv Go.Proofs.Snd

/-! ### rowEnds -/
def endsN (L : List (List Int)) (k : Nat) : List Nat := (List.range k).map fun i => (L.take (i + 1)).flatten.length
def endsI (L : List (List Int)) (k : Nat) : List Int := (endsN L k).map fun x : Nat => (x : Int)
theorem endsN_snoc (L : List (List Int)) (k : Nat) : endsN L (k + 1) = endsN L k ++ [(L.take (k + 1)).flatten.length] := by simp [endsN, List.range_succ]
theorem endsI_snoc (L : List (List Int)) (k : Nat) : endsI L (k + 1) = endsI L k ++ [((L.take (k + 1)).flatten.length : Int)] := by simp [endsI, endsN_snoc]
theorem endsI_len (L : List (List Int)) (k : Nat) : (endsI L k).length = k := by simp [endsI, endsN]
set_option maxRecDepth 100000 in
theorem rowEnds_calls (a : Option Addr) (n c : Nat) (L : List (List Int)) (w : World) (h : ListsAt w a n c L) (hs : L.flatten.length ≤ 100000) (hn : n ≤ 1000) :
    Calls Try.prog 69 #[.slice a n c] w fun e w' => ∃ v, e = .returned v ∧ Made 3 w w' v (endsI L n) := by
  obtain ⟨i0, hi0, hz0, hz1, hz2⟩ := info_parts Try.infoInt
  go_enter Try.func69, Try.ntmps69
  go_wp2
  go_loopw [3, 4, 9] (fun v s i wr => ∃ k : Nat, k ≤ n ∧ i = .int .i64 k ∧ s = .int .i64 ((L.take k).flatten.length : Nat) ∧ wr.ownsRow w.heap.size 3 1 v k ((endsI L k).map (Value.int .i64)) ∧ Below w.heap.size w wr) (fun _ _ i _ => n - (intOf i).toNat)
  case atStart => exact ⟨0, Nat.zero_le _, rfl, rfl, World.ownsRow_nil _ _ _ _, Below.refl _ _⟩
  case round =>
    obtain ⟨k, hk, rfl, rfl, hown, hbel⟩ := hrel
    by_cases hlt : k < n
    · obtain ⟨b, off, a', n', c', rfl, hb, hcell, hrow⟩ := (h.below hbel (Nat.le_refl _)).cells k hlt
      have hf := flat_take_len (L := L) (k := k) (by rw [h.len]; exact hlt)
      rw [hrow.len] at hf
      have hle := flat_take_le L (k + 1)
      have Hs := hid_ (endsI_snoc L k)
      have hns : IntKind.i64.wrap (((L.take k).flatten.length : Nat) + (n' : Int)) = ((L.take (k + 1)).flatten.length : Nat) := by
        rw [IntWalk.i64_in _ (by omega)]; omega
      have hsz := hbel.size
      have hkk : k + 1 ≤ 1000000 := by omega
      have hfz : (((L.take k).flatten.length : Nat) : Int) + (n' : Int) = ((L.take (k + 1)).flatten.length : Nat) := by omega
      have Hfz := hid_ hfz
      have hp1 : (L.take k).flatten.length ≤ 100000 := by have := flat_take_le L k; omega
      have hp2 : n' ≤ 100000 := by omega
      clear hf hle hns hfz
      generalize (L.take k).flatten.length = p at Hfz hp1
      generalize hpp : (L.take (k + 1)).flatten.length = p' at Hfz Hs
      have Hpp := hid_ hpp
      clear hpp
      go_wp2_with (at_builtin; refine wpList_append_ints _ rfl (.tmp 17) (.tmp 19) _ rfl w.heap.size 3 i0 Try.underlying23 hi0 hz0 hz1 hz2 _ k (endsI L k) rfl (hown.alloc _) _ 1 1 [(p : Int) + n'] rfl (IntsAt.one wr ((p : Int) + n') 3) hkk (le_alloc hsz) ?_; intro v' w1 hown1 hg1 hat1)
      go_roundw
      case rel => exact ⟨k + 1, by omega, by go_num, by rw [Hpp.out, Hfz.out], by rw [Hs.out, ← Hfz.out]; exact hown1, (hbel.alloc hsz _).grown hg1 (le_alloc hsz) fun r e => (hown.lt r e).1⟩
      case measure => simp [intOf]; omega
    · obtain rfl : k = n := by omega
      go_wp2
      go_ret
      exact ⟨_, rfl, by rw [endsI_len]; exact hown, hbel⟩

/-! ### cut -/
set_option maxRecDepth 100000 in
theorem cut_calls (b off n c : Nat) (l : List Int) (a' : Option Addr) (n' c' : Nat) (N : List Nat) (w : World) (h : IntsAt w (some ⟨b, off, none⟩) n c l) (h' : IntsAt w a' n' c' (N.map fun x : Nat => (x : Int))) (ha : Asc n 0 N) (hn : n' ≤ 1000) :
    Calls Try.prog 70 #[.slice (some ⟨b, off, none⟩) n c, .slice a' n' c'] w fun e w' => ∃ v, e = .returned v ∧ w'.ownsRow w.heap.size 23 1 v N.length (cutV b off 0 N) ∧ Below w.heap.size w w' := by
  obtain ⟨i0, hi0, hz0, hz1, hz2⟩ := info_parts Try.infoInts
  have hnc := h.le
  have hc9 := h.small
  have hNl : N.length = n' := by simpa using h'.len
  have Hat := hid_ (asc_at ha)
  clear h ha
  go_enter Try.func70, Try.ntmps70
  go_wp2
  go_loopw [5, 6, 11] (fun v f i wr => ∃ k : Nat, k ≤ n' ∧ i = .int .i64 k ∧ f = .int .i64 (lastF 0 (N.take k)) ∧ wr.ownsRow w.heap.size 23 1 v k (cutV b off 0 (N.take k)) ∧ Below w.heap.size w wr) (fun _ _ i _ => n' - (intOf i).toNat)
  case atStart => exact ⟨0, Nat.zero_le _, rfl, rfl, World.ownsRow_nil _ _ _ _, Below.refl _ _⟩
  case round =>
    obtain ⟨k, hk, rfl, rfl, hown, hbel⟩ := hrel
    by_cases hlt : k < n'
    · obtain ⟨b1, off1, rfl, hb1, hc1⟩ := (h'.below hbel (Nat.le_refl _)).cells k hlt
      obtain ⟨g1, g2⟩ := Hat.out k (by omega)
      have hkN : k < N.length := by omega
      have hcast : (N.map fun x : Nat => (x : Int)).getD k 0 = (N.getD k 0 : Nat) := by simp [List.getD, List.getElem?_eq_getElem hkN]
      rw [hcast] at hc1
      have Hsn : Hid (cutV b off 0 (N.take (k + 1)) = cutV b off 0 (N.take k) ++ [.slice (some ⟨b, off + lastF 0 (N.take k), none⟩) (N.getD k 0 - lastF 0 (N.take k)) (N.getD k 0 - lastF 0 (N.take k))]) := hid_ (by
        rw [Kv.take_snoc N 0 k hkN, cutV_snoc])
      have Hl : Hid (lastF 0 (N.take (k + 1)) = N.getD k 0) := hid_ (by rw [Kv.take_snoc N 0 k hkN, lastF_snoc])
      have hsz := hbel.size
      have hkk : k + 1 ≤ 1000000 := by omega
      clear hcast hkN hNl
      generalize lastF 0 (N.take k) = f at g1 Hsn
      generalize N.getD k 0 = e at g1 g2 hc1 Hsn Hl
      have hq1 : f ≤ e := by omega
      have hq2 : e ≤ c := by omega
      have hq3 : ¬ c = f := by omega
      have hq4 : ¬ e = f := by omega
      go_wp2_with (at_builtin; refine wpList_push_val _ rfl (.tmp 15) (.tmp 21) _ rfl w.heap.size 23 i0 Try.underlying22 hi0 hz0 rfl hz1 hz2 (by omega) _ k _ rfl hown (.slice (some ⟨b, off + f, none⟩) (e - f) (e - f)) rfl 23 rfl hkk hsz ?_; intro v' w1 hown1 hg1)
      go_roundw
      case rel => exact ⟨k + 1, by omega, by go_num, by rw [Hl.out], by rw [Hsn.out]; exact hown1, (hbel.alloc hsz _).grown hg1 (le_alloc hsz) fun r e => (hown.lt r e).1⟩
      case measure => simp [intOf]; omega
    · obtain rfl : k = n' := by omega
      rw [List.take_of_length_le (by omega)] at hown
      go_wp2
      go_ret
      exact ⟨_, rfl, by rw [hNl]; exact hown, hbel⟩
end Go.Proofs.Ytoopgmoopmbfnaa
namespace Go.Proofs.Kv
open Go.RowKit
theorem own_setCells_at {B e size n g cap : Nat} : ∀ (vs : List Value) (o : Nat) {w : World} {xs : List Value}, w.ownsRow B e size (.slice (some ⟨g, 0, none⟩) n cap) n xs → o + vs.length ≤ xs.length →
    (w.setCells g o vs).ownsRow B e size (.slice (some ⟨g, 0, none⟩) n cap) n (xs.take o ++ vs ++ xs.drop (o + vs.length)) ∧ w.grownBy (w.setCells g o vs) (some g)
  | [], o, w, xs, h, _ => ⟨by simpa [World.setCells] using h, World.grownBy.refl w _⟩
  | v :: vs, o, w, xs, h, hl => by
    obtain ⟨h1, h2⟩ := h.stored o v
    rw [List.length_cons] at hl
    obtain ⟨h3, h4⟩ := own_setCells_at vs (o + 1) h1 (by simp; omega)
    refine ⟨?_, h2.trans h4⟩
    have e : (xs.set o v).take (o + 1) ++ vs ++ (xs.set o v).drop (o + 1 + vs.length) = xs.take o ++ v :: vs ++ xs.drop (o + (v :: vs).length) := by
      have e1 : (xs.set o v).take (o + 1) = xs.take o ++ [v] := by
        rw [Kv.take_snoc _ v o (by simp; omega), List.take_set, List.set_eq_of_length_le (by rw [List.length_take]; omega)]
        simp [List.getD, show o < xs.length by omega]
      have e2 : o + (v :: vs).length = o + 1 + vs.length := by rw [List.length_cons]; omega
      rw [e1, List.drop_set_of_lt (by omega), e2]
      simp
    rw [← e]; exact h3
theorem own_form {B e size n : Nat} {v : Value} {w : World} {xs : List Value} (h : w.ownsRow B e size v n xs) (h0 : 0 < n) : ∃ g cap, v = .slice (some ⟨g, 0, none⟩) n cap ∧ n ≤ cap ∧ cap ≤ 9223372036854775807 ∧ B ≤ g ∧ g < w.heap.size := by
  rcases h.2 with ⟨_, rfl⟩ | ⟨g, cap, cur, rfl, hb, hg, hnc, hm, _⟩
  · omega
  · exact ⟨g, cap, rfl, hnc, by unfold maxLen at hm; omega, hb, (Array.getElem?_eq_some_iff.1 hg).1⟩
theorem below_setCells {B : Nat} {a w : World} (h : Below B a w) {g : Nat} (hg : B ≤ g) : ∀ (vs : List Value) (o : Nat), Below B a (w.setCells g o vs)
  | [], _ => h
  | v :: vs, o => below_setCells (h.setCell (p := ⟨g, o, none⟩) hg v) hg vs (o + 1)
end Go.Proofs.Kv
namespace Go.Proofs.Ytoopgmoopmbfnaa
open Go.RowKit Go.Proofs.Kv Go.Proofs.Snd

/-! ### slices.Delete of one number of an own row -/
theorem delete_calls {B n : Nat} {v : Value} {l : List Int} {w : World} {i : Nat} (hown : w.ownsRow B 3 1 v n (l.map (Value.int .i64))) (hi : i < n) :
    Calls Try.prog 73 #[v, .int .i64 i, .int .i64 (i + 1)] w fun e w' => ∃ v', e = .returned v' ∧ w'.ownsRow B 3 1 v' (n - 1) ((l.take i ++ l.drop (i + 1)).map (Value.int .i64)) ∧ Below B w w' := by
  have hl : l.length = n := by simpa using hown.1
  obtain ⟨g, cap, rfl, h1, h2, h3, h4⟩ := own_form hown (by omega)
  have hc := Try.slices_Delete_int_cells g 0 n cap i (i + 1) l w (by omega) h1 h2 (by omega) (by omega)
    (fun j hj => by
      rw [Nat.zero_add, hown.cellAt j (by omega)]; simp [List.getD, show j < l.length from hj])
    (fun j _ => by rw [Nat.zero_add]; exact hown.frozenAt j)
  refine hc.mono ?_
  rintro e w' ⟨rfl, q, rfl⟩
  have hk : i + 1 - i = 1 := by omega
  rw [hk]
  refine ⟨_, rfl, ?_, below_setCells (below_drewN (Below.refl _ _) q) h3 _ _⟩
  have hA : (l.take i ++ l.drop (i + 1)).length = n - 1 := by
    rw [List.length_append, List.length_take, List.length_drop]; omega
  have ht : l.take n = l := List.take_of_length_le (by omega)
  rw [ht]
  generalize l.take i ++ l.drop (i + 1) = A at hA
  have hlen : ((A ++ List.replicate 1 0).map (Value.int .i64)).length = l.length := by
    rw [List.length_map, List.length_append, hA, List.length_replicate]; omega
  obtain ⟨q1, _⟩ := own_setCells_at ((A ++ List.replicate 1 0).map (Value.int .i64)) 0 (own_drewN hown q) (by rw [hlen, List.length_map]; omega)
  have q2 := own_cut q1 (show n - 1 ≤ n by omega)
  have he : ((l.map (Value.int .i64)).take 0 ++ (A ++ List.replicate 1 0).map (Value.int .i64) ++ (l.map (Value.int .i64)).drop (0 + ((A ++ List.replicate 1 0).map (Value.int .i64)).length)).take ((n - 1) * 1) = A.map (Value.int .i64) := by
    rw [hlen, List.drop_of_length_le (by rw [List.length_map]; omega), List.append_nil, List.take_zero, List.nil_append, List.map_append, Nat.mul_one]
    exact List.take_left' (by rw [List.length_map, hA])
  rw [he] at q2
  exact q2

/-! ### rows and their ends -/
def endsF (f : Nat) : List (List Int) → List Nat
  | [] => []
  | r :: L => (f + r.length) :: endsF (f + r.length) L
theorem endsF_eq : ∀ (f : Nat) (L : List (List Int)), endsF f L = (List.range L.length).map fun i => f + (L.take (i + 1)).flatten.length
  | _, [] => rfl
  | f, r :: L => by
    rw [endsF, endsF_eq (f + r.length) L, List.length_cons, List.range_succ_eq_map, List.map_cons, List.map_map]
    congr 1
    · simp
    · apply List.map_congr_left
      intro i _
      simp; omega
theorem endsN_eq (L : List (List Int)) : endsN L L.length = endsF 0 L := by rw [endsF_eq]; simp [endsN]
theorem endsF_append : ∀ (f : Nat) (A B : List (List Int)), endsF f (A ++ B) = endsF f A ++ endsF (f + A.flatten.length) B
  | f, [], B => by simp [endsF]
  | f, r :: A, B => by
    rw [List.cons_append, endsF, endsF, endsF_append (f + r.length) A B, List.cons_append]
    congr 2
    rw [List.flatten_cons, List.length_append, Nat.add_assoc]
theorem endsF_len : ∀ (f : Nat) (L : List (List Int)), (endsF f L).length = L.length
  | _, [] => rfl
  | f, r :: L => by rw [endsF, List.length_cons, endsF_len, List.length_cons]
theorem cutF_ends : ∀ (L : List (List Int)) (p : List Int), cutF (p ++ L.flatten) p.length (endsF p.length L) = L
  | [], _ => rfl
  | r :: L, p => by
    rw [endsF, cutF, List.flatten_cons]
    have h := cutF_ends L (p ++ r)
    rw [List.length_append, List.append_assoc] at h
    rw [h]
    congr 1
    rw [← List.append_assoc, ← List.length_append, List.take_left' rfl, List.drop_left' rfl]
theorem cut_ends (L : List (List Int)) : cutF L.flatten 0 (endsF 0 L) = L := cutF_ends L []
theorem asc_ends : ∀ (L : List (List Int)) (f m : Nat), (∀ r ∈ L, r ≠ []) → f + L.flatten.length ≤ m → Asc m f (endsF f L)
  | [], _, _, _, _ => trivial
  | r :: L, f, m, h, hm => by
    rw [List.flatten_cons, List.length_append] at hm
    have := List.length_pos_iff.2 (h r (by simp))
    exact ⟨by omega, by omega, asc_ends L _ _ (fun x hx => h x (by simp [hx])) (by omega)⟩
/-- two rows made one -/
def joinL (L : List (List Int)) (r : Nat) : List (List Int) := L.take r ++ ((L.getD r [] ++ L.getD (r + 1) []) :: L.drop (r + 2))
theorem split_two {L : List (List Int)} {r : Nat} (h : r + 1 < L.length) : L = L.take r ++ (L.getD r [] :: L.getD (r + 1) [] :: L.drop (r + 2)) := by
  have e1 : L.drop r = L.getD r [] :: L.drop (r + 1) := by
    rw [List.drop_eq_getElem_cons (by omega)]; simp [List.getD, show r < L.length by omega]
  have e2 : L.drop (r + 1) = L.getD (r + 1) [] :: L.drop (r + 2) := by
    rw [List.drop_eq_getElem_cons h]; simp [List.getD, h]
  rw [← e2, ← e1, List.take_append_drop]
theorem joinL_flat {L : List (List Int)} {r : Nat} (h : r + 1 < L.length) : (joinL L r).flatten = L.flatten := by
  have e := congrArg List.flatten (split_two h)
  rw [e, joinL]; simp
theorem joinL_ends {L : List (List Int)} {r : Nat} (h : r + 1 < L.length) : endsF 0 (joinL L r) = (endsF 0 L).take r ++ (endsF 0 L).drop (r + 1) := by
  have e := congrArg (endsF 0) (split_two h)
  rw [endsF_append, endsF, endsF] at e
  have hl : (endsF 0 (L.take r)).length = r := by rw [endsF_len, List.length_take]; omega
  rw [e, List.take_left' hl, joinL, endsF_append, endsF]
  congr 1
  have hd : ∀ (A B : List Nat) (x y : Nat), A.length = r → (A ++ x :: y :: B).drop (r + 1) = y :: B := fun A B x y ha => by
    rw [← List.drop_drop, List.drop_left' ha]; rfl
  rw [hd _ _ _ _ hl, List.length_append]
  simp only [Nat.add_assoc]

/-! ### Join -/
def joinErr (L : List (List Int)) (r : Int) : Int := if validT L = 0 then (if r < 0 ∨ (L.length : Int) - 1 ≤ r then 4 else 0) else validT L
def joinRes (L : List (List Int)) (r : Int) : List (List Int) := if joinErr L r = 0 then joinL L r.toNat else []
set_option maxRecDepth 100000 in
theorem sndJoin_calls (a : Option Addr) (n c : Nat) (L : List (List Int)) (r : Int) (w : World) (h : ListsAt w a n c L) :
    Calls Try.prog 24 #[.slice a n c, .int .i64 r] w fun e w' => ∃ v, e = .returned (.tuple #[v, .int .i64 (joinErr L r)]) ∧ MadeL 23 w w' v (joinRes L r) := by
  have hval := sndValidate_calls a n c L w h
  have hlen := h.len
  by_cases he : validT L = 0
  · rw [he] at hval
    have Hv := hid_ hval; clear hval
    have hg := good_of he
    have hn6 : n ≤ 6 := by have := hg.n6; omega
    have hn1 : 1 ≤ n := by have := hg.n1; omega
    by_cases hr : r < 0
    · have He : Hid (joinErr L r = 4) := hid_ (by rw [joinErr, if_pos he, if_pos (.inl hr)])
      have Hf : Hid (joinRes L r = []) := hid_ (by rw [joinRes, He.out]; rfl)
      clear he hg hlen
      go_enter Try.func24, Try.ntmps24
      go_wp2_with fail
      refine Hv.out.mono ?_
      rintro e w1 ⟨rfl, hb1⟩
      go_wp2
      go_ret2
      exact ⟨_, by rw [He.out]; rfl, by rw [Hf.out]; exact MadeL.none_ _ hb1⟩
    · by_cases hr2 : (n : Int) - 1 ≤ r
      · have He : Hid (joinErr L r = 4) := hid_ (by rw [joinErr, if_pos he, if_pos (.inr (by omega))])
        have Hf : Hid (joinRes L r = []) := hid_ (by rw [joinRes, He.out]; rfl)
        clear he hg hlen
        go_enter Try.func24, Try.ntmps24
        go_wp2_with fail
        refine Hv.out.mono ?_
        rintro e w1 ⟨rfl, hb1⟩
        go_wp2
        go_ret2
        exact ⟨_, by rw [He.out]; rfl, by rw [Hf.out]; exact MadeL.none_ _ hb1⟩
      · obtain ⟨r', rfl⟩ := Int.eq_ofNat_of_zero_le (show 0 ≤ r by omega)
        have hrl : r' + 1 < L.length := by omega
        have He : Hid (joinErr L r' = 0) := hid_ (by rw [joinErr, if_pos he, if_neg (by omega)])
        have Hf : Hid (joinRes L r' = cutF L.flatten 0 (((endsF 0 L).take r' ++ (endsF 0 L).drop (r' + 1)))) := hid_ (by
          rw [joinRes, He.out, ← joinL_ends hrl, ← joinL_flat hrl, cut_ends]; rfl)
        obtain ⟨m, hm⟩ : ∃ m, L.flatten.length = m := ⟨_, rfl⟩
        have Hm := hid_ hm
        have Hasc : Hid (Asc m 0 ((endsF 0 L).take r' ++ (endsF 0 L).drop (r' + 1))) := hid_ (by
          rw [← joinL_ends hrl]
          refine asc_ends _ _ _ (fun x hx => ?_) (by rw [joinL_flat hrl]; omega)
          unfold joinL at hx
          rcases List.mem_append.1 hx with hx | hx
          · exact hg.ne x (List.mem_of_mem_take hx)
          · rcases List.mem_cons.1 hx with hx | hx
            · rw [hx]
              intro e
              have e1 := (List.append_eq_nil_iff.1 e).1
              exact hg.ne (L.getD r' []) (by rw [List.getD, List.getElem?_eq_getElem (by omega), Option.getD_some]; exact List.getElem_mem _) e1
            · exact hg.ne x (List.mem_of_mem_drop hx))
        have Hends : Hid (endsI L n = (endsF 0 L).map fun x : Nat => (x : Int)) := hid_ (by rw [endsI, ← hlen, endsN_eq])
        have hpos : 0 < L.flatten.length := by
          have hm : L.getD 0 [] ∈ L := by rw [List.getD, List.getElem?_eq_getElem (by omega), Option.getD_some]; exact List.getElem_mem _
          exact Nat.lt_of_lt_of_le (List.length_pos_iff.2 (hg.ne _ hm)) (List.sublist_flatten_of_mem hm).length_le
        have hfl : L.flatten.length ≤ 100000 := by have := hg.flat; omega
        have HL := hid_ (fun W (hW : Below w.heap.size w W) => h.below hW (Nat.le_refl _))
        have hel : (endsF 0 L).length = n := by rw [endsF_len, hlen]
        have hrw : IntKind.i64.wrap ((r' : Int) + 1) = r' + 1 := IntWalk.i64_in _ (by omega)
        have hrlt : (r' : Int) < (n : Int) - 1 := by omega
        clear he hg h hr hr2 hrw hm
        go_enter Try.func24, Try.ntmps24
        go_wp2_with fail
        refine Hv.out.mono ?_
        rintro e w1 ⟨rfl, hb1⟩
        have Hc := hid_ (concat_calls a n c L w1 (HL.out w1 hb1) hfl)
        go_wp2_with fail
        refine Hc.out.mono ?_
        rintro e w2 ⟨v2, rfl, hm2⟩
        obtain ⟨g2, cap2, rfl, -, -, hg2, hg2'⟩ := own_form hm2.own hpos
        obtain ⟨a2, c2, e2, hI2⟩ := hm2.at_
        injection e2 with q1 q2 q3
        subst q1; subst q3
        rw [Hm.out] at hI2 ⊢
        have hb2 : Below w.heap.size w w2 := below_then hb1 hm2.bel
        have Hre := hid_ (rowEnds_calls a n c L w2 (HL.out w2 hb2) hfl (by omega))
        clear Hc Hv
        go_wp2_with fail
        refine Hre.out.mono ?_
        rintro e w3 ⟨v3, rfl, hm3⟩
        have hb3 : Below w.heap.size w w3 := below_then hb2 hm3.bel
        have hown3 := hm3.own
        rw [endsI_len, Hends.out] at hown3
        have Hd := hid_ (delete_calls hown3 (show r' < n by omega))
        clear Hre
        go_wp2_with fail
        refine Hd.out.mono ?_
        rintro e w4 ⟨v4, rfl, hown4, hb4⟩
        rw [← List.map_take, ← List.map_drop, ← List.map_append] at hown4
        obtain ⟨a4, c4, rfl, hI4⟩ := IntsAt.own hown4
        have hb4' : Below w2.heap.size w2 w4 := hm3.bel.trans hb4
        have hI2' := hI2.below hb4' (Nat.le_refl _)
        have hb5 : Below w.heap.size w w4 := below_then hb2 hb4'
        have hgw4 : g2 < w4.heap.size := Nat.lt_of_lt_of_le hg2' hb4'.size
        have Hcut := hid_ (cut_calls g2 0 _ _ _ _ _ _ _ w4 hI2' hI4 Hasc.out (by omega))
        have HI := hid_ hI2'
        have Hb5 := hid_ hb5
        clear Hd hown3 hown4 hI4 hI2 hI2' hb4 hb4' hb5 hm3 hb3 hm2 hb2 hb1
        go_wp2_with fail
        refine Hcut.out.mono ?_
        rintro e w5 ⟨v5, rfl, hown5, hb6⟩
        have Hres : Hid (OwnL 23 w5 w.heap.size v5 (joinRes L r')) := hid_ (by
          rw [Hf.out]
          refine (ownL_cut hown5 (HI.out.below hb6 (Nat.le_refl _)) Hasc.out fun e => ?_).base Hb5.out.size
          have := (hown5.lt g2 e).1
          omega)
        clear hown5
        go_wp2
        go_ret2
        exact ⟨v5, by rw [He.out]; rfl, ⟨Hres.out, below_then Hb5.out hb6⟩⟩
  · have He : Hid (joinErr L r = validT L) := hid_ (if_neg he)
    have Hf : Hid (joinRes L r = []) := hid_ (by rw [joinRes, if_neg (by rw [He.out]; exact he)])
    generalize validT L = er at hval he He
    have hq : (er != 0) = true := by simpa using he
    have Hv := hid_ hval; clear hval he hlen
    go_enter Try.func24, Try.ntmps24
    go_wp2_with fail
    refine Hv.out.mono ?_
    rintro e w2 ⟨rfl, hb2⟩
    go_wp2
    go_ret2
    exact ⟨_, by rw [He.out]; rfl, by rw [Hf.out]; exact MadeL.none_ _ hb2⟩
end Go.Proofs.Ytoopgmoopmbfnaa
namespace Go.Proofs.Ytoopgmoopmbfnaa
open Go.RowKit Go.Proofs.Kv Go.Proofs.Snd

/-! ### the classes of a joined table -/
theorem valid_of {L : List (List Int)} (h : Good L) : validT L = 0 := by
  unfold validT
  rw [if_neg (by have := h.n1; have := h.n6; omega)]
  have h1 : L.all okRow = true := List.all_eq_true.2 fun r hr => by
    unfold okRow
    rw [Bool.and_eq_true]
    refine ⟨by simpa using h.ne r hr, List.all_eq_true.2 fun x hx => ?_⟩
    obtain ⟨a, b⟩ := h.rg x (List.mem_flatten.2 ⟨r, hr, hx⟩)
    unfold okS; simp [a, b]
  rw [h1, if_neg (by simp), (dup_iff _).2 h.nd]; rfl
theorem joinL_len {L : List (List Int)} {r : Nat} (h : r + 1 < L.length) : (joinL L r).length = L.length - 1 := by
  unfold joinL
  rw [List.length_append, List.length_take, List.length_cons, List.length_drop]; omega
theorem joinL_ne {L : List (List Int)} (hn : ∀ s ∈ L, s ≠ []) {r : Nat} (h : r + 1 < L.length) : ∀ s ∈ joinL L r, s ≠ [] := by
  intro x hx
  unfold joinL at hx
  rcases List.mem_append.1 hx with hx | hx
  · exact hn x (List.mem_of_mem_take hx)
  · rcases List.mem_cons.1 hx with hx | hx
    · rw [hx]
      intro e
      have e1 := (List.append_eq_nil_iff.1 e).1
      exact hn (L.getD r []) (by rw [List.getD, List.getElem?_eq_getElem (by omega), Option.getD_some]; exact List.getElem_mem _) e1
    · exact hn x (List.mem_of_mem_drop hx)
theorem good_join {L : List (List Int)} (hg : Good L) {r : Nat} (h : r + 1 < L.length) : Good (joinL L r) where
  n1 := by rw [joinL_len h]; omega
  n6 := by have := hg.n6; rw [joinL_len h]; omega
  ne := joinL_ne hg.ne h
  nd := by rw [joinL_flat h]; exact hg.nd
  rg := by rw [joinL_flat h]; exact hg.rg
  flat := by rw [joinL_flat h]; exact hg.flat
  row := fun s hs => by
    have h1 := (List.sublist_flatten_of_mem hs).length_le
    rw [joinL_flat h] at h1
    exact Nat.le_trans h1 hg.flat
theorem join_take {L : List (List Int)} {r y : Nat} (h : r + 1 < L.length) (hy : y + 1 < L.length) : ∃ z, z < L.length ∧ ((joinL L r).take (y + 1)).flatten = (L.take (z + 1)).flatten := by
  have hl : (L.take r).length = r := by rw [List.length_take]; omega
  by_cases hyr : y < r
  · refine ⟨y, by omega, ?_⟩
    rw [joinL, List.take_append_of_le_length (by omega), List.take_take, Nat.min_eq_left (by omega)]
  · refine ⟨y + 1, by omega, ?_⟩
    obtain ⟨d, rfl⟩ : ∃ d, y = r + d := ⟨y - r, by omega⟩
    have e := congrArg (fun M => (M.take (r + d + 1 + 1)).flatten) (split_two h)
    refine Eq.trans ?_ e.symm
    show ((joinL L r).take (r + d + 1)).flatten = ((L.take r ++ (L.getD r [] :: L.getD (r + 1) [] :: L.drop (r + 2))).take (r + d + 1 + 1)).flatten
    rw [joinL, List.take_append, List.take_append, hl, show r + d + 1 - r = d + 1 by omega, show r + d + 1 + 1 - r = d + 1 + 1 by omega, List.take_succ_cons, List.take_succ_cons, List.take_succ_cons,
      List.take_of_length_le (show (L.take r).length ≤ r + d + 1 by omega), List.take_of_length_le (show (L.take r).length ≤ r + d + 1 + 1 by omega)]
    simp
theorem names_of {L : List (List Int)} (hg : Good L) {x : Int} {y : Nat} (hy : y < L.length) (hx : x ∈ (L.take (y + 1)).flatten) : (x, (y : Int)) ∈ namesR L := by
  rw [mem_namesR hg, mem_rkTo]
  obtain ⟨s, hs, hxs⟩ := List.mem_flatten.1 hx
  obtain ⟨i, hi, rfl⟩ := List.mem_iff_getElem.1 hs
  rw [List.length_take] at hi
  refine ⟨i, by omega, x, ?_, y, hy, by omega, rfl⟩
  rw [getD_at (by omega)]
  rw [List.getElem_take] at hxs
  exact hxs
theorem mem_classesS {L : List (List Int)} (hg : Good L) {c : List Int} : c ∈ classesS L ↔ ∃ (x : Int) (y : Nat), y < L.length ∧ x ∈ (L.take (y + 1)).flatten ∧ c = sorted (from_ x (L.take (y + 1)).flatten) := by
  unfold classesS
  rw [List.mem_mergeSort, namesS_eq hg, List.mem_map]
  constructor
  · rintro ⟨p, hp, rfl⟩
    obtain ⟨y, e, hy, hx⟩ := names_in hp hg
    exact ⟨p.1, y, hy, hx, by unfold standL; rw [e]; rfl⟩
  · rintro ⟨x, y, hy, hx, rfl⟩
    exact ⟨(x, (y : Int)), names_of hg hy hx, rfl⟩
theorem join_classes {L : List (List Int)} (hg : Good L) {r : Nat} (h : r + 1 < L.length) : ∀ c ∈ classesS (joinL L r), c ∈ classesS L := by
  intro c hc
  obtain ⟨x, y, hy, hx, rfl⟩ := (mem_classesS (good_join hg h)).1 hc
  rw [joinL_len h] at hy
  obtain ⟨z, hz, e⟩ := join_take h (y := y) (by omega)
  rw [e] at hx ⊢
  exact (mem_classesS hg).2 ⟨x, z, hz, hx, rfl⟩

/-! ### a row made two -/
def splitL (L : List (List Int)) (r p : Nat) : List (List Int) := L.take r ++ ((L.getD r []).take p :: (L.getD r []).drop p :: L.drop (r + 1))
theorem split_one {L : List (List Int)} {r : Nat} (h : r < L.length) : L = L.take r ++ (L.getD r [] :: L.drop (r + 1)) := by
  have e1 : L.drop r = L.getD r [] :: L.drop (r + 1) := by
    rw [List.drop_eq_getElem_cons h]; simp [List.getD, h]
  rw [← e1, List.take_append_drop]
theorem splitL_len {L : List (List Int)} {r p : Nat} (h : r < L.length) : (splitL L r p).length = L.length + 1 := by
  unfold splitL
  rw [List.length_append, List.length_take, List.length_cons, List.length_cons, List.length_drop]; omega
theorem splitL_flat {L : List (List Int)} {r p : Nat} (h : r < L.length) : (splitL L r p).flatten = L.flatten := by
  have e := congrArg List.flatten (split_one h)
  refine Eq.trans ?_ e.symm
  unfold splitL
  simp only [List.flatten_append, List.flatten_cons, ← List.append_assoc, List.take_append_drop]
  first | done | rw [List.append_assoc (L.take r).flatten, List.take_append_drop]
theorem good_split {L : List (List Int)} (hg : Good L) {r p : Nat} (h : r < L.length) (h6 : L.length < 6) (h0 : 0 < p) (hp : p < (L.getD r []).length) : Good (splitL L r p) where
  n1 := by rw [splitL_len h]; omega
  n6 := by rw [splitL_len h]; omega
  ne := by
    intro x hx
    unfold splitL at hx
    rcases List.mem_append.1 hx with hx | hx
    · exact hg.ne x (List.mem_of_mem_take hx)
    · rcases List.mem_cons.1 hx with hx | hx
      · rw [hx]; exact List.ne_nil_of_length_pos (by rw [List.length_take]; omega)
      · rcases List.mem_cons.1 hx with hx | hx
        · rw [hx]; exact List.ne_nil_of_length_pos (by rw [List.length_drop]; omega)
        · exact hg.ne x (List.mem_of_mem_drop hx)
  nd := by rw [splitL_flat h]; exact hg.nd
  rg := by rw [splitL_flat h]; exact hg.rg
  flat := by rw [splitL_flat h]; exact hg.flat
  row := fun s hs => by
    have h1 := (List.sublist_flatten_of_mem hs).length_le
    rw [splitL_flat h] at h1
    exact Nat.le_trans h1 hg.flat
theorem join_split {L : List (List Int)} {r p : Nat} (h : r < L.length) : joinL (splitL L r p) r = L := by
  have hl : (L.take r).length = r := by rw [List.length_take]; omega
  unfold joinL splitL
  refine Eq.trans ?_ (split_one h).symm
  have e1 : (L.take r ++ ((L.getD r []).take p :: (L.getD r []).drop p :: L.drop (r + 1))).take r = L.take r := List.take_left' hl
  have e2 : (L.take r ++ ((L.getD r []).take p :: (L.getD r []).drop p :: L.drop (r + 1))).getD r [] = (L.getD r []).take p := by
    rw [List.getD, List.getElem?_append_right (by omega), hl, Nat.sub_self]; rfl
  have e3 : (L.take r ++ ((L.getD r []).take p :: (L.getD r []).drop p :: L.drop (r + 1))).getD (r + 1) [] = (L.getD r []).drop p := by
    rw [List.getD, List.getElem?_append_right (by omega), hl, show r + 1 - r = 1 by omega]; rfl
  have e4 : (L.take r ++ ((L.getD r []).take p :: (L.getD r []).drop p :: L.drop (r + 1))).drop (r + 2) = L.drop (r + 1) := by
    rw [← List.drop_drop, List.drop_left' hl]; rfl
  rw [e1, e2, e3, e4, List.take_append_drop]
theorem split_classes {L : List (List Int)} (hg : Good L) {r p : Nat} (h : r < L.length) (h6 : L.length < 6) (h0 : 0 < p) (hp : p < (L.getD r []).length) : ∀ c ∈ classesS L, c ∈ classesS (splitL L r p) := by
  intro c hc
  have := join_classes (good_split hg h h6 h0 hp) (r := r) (by rw [splitL_len h]; omega) c
  rw [join_split h] at this
  exact this hc
theorem splitL_ends {L : List (List Int)} {r p : Nat} (h : r < L.length) (hp : p ≤ (L.getD r []).length) : endsF 0 (splitL L r p) = (endsF 0 L).take r ++ (((L.take r).flatten.length + p) :: (endsF 0 L).drop r) := by
  have e := congrArg (endsF 0) (split_one h)
  rw [endsF_append, endsF] at e
  have hl : (endsF 0 (L.take r)).length = r := by rw [endsF_len, List.length_take]; omega
  rw [e, List.take_left' hl, List.drop_left' hl, splitL, endsF_append, endsF, endsF, List.length_take, List.length_drop, Nat.min_eq_left hp, Nat.zero_add, show (L.take r).flatten.length + p + ((L.getD r []).length - p) = (L.take r).flatten.length + (L.getD r []).length by omega]
end Go.Proofs.Ytoopgmoopmbfnaa
