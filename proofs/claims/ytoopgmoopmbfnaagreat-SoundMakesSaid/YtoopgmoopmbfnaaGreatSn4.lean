import Derived.Test.YtoopgmoopmbfnaaGreatSn3
import Derived.Deep.RegionHeld3
import Derived.Laws.OwnMore
namespace Go.Proofs.YtoopgmoopmbfnaaGreat
open Go.RowKit Go.Proofs.Kv Go.Proofs.Snd

theorem foldI_snoc (M : List (List Int)) (x : List Int) : foldI (M ++ [x]) = insertL (foldI M) x := by simp [foldI, List.foldl_append]
theorem foldI_le (M : List (List Int)) : (foldI M).length ≤ M.length := by
  have key : ∀ (M acc : List (List Int)), (M.foldl insertL acc).length ≤ acc.length + M.length := by
    intro M
    induction M with
    | nil => intro acc; simp
    | cons x M ih =>
      intro acc
      have h1 := ih (insertL acc x)
      have h2 := insertL_le acc x
      rw [List.foldl_cons, List.length_cons]; omega
  have := key M []
  simpa [foldI] using this
theorem namesR_len {L : List (List Int)} (h : Good L) : (namesR L).length ≤ 3600 := by
  rw [← namesS_eq h]
  have := names_len h
  simpa [namesS] using this
theorem namesR_at {L : List (List Int)} (h : Good L) {k : Nat} (hk : k < (namesR L).length) : ∃ (x : Int) (y : Nat), (namesR L).getD k (0, 0) = (x, (y : Int)) ∧ y < L.length := by
  have hm : (namesR L).getD k (0, 0) ∈ namesR L := by simp [List.getD, List.getElem?_eq_getElem hk]
  obtain ⟨y, h1, h2, _⟩ := names_in hm h
  exact ⟨((namesR L).getD k (0, 0)).1, y, by rw [← h1], h2⟩

/-! ### the document's Classes -/
def classesRR (L : List (List Int)) : List (List Int) := if validT L = 0 then classesR L else []
theorem classesRR_eq (L : List (List Int)) : classesRes L = classesRR L := by
  unfold classesRes classesRR
  by_cases h : validT L = 0
  · rw [if_pos h, if_pos h, classesS_eq (good_of h)]
  · rw [if_neg h, if_neg h]
end Go.Proofs.YtoopgmoopmbfnaaGreat
namespace Go.Proofs.YtoopgmoopmbfnaaGreat
open Go.RowKit Go.Proofs.Kv Go.Proofs.Snd

theorem below_drew {B : Nat} {a w : World} (h : Below B a w) : Below B a w.drew := ⟨h.os, h.tape, h.output, h.size, h.block⟩
/-! ### Named: what it asks of a name -/
/-! ### slices.IndexFunc of names -/
def idxP (P : Int × Int → Bool) (l : List (Int × Int)) : Int := if l.any P then (l.findIdx P : Int) else -1
theorem idxP_hit {P : Int × Int → Bool} {l : List (Int × Int)} {k : Nat} (hk : k < l.length) (h : ∀ j, j < k → P (l.getD j (0, 0)) = false) (hh : P (l.getD k (0, 0)) = true) : idxP P l = k := by
  have e : l.findIdx P = k := by
    rw [List.findIdx_eq hk]
    refine ⟨by simpa [List.getD, List.getElem?_eq_getElem hk] using hh, fun j hj => ?_⟩
    have := h j hj
    simpa [List.getD, List.getElem?_eq_getElem (show j < l.length by omega)] using this
  rw [idxP, if_pos, e]
  refine List.any_eq_true.2 ⟨_, List.getElem_mem hk, ?_⟩
  simpa [List.getD, List.getElem?_eq_getElem hk] using hh
theorem idxP_miss {P : Int × Int → Bool} {l : List (Int × Int)} {n : Nat} (hn : l.length = n) (h : ∀ j, j < n → P (l.getD j (0, 0)) = false) : idxP P l = -1 := by
  rw [idxP, if_neg]
  rw [Bool.not_eq_true, List.any_eq_false]
  intro x hx
  obtain ⟨i, hi, e⟩ := List.mem_iff_getElem.1 hx
  have := h i (by omega)
  rw [List.getD, List.getElem?_eq_getElem hi, Option.getD_some, e] at this
  simp [this]
end Go.Proofs.YtoopgmoopmbfnaaGreat
namespace Go.Proofs.Kv
open Go.RowKit
theorem own_setCells {B e size n g cap : Nat} : ∀ (vs : List Value) (o : Nat) {w : World} {xs : List Value}, w.ownsRow B e size (.slice (some ⟨g, 0, none⟩) n cap) n xs →
    ∃ ys, (w.setCells g o vs).ownsRow B e size (.slice (some ⟨g, 0, none⟩) n cap) n ys ∧ ys.take o = xs.take o ∧ w.grownBy (w.setCells g o vs) (some g)
  | [], o, w, xs, h => ⟨xs, h, rfl, World.grownBy.refl w _⟩
  | v :: vs, o, w, xs, h => by
    obtain ⟨h1, h2⟩ := h.stored o v
    obtain ⟨ys, h3, h4, h5⟩ := own_setCells vs (o + 1) h1
    refine ⟨ys, h3, ?_, h2.trans h5⟩
    have h6 := congrArg (List.take o) h4
    rw [List.take_take, List.take_take, Nat.min_eq_left (Nat.le_succ o)] at h6
    rw [h6, List.take_set, List.set_eq_of_length_le (by rw [List.length_take]; omega)]
theorem own_cut {B e size n g cap i : Nat} {w : World} {xs : List Value} (h : w.ownsRow B e size (.slice (some ⟨g, 0, none⟩) n cap) n xs) (hi : i ≤ n) :
    w.ownsRow B e size (.slice (some ⟨g, 0, none⟩) i cap) i (xs.take (i * size)) := by
  have hle : i * size ≤ n * size := Nat.mul_le_mul_right _ hi
  refine ⟨by rw [List.length_take, h.1]; omega, ?_⟩
  rcases h.2 with ⟨h', _⟩ | ⟨g', cap', cur, h', hb, hg, hnc, hcm, hcs, htake⟩
  · simp at h'
  · injection h' with q1 q2 q3
    injection q1 with q1
    injection q1 with q1
    subst q1; subst q3
    refine .inr ⟨g, cap, cur, rfl, hb, hg, by omega, hcm, hcs, ?_⟩
    rw [← htake, List.take_take, Nat.min_eq_left hle]
theorem zero_pairs (n : Nat) : (Builtin.zeroCells (Value.agg #[.int .i64 0, .int .i64 0]).cells n).toList = List.replicate (n * 2) (.int .i64 0) := by
  have e : (Value.agg #[.int .i64 0, .int .i64 0]).cells = #[.int .i64 0, .int .i64 0] := rfl
  rw [e]
  apply List.ext_getElem
  · simp [Builtin.zeroCells]
  · intro i h1 h2
    simp only [Builtin.zeroCells, Array.getElem_toList, Array.getElem_map, Array.getElem_range, List.getElem_replicate]
    rcases Nat.mod_two_eq_zero_or_one i with h | h <;> simp [h]
theorem run_clear_pairs {P : Program} (w : World) (t e ty : TypeId) (ht : P.underlying t = some (.slice e)) (hv : ∀ w, (zeroValue e).run P w = .ok (.agg #[.int .i64 0, .int .i64 0]) w) (b o n c : Nat) (hn : 0 < n)
    (hc : ∀ j, j < n * 2 → (w.cell? ⟨b, o + j, none⟩).isSome = true) (hf : ∀ j, j < n * 2 → w.frozen? ⟨b, o + j, none⟩ = false) :
    (Builtin.clear_ #[t] ty #[.slice (some ⟨b, o, none⟩) n c]).run P w = .ok (.tuple #[]) (w.setCells b o (List.replicate (n * 2) (.int .i64 0))) := by
  have hst := run_storeCells_cells (P := P) b o (List.replicate (n * 2) (.int .i64 0)) 0 w (by simpa using hc) (by simpa using hf) (by intro v hv'; rw [List.eq_of_mem_replicate hv']; rfl)
  simp only [Nat.add_zero] at hst
  obtain ⟨m, rfl⟩ : ∃ m, n = m + 1 := ⟨n - 1, by omega⟩
  simp [Builtin.clear_, run_underlying ht, hv, zero_pairs, hst]
end Go.Proofs.Kv
namespace Go.Proofs.YtoopgmoopmbfnaaGreat
open Go.RowKit Go.Proofs.Kv Go.Proofs.Snd

/-! ### slices.DeleteFunc of names -/
theorem idxP_cases (P : Int × Int → Bool) (l : List (Int × Int)) : (idxP P l = -1 ∧ ∀ j, j < l.length → P (l.getD j (0, 0)) = false) ∨ ∃ k, k < l.length ∧ idxP P l = (k : Int) ∧ P (l.getD k (0, 0)) = true ∧ ∀ j, j < k → P (l.getD j (0, 0)) = false := by
  have hat : ∀ j, (h : j < l.length) → l.getD j (0, 0) = l[j] := fun j h => by simp [List.getD, List.getElem?_eq_getElem h]
  unfold idxP
  by_cases ha : l.any P = true
  · rw [if_pos ha]
    have hlt : l.findIdx P < l.length := by
      rw [List.findIdx_lt_length]
      obtain ⟨x, hx, hp⟩ := List.any_eq_true.1 ha
      exact ⟨x, hx, hp⟩
    refine .inr ⟨l.findIdx P, hlt, rfl, ?_, fun j hj => ?_⟩
    · rw [hat _ hlt]; exact List.findIdx_getElem (w := hlt)
    · rw [hat j (by omega)]; exact Bool.eq_false_iff.2 (by have := List.not_of_lt_findIdx hj; simpa using this)
  · rw [if_neg ha]
    refine .inl ⟨rfl, fun j hj => ?_⟩
    rw [Bool.not_eq_true, List.any_eq_false] at ha
    rw [hat j hj]
    simpa using ha _ (List.getElem_mem hj)
def kept (P : Int × Int → Bool) (l : List (Int × Int)) : List (Int × Int) := l.filter fun x => !P x
theorem kept_none {P : Int × Int → Bool} {l : List (Int × Int)} (h : ∀ j, j < l.length → P (l.getD j (0, 0)) = false) : kept P l = l := by
  unfold kept
  rw [List.filter_eq_self]
  intro x hx
  obtain ⟨i, hi, e⟩ := List.mem_iff_getElem.1 hx
  have := h i hi
  rw [List.getD, List.getElem?_eq_getElem hi, Option.getD_some, e] at this
  simp [this]
/-- what the row holds once j of the names are asked and i of them are kept -/
structure KeptIn (P : Int × Int → Bool) (l : List (Int × Int)) (i j : Nat) (xs : List Value) : Prop where
  len : xs.length = l.length * 2
  cnt : i = (kept P (l.take j)).length
  lt : i < j
  lo : xs.take (2 * i) = (kept P (l.take j)).flatMap encN
  hi : xs.drop (2 * j) = (l.drop j).flatMap encN
theorem kept_take {P : Int × Int → Bool} {l : List (Int × Int)} {j : Nat} (hj : j < l.length) : kept P (l.take (j + 1)) = if P (l.getD j (0, 0)) then kept P (l.take j) else kept P (l.take j) ++ [l.getD j (0, 0)] := by
  rw [Kv.take_snoc l (0, 0) j hj, kept, List.filter_append]
  generalize l.getD j (0, 0) = z
  cases h : P z <;> simp [kept, h]
theorem drop_flat {l : List (Int × Int)} {j : Nat} {xs : List Value} (h : xs.drop (2 * j) = (l.drop j).flatMap encN) (hj : j < l.length) :
    xs[2 * j]? = some (.int .i64 (l.getD j (0, 0)).1) ∧ xs[2 * j + 1]? = some (.int .i64 (l.getD j (0, 0)).2) ∧ xs.drop (2 * (j + 1)) = (l.drop (j + 1)).flatMap encN := by
  have e : l.drop j = l.getD j (0, 0) :: l.drop (j + 1) := by
    rw [List.drop_eq_getElem_cons hj]; simp [List.getD, List.getElem?_eq_getElem hj]
  rw [e, List.flatMap_cons] at h
  refine ⟨?_, ?_, ?_⟩
  · have := congrArg (fun z => z[0]?) h
    simpa [encN] using this
  · have := congrArg (fun z => z[1]?) h
    simpa [encN] using this
  · have := congrArg (List.drop 2) h
    rw [List.drop_drop] at this
    rw [show 2 * (j + 1) = 2 * j + 2 by omega, this]
    rfl
theorem KeptIn.skip {P : Int × Int → Bool} {l : List (Int × Int)} {i j : Nat} {xs : List Value} (h : KeptIn P l i j xs) (hj : j < l.length) (hp : P (l.getD j (0, 0)) = true) : KeptIn P l i (j + 1) xs :=
  ⟨h.len, by rw [kept_take hj, if_pos hp]; exact h.cnt, by have := h.lt; omega, by rw [kept_take hj, if_pos hp]; exact h.lo, (drop_flat h.hi hj).2.2⟩
theorem KeptIn.keep {P : Int × Int → Bool} {l : List (Int × Int)} {i j : Nat} {xs : List Value} (h : KeptIn P l i j xs) (hj : j < l.length) (hp : P (l.getD j (0, 0)) = false) :
    KeptIn P l (i + 1) (j + 1) ((xs.set (i * 2) (.int .i64 (l.getD j (0, 0)).1)).set (i * 2 + 1) (.int .i64 (l.getD j (0, 0)).2)) := by
  have hlt := h.lt
  have hlen := h.len
  refine ⟨by simpa using hlen, ?_, by omega, ?_, ?_⟩
  · rw [kept_take hj, if_neg (by rw [hp]; decide), List.length_append, ← h.cnt]; rfl
  · rw [set_two (by omega), h.lo, kept_take hj, if_neg (by rw [hp]; decide), List.flatMap_append]; simp [encN]
  · rw [List.drop_set_of_lt (by omega), List.drop_set_of_lt (by omega)]
    exact (drop_flat h.hi hj).2.2
theorem KeptIn.start {P : Int × Int → Bool} {l : List (Int × Int)} {k : Nat} (hk : k < l.length) (hp : P (l.getD k (0, 0)) = true) (hall : ∀ j, j < k → P (l.getD j (0, 0)) = false) : KeptIn P l k (k + 1) (l.flatMap encN) := by
  have e : kept P (l.take (k + 1)) = l.take k := by
    rw [kept_take hk, if_pos hp]
    refine kept_none fun j hj => ?_
    rw [List.length_take] at hj
    have := hall j (by omega)
    simpa [List.getD, show j < k by omega] using this
  have hsp : l.flatMap encN = (l.take k).flatMap encN ++ (l.drop k).flatMap encN := by rw [← List.flatMap_append, List.take_append_drop]
  have hsp' : l.flatMap encN = (l.take (k + 1)).flatMap encN ++ (l.drop (k + 1)).flatMap encN := by rw [← List.flatMap_append, List.take_append_drop]
  have hl : ∀ j, j ≤ l.length → ((l.take j).flatMap encN).length = 2 * j := fun j hj => by rw [encN_len, List.length_take]; omega
  refine ⟨encN_len l, by rw [e, List.length_take]; omega, by omega, ?_, ?_⟩
  · rw [e, hsp, ← hl k (by omega), List.take_left']
    rfl
  · rw [hsp', ← hl (k + 1) (by omega), List.drop_left']
    rfl

theorem Tryz.zeroName : ∀ w, (zeroValue 66).run Tryz.prog w = .ok (.agg #[.int .i64 0, .int .i64 0]) w := fun w => by kernel_rfl
end Go.Proofs.YtoopgmoopmbfnaaGreat
namespace Go.Proofs.YtoopgmoopmbfnaaGreat
open Go.RowKit Go.Proofs.Kv Go.Proofs.Snd

/-! ### Named -/
def namedL (L : List (List Int)) (s : List Int) : List (Int × Int) := (namesR L).filter fun p => Same (standL L p.1 p.2) s
def namedErr (L : List (List Int)) (s : List Int) : Int := if validT L = 0 then (if IsSet s 0 5 then 0 else 1) else validT L
def namedRes (L : List (List Int)) (s : List Int) : List (Int × Int) := if namedErr L s = 0 then namedL L s else []
theorem kept_named (L : List (List Int)) (s : List Int) : kept (fun p => !Same (standL L p.1 p.2) s) (namesR L) = namedL L s := by
  unfold kept namedL
  congr 1
  funext p
  simp
end Go.Proofs.YtoopgmoopmbfnaaGreat
namespace Go.Proofs.YtoopgmoopmbfnaaGreat
open Go.RowKit Go.Proofs.Kv Go.Proofs.Snd

theorem isSet_as {a : Option Addr} {n c : Nat} {l : List Int} {lo hi : Int} {w : World} {b : Bool} (h : IntsAt w a n c l) (hb : IsSet l lo hi = b) :
    Calls Tryz.prog 33 #[.slice a n c, .int .i64 lo, .int .i64 hi] w fun e w' => e = .returned (.bool b) ∧ ∃ q, w' = w.drewN q := by subst hb; exact isSet_calls a n c l lo hi w h
theorem same_as {a : Option Addr} {n c : Nat} {l : List Int} {a' : Option Addr} {n' c' : Nat} {l' : List Int} {w : World} {b : Bool} (h : IntsAt w a n c l) (h' : IntsAt w a' n' c' l') (hb : Same l l' = b) :
    Calls Tryz.prog 29 #[.slice a n c, .slice a' n' c'] w fun e w' => e = .returned (.bool b) ∧ ∃ q, w' = w.drewN q := by subst hb; exact same_calls a n c l a' n' c' l' w h h'

/-! ### the document's Named -/
def namedTo (L : List (List Int)) (s : List Int) (NS : List (Int × Int)) (k : Nat) : List (Int × Int) := (NS.take k).filter fun p => Same (standL L p.1 p.2) s
theorem namedTo_snoc {L : List (List Int)} {s : List Int} {NS : List (Int × Int)} {k : Nat} (hk : k < NS.length) :
    namedTo L s NS (k + 1) = if Same (standL L (NS.getD k (0, 0)).1 (NS.getD k (0, 0)).2) s then namedTo L s NS k ++ [NS.getD k (0, 0)] else namedTo L s NS k := by
  rw [namedTo, Kv.take_snoc NS (0, 0) k hk, List.filter_append]
  generalize NS.getD k (0, 0) = z
  cases h : Same (standL L z.1 z.2) s <;> simp [namedTo, h]
theorem namedTo_le (L : List (List Int)) (s : List Int) (NS : List (Int × Int)) (k : Nat) : (namedTo L s NS k).length ≤ NS.length := by
  refine Nat.le_trans (List.length_filter_le _ _) ?_
  rw [List.length_take]; omega
set_option maxRecDepth 100000 in
set_option maxHeartbeats 1000000 in
theorem refNamed_calls (a : Option Addr) (n c : Nat) (L : List (List Int)) (a' : Option Addr) (n' c' : Nat) (s : List Int) (w : World) (h : ListsAt w a n c L) (h' : IntsAt w a' n' c' s) (hs : L.flatten.length ≤ 100000) :
    Calls Tryz.prog 23 #[.slice a n c, .slice a' n' c'] w fun e w' => ∃ v, e = .returned (.tuple #[v, .int .i64 (namedErr L s)]) ∧ MadeP 66 w w' v (namedRes L s) := by
  obtain ⟨i0, hi0, hz0, hz1, hz2⟩ := info_parts Tryz.infoName
  have hval := refValidate_calls a n c L w h hs
  by_cases he : validT L = 0
  · rw [he] at hval
    have Hv := hid_ hval; clear hval
    have hg := good_of he
    have hlen : L.length = n := h.len
    have hn6 := hg.n6
    rw [hlen] at hn6
    cases hset : IsSet s 0 5 with
    | false =>
      have He : Hid (namedErr L s = 1) := hid_ (by rw [namedErr, if_pos he, hset]; rfl)
      have Hf : Hid (namedRes L s = []) := hid_ (by rw [namedRes, He.out]; rfl)
      go_enter Tryz.func23, Tryz.ntmps23
      go_wp2_with fail
      refine Hv.out.mono ?_
      rintro e w1 ⟨rfl, hb1⟩
      have Hset := hid_ (isSet_as (h'.below hb1 (Nat.le_refl _)) hset)
      clear h h' hset he hg Hv
      go_wp2_with fail
      refine Hset.out.mono ?_
      rintro e w2 ⟨rfl, q, hq⟩
      have Hb2 : Hid (Below w.heap.size w w2) := hid_ (by rw [hq]; exact below_drewN hb1 q)
      clear hq
      go_wp2
      go_ret2
      exact ⟨_, by rw [He.out]; rfl, by rw [Hf.out]; exact MadeP.none_ _ Hb2.out⟩
    | true =>
      have He : Hid (namedErr L s = 0) := hid_ (by rw [namedErr, if_pos he, hset]; rfl)
      have Hf : Hid (namedRes L s = namedTo L s (namesR L) (namesR L).length) := hid_ (by rw [namedRes, He.out, namedTo, List.take_length]; rfl)
      have Hat : Hid (∀ k, k < (namesR L).length → ∃ (x : Int) (y : Nat), (namesR L).getD k (0, 0) = (x, (y : Int)) ∧ y < n) := hid_ fun k hk => by
        obtain ⟨x, y, h1, h2⟩ := namesR_at hg hk
        exact ⟨x, y, h1, by omega⟩
      have hN1 := namesR_len hg
      go_enter Tryz.func23, Tryz.ntmps23
      go_wp2_with fail
      refine Hv.out.mono ?_
      rintro e w0 ⟨rfl, hb0⟩
      have Hset := hid_ (isSet_as (h'.below hb0 (Nat.le_refl _)) hset)
      clear hset Hv he
      go_wp2_with fail
      refine Hset.out.mono ?_
      rintro e w1 ⟨rfl, q, hq⟩
      have hb1 : Below w.heap.size w w1 := by rw [hq]; exact below_drewN hb0 q
      have Hnm := hid_ (names_calls a n c L w1 (h.below hb1 (Nat.le_refl _)) (by omega))
      clear hq hb0 Hset
      go_wp2_with fail
      refine Hnm.out.mono ?_
      rintro e w2 ⟨v2, rfl, hm2⟩
      obtain ⟨a2, c2, rfl, hP2⟩ := hm2.at_
      have Hb2 : Hid (Below w.heap.size w w2) := hid_ (below_then hb1 hm2.bel)
      clear hm2 Hnm hb1
      generalize hNS : namesR L = NS at hP2 Hat Hf hN1
      clear hNS
      generalize hNl : NS.length = N at hP2 Hat hN1 Hf
      have Hnl := hid_ hNl
      clear hNl hlen
      go_wp2
      go_loopw [7, 9] (fun v i wr => ∃ k : Nat, k ≤ N ∧ i = .int .i64 k ∧ wr.ownsRow w2.heap.size 66 2 v (namedTo L s NS k).length ((namedTo L s NS k).flatMap encN) ∧ Below w2.heap.size w2 wr) (fun _ i _ => N - (intOf i).toNat)
      case atStart => exact ⟨0, by omega, rfl, World.ownsRow_nil _ _ _ _, Below.refl _ _⟩
      case round =>
        obtain ⟨k, hk, rfl, hown, hbel⟩ := hrel
        have hsz := hbel.size
        by_cases hlt : k < N
        · obtain ⟨b1, off1, rfl, hb1, hc1, hc2⟩ := hP2.cells k hlt
          have hd1 := (hbel.cell (p := ⟨b1, off1 + k * 2, none⟩) hb1).trans hc1
          have hd2 := (hbel.cell (p := ⟨b1, off1 + k * 2 + 1, none⟩) hb1).trans hc2
          obtain ⟨x, y, hxy, hy⟩ := Hat.out k hlt
          have hsn := namedTo_snoc (L := L) (s := s) (NS := NS) (k := k) (by rw [Hnl.out]; exact hlt)
          rw [hxy] at hd1 hd2 hsn
          simp only at hd1 hd2 hsn
          have Hst := hid_ (stand_calls a n c L x y wr (h.below (Hb2.out.trans (hbel.mono Hb2.out.size)) (Nat.le_refl _)) hs (by omega) (by omega))
          have hle := namedTo_le L s NS k
          have Hll : Hid ((namedTo L s NS k).length + 1 ≤ 1000000) := hid_ (by rw [Hnl.out] at hle; omega)
          generalize namedTo L s NS k = cur at hown hsn Hll hle
          generalize standL L x y = l at Hst hsn
          cases hsm : Same l s with
          | true =>
            rw [hsm, if_pos rfl] at hsn
            have Hsn := hid_ hsn
            clear hc1 hc2 hsn hle
            go_wp2_with fail
            refine Hst.out.mono ?_
            rintro e w3 ⟨v3, rfl, hm3⟩
            obtain ⟨a3, c3, rfl, hI3⟩ := hm3.at_
            have hb3 : Below w2.heap.size w2 w3 := hbel.trans (hm3.bel.mono hsz)
            have Hsame := hid_ (same_as hI3 (h'.below (Hb2.out.trans (hb3.mono Hb2.out.size)) (Nat.le_refl _)) hsm)
            have hown3 := own_below hown hm3.bel (Nat.le_refl _)
            have he1 := (hb3.cell (p := ⟨b1, off1 + k * 2, none⟩) hb1).trans ((hbel.cell (p := ⟨b1, off1 + k * 2, none⟩) hb1).symm.trans hd1)
            have he2 := (hb3.cell (p := ⟨b1, off1 + k * 2 + 1, none⟩) hb1).trans ((hbel.cell (p := ⟨b1, off1 + k * 2 + 1, none⟩) hb1).symm.trans hd2)
            clear hm3 hI3 hsm hd1 hd2 hown Hst
            go_wp2_with fail
            refine Hsame.out.mono ?_
            rintro e w4 ⟨rfl, q4, hq4⟩
            have hb4 : Below w2.heap.size w2 w4 := by rw [hq4]; exact below_drewN hb3 q4
            have hown4 : w4.ownsRow w2.heap.size 66 2 u7 cur.length (cur.flatMap encN) := by rw [hq4]; exact own_drewN hown3 q4
            have hf1 : w4.cell? ⟨b1, off1 + k * 2, none⟩ = some (.int .i64 x) := by rw [hq4]; exact he1
            have hf2 : w4.cell? ⟨b1, off1 + k * 2 + 1, none⟩ = some (.int .i64 y) := by rw [hq4]; exact he2
            clear hq4 hb3 hown3 he1 he2 Hsame
            go_wp2_with (at_builtin; refine wpList_append_pair _ rfl (.tmp 34) (.tmp 39) _ rfl w2.heap.size 66 i0 Tryz.underlying49 hi0 hz0 hz1 hz2 _ _ _ rfl hown4 _ _ _ rfl Hll.out hb4.size ?_; intro v' w5 hown5 hg5)
            go_roundw
            case rel => exact ⟨k + 1, by omega, by go_num, by rw [Hsn.out, List.length_append]; exact hown5, below_app hb4 hb4.size hown4 hg5⟩
            case measure => simp [intOf]; omega
          | false =>
            rw [hsm, if_neg (by decide)] at hsn
            have Hsn := hid_ hsn
            clear hc1 hc2 hsn hle
            go_wp2_with fail
            refine Hst.out.mono ?_
            rintro e w3 ⟨v3, rfl, hm3⟩
            obtain ⟨a3, c3, rfl, hI3⟩ := hm3.at_
            have hb3 : Below w2.heap.size w2 w3 := hbel.trans (hm3.bel.mono hsz)
            have Hsame := hid_ (same_as hI3 (h'.below (Hb2.out.trans (hb3.mono Hb2.out.size)) (Nat.le_refl _)) hsm)
            have hown3 := own_below hown hm3.bel (Nat.le_refl _)
            clear hm3 hI3 hsm hd1 hd2 hown Hst
            go_wp2_with fail
            refine Hsame.out.mono ?_
            rintro e w4 ⟨rfl, q4, hq4⟩
            have hb4 : Below w2.heap.size w2 w4 := by rw [hq4]; exact below_drewN hb3 q4
            have hown4 : w4.ownsRow w2.heap.size 66 2 u7 cur.length (cur.flatMap encN) := by rw [hq4]; exact own_drewN hown3 q4
            clear hq4 hb3 hown3 Hsame
            go_wp2
            go_roundw
            case rel => exact ⟨k + 1, by omega, by go_num, by rw [Hsn.out]; exact hown4, hb4⟩
            case measure => simp [intOf]; omega
        · obtain rfl : k = N := by omega
          have Hb3 : Hid (Below w.heap.size w wr) := hid_ (below_then Hb2.out hbel)
          go_wp2
          go_ret2
          exact ⟨_, by rw [He.out]; rfl, by rw [Hf.out]; exact ⟨own_base hown Hb2.out.size, Hb3.out⟩⟩
  · have He : Hid (namedErr L s = validT L) := hid_ (if_neg he)
    have Hf : Hid (namedRes L s = []) := hid_ (by rw [namedRes, if_neg (by rw [He.out]; exact he)])
    generalize validT L = er at hval he He
    have hq : (er != 0) = true := by simpa using he
    have Hv := hid_ hval; clear hval he
    go_enter Tryz.func23, Tryz.ntmps23
    go_wp2_with fail
    refine Hv.out.mono ?_
    rintro e w2 ⟨rfl, hb2⟩
    go_wp2
    go_ret2
    exact ⟨_, by rw [He.out]; rfl, by rw [Hf.out]; exact MadeP.none_ _ hb2⟩
end Go.Proofs.YtoopgmoopmbfnaaGreat
