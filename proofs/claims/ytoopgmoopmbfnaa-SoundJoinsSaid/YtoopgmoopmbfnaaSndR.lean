import Derived.Test.YtoopgmoopmbfnaaSndQ
import Derived.Laws.OwnMore
namespace Go.Proofs.Kv
open Go.RowKit
theorem own_setCells {B e size n g cap : Nat} : ∀ (vs : List Value) (o : Nat) {w : World} {xs : List Value}, w.ownsRow B e size (.slice (some ⟨g, 0, none⟩) n cap) n xs →
    ∃ ys, (w.setCells g o vs).ownsRow B e size (.slice (some ⟨g, 0, none⟩) n cap) n ys ∧ ys.take o = xs.take o ∧ w.grownBy (w.setCells g o vs) (some g)
  | [], o, w, xs, h => ⟨xs, h, rfl, World.grownBy.refl w _⟩
  | v :: vs, o, w, xs, h => by
    obtain ⟨h1, h2⟩ := h.stored o v
    obtain ⟨ys, h3, h4, h5⟩ := own_setCells vs (o + 1) h1
    refine ⟨ys, h3, ?_, h2.trans h5⟩
    have h6 := congrArg (List.take o) h4
    rw [List.take_take, List.take_take, Nat.min_eq_left (Nat.le_succ o)] at h6
    rw [h6, List.take_set, List.set_eq_of_length_le (by rw [List.length_take]; omega)]
theorem own_cut {B e size n g cap i : Nat} {w : World} {xs : List Value} (h : w.ownsRow B e size (.slice (some ⟨g, 0, none⟩) n cap) n xs) (hi : i ≤ n) :
    w.ownsRow B e size (.slice (some ⟨g, 0, none⟩) i cap) i (xs.take (i * size)) := by
  have hle : i * size ≤ n * size := Nat.mul_le_mul_right _ hi
  refine ⟨by rw [List.length_take, h.1]; omega, ?_⟩
  rcases h.2 with ⟨h', _⟩ | ⟨g', cap', cur, h', hb, hg, hnc, hcm, hcs, htake⟩
  · simp at h'
  · injection h' with q1 q2 q3
    injection q1 with q1
    injection q1 with q1
    subst q1; subst q3
    refine .inr ⟨g, cap, cur, rfl, hb, hg, by omega, hcm, hcs, ?_⟩
    rw [← htake, List.take_take, Nat.min_eq_left hle]
theorem zero_pairs (n : Nat) : (Builtin.zeroCells (Value.agg #[.int .i64 0, .int .i64 0]).cells n).toList = List.replicate (n * 2) (.int .i64 0) := by
  have e : (Value.agg #[.int .i64 0, .int .i64 0]).cells = #[.int .i64 0, .int .i64 0] := rfl
  rw [e]
  apply List.ext_getElem
  · simp [Builtin.zeroCells]
  · intro i h1 h2
    simp only [Builtin.zeroCells, Array.getElem_toList, Array.getElem_map, Array.getElem_range, List.getElem_replicate]
    rcases Nat.mod_two_eq_zero_or_one i with h | h <;> simp [h]
theorem run_clear_pairs {P : Program} (w : World) (t e ty : TypeId) (ht : P.underlying t = some (.slice e)) (hv : ∀ w, (zeroValue e).run P w = .ok (.agg #[.int .i64 0, .int .i64 0]) w) (b o n c : Nat) (hn : 0 < n)
    (hc : ∀ j, j < n * 2 → (w.cell? ⟨b, o + j, none⟩).isSome = true) (hf : ∀ j, j < n * 2 → w.frozen? ⟨b, o + j, none⟩ = false) :
    (Builtin.clear_ #[t] ty #[.slice (some ⟨b, o, none⟩) n c]).run P w = .ok (.tuple #[]) (w.setCells b o (List.replicate (n * 2) (.int .i64 0))) := by
  have hst := run_storeCells_cells (P := P) b o (List.replicate (n * 2) (.int .i64 0)) 0 w (by simpa using hc) (by simpa using hf) (by intro v hv'; rw [List.eq_of_mem_replicate hv']; rfl)
  simp only [Nat.add_zero] at hst
  obtain ⟨m, rfl⟩ : ∃ m, n = m + 1 := ⟨n - 1, by omega⟩
  simp [Builtin.clear_, run_underlying ht, hv, zero_pairs, hst]
end Go.Proofs.Kv
namespace Go.Proofs.Ytoopgmoopmbfnaa
open Go.RowKit Go.Proofs.Kv Go.Proofs.Snd

/-! ### slices.DeleteFunc of names -/
theorem idxP_cases (P : Int × Int → Bool) (l : List (Int × Int)) : (idxP P l = -1 ∧ ∀ j, j < l.length → P (l.getD j (0, 0)) = false) ∨ ∃ k, k < l.length ∧ idxP P l = (k : Int) ∧ P (l.getD k (0, 0)) = true ∧ ∀ j, j < k → P (l.getD j (0, 0)) = false := by
  have hat : ∀ j, (h : j < l.length) → l.getD j (0, 0) = l[j] := fun j h => by simp [List.getD, List.getElem?_eq_getElem h]
  unfold idxP
  by_cases ha : l.any P = true
  · rw [if_pos ha]
    have hlt : l.findIdx P < l.length := by
      rw [List.findIdx_lt_length]
      obtain ⟨x, hx, hp⟩ := List.any_eq_true.1 ha
      exact ⟨x, hx, hp⟩
    refine .inr ⟨l.findIdx P, hlt, rfl, ?_, fun j hj => ?_⟩
    · rw [hat _ hlt]; exact List.findIdx_getElem (w := hlt)
    · rw [hat j (by omega)]; exact Bool.eq_false_iff.2 (by have := List.not_of_lt_findIdx hj; simpa using this)
  · rw [if_neg ha]
    refine .inl ⟨rfl, fun j hj => ?_⟩
    rw [Bool.not_eq_true, List.any_eq_false] at ha
    rw [hat j hj]
    simpa using ha _ (List.getElem_mem hj)
def kept (P : Int × Int → Bool) (l : List (Int × Int)) : List (Int × Int) := l.filter fun x => !P x
theorem kept_none {P : Int × Int → Bool} {l : List (Int × Int)} (h : ∀ j, j < l.length → P (l.getD j (0, 0)) = false) : kept P l = l := by
  unfold kept
  rw [List.filter_eq_self]
  intro x hx
  obtain ⟨i, hi, e⟩ := List.mem_iff_getElem.1 hx
  have := h i hi
  rw [List.getD, List.getElem?_eq_getElem hi, Option.getD_some, e] at this
  simp [this]
/-- what the row holds once j of the names are asked and i of them are kept -/
structure KeptIn (P : Int × Int → Bool) (l : List (Int × Int)) (i j : Nat) (xs : List Value) : Prop where
  len : xs.length = l.length * 2
  cnt : i = (kept P (l.take j)).length
  lt : i < j
  lo : xs.take (2 * i) = (kept P (l.take j)).flatMap encN
  hi : xs.drop (2 * j) = (l.drop j).flatMap encN
theorem kept_take {P : Int × Int → Bool} {l : List (Int × Int)} {j : Nat} (hj : j < l.length) : kept P (l.take (j + 1)) = if P (l.getD j (0, 0)) then kept P (l.take j) else kept P (l.take j) ++ [l.getD j (0, 0)] := by
  rw [Kv.take_snoc l (0, 0) j hj, kept, List.filter_append]
  generalize l.getD j (0, 0) = z
  cases h : P z <;> simp [kept, h]
theorem drop_flat {l : List (Int × Int)} {j : Nat} {xs : List Value} (h : xs.drop (2 * j) = (l.drop j).flatMap encN) (hj : j < l.length) :
    xs[2 * j]? = some (.int .i64 (l.getD j (0, 0)).1) ∧ xs[2 * j + 1]? = some (.int .i64 (l.getD j (0, 0)).2) ∧ xs.drop (2 * (j + 1)) = (l.drop (j + 1)).flatMap encN := by
  have e : l.drop j = l.getD j (0, 0) :: l.drop (j + 1) := by
    rw [List.drop_eq_getElem_cons hj]; simp [List.getD, List.getElem?_eq_getElem hj]
  rw [e, List.flatMap_cons] at h
  refine ⟨?_, ?_, ?_⟩
  · have := congrArg (fun z => z[0]?) h
    simpa [encN] using this
  · have := congrArg (fun z => z[1]?) h
    simpa [encN] using this
  · have := congrArg (List.drop 2) h
    rw [List.drop_drop] at this
    rw [show 2 * (j + 1) = 2 * j + 2 by omega, this]
    rfl
theorem KeptIn.skip {P : Int × Int → Bool} {l : List (Int × Int)} {i j : Nat} {xs : List Value} (h : KeptIn P l i j xs) (hj : j < l.length) (hp : P (l.getD j (0, 0)) = true) : KeptIn P l i (j + 1) xs :=
  ⟨h.len, by rw [kept_take hj, if_pos hp]; exact h.cnt, by have := h.lt; omega, by rw [kept_take hj, if_pos hp]; exact h.lo, (drop_flat h.hi hj).2.2⟩
theorem KeptIn.keep {P : Int × Int → Bool} {l : List (Int × Int)} {i j : Nat} {xs : List Value} (h : KeptIn P l i j xs) (hj : j < l.length) (hp : P (l.getD j (0, 0)) = false) :
    KeptIn P l (i + 1) (j + 1) ((xs.set (i * 2) (.int .i64 (l.getD j (0, 0)).1)).set (i * 2 + 1) (.int .i64 (l.getD j (0, 0)).2)) := by
  have hlt := h.lt
  have hlen := h.len
  refine ⟨by simpa using hlen, ?_, by omega, ?_, ?_⟩
  · rw [kept_take hj, if_neg (by rw [hp]; decide), List.length_append, ← h.cnt]; rfl
  · rw [set_two (by omega), h.lo, kept_take hj, if_neg (by rw [hp]; decide), List.flatMap_append]; simp [encN]
  · rw [List.drop_set_of_lt (by omega), List.drop_set_of_lt (by omega)]
    exact (drop_flat h.hi hj).2.2
theorem KeptIn.start {P : Int × Int → Bool} {l : List (Int × Int)} {k : Nat} (hk : k < l.length) (hp : P (l.getD k (0, 0)) = true) (hall : ∀ j, j < k → P (l.getD j (0, 0)) = false) : KeptIn P l k (k + 1) (l.flatMap encN) := by
  have e : kept P (l.take (k + 1)) = l.take k := by
    rw [kept_take hk, if_pos hp]
    refine kept_none fun j hj => ?_
    rw [List.length_take] at hj
    have := hall j (by omega)
    simpa [List.getD, show j < k by omega] using this
  have hsp : l.flatMap encN = (l.take k).flatMap encN ++ (l.drop k).flatMap encN := by rw [← List.flatMap_append, List.take_append_drop]
  have hsp' : l.flatMap encN = (l.take (k + 1)).flatMap encN ++ (l.drop (k + 1)).flatMap encN := by rw [← List.flatMap_append, List.take_append_drop]
  have hl : ∀ j, j ≤ l.length → ((l.take j).flatMap encN).length = 2 * j := fun j hj => by rw [encN_len, List.length_take]; omega
  refine ⟨encN_len l, by rw [e, List.length_take]; omega, by omega, ?_, ?_⟩
  · rw [e, hsp, ← hl k (by omega), List.take_left']
    rfl
  · rw [hsp', ← hl (k + 1) (by omega), List.drop_left']
    rfl

theorem Try.zeroName : ∀ w, (zeroValue 71).run Try.prog w = .ok (.agg #[.int .i64 0, .int .i64 0]) w := fun w => by kernel_rfl
set_option maxRecDepth 100000 in
set_option maxHeartbeats 1000000 in
theorem deleteFunc_calls (P : Int × Int → Bool) (p2 p3 : Addr) {B n : Nat} {v : Value} {l : List (Int × Int)} {w : World} (hown : w.ownsRow B 71 2 v n (l.flatMap encN)) (h0 : 0 < n) (hs : n ≤ 1000000) (hB : B ≤ w.heap.size) (hP : Asks P l p2 p3 B w) :
    Calls Try.prog 94 #[v, .func (.func 96) #[] #[.pointer (some p2), .pointer (some p3)]] w fun e w' => ∃ v', e = .returned v' ∧ w'.ownsRow B 71 2 v' (kept P l).length ((kept P l).flatMap encN) ∧ Below B w w' := by
  have hl : l.length = n := by have := hown.1; rw [encN_len] at this; omega
  have eg : ∀ args w, (callFunc 96 args).run Try.prog w = .ok (.enter 96 args) w := enters_of Try.func96 (by kernel_rfl) rfl
  obtain ⟨g, cap, rfl⟩ : ∃ g cap, v = .slice (some ⟨g, 0, none⟩) n cap := by
    rcases hown.2 with ⟨_, rfl⟩ | ⟨g, cap, _, rfl, _⟩
    · omega
    · exact ⟨g, cap, rfl⟩
  obtain ⟨hgB, hgw⟩ := hown.lt g rfl
  have hcap : n ≤ cap := by
    rcases hown.2 with ⟨h, _⟩ | ⟨g', cap', cur, h, _, _, hnc, _⟩
    · cases h
    · injection h with q1 q2 q3; omega
  have hcap2 : cap ≤ 9223372036854775807 := by
    rcases hown.2 with ⟨h, _⟩ | ⟨g', cap', cur, h, _, _, _, hm, _⟩
    · cases h
    · injection h with q1 q2 q3; unfold maxLen at hm; omega
  have hat : PairsAt w (some ⟨g, 0, none⟩) n cap l := by
    obtain ⟨a1, c1, e, hA⟩ := PairsAt.own hown
    injection e with e1 e2 e3
    subst e1; subst e3; exact hA
  have hIF := indexFunc_calls P p2 p3 (some ⟨g, 0, none⟩) n cap l w hat hB hP
  have hnn : n ≤ 9223372036854775807 := by omega
  rcases idxP_cases P l with ⟨e1, hall⟩ | ⟨k, hk, e1, hp, hall⟩
  · rw [e1] at hIF
    have HIF := hid_ hIF
    have Hk : Hid (kept P l = l) := hid_ (kept_none hall)
    have Hl := hid_ hl
    have Hown := hid_ hown
    clear hIF e1 hall hl hown hat hP eg
    go_enter Try.func94, Try.ntmps94
    go_wp2_with fail
    refine HIF.out.mono ?_
    rintro e w1 ⟨rfl, hb1⟩
    go_wp2
    go_ret
    exact ⟨_, rfl, by rw [Hk.out, Hl.out]; exact own_below Hown.out hb1 (Nat.le_refl _), hb1.mono hB⟩
  · rw [e1] at hIF
    have HIF := hid_ hIF
    have Hst := hid_ (KeptIn.start hk hp hall)
    have HP := hid_ hP
    have Hl := hid_ hl
    have Hown := hid_ hown
    have hkn : k < n := by omega
    have hne : ((k : Int) == -1) = false := beq_eq_false_iff_ne.2 (by omega)
    clear hIF e1 hall hl hown hat hP hp hk
    go_enter Try.func94, Try.ntmps94
    go_wp2_with fail
    refine HIF.out.mono ?_
    rintro e w1 ⟨rfl, hb1⟩
    have Hown1 := hid_ (own_below Hown.out hb1 (Nat.le_refl _))
    have Hb1 : Hid (Below B w w1) := hid_ (hb1.mono hB)
    have hgw1 : g < w1.heap.size := Nat.lt_of_lt_of_le hgw hb1.size
    clear hb1 Hown HIF
    go_wp2
    go_loopw [5, 6] (fun i j wr => ∃ (i' j' : Nat) (xs : List Value), j' ≤ n ∧ i = .int .i64 i' ∧ j = .int .i64 j' ∧ i' < j' ∧ wr.ownsRow B 71 2 (.slice (some ⟨g, 0, none⟩) n cap) n xs ∧ KeptIn P l i' j' xs ∧ Below B w wr) (fun _ j _ => n - (intOf j).toNat)
    case atStart => exact ⟨k, k + 1, _, by omega, rfl, by go_num, by omega, Hown1.out, Hst.out, Hb1.out⟩
    case round =>
      obtain ⟨i, j, xs, hj, rfl, rfl, hij, hown, hki, hbel⟩ := hrel
      have hsz := hbel.size
      have hxl : xs.length = n * 2 := hown.1
      by_cases hlt : j < n
      · have hjl : j < l.length := by rw [Hl.out]; exact hlt
        obtain ⟨d1, d2, -⟩ := drop_flat hki.hi hjl
        have c1 : wr.cell? ⟨g, j * 2, none⟩ = some (.int .i64 (l.getD j (0, 0)).1) := (hown.cellAt (j * 2) (by omega)).trans (by rw [Nat.mul_comm j 2]; exact d1)
        have c2 : wr.cell? ⟨g, j * 2 + 1, none⟩ = some (.int .i64 (l.getD j (0, 0)).2) := (hown.cellAt (j * 2 + 1) (by omega)).trans (by rw [Nat.mul_comm j 2]; exact d2)
        have Hc := hid_ (fun W (hW : Below wr.heap.size wr W) => HP.out W j (hbel.trans (hW.mono (by omega))) hjl)
        have Hki := hid_ hki
        have Hkeep := hid_ (fun h => hki.keep hjl h)
        have Hskip := hid_ (fun h => hki.skip hjl h)
        have Hown2 := hid_ hown
        have Hbel := hid_ hbel
        have hgw2 := (hown.lt g rfl).2
        clear hki hown hbel d1 d2
        cases hq : P (l.getD j (0, 0)) with
        | true =>
          have Hs := hid_ (Hskip.out hq)
          rw [hq] at Hc
          have Hc' := hid_ Hc.out
          clear Hc hq Hkeep Hskip
          generalize l.getD j (0, 0) = xy at c1 c2 Hc'
          obtain ⟨x, y⟩ := xy
          simp only at c1 c2
          go_wp2_with (go_at_call 96; refine (Hc'.out _ ((Below.refl _ _).alloc (Nat.le_refl _) _)).mono ?_; rintro e w' ⟨rfl, hb'⟩)
          have hb2 : Below wr.heap.size wr w' := ((Below.refl _ _).alloc (Nat.le_refl _) _).trans (hb'.mono (by simp))
          go_roundw
          case rel => exact ⟨i, j + 1, xs, by omega, rfl, by go_num, by omega, own_below Hown2.out hb2 (Nat.le_refl _), Hs.out, Hbel.out.trans (hb2.mono (Nat.le_trans hB hsz))⟩
          case measure => simp [intOf]; omega
        | false =>
          have Hs := hid_ (Hkeep.out hq)
          rw [hq] at Hc
          have Hc' := hid_ Hc.out
          clear Hc hq Hkeep Hskip
          generalize l.getD j (0, 0) = xy at c1 c2 Hc' Hs
          obtain ⟨x, y⟩ := xy
          simp only at c1 c2
          obtain ⟨wa, hwa⟩ : ∃ wa, wr.alloc (.cells #[.int .i64 x, .int .i64 y] 71) = wa := ⟨_, rfl⟩
          have Hba : Hid (Below wr.heap.size wr wa) := hid_ (by rw [← hwa]; exact (Below.refl _ _).alloc (Nat.le_refl _) _)
          have Hbox : Hid (∀ w', Below wa.heap.size wa w' → w'.cell? ⟨wr.heap.size, 0, none⟩ = some (.int .i64 x) ∧ w'.cell? ⟨wr.heap.size, 1, none⟩ = some (.int .i64 y)) := hid_ fun w' hb => by
            have hz : wr.heap.size < wa.heap.size := by rw [← hwa]; simp
            refine ⟨(hb.cell (p := ⟨wr.heap.size, 0, none⟩) hz).trans ?_, (hb.cell (p := ⟨wr.heap.size, 1, none⟩) hz).trans ?_⟩
            · rw [← hwa, World.cell?_alloc_at _ _ _ _ rfl]; rfl
            · rw [← hwa, World.cell?_alloc_at _ _ _ _ rfl]; rfl
          have Hcw := hid_ (Hc'.out wa Hba.out)
          obtain ⟨ea0, ea1⟩ := Hbox.out wa (Below.refl _ _)
          clear Hc'
          go_wp2_with fail
          refine Hcw.out.mono ?_
          rintro e w' ⟨rfl, hb'⟩
          obtain ⟨e0, e1⟩ := Hbox.out w' hb'
          have Hb2 : Hid (Below wr.heap.size wr w') := hid_ (Hba.out.trans (hb'.mono Hba.out.size))
          have hown3 := own_below Hown2.out Hb2.out (Nat.le_refl _)
          have ht0 := hown3.cellAt (i * 2) (by omega)
          have ht1 := hown3.cellAt (i * 2 + 1) (by omega)
          rw [List.getElem?_eq_getElem (by omega)] at ht0 ht1
          have hf0 := hown3.frozenAt (i * 2)
          have hf1 := hown3.frozenAt (i * 2 + 1)
          have hst1 := hown3.stored (i * 2) (.int .i64 x)
          have hst2 := hst1.1.stored (i * 2 + 1) (.int .i64 y)
          have Hst1 := hid_ hst1
          have Hst2 := hid_ hst2
          have hin : i < n := by omega
          have hgw3 := (hown3.lt g rfl).2
          clear hwa hb' Hcw ea0 ea1 hown3 hst1 hst2 hgw2
          go_wp2
          go_roundw
          case rel => exact ⟨i + 1, j + 1, _, by omega, by go_num, by go_num, by omega, Hst2.out.1, Hs.out, (Hbel.out.trans (Hb2.out.mono (Nat.le_trans hB hsz))).grown (Hst1.out.2.trans Hst2.out.2) (Nat.le_trans hB (Nat.le_trans hsz Hb2.out.size)) (fun r e => by cases e; exact hgB)⟩
          case measure => simp [intOf]; omega
      · obtain rfl : j = n := by omega
        have hclear : ∀ ty, (Builtin.clear_ #[66] ty #[.slice (some ⟨g, i * 2, none⟩) (j - i) (cap - i)]).run Try.prog wr = .ok (.tuple #[]) (wr.setCells g (i * 2) (List.replicate ((j - i) * 2) (.int .i64 0))) := fun ty =>
          run_clear_pairs wr _ _ ty Try.underlying66 Try.zeroName g (i * 2) (j - i) (cap - i) (by omega)
            (fun t ht => by
              have hq : i * 2 + t < j * 2 := by omega
              rw [hown.cellAt (i * 2 + t) hq, List.getElem?_eq_getElem (by omega)]; rfl)
            (fun t ht => hown.frozenAt (i * 2 + t))
        have Hki := hid_ hki
        have Hown2 := hid_ hown
        have Hbel := hid_ hbel
        clear hki hown hbel
        have hcapi : ¬ cap = i := by omega
        go_wp2
        go_ret
        obtain ⟨ys, q1, q2, q3⟩ := own_setCells (List.replicate ((j - i) * 2) (.int .i64 0)) (i * 2) Hown2.out
        have hcut := own_cut q1 (show i ≤ j by omega)
        have hlt' : l.take j = l := List.take_of_length_le (by rw [Hl.out]; exact Nat.le_refl _)
        have hlo := Hki.out.lo
        have hcnt := Hki.out.cnt
        rw [hlt'] at hlo hcnt
        have hlo2 : xs.take (i * 2) = (kept P l).flatMap encN := by rw [Nat.mul_comm i 2]; exact hlo
        rw [q2, hlo2] at hcut
        rw [← hcnt]
        exact ⟨_, rfl, hcut, Hbel.out.grown q3 (Nat.le_trans hB Hbel.out.size) (fun r e => by cases e; exact hgB)⟩
end Go.Proofs.Ytoopgmoopmbfnaa
