import Derived.Test.YtebbmhlkdfmmcaaGreatJq
import Derived.OneCell
namespace Go.Proofs.YtebbmhlkdfmmcaaGreat
open Go.RowKit Go.Proofs.Kv Go.Maps Go.WideMaps

/-! ### the numbers of words by their keys -/
theorem Tryz.zeroI (w : World) : (zeroValue 3).run Tryz.prog w = .ok (.int .i64 0) w := by kernel_rfl
theorem Tryz.keyLaw : Keyed Tryz.prog 9 := string_keyed Tryz.underlying9
def kl (l : List Int) : Lit := .string (strOfNums l).data.toList
theorem kl_of {l : List Int} (h : l.length ≤ 1000) : keyOf Tryz.prog 9 (.string (strOfNums l)) = some (kl l) :=
  keyOf_string_mk Tryz.underlying9 (by rw [strOfNums_size]; unfold maxLen; omega)
theorem kl_inj {l m : List Int} (hl : validW l = 0) (hm : validW m = 0) (h : kl l = kl m) : l = m := by
  have h1 := (validW_ok hl).2
  have h2 := (validW_ok hm).2
  rw [isWord, List.all_eq_true] at h1 h2
  injection h with h
  rw [strOfNums_data, strOfNums_data] at h
  have hlen : l.length = m.length := by have := congrArg List.length h; simpa using this
  refine List.ext_getElem hlen fun i a b => ?_
  have e := congrArg (fun z => z[i]?) h
  simp only [List.getElem?_map, List.getElem?_eq_getElem a, List.getElem?_eq_getElem b, Option.map_some, Option.some.injEq] at e
  have r1 := h1 _ (List.getElem_mem a)
  have r2 := h2 _ (List.getElem_mem b)
  simp only [Within, Bool.and_eq_true, decide_eq_true_eq] at r1 r2
  have e2 := congrArg UInt8.toNat e
  rw [UInt8.toNat_ofNat', UInt8.toNat_ofNat'] at e2
  omega
/-- block b is a map that holds the number of each of the words W at its key -/
def NumsAt (w : World) (b : Nat) (W : List (List Int)) : Prop :=
  ∃ D : DataW Unit, w.ownsMap Tryz.prog 9 (plainElem Tryz.prog 3) b W.length D ∧ IsMap D ∧ ∀ l, validW l = 0 →
    (∀ i, findW W l = some i → Maps.has D (kl l) = true ∧ D.atKey (kl l) (.lit (.int .i64 0)) = .lit (.int .i64 (i : Int))) ∧ (findW W l = none → Maps.has D (kl l) = false)
theorem NumsAt.block {w w' : World} {b : Nat} {W : List (List Int)} (h : NumsAt w b W) (hb : w'.heap[b]? = w.heap[b]?) : NumsAt w' b W := by
  obtain ⟨D, ⟨es, clock, h1, h2⟩, h3⟩ := h
  exact ⟨D, ⟨es, clock, by rw [hb]; exact h1, h2⟩, h3⟩
theorem NumsAt.obj {w : World} {b : Nat} {W : List (List Int)} (h : NumsAt w b W) : ∃ es clock, w.heap[b]? = some (.map es clock) := by
  obtain ⟨D, ⟨es, clock, h1, _⟩, _⟩ := h
  exact ⟨es, clock, h1⟩
theorem NumsAt.new (w : World) : NumsAt (w.alloc (.map #[] 0)) w.heap.size [] :=
  ⟨.map [], World.ownsMap_made _ _ _ _, isMap_empty, fun l _ => ⟨fun i hi => by simp [findW] at hi, fun _ => rfl⟩⟩
/-- asking the map for a word -/
theorem NumsAt.look {w : World} {b : Nat} {W : List (List Int)} {l : List Int} (h : NumsAt w b W) (hl : validW l = 0) :
    (Instr.lookup 46 (.map (some b)) (.string (strOfNums l)) true).run Tryz.prog w = .ok (.tuple #[.int .i64 ((((findW W l).getD 0 : Nat)) : Int), .bool (findW W l).isSome]) w := by
  obtain ⟨D, hown, _, hD⟩ := h
  have hk := kl_of (l := l) (by have := (validW_ok hl).1; omega)
  obtain ⟨v, ps, hrun, hv⟩ := hown.look_ok Tryz.keyLaw Tryz.underlying46 (Tryz.zeroI w) (plainElem_int (q := .i64) (a := 0) Tryz.underlying3 (by decide)) hk
  obtain ⟨c, rfl, hc, hwc⟩ := plainElem_int_inv Tryz.underlying3 hv
  have hc' := congrArg Prod.fst hc
  simp only at hc'
  rw [hrun]
  cases hf : findW W l with
  | none =>
    have hn := (hD l hl).2 hf
    rw [atKey_of_not_has hn] at hc'
    rw [hn, ← (Lit.int.inj (DataW.lit.inj hc')).2]
    rfl
  | some i =>
    have h2 := ((hD l hl).1 i hf)
    rw [h2.2] at hc'
    rw [h2.1, ← (Lit.int.inj (DataW.lit.inj hc')).2]
    rfl
theorem wpList_nums_store {w : World} {ops : Array Oper} {rest : List Oper} {o : Oper} {a : Act} {Q : Exit → Act → World → Prop} (hg : o.guard = none) (m x v : Operand) (hop : o.op = Op.mapUpdate 46 m x v)
    (b : Nat) (W : List (List Int)) (hm : a.eval m = .map (some b)) (h : NumsAt w b W) (l : List Int) (hl : validW l = 0) (hn : findW W l = none) (hx : a.eval x = .string (strOfNums l)) (hv : a.eval v = .int .i64 (W.length : Int)) (hs : W.length ≤ 300)
    (hK : ∀ w', NumsAt w' b (W ++ [l]) → w.grownBy w' (some b) → wpList Tryz.prog ops Q rest (a.put o.dst undef) w') : wpList Tryz.prog ops Q (o :: rest) a w := by
  obtain ⟨D, hown, hi, hD⟩ := h
  have hk := kl_of (l := l) (by have := (validW_ok hl).1; omega)
  refine wpList_mapUpdate_own w hg m x v _ hop 9 3 Tryz.keyLaw Tryz.underlying46 _ b W.length D hm hown (by unfold maxLen; omega) _ _ (kl l) hx hv hk (.lit (.int .i64 (W.length : Int))) [] (plainElem_int Tryz.underlying3 ?_) fun w' h1 h2 => hK w' ⟨D.put (kl l) (.lit (.int .i64 (W.length : Int))), ?_, hi.put _ _, fun m hm => ?_⟩ h2
  · exact WalkArith.wf_i64 (by omega)
  · simpa using h1
  · have hkey : WideAt.IsKeyLit (kl l) := trivial
    rw [findW_app hn]
    by_cases e : m = l
    · subst e
      rw [if_pos rfl]
      exact ⟨fun i hi' => by injection hi' with hi'; subst hi'; exact ⟨has_put_same hi hkey _, atKey_put_same hi hkey _ _⟩, fun h => by cases h⟩
    · rw [if_neg e]
      have hne : kl m ≠ kl l := fun h => e (kl_inj hm hl h)
      rw [has_put_other hne, atKey_put_other hne]
      exact hD m hm
end Go.Proofs.YtebbmhlkdfmmcaaGreat
