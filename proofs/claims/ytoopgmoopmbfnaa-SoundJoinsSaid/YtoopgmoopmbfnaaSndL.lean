import Derived.Test.YtoopgmoopmbfnaaSndK
import Derived.Shelf.SlSortCmp.WholeK
import Derived.Shelf.SlSortCmp.NoneTotal
namespace Go.Proofs.Ytoopgmoopmbfnaa
open Go.RowKit Go.Proofs.Kv Go.Proofs.Snd Go.Sort Go.Shelf Go.Proofs

/-! ### a row of the call's own, sorted in place -/
theorem holds_flat {w : World} {g n : Nat} {cur : Array Value} {e : TypeId} {xs : List Value} (hb : w.heap[g]? = some (.cells cur e (0, 0))) (hl : xs.length = n) (ht : cur.toList.take n = xs) : Holds id w g 0 xs.toArray := by
  intro j hj
  have hj' : j < xs.length := by simpa using hj
  refine ⟨?_, by simp [World.frozen?, hb]⟩
  have h1 : (cur.toList.take n)[j]? = xs[j]? := by rw [ht]
  rw [List.getElem?_take_of_lt (by omega)] at h1
  simp only [World.cell?, hb, Nat.zero_add]
  simp only [Option.isSome_none, Bool.false_eq_true, if_false]
  rw [← Array.getElem?_toList, h1]
  simp [hj']
theorem heap_flat {w : World} {g m : Nat} {os : Array Obj} {cur : Array Value} {e : TypeId} {fr : Nat × Nat} (d : Array Value) (hb : w.heap[g]? = some (.cells cur e fr)) :
    (grow (putRow id (Sort.ahead w m) g 0 d) os).heap[g]? = some (.cells (putCells id 0 d cur) e fr) := by
  have hg : g < w.heap.size := (Array.getElem?_eq_some_iff.1 hb).1
  rw [heap_grow_old _ _ (by simpa using hg)]
  simp [putRow, mapBlock, Sort.ahead, Array.getElem?_modify, hb, onCells]
theorem grownBy_flat {w : World} {g m : Nat} {os : Array Obj} (d : Array Value) : w.grownBy (grow (putRow id (Sort.ahead w m) g 0 d) os) (some g) := by
  refine ⟨rfl, rfl, rfl, by simp, fun k hk hne => ?_⟩
  rw [heap_grow_old _ _ (by simpa using hk)]
  have : g ≠ k := fun e => hne (by rw [e])
  simp [putRow, mapBlock, Sort.ahead, Array.getElem?_modify, this]
theorem take_flat (cur : Array Value) (ts : List Value) (h : ts.length ≤ cur.size) : (putCells id 0 ts.toArray cur).toList.take ts.length = ts := by
  apply List.ext_getElem?
  intro j
  by_cases hj : j < ts.length
  · rw [List.getElem?_take_of_lt hj, Array.getElem?_toList]
    simp [putCells, hj, show j < cur.size by omega]
  · rw [List.getElem?_take_eq_none (by omega), List.getElem?_eq_none (by omega)]
/-- what a sort asks of a row of the call's own, and what it leaves of it -/
theorem own_flat {w : World} {B E size n : Nat} {v : Value} {xs : List Value} (hown : w.ownsRow B E size v n xs) (h0 : 0 < n) (hB : B ≤ w.heap.size) :
    ∃ g cap, v = .slice (some ⟨g, 0, none⟩) n cap ∧ g < w.heap.size ∧ Holds id w g 0 xs.toArray ∧
      ∀ m os (ys : List Value), ys.length = xs.length → (grow (putRow id (Sort.ahead w m) g 0 ys.toArray) os).ownsRow B E size v n ys ∧ Below B w (grow (putRow id (Sort.ahead w m) g 0 ys.toArray) os) := by
  rcases hown.2 with ⟨rfl, rfl⟩ | ⟨g, cap, cur, rfl, hbase, hb, h1, h2, h3, h4⟩
  · omega
  · have hxl : xs.length = n * size := hown.1
    refine ⟨g, cap, rfl, (Array.getElem?_eq_some_iff.1 hb).1, holds_flat hb hxl h4, fun m os ys hl => ⟨⟨by rw [hl]; exact hxl, .inr ⟨g, cap, _, rfl, hbase, heap_flat _ hb, h1, h2, by simp [putCells, h3], ?_⟩⟩, ?_⟩⟩
    · rw [← hxl, ← hl]
      refine take_flat cur ys ?_
      rw [hl, hxl, h3]
      exact Nat.mul_le_mul_right _ h1
    · exact (Below.refl _ _).grown (grownBy_flat _) hB fun r e => by cases e; exact hbase

/-! ### slices.SortFunc of ranks -/
theorem ltP (x y : Int × Int) : ltOf cmpP x y = decide (x.1 < y.1 ∨ x.1 = y.1 ∧ x.2 < y.2) := by
  unfold ltOf cmpP cmpI
  simp only [orI]
  by_cases h1 : x.1 < y.1
  · simp [h1]
  · by_cases h2 : y.1 < x.1
    · simp [h1, h2]; omega
    · by_cases h3 : x.2 < y.2
      · simp [h1, h2, h3]; omega
      · by_cases h4 : y.2 < x.2 <;> simp [h1, h2, h3, h4]
theorem swoP : SWO (ltOf cmpP) where
  irrefl x := by rw [ltP]; simp
  trans x y z h1 h2 := by rw [ltP] at *; simp at *; omega
  ntrans x y z h1 h2 := by rw [ltP] at *; simp at *; omega
theorem flatN (l : List (Int × Int)) : flatK encN 2 l.toArray = (l.flatMap encN).toArray := by
  refine ext_get! (by rw [size_flatK, List.size_toArray, List.size_toArray, encN_len]) fun t ht => ?_
  have ht' : t < l.length * 2 := by simpa using ht
  rw [get_flatK _ _ _ t (by simpa using ht')]
  obtain ⟨h1, h2⟩ := encN_at l (t / 2) (by omega)
  have hd : l.toArray[t / 2]! = l.getD (t / 2) (0, 0) := by
    rw [getElem!_pos _ _ (by simp; omega)]
    simp [List.getD, List.getElem?_eq_getElem (show t / 2 < l.length by omega)]
  rw [hd]
  have hlt : t < (l.flatMap encN).length := by rw [encN_len]; exact ht'
  rw [getElem!_pos (l.flatMap encN).toArray t (by rw [List.size_toArray]; exact hlt), List.getElem_toArray]
  rcases Nat.mod_two_eq_zero_or_one t with hm | hm
  · have e : t / 2 * 2 = t := by omega
    rw [e, List.getElem?_eq_getElem hlt] at h1
    injection h1 with h1
    rw [hm, h1]
    rfl
  · have e : t / 2 * 2 + 1 = t := by omega
    rw [e, List.getElem?_eq_getElem hlt] at h2
    injection h2 with h2
    rw [hm, h2]
    rfl

theorem Try.aggRank : ∀ w, (isAgg 127).run Try.prog w = .ok true w := fun w => by kernel_rfl
theorem Try.sizeRank : ∀ w, (Go.sizeOf 127).run Try.prog w = .ok 2 w := fun w => by kernel_rfl
def leP (x y : Int × Int) : Bool := !(ltOf cmpP) y x

set_option maxHeartbeats 1000000 in
theorem sortRanks_calls {B E n : Nat} {v : Value} {l : List (Int × Int)} {w : World} (hown : w.ownsRow B E 2 v n (l.flatMap encN)) (h0 : 0 < n) (hs : n ≤ 1000000) (hB : B ≤ w.heap.size) :
    Calls Try.prog 128 #[v, .func (.func 129) #[] #[]] w fun e w' => e = .returned (.tuple #[]) ∧ w'.ownsRow B E 2 v n ((l.mergeSort leP).flatMap encN) ∧ Below B w w' := by
  have hl : l.length = n := by have := hown.1; rw [encN_len] at this; omega
  obtain ⟨g, cap, rfl, hlt, hH, hafter⟩ := own_flat hown h0 hB
  have eg : ∀ args w, (callFunc 129 args).run Try.prog w = .ok (.enter 129 args) w := enters_of Try.func129 (by kernel_rfl) rfl
  have hcon := AnyQ.slices_SortFunc_total Try.sortRanks 2 Try.aggRank Try.sizeRank encN (fun _ => rfl) (fun x v hv => by simp [encN] at hv; rcases hv with rfl | rfl <;> rfl) cmpP swoP 129 #[] g 0 cap l.toArray w eg
    (fun m os dk _ x y => rankCmp_calls x.1 x.2 y.1 y.2 _)
    (by show Holds id w g 0 (flatK encN 2 l.toArray); rw [flatN]; exact hH) hlt (by simp; omega)
    (fun x y h1 h2 => by rw [ltP] at *; simp at *; exact Prod.ext (by omega) (by omega))
  change Calls Try.prog 128 _ _ _ at hcon
  rw [show l.toArray.size = n by simpa using hl] at hcon
  refine hcon.mono ?_
  rintro e w' ⟨rfl, k, os, rfl⟩
  have := hafter k os ((l.mergeSort leP).flatMap encN) (by rw [encN_len, encN_len]; simp)
  rw [← flatN] at this
  exact ⟨rfl, this⟩
end Go.Proofs.Ytoopgmoopmbfnaa
