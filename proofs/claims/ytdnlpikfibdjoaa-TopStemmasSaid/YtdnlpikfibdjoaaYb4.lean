import Derived.Test.YtdnlpikfibdjoaaYmg
import Derived.Test.YtdnlpikfibdjoaaYH
import Derived.Test.YtdnlpikfibdjoaaShelf
import Derived.Laws.StructEq
import Derived.Lib.Walk
import Derived.Lib.QuietBelow
import Derived.Deep.OwnRows
import Derived.RegionTactic
import Derived.ChangeAlike
import Derived.BigRegion
import Derived.StillTailTactics
import Derived.Shelf.SlSortCmp.WholeK
import Derived.Shelf.SlSortCmp.NoneTotal
/-! sides are sorted (out of stage 8) -/
namespace Go.Proofs.Kv
open Go.RowKit Go
/-- the row of a list of lists that the call owns: v holds slices that read as L, none of which lies in the row itself -/
structure OwnL (E : TypeId) (w : World) (B : Nat) (v : Value) (L : List (List Int)) : Prop where
  has : ∃ vs, w.ownsRow B E 1 v L.length vs ∧ ∀ i, i < L.length → ∃ a n c, vs[i]? = some (.slice a n c) ∧ IntsAt w a n c (L.getD i []) ∧ ∀ b off, 0 < n → a = some ⟨b, off, none⟩ → v.ownBlock ≠ some b

theorem OwnL.nil (E : TypeId) (w : World) (B : Nat) : OwnL E w B (.slice none 0 0) [] := ⟨[], World.ownsRow_nil _ _ _ _, fun i h => absurd h (by simp)⟩
theorem OwnL.below {E : TypeId} {w w' : World} {B B' : Nat} {v : Value} {L : List (List Int)} (h : OwnL E w B v L) (hb : Below B' w w') (hB : w.heap.size ≤ B') : OwnL E w' B v L := by
  obtain ⟨vs, h1, h2⟩ := h.has
  refine ⟨vs, own_below h1 hb hB, fun i hi => ?_⟩
  obtain ⟨a, n, c, e, hr, hd⟩ := h2 i hi
  exact ⟨a, n, c, e, hr.below hb hB, hd⟩
theorem OwnL.drewN {E : TypeId} {w : World} {B : Nat} {v : Value} {L : List (List Int)} (h : OwnL E w B v L) (q : Nat) : OwnL E (w.drewN q) B v L := by
  obtain ⟨vs, h1, h2⟩ := h.has
  refine ⟨vs, h1, fun i hi => ?_⟩
  obtain ⟨a, n, c, e, hr, hd⟩ := h2 i hi
  exact ⟨a, n, c, e, hr.drewN q, hd⟩
theorem OwnL.alloc {E : TypeId} {w : World} {B : Nat} {v : Value} {L : List (List Int)} (h : OwnL E w B v L) (o : Obj) : OwnL E (w.alloc o) B v L :=
  h.below ((Below.refl w.heap.size w).alloc (Nat.le_refl _) o) (Nat.le_refl _)
theorem OwnL.base {E : TypeId} {w : World} {B B' : Nat} {v : Value} {L : List (List Int)} (h : OwnL E w B' v L) (hB : B ≤ B') : OwnL E w B v L := by
  obtain ⟨vs, h1, h2⟩ := h.has
  exact ⟨vs, own_base h1 hB, h2⟩
theorem OwnL.lt {E : TypeId} {w : World} {B : Nat} {v : Value} {L : List (List Int)} (h : OwnL E w B v L) : ∀ k, v.ownBlock = some k → B ≤ k ∧ k < w.heap.size := by
  obtain ⟨vs, h1, _⟩ := h.has
  exact h1.lt

theorem OwnL.at_ {E : TypeId} {w : World} {B : Nat} {v : Value} {L : List (List Int)} (h : OwnL E w B v L) : ∃ a c, v = .slice a L.length c ∧ ListsAt w a L.length c L := by
  obtain ⟨vs, h1, h2⟩ := h.has
  rcases h1.2 with ⟨rfl, h0⟩ | ⟨g, cap, cur, rfl, _, hg, hn, hm, hs, ht⟩
  · rw [h0]
    exact ⟨none, 0, rfl, h0, Nat.le_refl _, by omega, fun i hi => absurd hi (by omega)⟩
  · refine ⟨_, cap, rfl, rfl, hn, by unfold maxLen at hm; omega, fun i hi => ?_⟩
    obtain ⟨a, n, c, e, hr, _⟩ := h2 i hi
    have hc := h1.cells (g := g) rfl i _ e
    have : (⟨g, 0, none⟩ : Addr).add i = ⟨g, 0 + i, none⟩ := by unfold Addr.add; split <;> simp_all
    rw [this] at hc
    exact ⟨g, 0, a, n, c, rfl, (Array.getElem?_eq_some_iff.1 hg).1, hc, hr⟩

end Go.Proofs.Kv
namespace Go.Proofs.Ytdnlpikfibdjoaa
open Go.RowKit Go.Proofs.Kv Go.Sort Go.Shelf Go.Proofs Go
attribute [local go_sem] Oper.semAt_some
/-! ### a row of the call's own, sorted in place -/
theorem holds_flat {w : World} {g n : Nat} {cur : Array Value} {e : TypeId} {xs : List Value} (hb : w.heap[g]? = some (.cells cur e (0, 0))) (hl : xs.length = n) (ht : cur.toList.take n = xs) : Holds id w g 0 xs.toArray := by
  intro j hj
  have hj' : j < xs.length := by simpa using hj
  refine ⟨?_, by simp [World.frozen?, hb]⟩
  have h1 : (cur.toList.take n)[j]? = xs[j]? := by rw [ht]
  rw [List.getElem?_take_of_lt (by omega)] at h1
  simp only [World.cell?, hb, Nat.zero_add]
  simp only [Option.isSome_none, Bool.false_eq_true, if_false]
  rw [← Array.getElem?_toList, h1]
  simp [hj']
theorem heap_flat {w : World} {g m : Nat} {os : Array Obj} {cur : Array Value} {e : TypeId} {fr : Nat × Nat} (d : Array Value) (hb : w.heap[g]? = some (.cells cur e fr)) :
    (grow (putRow id (Sort.ahead w m) g 0 d) os).heap[g]? = some (.cells (putCells id 0 d cur) e fr) := by
  have hg : g < w.heap.size := (Array.getElem?_eq_some_iff.1 hb).1
  rw [heap_grow_old _ _ (by simpa using hg)]
  simp [putRow, mapBlock, Sort.ahead, Array.getElem?_modify, hb, onCells]
theorem grownBy_flat {w : World} {g m : Nat} {os : Array Obj} (d : Array Value) : w.grownBy (grow (putRow id (Sort.ahead w m) g 0 d) os) (some g) := by
  refine ⟨rfl, rfl, rfl, by simp, fun k hk hne => ?_⟩
  rw [heap_grow_old _ _ (by simpa using hk)]
  have : g ≠ k := fun e => hne (by rw [e])
  simp [putRow, mapBlock, Sort.ahead, Array.getElem?_modify, this]
theorem take_flat (cur : Array Value) (ts : List Value) (h : ts.length ≤ cur.size) : (putCells id 0 ts.toArray cur).toList.take ts.length = ts := by
  apply List.ext_getElem?
  intro j
  by_cases hj : j < ts.length
  · rw [List.getElem?_take_of_lt hj, Array.getElem?_toList]
    simp [putCells, hj, show j < cur.size by omega]
  · rw [List.getElem?_take_eq_none (by omega), List.getElem?_eq_none (by omega)]
/-- what a sort asks of a row of the call's own, and what it leaves of it -/
theorem own_flat {w : World} {B E size n : Nat} {v : Value} {xs : List Value} (hown : w.ownsRow B E size v n xs) (h0 : 0 < n) (hB : B ≤ w.heap.size) :
    ∃ g cap, v = .slice (some ⟨g, 0, none⟩) n cap ∧ g < w.heap.size ∧ Holds id w g 0 xs.toArray ∧
      ∀ m os (ys : List Value), ys.length = xs.length → (grow (putRow id (Sort.ahead w m) g 0 ys.toArray) os).ownsRow B E size v n ys ∧ Below B w (grow (putRow id (Sort.ahead w m) g 0 ys.toArray) os) := by
  rcases hown.2 with ⟨rfl, rfl⟩ | ⟨g, cap, cur, rfl, hbase, hb, h1, h2, h3, h4⟩
  · omega
  · have hxl : xs.length = n * size := hown.1
    refine ⟨g, cap, rfl, (Array.getElem?_eq_some_iff.1 hb).1, holds_flat hb hxl h4, fun m os ys hl => ⟨⟨by rw [hl]; exact hxl, .inr ⟨g, cap, _, rfl, hbase, heap_flat _ hb, h1, h2, by simp [putCells, h3], ?_⟩⟩, ?_⟩⟩
    · rw [← hxl, ← hl]
      refine take_flat cur ys ?_
      rw [hl, hxl, h3]
      exact Nat.mul_le_mul_right _ h1
    · exact (Below.refl _ _).grown (grownBy_flat _) hB fun r e => by cases e; exact hbase

/-! ### the order of lists -/
theorem cmpI_cases (x y : Int) : (x < y ∧ cmpI x y = -1) ∨ (y < x ∧ cmpI x y = 1) ∨ (x = y ∧ cmpI x y = 0) := by
  unfold cmpI
  by_cases h1 : x < y
  · exact .inl ⟨h1, if_pos h1⟩
  · by_cases h2 : y < x
    · exact .inr (.inl ⟨h2, by rw [if_neg h1, if_pos h2]⟩)
    · exact .inr (.inr ⟨by omega, by rw [if_neg h1, if_neg h2]⟩)
theorem cmpL_self : ∀ l : List Int, cmpL l l = 0
  | [] => rfl
  | x :: l => by
    rw [cmpL]
    rcases cmpI_cases x x with ⟨h, _⟩ | ⟨h, _⟩ | ⟨_, h⟩
    · omega
    · omega
    · rw [if_pos h]; exact cmpL_self l
theorem cmpL_eq : ∀ {l m : List Int}, cmpL l m = 0 → l = m
  | [], [], _ => rfl
  | [], _ :: _, h => by simp [cmpL] at h
  | _ :: _, [], h => by simp [cmpL] at h
  | x :: l, y :: m, h => by
    rw [cmpL] at h
    rcases cmpI_cases x y with ⟨_, h1⟩ | ⟨_, h1⟩ | ⟨h0, h1⟩
    · rw [h1] at h; simp at h
    · rw [h1] at h; simp at h
    · rw [if_pos h1] at h; rw [h0, cmpL_eq h]
theorem cmpL_neg : ∀ l m : List Int, cmpL m l = - cmpL l m
  | [], [] => rfl
  | [], _ :: _ => rfl
  | _ :: _, [] => rfl
  | x :: l, y :: m => by
    rw [cmpL, cmpL]
    have ih := cmpL_neg l m
    rcases cmpI_cases x y with ⟨h0, h1⟩ | ⟨h0, h1⟩ | ⟨h0, h1⟩
    · rcases cmpI_cases y x with ⟨g0, g1⟩ | ⟨g0, g1⟩ | ⟨g0, g1⟩
      · omega
      · rw [h1, g1]; rfl
      · omega
    · rcases cmpI_cases y x with ⟨g0, g1⟩ | ⟨g0, g1⟩ | ⟨g0, g1⟩
      · rw [h1, g1]; rfl
      · omega
      · omega
    · rcases cmpI_cases y x with ⟨g0, g1⟩ | ⟨g0, g1⟩ | ⟨g0, g1⟩
      · omega
      · omega
      · rw [if_pos h1, if_pos g1]; exact ih
theorem cmpL_trans : ∀ {l m p : List Int}, cmpL l m < 0 → cmpL m p < 0 → cmpL l p < 0
  | [], [], _, h, _ => by simp [cmpL] at h
  | [], _ :: _, [], _, h => by simp [cmpL] at h
  | [], _ :: _, _ :: _, _, _ => by simp [cmpL]
  | _ :: _, [], _, h, _ => by simp [cmpL] at h
  | _ :: _, _ :: _, [], _, h => by simp [cmpL] at h
  | x :: l, y :: m, z :: p, h, k => by
    rw [cmpL] at h k ⊢
    rcases cmpI_cases x y with ⟨h0, h1⟩ | ⟨h0, h1⟩ | ⟨h0, h1⟩
    · rcases cmpI_cases y z with ⟨g0, g1⟩ | ⟨g0, g1⟩ | ⟨g0, g1⟩
      · rcases cmpI_cases x z with ⟨f0, f1⟩ | ⟨f0, f1⟩ | ⟨f0, f1⟩
        · rw [f1]; simp
        · omega
        · omega
      · rw [g1] at k; simp at k
      · rcases cmpI_cases x z with ⟨f0, f1⟩ | ⟨f0, f1⟩ | ⟨f0, f1⟩
        · rw [f1]; simp
        · omega
        · omega
    · rw [h1] at h; simp at h
    · subst h0
      rw [if_pos h1] at h
      rcases cmpI_cases x z with ⟨g0, g1⟩ | ⟨g0, g1⟩ | ⟨g0, g1⟩
      · rw [g1]; simp
      · rw [g1] at k; simp at k
      · rw [if_pos g1] at k ⊢; exact cmpL_trans h k
/-- the larger ones first, then by their copies -/
def cmpS (x y : List Int) : Int := orI [cmpI (y.length : Int) (x.length : Int), cmpL x y]
theorem cmpS_if (x y : List Int) : cmpS x y = if x.length = y.length then cmpL x y else cmpI (y.length : Int) (x.length : Int) := by
  unfold cmpS orI
  rcases cmpI_cases (y.length : Int) (x.length : Int) with ⟨h, e⟩ | ⟨h, e⟩ | ⟨h, e⟩
  · rw [e, if_neg (by decide), if_neg (by omega)]
  · rw [e, if_neg (by decide), if_neg (by omega)]
  · rw [e, if_pos rfl, if_pos (by omega)]
    unfold orI
    by_cases h0 : cmpL x y = 0
    · rw [h0]; rfl
    · rw [if_neg h0]
theorem cmpS_lt (x y : List Int) : cmpS x y < 0 ↔ y.length < x.length ∨ (x.length = y.length ∧ cmpL x y < 0) := by
  rw [cmpS_if]
  by_cases h : x.length = y.length
  · rw [if_pos h]
    exact ⟨fun e => .inr ⟨h, e⟩, fun e => e.elim (fun e => absurd e (by omega)) (fun e => e.2)⟩
  · rw [if_neg h]
    rcases cmpI_cases (y.length : Int) (x.length : Int) with ⟨h1, e⟩ | ⟨h1, e⟩ | ⟨h1, e⟩
    · rw [e]; exact ⟨fun _ => .inl (by omega), fun _ => by omega⟩
    · rw [e]; exact ⟨fun e => absurd e (by omega), fun e => e.elim (fun e => absurd e (by omega)) (fun e => absurd e.1 h)⟩
    · omega
def ltS (x y : List Int) : Bool := decide (cmpS x y < 0)
def leS (x y : List Int) : Bool := !(ltS y x)
theorem swoS : SWO ltS where
  irrefl x := by
    have h : ¬ cmpS x x < 0 := by rw [cmpS_lt, cmpL_self]; omega
    simp [ltS, h]
  trans x y z h1 h2 := by
    simp only [ltS, decide_eq_true_eq, cmpS_lt] at *
    rcases h1 with h1 | ⟨h1, h1'⟩ <;> rcases h2 with h2 | ⟨h2, h2'⟩
    · exact .inl (by omega)
    · exact .inl (by omega)
    · exact .inl (by omega)
    · exact .inr ⟨by omega, cmpL_trans h1' h2'⟩
  ntrans x y z h1 h2 := by
    simp only [ltS, decide_eq_false_iff_not, cmpS_lt] at *
    intro h3
    have f1 : ¬ y.length < x.length := fun e => h1 (.inl e)
    have f2 : ¬ z.length < y.length := fun e => h2 (.inl e)
    rcases h3 with h3 | ⟨h3, h3'⟩
    · omega
    · have g1 : ¬ cmpL x y < 0 := fun e => h1 (.inr ⟨by omega, e⟩)
      have g2 : ¬ cmpL y z < 0 := fun e => h2 (.inr ⟨by omega, e⟩)
      rcases Int.lt_trichotomy (cmpL x y) 0 with h | h | h
      · exact g1 h
      · rw [cmpL_eq h] at h3'; exact g2 h3'
      · rcases Int.lt_trichotomy (cmpL y z) 0 with g | g | g
        · exact g2 g
        · rw [← cmpL_eq g] at h3'; omega
        · have a1 : cmpL y x < 0 := by rw [cmpL_neg]; omega
          have a2 : cmpL z y < 0 := by rw [cmpL_neg]; omega
          have := cmpL_trans a2 a1
          rw [cmpL_neg] at this; omega
theorem ltS_anti : ∀ x y, ltS x y = false → ltS y x = false → x = y := by
  intro x y h1 h2
  simp only [ltS, decide_eq_false_iff_not, cmpS_lt] at h1 h2
  have hl : x.length = y.length := by
    have a := fun e => h1 (.inl e); have b := fun e => h2 (.inl e); omega
  have g1 : ¬ cmpL x y < 0 := fun e => h1 (.inr ⟨hl, e⟩)
  have g2 : ¬ cmpL y x < 0 := fun e => h2 (.inr ⟨hl.symm, e⟩)
  rw [cmpL_neg x y] at g2
  exact cmpL_eq (by omega)

/-! ### the comparison of sides -/
theorem ints2_7 (w : World) (x y : Int) (E : TypeId) : IntsAt (w.alloc (.cells #[.int .i64 x, .int .i64 y] E)) (some ⟨w.heap.size, 0, none⟩) 2 2 [x, y] :=
  ⟨rfl, Nat.le_refl _, by omega, fun i hi => ⟨w.heap.size, 0, rfl, by simp, by
    rcases (show i = 0 ∨ i = 1 by omega) with rfl | rfl
    · exact cells_alloc _ _ _ 0
    · exact cells_alloc _ _ _ 1⟩⟩
set_option maxRecDepth 100000 in
theorem sidesCmp_calls (a : Option Addr) (n c : Nat) (l : List Int) (a' : Option Addr) (n' c' : Nat) (m : List Int) (w : World) (h : IntsAt w a n c l) (h' : IntsAt w a' n' c' m) :
    Calls Try.prog 132 #[.slice a n c, .slice a' n' c'] w fun e w' => e = .returned (.int .i64 (cmpS l m)) ∧ ∃ o, w' = w.alloc o := by
  have Hf : Hid (cmpS l m = orI [cmpI (n' : Int) (n : Int), cmpL l m]) := hid_ (by unfold cmpS; rw [h.len, h'.len])
  have HC := hid_ (cmpI_calls (n' : Int) (n : Int) w)
  have HL := hid_ (cmpL_calls a n c l a' n' c' m w h h')
  have HO := hid_ (fun x y => orI_calls _ 2 2 [x, y] _ (ints2_7 w x y 3))
  clear h h'
  generalize cmpI (n' : Int) (n : Int) = x at *
  generalize cmpL l m = y at *
  go_enter Try.func132, Try.ntmps132
  go_wp2_with (first
    | (go_at_call 92; (with_reducible refine HC.out.mono ?_); rintro e w' ⟨rfl, rfl⟩)
    | (go_at_call 93; (with_reducible refine HL.out.mono ?_); rintro e w' ⟨rfl, rfl⟩)
    | (go_at_call 91; (with_reducible refine (HO.out _ _).mono ?_); rintro e w' ⟨rfl, rfl⟩))
  go_ret
  exact ⟨retI Hf.out, _, rfl⟩

/-! ### slices.SortFunc of lists -/
theorem ints_grown {w w' : World} {g : Nat} {a : Option Addr} {n c : Nat} {l : List Int} (hg : w.grownBy w' (some g)) (h : IntsAt w a n c l) (hd : ∀ b off, 0 < n → a = some ⟨b, off, none⟩ → b ≠ g) : IntsAt w' a n c l :=
  ⟨h.len, h.le, h.small, fun i hi => by
    obtain ⟨b, off, ha, hb, hc⟩ := h.cells i hi
    exact ⟨b, off, ha, Nat.lt_of_lt_of_le hb hg.size, hg.cell hc fun e => hd b off (by omega) ha (by injection e)⟩⟩
theorem putRow_map {α : Type} [Inhabited α] (enc : α → Value) (w : World) (blk : Nat) (d : Array α) : putRow enc w blk 0 d = putRow id w blk 0 (d.map enc) := by
  unfold putRow
  congr 1
  funext c
  unfold putCells
  congr 1
  funext k x
  simp only [Array.size_map]
  by_cases h : 0 ≤ k ∧ k < 0 + d.size
  · rw [if_pos h, if_pos h]
    have hk : k - 0 < d.size := by omega
    rw [getElem!_pos d _ hk, getElem!_pos (d.map enc) _ (by simpa using hk)]
    simp
  · rw [if_neg h, if_neg h]
theorem holds_map {α : Type} [Inhabited α] {enc : α → Value} {w : World} {blk : Nat} {d : Array α} (h : Holds id w blk 0 (d.map enc)) : Holds enc w blk 0 d := fun j hj => by
  have := h j (by simpa using hj)
  rw [getElem!_pos (d.map enc) _ (by simpa using hj)] at this
  rw [getElem!_pos d _ hj]
  simpa using this

def cfI (L : List (List Int)) (i j : Nat) : Int := cmpS (L.getD i []) (L.getD j [])
theorem ltI (L : List (List Int)) (i j : Nat) : ltOf (cfI L) i j = ltS (L.getD i []) (L.getD j []) := rfl
theorem swoI (L : List (List Int)) : SWO (ltOf (cfI L)) where
  irrefl _ := swoS.irrefl _
  trans _ _ _ h1 h2 := swoS.trans _ _ _ h1 h2
  ntrans _ _ _ h1 h2 := swoS.ntrans _ _ _ h1 h2
/-- a sorted permutation of the places gives the sorted list -/
theorem sorted_places {L : List (List Int)} {d' : Array Nat} (hp : PermIn 0 L.length (List.range L.length).toArray d') (hs : SortedIn (ltOf (cfI L)) 0 L.length d') :
    d'.size = L.length ∧ (∀ i, i < L.length → d'[i]! < L.length) ∧ d'.toList.map (fun i => L.getD i []) = L.mergeSort leS := by
  obtain ⟨hsz, _, hperm⟩ := hp
  have hsz' : d'.size = L.length := by simpa using hsz
  have e1 : d'.extract 0 L.length = d' := by rw [← hsz']; exact Array.extract_size
  have e2 : ((List.range L.length).toArray.extract 0 L.length) = (List.range L.length).toArray := by
    have h : (List.range L.length).toArray.size = L.length := by simp
    have := Array.extract_size (xs := (List.range L.length).toArray)
    rwa [h] at this
  rw [e1, e2] at hperm
  have hmem : ∀ i, i < L.length → d'[i]! < L.length := fun i hi => by
    have hi' : i < d'.size := by omega
    rw [getElem!_pos d' i hi']
    have : d'[i] ∈ d'.toList := by simp
    have := (hperm.mem_iff).1 this
    simpa using this
  refine ⟨hsz', hmem, ?_⟩
  have hmap : (List.range L.length).map (fun i => L.getD i []) = L := by
    apply List.ext_getElem (by simp)
    intro i h1 h2
    simp [List.getD, List.getElem?_eq_getElem h2]
  have hpm : (d'.toList.map fun i => L.getD i []).Perm L := by
    have := hperm.map (fun i => L.getD i [])
    rwa [hmap] at this
  refine List.Perm.eq_of_pairwise (le := fun x y => leS x y = true) ?_ ?_ ?_ (hpm.trans (List.mergeSort_perm _ _).symm)
  · intro a b _ _ h1 h2
    simp only [leS, Bool.not_eq_true'] at h1 h2
    exact ltS_anti a b h2 h1
  · rw [List.pairwise_iff_getElem]
    intro i j hi hj hij
    have hi' : i < d'.size := by simpa using hi
    have hj' : j < d'.size := by simpa using hj
    have := hs i j (Nat.zero_le _) hij (by omega)
    rw [getElem!_pos d' j hj', getElem!_pos d' i hi', ltI] at this
    simp only [leS, List.getElem_map, Array.getElem_toList, Bool.not_eq_true']
    exact this
  · refine List.pairwise_mergeSort ?_ ?_ _
    · intro a b c h1 h2
      simp only [leS, Bool.not_eq_true'] at h1 h2 ⊢
      exact swoS.ntrans c b a h2 h1
    · intro a b
      cases h : ltS b a with
      | false => simp [leS, h]
      | true =>
        cases h' : ltS a b with
        | false => simp [leS, h, h']
        | true =>
          have := swoS.trans _ _ _ h h'
          rw [swoS.irrefl] at this; cases this

set_option maxHeartbeats 1000000 in
theorem sortSides_calls {B E : Nat} {v : Value} {L : List (List Int)} {w : World} (hown : OwnL E w B v L) (h0 : 0 < L.length) (hs : L.length ≤ 1000000) (hB : B ≤ w.heap.size) :
    Calls Try.prog 131 #[v, .func (.func 132) #[] #[]] w fun e w' => e = .returned (.tuple #[]) ∧ OwnL E w' B v (L.mergeSort leS) ∧ Below B w w' := by
  obtain ⟨vs, hrow, hin⟩ := hown.has
  have hvl : vs.length = L.length := by have := hrow.1; simpa using this
  obtain ⟨g, cap, rfl, hlt, hH, hafter⟩ := own_flat hrow h0 hB
  let enc : Nat → Value := fun i => vs.getD i (.slice none 0 0)
  have henc : ∀ i, ∃ a n c, enc i = .slice a n c ∧ IntsAt w a n c (L.getD i []) ∧ ∀ b off, 0 < n → a = some ⟨b, off, none⟩ → b ≠ g := by
    intro i
    rcases Nat.lt_or_ge i L.length with hi | hi
    · obtain ⟨a, n, c, e, hr, hd⟩ := hin i hi
      exact ⟨a, n, c, by simp [enc, List.getD, e], hr, fun b off hn ha hb => hd b off hn ha (by rw [hb]; rfl)⟩
    · refine ⟨none, 0, 0, by simp [enc, List.getD, List.getElem?_eq_none (show vs.length ≤ i by omega)], ?_, fun b off hn => absurd hn (by omega)⟩
      rw [List.getD, List.getElem?_eq_none hi]
      exact IntsAt.nil _ _ _ (by omega)
  have hd0 : (List.range L.length).toArray.map enc = vs.toArray := by
    apply Array.ext (by simp [hvl])
    intro i h1 h2
    simp at h1 h2
    simp [enc, List.getD, List.getElem?_eq_getElem h2]
  have hone : OneCell enc := fun i => by
    obtain ⟨a, n, c, e, _, _⟩ := henc i
    rw [e]; rfl
  have eg : ∀ args w, (callFunc 132 args).run Try.prog w = .ok (.enter 132 args) w := enters_of Try.func132 (by kernel_rfl) rfl
  have hgrow : ∀ m os (dk : Array Nat), w.grownBy (sortWorld enc w g 0 m dk os) (some g) := fun m os dk => by
    unfold sortWorld
    rw [putRow_map]
    exact grownBy_flat _
  have hcon := Try.slices_SortFunc enc hone (cfI L) (swoI L) 132 #[] g 0 cap (List.range L.length).toArray w eg
    (fun m os dk _ x y => by
      obtain ⟨a, n, c, e, hr, hd⟩ := henc x
      obtain ⟨a', n', c', e', hr', hd'⟩ := henc y
      rw [e, e']
      exact (sidesCmp_calls a n c _ a' n' c' _ _ (ints_grown (hgrow m os dk) hr hd) (ints_grown (hgrow m os dk) hr' hd')).mono fun _ _ h => ⟨h.1, by
        obtain ⟨o, ho⟩ := h.2
        exact ⟨0, #[o], by rw [ho]; simp [grow, World.drewN]⟩⟩)
    (holds_map (by rw [hd0]; exact hH)) hlt (by simp; omega)
  rw [show (List.range L.length).toArray.size = L.length by simp] at hcon
  refine hcon.mono ?_
  rintro e w' ⟨rfl, d', k, os, hp, hso, rfl⟩
  obtain ⟨hsz, hm, hres⟩ := sorted_places hp hso
  have hlen : (L.mergeSort leS).length = L.length := by simp
  have hw : sortWorld enc w g 0 k d' os = Go.Sort.grow (putRow id (Sort.ahead w k) g 0 (d'.toList.map enc).toArray) os := by
    unfold sortWorld
    rw [putRow_map]
    congr 2
    apply Array.ext (by simp)
    intro i h1 h2
    simp
  obtain ⟨ho, hb⟩ := hafter k os (d'.toList.map enc) (by simp [hsz, hvl])
  rw [← hw] at ho hb
  refine ⟨rfl, ⟨d'.toList.map enc, by rw [hlen]; exact ho, fun i hi => ?_⟩, hb⟩
  rw [hlen] at hi
  obtain ⟨a, n, c, e, hr, hd⟩ := henc d'[i]!
  have hi' : i < d'.size := by omega
  refine ⟨a, n, c, ?_, ?_, fun b off hn ha hbb => hd b off hn ha (by simpa [Value.ownBlock] using hbb.symm)⟩
  · rw [List.getElem?_map, Array.getElem?_toList, Array.getElem?_eq_getElem hi', Option.map_some, ← e, getElem!_pos d' i hi']
  · have : (L.mergeSort leS).getD i [] = L.getD d'[i]! [] := by
      rw [← hres, getElem!_pos d' i hi', List.getD, List.getElem?_map, Array.getElem?_toList, Array.getElem?_eq_getElem hi']; rfl
    rw [this]
    exact ints_grown (hgrow k os d') hr hd
end Go.Proofs.Ytdnlpikfibdjoaa
