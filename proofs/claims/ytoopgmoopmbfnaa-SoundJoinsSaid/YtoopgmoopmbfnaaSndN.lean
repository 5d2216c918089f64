import Derived.Test.YtoopgmoopmbfnaaSndM
namespace Go.Proofs.Ytoopgmoopmbfnaa
open Go.RowKit Go.Proofs.Kv Go.Proofs.Snd Go.Sort Go.Shelf Go.Proofs

/-! ### the order of lists -/
theorem cmpI_cases (x y : Int) : (x < y ∧ cmpI x y = -1) ∨ (y < x ∧ cmpI x y = 1) ∨ (x = y ∧ cmpI x y = 0) := by
  unfold cmpI
  by_cases h1 : x < y
  · exact .inl ⟨h1, if_pos h1⟩
  · by_cases h2 : y < x
    · exact .inr (.inl ⟨h2, by rw [if_neg h1, if_pos h2]⟩)
    · exact .inr (.inr ⟨by omega, by rw [if_neg h1, if_neg h2]⟩)
theorem cmpL_self : ∀ l : List Int, cmpL l l = 0
  | [] => rfl
  | x :: l => by
    rw [cmpL]
    rcases cmpI_cases x x with ⟨h, _⟩ | ⟨h, _⟩ | ⟨_, h⟩
    · omega
    · omega
    · rw [if_pos h]; exact cmpL_self l
theorem cmpL_eq : ∀ {l m : List Int}, cmpL l m = 0 → l = m
  | [], [], _ => rfl
  | [], _ :: _, h => by simp [cmpL] at h
  | _ :: _, [], h => by simp [cmpL] at h
  | x :: l, y :: m, h => by
    rw [cmpL] at h
    rcases cmpI_cases x y with ⟨_, h1⟩ | ⟨_, h1⟩ | ⟨h0, h1⟩
    · rw [h1] at h; simp at h
    · rw [h1] at h; simp at h
    · rw [if_pos h1] at h; rw [h0, cmpL_eq h]
theorem cmpL_neg : ∀ l m : List Int, cmpL m l = - cmpL l m
  | [], [] => rfl
  | [], _ :: _ => rfl
  | _ :: _, [] => rfl
  | x :: l, y :: m => by
    rw [cmpL, cmpL]
    have ih := cmpL_neg l m
    rcases cmpI_cases x y with ⟨h0, h1⟩ | ⟨h0, h1⟩ | ⟨h0, h1⟩
    · rcases cmpI_cases y x with ⟨g0, g1⟩ | ⟨g0, g1⟩ | ⟨g0, g1⟩
      · omega
      · rw [h1, g1]; rfl
      · omega
    · rcases cmpI_cases y x with ⟨g0, g1⟩ | ⟨g0, g1⟩ | ⟨g0, g1⟩
      · rw [h1, g1]; rfl
      · omega
      · omega
    · rcases cmpI_cases y x with ⟨g0, g1⟩ | ⟨g0, g1⟩ | ⟨g0, g1⟩
      · omega
      · omega
      · rw [if_pos h1, if_pos g1]; exact ih
theorem cmpL_trans : ∀ {l m p : List Int}, cmpL l m < 0 → cmpL m p < 0 → cmpL l p < 0
  | [], [], _, h, _ => by simp [cmpL] at h
  | [], _ :: _, [], _, h => by simp [cmpL] at h
  | [], _ :: _, _ :: _, _, _ => by simp [cmpL]
  | _ :: _, [], _, h, _ => by simp [cmpL] at h
  | _ :: _, _ :: _, [], _, h => by simp [cmpL] at h
  | x :: l, y :: m, z :: p, h, k => by
    rw [cmpL] at h k ⊢
    rcases cmpI_cases x y with ⟨h0, h1⟩ | ⟨h0, h1⟩ | ⟨h0, h1⟩
    · rcases cmpI_cases y z with ⟨g0, g1⟩ | ⟨g0, g1⟩ | ⟨g0, g1⟩
      · rcases cmpI_cases x z with ⟨f0, f1⟩ | ⟨f0, f1⟩ | ⟨f0, f1⟩
        · rw [f1]; simp
        · omega
        · omega
      · rw [g1] at k; simp at k
      · rcases cmpI_cases x z with ⟨f0, f1⟩ | ⟨f0, f1⟩ | ⟨f0, f1⟩
        · rw [f1]; simp
        · omega
        · omega
    · rw [h1] at h; simp at h
    · subst h0
      rw [if_pos h1] at h
      rcases cmpI_cases x z with ⟨g0, g1⟩ | ⟨g0, g1⟩ | ⟨g0, g1⟩
      · rw [g1]; simp
      · rw [g1] at k; simp at k
      · rw [if_pos g1] at k ⊢; exact cmpL_trans h k
def ltL (x y : List Int) : Bool := decide (cmpL x y < 0)
def leL (x y : List Int) : Bool := !(ltL y x)
theorem swoL : SWO ltL where
  irrefl x := by simp [ltL, cmpL_self]
  trans x y z h1 h2 := by simp only [ltL, decide_eq_true_eq] at *; exact cmpL_trans h1 h2
  ntrans x y z h1 h2 := by
    simp only [ltL, decide_eq_false_iff_not] at *
    intro h3
    rcases Int.lt_trichotomy (cmpL x y) 0 with h | h | h
    · exact h1 h
    · rw [cmpL_eq h] at h3; exact h2 h3
    · rcases Int.lt_trichotomy (cmpL y z) 0 with g | g | g
      · exact h2 g
      · rw [← cmpL_eq g] at h3; omega
      · have a1 : cmpL y x < 0 := by rw [cmpL_neg]; omega
        have a2 : cmpL z y < 0 := by rw [cmpL_neg]; omega
        have := cmpL_trans a2 a1
        rw [cmpL_neg] at this; omega
theorem ltL_anti : ∀ x y, ltL x y = false → ltL y x = false → x = y := by
  intro x y h1 h2
  simp only [ltL, decide_eq_false_iff_not] at h1 h2
  rw [cmpL_neg x y] at h2
  exact cmpL_eq (by omega)

/-! ### slices.SortFunc of lists -/
theorem ints_grown {w w' : World} {g : Nat} {a : Option Addr} {n c : Nat} {l : List Int} (hg : w.grownBy w' (some g)) (h : IntsAt w a n c l) (hd : ∀ b off, 0 < n → a = some ⟨b, off, none⟩ → b ≠ g) : IntsAt w' a n c l :=
  ⟨h.len, h.le, h.small, fun i hi => by
    obtain ⟨b, off, ha, hb, hc⟩ := h.cells i hi
    exact ⟨b, off, ha, Nat.lt_of_lt_of_le hb hg.size, hg.cell hc fun e => hd b off (by omega) ha (by injection e)⟩⟩
theorem putRow_map {α : Type} [Inhabited α] (enc : α → Value) (w : World) (blk : Nat) (d : Array α) : putRow enc w blk 0 d = putRow id w blk 0 (d.map enc) := by
  unfold putRow
  congr 1
  funext c
  unfold putCells
  congr 1
  funext k x
  simp only [Array.size_map]
  by_cases h : 0 ≤ k ∧ k < 0 + d.size
  · rw [if_pos h, if_pos h]
    have hk : k - 0 < d.size := by omega
    rw [getElem!_pos d _ hk, getElem!_pos (d.map enc) _ (by simpa using hk)]
    simp
  · rw [if_neg h, if_neg h]
theorem holds_map {α : Type} [Inhabited α] {enc : α → Value} {w : World} {blk : Nat} {d : Array α} (h : Holds id w blk 0 (d.map enc)) : Holds enc w blk 0 d := fun j hj => by
  have := h j (by simpa using hj)
  rw [getElem!_pos (d.map enc) _ (by simpa using hj)] at this
  rw [getElem!_pos d _ hj]
  simpa using this

def cfI (L : List (List Int)) (i j : Nat) : Int := cmpL (L.getD i []) (L.getD j [])
theorem ltI (L : List (List Int)) (i j : Nat) : ltOf (cfI L) i j = ltL (L.getD i []) (L.getD j []) := rfl
theorem swoI (L : List (List Int)) : SWO (ltOf (cfI L)) where
  irrefl _ := swoL.irrefl _
  trans _ _ _ h1 h2 := swoL.trans _ _ _ h1 h2
  ntrans _ _ _ h1 h2 := swoL.ntrans _ _ _ h1 h2
/-- a sorted permutation of the places gives the sorted list -/
theorem sorted_places {L : List (List Int)} {d' : Array Nat} (hp : PermIn 0 L.length (List.range L.length).toArray d') (hs : SortedIn (ltOf (cfI L)) 0 L.length d') :
    d'.size = L.length ∧ (∀ i, i < L.length → d'[i]! < L.length) ∧ d'.toList.map (fun i => L.getD i []) = L.mergeSort leL := by
  obtain ⟨hsz, _, hperm⟩ := hp
  have hsz' : d'.size = L.length := by simpa using hsz
  have e1 : d'.extract 0 L.length = d' := by rw [← hsz']; exact Array.extract_size
  have e2 : ((List.range L.length).toArray.extract 0 L.length) = (List.range L.length).toArray := by
    have h : (List.range L.length).toArray.size = L.length := by simp
    have := Array.extract_size (xs := (List.range L.length).toArray)
    rwa [h] at this
  rw [e1, e2] at hperm
  have hmem : ∀ i, i < L.length → d'[i]! < L.length := fun i hi => by
    have hi' : i < d'.size := by omega
    rw [getElem!_pos d' i hi']
    have : d'[i] ∈ d'.toList := by simp
    have := (hperm.mem_iff).1 this
    simpa using this
  refine ⟨hsz', hmem, ?_⟩
  have hmap : (List.range L.length).map (fun i => L.getD i []) = L := by
    apply List.ext_getElem (by simp)
    intro i h1 h2
    simp [List.getD, List.getElem?_eq_getElem h2]
  have hpm : (d'.toList.map fun i => L.getD i []).Perm L := by
    have := hperm.map (fun i => L.getD i [])
    rwa [hmap] at this
  refine List.Perm.eq_of_pairwise (le := fun x y => leL x y = true) ?_ ?_ ?_ (hpm.trans (List.mergeSort_perm _ _).symm)
  · intro a b _ _ h1 h2
    simp only [leL, Bool.not_eq_true'] at h1 h2
    exact ltL_anti a b h2 h1
  · rw [List.pairwise_iff_getElem]
    intro i j hi hj hij
    have hi' : i < d'.size := by simpa using hi
    have hj' : j < d'.size := by simpa using hj
    have := hs i j (Nat.zero_le _) hij (by omega)
    rw [getElem!_pos d' j hj', getElem!_pos d' i hi', ltI] at this
    simp only [leL, List.getElem_map, Array.getElem_toList, Bool.not_eq_true']
    exact this
  · refine List.pairwise_mergeSort ?_ ?_ _
    · intro a b c h1 h2
      simp only [leL, Bool.not_eq_true'] at h1 h2 ⊢
      exact swoL.ntrans c b a h2 h1
    · intro a b
      cases h : ltL b a with
      | false => simp [leL, h]
      | true =>
        cases h' : ltL a b with
        | false => simp [leL, h, h']
        | true =>
          have := swoL.trans _ _ _ h h'
          rw [swoL.irrefl] at this; cases this

set_option maxHeartbeats 1000000 in
theorem sortLists_calls {B E : Nat} {v : Value} {L : List (List Int)} {w : World} (hown : OwnL E w B v L) (h0 : 0 < L.length) (hs : L.length ≤ 1000000) (hB : B ≤ w.heap.size) :
    Calls Try.prog 107 #[v, .func (.func 64) #[] #[]] w fun e w' => e = .returned (.tuple #[]) ∧ OwnL E w' B v (L.mergeSort leL) ∧ Below B w w' := by
  obtain ⟨vs, hrow, hin⟩ := hown.has
  have hvl : vs.length = L.length := by have := hrow.1; simpa using this
  obtain ⟨g, cap, rfl, hlt, hH, hafter⟩ := own_flat hrow h0 hB
  let enc : Nat → Value := fun i => vs.getD i (.slice none 0 0)
  have henc : ∀ i, ∃ a n c, enc i = .slice a n c ∧ IntsAt w a n c (L.getD i []) ∧ ∀ b off, 0 < n → a = some ⟨b, off, none⟩ → b ≠ g := by
    intro i
    rcases Nat.lt_or_ge i L.length with hi | hi
    · obtain ⟨a, n, c, e, hr, hd⟩ := hin i hi
      exact ⟨a, n, c, by simp [enc, List.getD, e], hr, fun b off hn ha hb => hd b off hn ha (by rw [hb]; rfl)⟩
    · refine ⟨none, 0, 0, by simp [enc, List.getD, List.getElem?_eq_none (show vs.length ≤ i by omega)], ?_, fun b off hn => absurd hn (by omega)⟩
      rw [List.getD, List.getElem?_eq_none hi]
      exact IntsAt.nil _ _ _ (by omega)
  have hd0 : (List.range L.length).toArray.map enc = vs.toArray := by
    apply Array.ext (by simp [hvl])
    intro i h1 h2
    simp at h1 h2
    simp [enc, List.getD, List.getElem?_eq_getElem h2]
  have hone : OneCell enc := fun i => by
    obtain ⟨a, n, c, e, _, _⟩ := henc i
    rw [e]; rfl
  have eg : ∀ args w, (callFunc 64 args).run Try.prog w = .ok (.enter 64 args) w := enters_of Try.func64 (by kernel_rfl) rfl
  have hgrow : ∀ m os (dk : Array Nat), w.grownBy (sortWorld enc w g 0 m dk os) (some g) := fun m os dk => by
    unfold sortWorld
    rw [putRow_map]
    exact grownBy_flat _
  have hcon := Try.slices_SortFunc enc hone (cfI L) (swoI L) 64 #[] g 0 cap (List.range L.length).toArray w eg
    (fun m os dk _ x y => by
      obtain ⟨a, n, c, e, hr, hd⟩ := henc x
      obtain ⟨a', n', c', e', hr', hd'⟩ := henc y
      rw [e, e']
      exact (cmpL_calls a n c _ a' n' c' _ _ (ints_grown (hgrow m os dk) hr hd) (ints_grown (hgrow m os dk) hr' hd')).mono fun _ _ h => ⟨h.1, 0, #[], h.2.symm⟩)
    (holds_map (by rw [hd0]; exact hH)) hlt (by simp; omega)
  rw [show (List.range L.length).toArray.size = L.length by simp] at hcon
  refine hcon.mono ?_
  rintro e w' ⟨rfl, d', k, os, hp, hso, rfl⟩
  obtain ⟨hsz, hm, hres⟩ := sorted_places hp hso
  have hlen : (L.mergeSort leL).length = L.length := by simp
  have hw : sortWorld enc w g 0 k d' os = Go.Sort.grow (putRow id (Sort.ahead w k) g 0 (d'.toList.map enc).toArray) os := by
    unfold sortWorld
    rw [putRow_map]
    congr 2
    apply Array.ext (by simp)
    intro i h1 h2
    simp
  obtain ⟨ho, hb⟩ := hafter k os (d'.toList.map enc) (by simp [hsz, hvl])
  rw [← hw] at ho hb
  refine ⟨rfl, ⟨d'.toList.map enc, by rw [hlen]; exact ho, fun i hi => ?_⟩, hb⟩
  rw [hlen] at hi
  obtain ⟨a, n, c, e, hr, hd⟩ := henc d'[i]!
  have hi' : i < d'.size := by omega
  refine ⟨a, n, c, ?_, ?_, fun b off hn ha hbb => hd b off hn ha (by simpa [Value.ownBlock] using hbb.symm)⟩
  · rw [List.getElem?_map, Array.getElem?_toList, Array.getElem?_eq_getElem hi', Option.map_some, ← e, getElem!_pos d' i hi']
  · have : (L.mergeSort leL).getD i [] = L.getD d'[i]! [] := by
      rw [← hres, getElem!_pos d' i hi', List.getD, List.getElem?_map, Array.getElem?_toList, Array.getElem?_eq_getElem hi']; rfl
    rw [this]
    exact ints_grown (hgrow k os d') hr hd
end Go.Proofs.Ytoopgmoopmbfnaa
