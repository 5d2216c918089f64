import Derived.Test.YtoopgmoopmbfnaaSn3
namespace Go.Proofs.Ytoopgmoopmbfnaa
open Go.RowKit Go.Proofs.Kv Go.Proofs.Snd

/-! ### known -/
def kT : List (List Int) := [[0, 1], [2]]
def kC : List (List Int) := [[0, 1], [0, 1, 2], [1], [1, 2], [2]]
def kF : List (List Int) := [[0, 1], [1, 2], [0, 2]]
theorem known_names : namesS kT = [(0, 0), (0, 1), (1, 0), (1, 1), (2, 1)] := by
  have h : rkTo kT kT.length = [(0, 0), (0, 1), (1, 0), (1, 1), (2, 1)] := by decide +kernel
  rw [namesS, h]
  exact List.mergeSort_of_pairwise (by decide +kernel)
theorem known_classes : classesRes kT = kC := by
  have h0 : validT kT = 0 := by decide +kernel
  rw [classesRes, if_pos h0, classesS, known_names]
  have h : ([(0, 0), (0, 1), (1, 0), (1, 1), (2, 1)] : List (Int × Int)).map (fun p => standL kT p.1 p.2) = kC := by decide +kernel
  rw [h]
  exact List.mergeSort_of_pairwise (by decide +kernel)
theorem known_valid : validT kT = 0 := by decide +kernel
theorem known_fam : famErr 3 kF = 0 := by decide +kernel
theorem known_ord : ordOk 3 kF = false := by decide +kernel
theorem known_same : SameL kC kC = true := by decide +kernel

theorem intsLit {W : World} {b : Nat} {E : TypeId} {l : List Int} (h : W.heap[b]? = some (.cells (l.map (Value.int .i64)).toArray E (0, 0))) (hs : l.length ≤ 1000000) : IntsAt W (some ⟨b, 0, none⟩) l.length l.length l :=
  ⟨rfl, Nat.le_refl _, by omega, fun i hi => ⟨b, 0, rfl, (Array.getElem?_eq_some_iff.1 h).1, by
    simp [World.cell?, h, List.getD, List.getElem?_eq_getElem hi]⟩⟩
theorem listsLit {W : World} {b : Nat} {E : TypeId} {vs : List Value} {L : List (List Int)} (h : W.heap[b]? = some (.cells vs.toArray E (0, 0))) (hl : vs.length = L.length) (hs : L.length ≤ 1000000)
    (hv : ∀ i, i < L.length → ∃ a n c, vs[i]? = some (.slice a n c) ∧ IntsAt W a n c (L.getD i [])) : ListsAt W (some ⟨b, 0, none⟩) L.length L.length L :=
  ⟨rfl, Nat.le_refl _, by omega, fun i hi => by
    obtain ⟨a, n, c, e, hr⟩ := hv i hi
    refine ⟨b, 0, a, n, c, rfl, (Array.getElem?_eq_some_iff.1 h).1, ?_, hr⟩
    simp [World.cell?, h, e]⟩
theorem alloc_new (w : World) (o : Obj) : (w.alloc o).heap[w.heap.size]? = some o := World.alloc_heap_new w o
theorem alloc_old {w : World} {o : Obj} {b : Nat} {o' : Obj} (h : w.heap[b]? = some o') : (w.alloc o).heap[b]? = some o' :=
  (Below.heap_alloc _ _ _ (Array.getElem?_eq_some_iff.1 h).1).trans h

/-! lists that a literal makes -/
def rowsW (w : World) (E : TypeId) : List (List Int) → World
  | [] => w
  | r :: L => rowsW (w.alloc (.cells (r.map (Value.int .i64)).toArray E)) E L
def headsV (b : Nat) : List (List Int) → List Value
  | [] => []
  | r :: L => .slice (some ⟨b, 0, none⟩) r.length r.length :: headsV (b + 1) L
theorem headsV_len : ∀ (b : Nat) (L : List (List Int)), (headsV b L).length = L.length
  | _, [] => rfl
  | b, _ :: L => by rw [headsV, List.length_cons, headsV_len (b + 1) L, List.length_cons]
theorem rowsW_size : ∀ (w : World) (E : TypeId) (L : List (List Int)), (rowsW w E L).heap.size = w.heap.size + L.length
  | _, _, [] => rfl
  | w, E, r :: L => by rw [rowsW, rowsW_size, size_alloc_one, List.length_cons]; omega
theorem rowsW_below : ∀ (w : World) (E : TypeId) (L : List (List Int)) (B : Nat), B ≤ w.heap.size → Below B w (rowsW w E L)
  | w, _, [], B, _ => Below.refl B w
  | w, E, r :: L, B, h => ((Below.refl B w).alloc h _).trans (rowsW_below _ E L B (by rw [size_alloc_one]; omega))
theorem rowsW_at : ∀ (w : World) (E : TypeId) (L : List (List Int)), (∀ s ∈ L, s.length ≤ 1000000) → ∀ i, i < L.length → ∃ a n c, (headsV w.heap.size L)[i]? = some (.slice a n c) ∧ IntsAt (rowsW w E L) a n c (L.getD i [])
  | w, E, r :: L, hs, 0, _ => ⟨_, _, _, rfl, (intsLit (alloc_new w _) (hs r (by simp))).below (rowsW_below _ E L _ (Nat.le_refl _)) (Nat.le_refl _)⟩
  | w, E, r :: L, hs, i + 1, hi => by
    obtain ⟨a, n, c, e, hr⟩ := rowsW_at (w.alloc (.cells (r.map (Value.int .i64)).toArray E)) E L (fun s h => hs s (by simp [h])) i (by simpa using hi)
    rw [size_alloc_one] at e
    exact ⟨a, n, c, by rw [headsV, List.getElem?_cons_succ]; exact e, by rw [rowsW]; simpa [List.getD] using hr⟩
theorem litLists (w : World) (E E2 : TypeId) (L : List (List Int)) (hs : ∀ s ∈ L, s.length ≤ 1000000) (hl : L.length ≤ 1000000) :
    ListsAt ((rowsW w E L).alloc (.cells (headsV w.heap.size L).toArray E2)) (some ⟨w.heap.size + L.length, 0, none⟩) L.length L.length L := by
  rw [← rowsW_size w E L]
  refine listsLit (alloc_new _ _) (headsV_len _ _) hl fun i hi => ?_
  obtain ⟨a, n, c, e, hr⟩ := rowsW_at w E L hs i hi
  exact ⟨a, n, c, e, hr.below ((Below.refl _ _).alloc (Nat.le_refl _) _) (Nat.le_refl _)⟩
theorem litBelow (w : World) (E E2 : TypeId) (L : List (List Int)) : Below w.heap.size w ((rowsW w E L).alloc (.cells (headsV w.heap.size L).toArray E2)) :=
  (rowsW_below w E L _ (Nat.le_refl _)).alloc (by rw [rowsW_size]; omega) _

set_option maxRecDepth 100000 in
theorem known_calls (w : World) :
    Calls Try.prog 13 #[] w fun e w' => e = .returned (.bool true) ∧ Below w.heap.size w w' := by
  have H1 : Hid (∀ W : World, Calls Try.prog 25 #[.slice (some ⟨W.heap.size + 1 + 1, 0, none⟩) 2 2] (((W.alloc (.cells #[.int .i64 0, .int .i64 1] 3)).alloc (.cells #[.int .i64 2] 3)).alloc (.cells #[.slice (some ⟨W.heap.size, 0, none⟩) 2 2, .slice (some ⟨W.heap.size + 1, 0, none⟩) 1 1] 23))
      fun e w' => ∃ v, e = .returned (.tuple #[v, .int .i64 0]) ∧ OwnL 23 w' (W.heap.size + 3) v kC ∧ Below W.heap.size W w') := hid_ fun W => by
    have h := sndClasses_calls _ _ _ _ _ (litLists W 3 23 kT (by decide) (by decide))
    rw [known_classes, known_valid] at h
    refine h.mono ?_
    rintro e w' ⟨v, rfl, hm⟩
    refine ⟨v, rfl, hm.own.base (by rw [size_alloc_one, rowsW_size]; exact Nat.le_refl _), (litBelow W _ _ kT).trans (hm.bel.mono (by rw [size_alloc_one, rowsW_size]; omega))⟩
  have H2 : Hid (∀ W : World, Calls Try.prog 43 #[.int .i64 3, .slice (some ⟨W.heap.size + 1 + 1 + 1, 0, none⟩) 3 3] ((((W.alloc (.cells #[.int .i64 0, .int .i64 1] 3)).alloc (.cells #[.int .i64 1, .int .i64 2] 3)).alloc (.cells #[.int .i64 0, .int .i64 2] 3)).alloc (.cells #[.slice (some ⟨W.heap.size, 0, none⟩) 2 2, .slice (some ⟨W.heap.size + 1, 0, none⟩) 2 2, .slice (some ⟨W.heap.size + 1 + 1, 0, none⟩) 2 2] 23))
      fun e w' => ∃ v, e = .returned (.tuple #[v, .bool false, .int .i64 0]) ∧ Below W.heap.size W w') := hid_ fun W => by
    have h := sndOrder_calls 3 _ _ _ _ _ (litLists W 3 23 kF (by decide) (by decide))
    rw [known_ord, known_fam] at h
    refine h.mono ?_
    rintro e w' ⟨v, rfl, hm⟩
    exact ⟨v, rfl, (litBelow W _ _ kF).trans (hm.bel.mono (by rw [size_alloc_one, rowsW_size]; omega))⟩
  go_enter Try.func13, Try.ntmps13
  go_wp2_with fail
  refine (H1.out w).mono ?_
  rintro e w1 ⟨v1, rfl, hown1, hb1⟩
  go_wp2_with fail
  refine (H2.out w1).mono ?_
  rintro e w2 ⟨v2, rfl, hb2⟩
  obtain ⟨a1, c1, rfl, hL1⟩ := (hown1.below hb2 (Nat.le_refl _)).at_
  have Hb : Hid (Below w.heap.size w w2) := hid_ (below_then hb1 hb2)
  clear H1 H2 hown1 hb1 hb2
  have hlit := litLists w2 3 23 kC (by decide) (by decide)
  have h3 := sameL_calls _ _ _ _ _ _ _ _ _ (hL1.below (litBelow w2 3 23 kC) (Nat.le_refl _)) hlit
  rw [known_same] at h3
  have H3 := hid_ h3
  have Hb3 : Hid (Below w.heap.size w ((rowsW w2 3 kC).alloc (.cells (headsV w2.heap.size kC).toArray 23))) := hid_ (below_then Hb.out (litBelow w2 _ _ kC))
  clear h3 hlit hL1
  go_wp2_with fail
  refine H3.out.mono ?_
  rintro e w3 ⟨rfl, q, hw3⟩
  have Hb4 : Hid (Below w.heap.size w w3) := hid_ (by rw [hw3]; exact below_drewN Hb3.out q)
  clear hw3 H3 Hb3
  go_wp2
  go_ret
  exact ⟨rfl, Hb4.out⟩

end Go.Proofs.Ytoopgmoopmbfnaa
