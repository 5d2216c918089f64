import Derived.Test.YthmnmpglnaegfaaYw
namespace Go.Proofs.Kv
open Go.RowKit
theorem lists2 (u : World) (F : TypeId) {a0 a1 : Option Addr} {n0 c0 n1 c1 : Nat} {l0 l1 : List Int} (h0 : IntsAt u a0 n0 c0 l0) (h1 : IntsAt u a1 n1 c1 l1) :
    ListsAt (u.alloc (.cells #[.slice a0 n0 c0, .slice a1 n1 c1] F)) (some ⟨u.heap.size, 0, none⟩) 2 2 [l0, l1] := by
  have hb := below_alloc u (.cells #[.slice a0 n0 c0, .slice a1 n1 c1] F)
  refine ⟨rfl, Nat.le_refl _, by omega, fun i hi => ?_⟩
  rcases (show i = 0 ∨ i = 1 by omega) with rfl | rfl
  · exact ⟨u.heap.size, 0, _, _, _, rfl, by simp, cells_alloc _ _ _ 0, h0.below hb (Nat.le_refl _)⟩
  · exact ⟨u.heap.size, 0, _, _, _, rfl, by simp, cells_alloc _ _ _ 1, h1.below hb (Nat.le_refl _)⟩
theorem lists3 (u : World) (F : TypeId) {a0 a1 a2 : Option Addr} {n0 c0 n1 c1 n2 c2 : Nat} {l0 l1 l2 : List Int} (h0 : IntsAt u a0 n0 c0 l0) (h1 : IntsAt u a1 n1 c1 l1) (h2 : IntsAt u a2 n2 c2 l2) :
    ListsAt (u.alloc (.cells #[.slice a0 n0 c0, .slice a1 n1 c1, .slice a2 n2 c2] F)) (some ⟨u.heap.size, 0, none⟩) 3 3 [l0, l1, l2] := by
  have hb := below_alloc u (.cells #[.slice a0 n0 c0, .slice a1 n1 c1, .slice a2 n2 c2] F)
  refine ⟨rfl, Nat.le_refl _, by omega, fun i hi => ?_⟩
  rcases (show i = 0 ∨ i = 1 ∨ i = 2 by omega) with rfl | rfl | rfl
  · exact ⟨u.heap.size, 0, _, _, _, rfl, by simp, cells_alloc _ _ _ 0, h0.below hb (Nat.le_refl _)⟩
  · exact ⟨u.heap.size, 0, _, _, _, rfl, by simp, cells_alloc _ _ _ 1, h1.below hb (Nat.le_refl _)⟩
  · exact ⟨u.heap.size, 0, _, _, _, rfl, by simp, cells_alloc _ _ _ 2, h2.below hb (Nat.le_refl _)⟩
theorem lists4 (u : World) (F : TypeId) {a0 a1 a2 a3 : Option Addr} {n0 c0 n1 c1 n2 c2 n3 c3 : Nat} {l0 l1 l2 l3 : List Int} (h0 : IntsAt u a0 n0 c0 l0) (h1 : IntsAt u a1 n1 c1 l1) (h2 : IntsAt u a2 n2 c2 l2) (h3 : IntsAt u a3 n3 c3 l3) :
    ListsAt (u.alloc (.cells #[.slice a0 n0 c0, .slice a1 n1 c1, .slice a2 n2 c2, .slice a3 n3 c3] F)) (some ⟨u.heap.size, 0, none⟩) 4 4 [l0, l1, l2, l3] := by
  have hb := below_alloc u (.cells #[.slice a0 n0 c0, .slice a1 n1 c1, .slice a2 n2 c2, .slice a3 n3 c3] F)
  refine ⟨rfl, Nat.le_refl _, by omega, fun i hi => ?_⟩
  rcases (show i = 0 ∨ i = 1 ∨ i = 2 ∨ i = 3 by omega) with rfl | rfl | rfl | rfl
  · exact ⟨u.heap.size, 0, _, _, _, rfl, by simp, cells_alloc _ _ _ 0, h0.below hb (Nat.le_refl _)⟩
  · exact ⟨u.heap.size, 0, _, _, _, rfl, by simp, cells_alloc _ _ _ 1, h1.below hb (Nat.le_refl _)⟩
  · exact ⟨u.heap.size, 0, _, _, _, rfl, by simp, cells_alloc _ _ _ 2, h2.below hb (Nat.le_refl _)⟩
  · exact ⟨u.heap.size, 0, _, _, _, rfl, by simp, cells_alloc _ _ _ 3, h3.below hb (Nat.le_refl _)⟩
theorem ints3 (w : World) (x y z : Int) (E : TypeId) : IntsAt (w.alloc (.cells #[.int .i64 x, .int .i64 y, .int .i64 z] E)) (some ⟨w.heap.size, 0, none⟩) 3 3 [x, y, z] :=
  ⟨rfl, Nat.le_refl _, by omega, fun i hi => ⟨w.heap.size, 0, rfl, by simp, by
    rcases (show i = 0 ∨ i = 1 ∨ i = 2 by omega) with rfl | rfl | rfl
    · exact cells_alloc _ _ _ 0
    · exact cells_alloc _ _ _ 1
    · exact cells_alloc _ _ _ 2⟩⟩
theorem IntsAt.up {w : World} {a : Option Addr} {n c : Nat} {l : List Int} (h : IntsAt w a n c l) (o : Obj) : IntsAt (w.alloc o) a n c l := h.below (below_alloc w o) (Nat.le_refl _)
theorem ListsAt.up {w : World} {a : Option Addr} {n c : Nat} {l : List (List Int)} (h : ListsAt w a n c l) (o : Obj) : ListsAt (w.alloc o) a n c l := h.below (below_alloc w o) (Nat.le_refl _)
theorem below_up {w w' : World} (h : Below w.heap.size w w') (o : Obj) : Below w.heap.size w (w'.alloc o) := h.alloc h.size o
end Go.Proofs.Kv
namespace Go.Proofs.Ythmnmpglnaegfaa
open Go.RowKit Go.Proofs.Kv

/-! ### the sanity check -/
theorem lit4 (w : World) (x0 y0 x1 y1 x2 y2 x3 y3 : Int) (E F : TypeId) :
    ListsAt (((((w.alloc (.cells #[.int .i64 x0, .int .i64 y0] E)).alloc (.cells #[.int .i64 x1, .int .i64 y1] E)).alloc (.cells #[.int .i64 x2, .int .i64 y2] E)).alloc (.cells #[.int .i64 x3, .int .i64 y3] E)).alloc
      (.cells #[.slice (some ⟨w.heap.size, 0, none⟩) 2 2, .slice (some ⟨w.heap.size + 1, 0, none⟩) 2 2, .slice (some ⟨w.heap.size + 1 + 1, 0, none⟩) 2 2, .slice (some ⟨w.heap.size + 1 + 1 + 1, 0, none⟩) 2 2] F)) (some ⟨w.heap.size + 1 + 1 + 1 + 1, 0, none⟩) 4 4 [[x0, y0], [x1, y1], [x2, y2], [x3, y3]] := by
  have h0 := ints_two7 w x0 y0 E
  have h1 := ints_two7 (w.alloc (.cells #[.int .i64 x0, .int .i64 y0] E)) x1 y1 E
  have h2 := ints_two7 ((w.alloc (.cells #[.int .i64 x0, .int .i64 y0] E)).alloc (.cells #[.int .i64 x1, .int .i64 y1] E)) x2 y2 E
  have h3 := ints_two7 (((w.alloc (.cells #[.int .i64 x0, .int .i64 y0] E)).alloc (.cells #[.int .i64 x1, .int .i64 y1] E)).alloc (.cells #[.int .i64 x2, .int .i64 y2] E)) x3 y3 E
  have := lists4 _ F (((h0.up _).up _).up _) ((h1.up _).up _) (h2.up _) h3
  simpa only [size_alloc_one] using this
theorem lit3 (w : World) (x0 y0 x1 y1 x2 y2 : Int) (E F : TypeId) :
    ListsAt ((((w.alloc (.cells #[.int .i64 x0, .int .i64 y0] E)).alloc (.cells #[.int .i64 x1, .int .i64 y1] E)).alloc (.cells #[.int .i64 x2, .int .i64 y2] E)).alloc
      (.cells #[.slice (some ⟨w.heap.size, 0, none⟩) 2 2, .slice (some ⟨w.heap.size + 1, 0, none⟩) 2 2, .slice (some ⟨w.heap.size + 1 + 1, 0, none⟩) 2 2] F)) (some ⟨w.heap.size + 1 + 1 + 1, 0, none⟩) 3 3 [[x0, y0], [x1, y1], [x2, y2]] := by
  have h0 := ints_two7 w x0 y0 E
  have h1 := ints_two7 (w.alloc (.cells #[.int .i64 x0, .int .i64 y0] E)) x1 y1 E
  have h2 := ints_two7 ((w.alloc (.cells #[.int .i64 x0, .int .i64 y0] E)).alloc (.cells #[.int .i64 x1, .int .i64 y1] E)) x2 y2 E
  have := lists3 _ F ((h0.up _).up _) (h1.up _) h2
  simpa only [size_alloc_one] using this
theorem lit1 (w : World) (x0 x1 x2 : Int) (E F : TypeId) :
    ListsAt ((((w.alloc (.cells #[.int .i64 x0] E)).alloc (.cells #[.int .i64 x1] E)).alloc (.cells #[.int .i64 x2] E)).alloc
      (.cells #[.slice (some ⟨w.heap.size, 0, none⟩) 1 1, .slice (some ⟨w.heap.size + 1, 0, none⟩) 1 1, .slice (some ⟨w.heap.size + 1 + 1, 0, none⟩) 1 1] F)) (some ⟨w.heap.size + 1 + 1 + 1, 0, none⟩) 3 3 [[x0], [x1], [x2]] := by
  have h0 := IntsAt.one w x0 E
  have h1 := IntsAt.one (w.alloc (.cells #[.int .i64 x0] E)) x1 E
  have h2 := IntsAt.one ((w.alloc (.cells #[.int .i64 x0] E)).alloc (.cells #[.int .i64 x1] E)) x2 E
  have := lists3 _ F ((h0.up _).up _) (h1.up _) h2
  simpa only [size_alloc_one] using this
def exX : Tr := ⟨[-1, 0, 0], [1, 2]⟩
theorem litX (w : World) (E F : TypeId) :
    ListsAt (((((w.alloc (.cells #[.int .i64 0] E)).alloc (.cells #[.int .i64 1] E)).alloc (.cells #[.slice (some ⟨w.heap.size, 0, none⟩) 1 1, .slice (some ⟨w.heap.size + 1, 0, none⟩) 1 1] F)).alloc (.cells #[.int .i64 (-1), .int .i64 0, .int .i64 0] E)).alloc (.cells #[.int .i64 1, .int .i64 2] E)) (some ⟨w.heap.size + 1 + 1, 0, none⟩) 2 2 [[0], [1]] ∧
    TreeAt (((((w.alloc (.cells #[.int .i64 0] E)).alloc (.cells #[.int .i64 1] E)).alloc (.cells #[.slice (some ⟨w.heap.size, 0, none⟩) 1 1, .slice (some ⟨w.heap.size + 1, 0, none⟩) 1 1] F)).alloc (.cells #[.int .i64 (-1), .int .i64 0, .int .i64 0] E)).alloc (.cells #[.int .i64 1, .int .i64 2] E)) (.agg #[.slice (some ⟨w.heap.size + 1 + 1 + 1, 0, none⟩) 3 3, .slice (some ⟨w.heap.size + 1 + 1 + 1 + 1, 0, none⟩) 2 2]) exX := by
  have h0 := IntsAt.one w 0 E
  have h1 := IntsAt.one (w.alloc (.cells #[.int .i64 0] E)) 1 E
  have hl := lists2 _ F (h0.up _) h1
  obtain ⟨u, hu⟩ : ∃ u, ((w.alloc (.cells #[.int .i64 0] E)).alloc (.cells #[.int .i64 1] E)).alloc (.cells #[.slice (some ⟨w.heap.size, 0, none⟩) 1 1, .slice (some ⟨w.heap.size + 1, 0, none⟩) 1 1] F) = u := ⟨_, rfl⟩
  simp only [size_alloc_one] at hl
  have hz : u.heap.size = w.heap.size + 1 + 1 + 1 := by rw [← hu]; simp only [size_alloc_one]
  rw [hu] at hl ⊢
  have k1 := ints3 u (-1) 0 0 E
  have k2 := ints_two7 (u.alloc (.cells #[.int .i64 (-1), .int .i64 0, .int .i64 0] E)) 1 2 E
  have k1' := k1.up (.cells #[.int .i64 1, .int .i64 2] E)
  simp only [size_alloc_one, hz] at k1' k2
  exact ⟨(hl.up _).up _, _, _, _, _, _, _, rfl, k1', k2⟩
theorem sane_facts : resConf [[0, 0], [0, 1], [1, 0], [1, 1]] 0 1 = true ∧ placesE [[0, 0], [0, 1], [1, 0], [1, 1]] [0, 1] = 0 ∧ resConf [[0, 0], [0, 1], [1, 0]] 0 1 = false ∧ placesE [[0, 0], [0, 1], [1, 0]] [0, 1] = 0 ∧
    fewR [[0], [1]] exX 0 = 1 ∧ okRead [[0], [1]] exX 0 = true ∧ errA [[0], [1]] exX 0 = 0 ∧ resDiff [[0], [1], [2]] 0 = 3 ∧ placesE [[0], [1], [2]] [0] = 0 := by decide +kernel
set_option maxRecDepth 100000 in
set_option maxHeartbeats 4000000 in
theorem sane_calls (w : World) :
    Calls Try.prog 7 #[] w fun e w' => e = .returned (.bool true) ∧ Below w.heap.size w w' := by
  obtain ⟨s1, s2, s3, s4, s5, s6, s7, s8, s9⟩ := sane_facts
  have HC1 := hid_ (fun W a n c (h : ListsAt W a n c [[0, 0], [0, 1], [1, 0], [1, 1]]) => stConflict_calls a n c _ 0 1 W h)
  have HC2 := hid_ (fun W a n c (h : ListsAt W a n c [[0, 0], [0, 1], [1, 0]]) => stConflict_calls a n c _ 0 1 W h)
  have HF := hid_ (fun W a n c (h : ListsAt W a n c [[0], [1]]) v (h' : TreeAt W v exX) => stFewest_calls a n c _ v exX 0 W h h')
  have HD := hid_ (fun W a n c (h : ListsAt W a n c [[0], [1], [2]]) => stDifferent_calls a n c _ 0 W h)
  simp only [s1, s2] at HC1
  simp only [s3, s4] at HC2
  simp only [s5, s6, s7] at HF
  simp only [s8, s9] at HD
  clear s1 s2 s3 s4 s5 s6 s7 s8 s9
  go_enter Try.func7, Try.ntmps7
  go_wp2_with (first
    | (go_at_call 27; (with_reducible refine (HC1.out _ _ _ _ (lit4 w 0 0 0 1 1 0 1 1 _ _)).mono ?_); rintro e w2 ⟨rfl, hb2⟩; have hb2 : Below w.heap.size w w2 := (below_up (below_up (below_up (below_up (below_alloc _ _) _) _) _) _).trans (hb2.mono (below_up (below_up (below_up (below_up (below_alloc w _) _) _) _) _).size))
    | (go_at_call 27; (with_reducible refine (HC2.out _ _ _ _ (lit3 w2 0 0 0 1 1 0 _ _)).mono ?_); rintro e w3 ⟨rfl, hb3⟩; have hb3 : Below w2.heap.size w2 w3 := (below_up (below_up (below_up (below_alloc _ _) _) _) _).trans (hb3.mono (below_up (below_up (below_up (below_alloc w2 _) _) _) _).size))
    | (go_at_call 22; (with_reducible refine (HF.out _ _ _ _ (litX w3 _ _).1 _ (litX w3 _ _).2).mono ?_); rintro e w4 ⟨rfl, hb4⟩; have hb4 : Below w3.heap.size w3 w4 := (below_up (below_up (below_up (below_up (below_alloc _ _) _) _) _) _).trans (hb4.mono (below_up (below_up (below_up (below_up (below_alloc w3 _) _) _) _) _).size))
    | (go_at_call 26; (with_reducible refine (HD.out _ _ _ _ (lit1 w4 0 1 2 _ _)).mono ?_); rintro e w5 ⟨rfl, hb5⟩; have hb5 : Below w4.heap.size w4 w5 := (below_up (below_up (below_up (below_alloc _ _) _) _) _).trans (hb5.mono (below_up (below_up (below_up (below_alloc w4 _) _) _) _).size)))
  go_ret
  exact ⟨rfl, below_then (below_then (below_then hb2 hb3) hb4) hb5⟩
end Go.Proofs.Ythmnmpglnaegfaa
