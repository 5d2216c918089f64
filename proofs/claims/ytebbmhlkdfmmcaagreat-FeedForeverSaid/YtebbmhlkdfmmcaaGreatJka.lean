import Derived.Test.YtebbmhlkdfmmcaaGreatJz
import Derived.Test.YtebbmhlkdfmmcaaGreatJw
namespace Go.Proofs.YtebbmhlkdfmmcaaGreat
open Go.RowKit Go.Proofs.Kv

/-! ### known of stage 3 -/
def k3A : List Rl := [⟨0, [1, 1], [], []⟩, ⟨1, [], [], []⟩]
def k3B : List Rl := [⟨0, [1], [], []⟩, ⟨0, [2], [], []⟩]
theorem k3A_runs : Runs k3A (List.replicate 6 0) (some [3, 1, 0, 0, 0, 0]) :=
  .more (by decide +kernel) (by decide +kernel : roundR k3A (List.replicate 6 0) = some [1, 1, 0, 0, 0, 0]) (.more (by decide +kernel) (by decide +kernel : roundR k3A [1, 1, 0, 0, 0, 0] = some [3, 1, 0, 0, 0, 0]) (.stop (by decide +kernel)))
theorem k3A_valid : validS k3A = 0 := by decide +kernel
def k3Y : Web := ⟨[[0], [1], [2]], [[((0, 0), 1), ((1, 0), 2)], [], []]⟩
theorem k3B_explore : exploreF k3B [0] = some k3Y := by kernel_rfl
theorem k3B_err : errSW k3B [[0]] = 0 := by decide +kernel
theorem k3B_web : webR k3B [0] = some k3Y := by rw [webR, if_pos k3B_err, k3B_explore]
theorem k3B_ends : resEnds k3B [0] = [[1], [2]] := by
  rw [resEnds, k3B_web]
  have h : endsTo k3Y.words k3Y.arcs k3Y.words.length = [[1], [2]] := by decide +kernel
  show (endsTo k3Y.words k3Y.arcs k3Y.words.length).mergeSort leL = _
  rw [h]
  exact List.mergeSort_of_pairwise (by decide +kernel)
theorem k3B_errWeb : errWeb k3B [0] = 0 := (webR_some k3B_web).1
theorem k3_ints {W : World} {l : List Int} {cs : Array Value} {T : TypeId} (hcs : cs = (l.map (Value.int .i64)).toArray) (hs : l.length ≤ 1000) : IntsAt (W.alloc (.cells cs T)) (some ⟨W.heap.size, 0, none⟩) l.length l.length l := IntsAt.lit W l cs _ T hcs rfl hs
theorem k3A_calls (W : World) :
    Calls Tryz.prog 27 #[.slice (some ⟨W.heap.size + 1, 0, none⟩) 2 2] ((W.alloc (.cells #[.int .i64 1, .int .i64 1] 3)).alloc (.cells #[.int .i64 0, .slice (some ⟨W.heap.size, 0, none⟩) 2 2, .slice none 0 0, .slice none 0 0, .int .i64 1, .slice none 0 0, .slice none 0 0, .slice none 0 0] 44)) fun e w' =>
      ∃ a c, e = .returned (.tuple #[.slice a 6 c, .bool true, .int .i64 0]) ∧ IntsAt w' a 6 c [3, 1, 0, 0, 0, 0] ∧ Below W.heap.size W w' := by
  obtain ⟨w1, hw1⟩ : ∃ w1, W.alloc (.cells #[.int .i64 1, .int .i64 1] 3) = w1 := ⟨_, rfl⟩
  have z1 : w1.heap.size = W.heap.size + 1 := by rw [← hw1]; simp
  have i1 : IntsAt w1 (some ⟨W.heap.size, 0, none⟩) 2 2 [1, 1] := by rw [← hw1]; exact k3_ints (l := [1, 1]) rfl (by decide)
  have hR := RulesAt.two (w := w1) (R := ⟨0, [1, 1], [], []⟩) (S := ⟨1, [], [], []⟩) 44 ⟨_, _, _, _, _, _, _, _, _, rfl, i1, IntsAt.nil _ none 0 (by omega), IntsAt.nil _ none 0 (by omega)⟩ ⟨_, _, _, _, _, _, _, _, _, rfl, IntsAt.nil _ none 0 (by omega), IntsAt.nil _ none 0 (by omega), IntsAt.nil _ none 0 (by omega)⟩
  rw [hw1, ← z1]
  refine (feWeights_calls _ 2 2 k3A _ hR k3A_valid).mono ?_
  rintro e w' ⟨r, v, hr, rfl, hm⟩
  have e1 := hr.det k3A_runs
  subst e1
  obtain ⟨a, c, rfl, hi⟩ := hm.at_
  refine ⟨a, c, rfl, hi, ?_⟩
  have b1 : Below W.heap.size W w1 := by rw [← hw1]; exact below_alloc _ _
  exact b1.trans (((below_alloc w1 _).trans (hm.bel.mono (by simp))).mono b1.size)
theorem k3B_calls (W : World) :
    Calls Tryz.prog 10 #[.slice (some ⟨W.heap.size + 1 + 1, 0, none⟩) 2 2, .slice (some ⟨W.heap.size + 1 + 1 + 1, 0, none⟩) 1 1] ((((W.alloc (.cells #[.int .i64 1] 3)).alloc (.cells #[.int .i64 2] 3)).alloc (.cells #[.int .i64 0, .slice (some ⟨W.heap.size, 0, none⟩) 1 1, .slice none 0 0, .slice none 0 0, .int .i64 0, .slice (some ⟨W.heap.size + 1, 0, none⟩) 1 1, .slice none 0 0, .slice none 0 0] 44)).alloc (.cells #[.int .i64 0] 3)) fun e w' =>
      ∃ a c, e = .returned (.tuple #[.slice a 2 c, .int .i64 0]) ∧ ListsAt w' a 2 c [[1], [2]] ∧ Below W.heap.size W w' := by
  obtain ⟨w1, hw1⟩ : ∃ w1, W.alloc (.cells #[.int .i64 1] 3) = w1 := ⟨_, rfl⟩
  obtain ⟨w2, hw2⟩ : ∃ w2, w1.alloc (.cells #[.int .i64 2] 3) = w2 := ⟨_, rfl⟩
  have z1 : w1.heap.size = W.heap.size + 1 := by rw [← hw1]; simp
  have z2 : w2.heap.size = W.heap.size + 1 + 1 := by rw [← hw2, ← z1]; simp
  have b12 : Below w1.heap.size w1 w2 := by rw [← hw2]; exact below_alloc _ _
  have b1 : Below W.heap.size W w1 := by rw [← hw1]; exact below_alloc _ _
  have i1 : IntsAt w2 (some ⟨W.heap.size, 0, none⟩) 1 1 [1] := by
    refine IntsAt.below (w := w1) ?_ b12 (Nat.le_refl _)
    rw [← hw1]; exact k3_ints (l := [1]) rfl (by decide)
  have i2 : IntsAt w2 (some ⟨W.heap.size + 1, 0, none⟩) 1 1 [2] := by rw [← hw2, ← z1]; exact k3_ints (l := [2]) rfl (by decide)
  have hR := RulesAt.two (w := w2) (R := ⟨0, [1], [], []⟩) (S := ⟨0, [2], [], []⟩) 44 ⟨_, _, _, _, _, _, _, _, _, rfl, i1, IntsAt.nil _ none 0 (by omega), IntsAt.nil _ none 0 (by omega)⟩ ⟨_, _, _, _, _, _, _, _, _, rfl, i2, IntsAt.nil _ none 0 (by omega), IntsAt.nil _ none 0 (by omega)⟩
  rw [hw1, hw2]
  obtain ⟨w3, hw3⟩ : ∃ w3, w2.alloc (.cells #[.int .i64 0, .slice (some ⟨W.heap.size, 0, none⟩) 1 1, .slice none 0 0, .slice none 0 0, .int .i64 0, .slice (some ⟨W.heap.size + 1, 0, none⟩) 1 1, .slice none 0 0, .slice none 0 0] 44) = w3 := ⟨_, rfl⟩
  have z3 : w3.heap.size = W.heap.size + 1 + 1 + 1 := by rw [← hw3, ← z2]; simp
  have b23 : Below w2.heap.size w2 w3 := by rw [← hw3]; exact below_alloc _ _
  rw [hw3] at hR ⊢
  rw [← z3, ← z2]
  have b34 := below_alloc w3 (.cells #[.int .i64 0] 3)
  have h := feEnds_calls _ 2 2 k3B _ 1 1 [0] _ (hR.below b34 (Nat.le_refl _)) (k3_ints (W := w3) (l := [0]) (T := 3) rfl (by decide))
  rw [k3B_errWeb, k3B_ends] at h
  refine h.mono ?_
  rintro e w' ⟨v, rfl, hO, hb⟩
  obtain ⟨a, c, rfl, hL⟩ := hO.at_
  refine ⟨a, c, rfl, hL, ?_⟩
  have b3 : Below W.heap.size W w3 := b1.trans ((b12.trans (b23.mono b12.size)).mono b1.size)
  exact b3.trans ((b34.trans (hb.mono (by simp))).mono b3.size)
theorem k3_same (w : World) (a : Option Addr) (c : Nat) (h : IntsAt w a 6 c [3, 1, 0, 0, 0, 0]) :
    Calls Tryz.prog 25 #[.slice a 6 c, .slice (some ⟨w.heap.size, 0, none⟩) 6 6] (w.alloc (.cells #[.int .i64 3, .int .i64 1, .int .i64 0, .int .i64 0, .int .i64 0, .int .i64 0] 3)) fun e w' => e = .returned (.bool true) ∧ Below w.heap.size w w' := by
  refine (same_calls a 6 c [3, 1, 0, 0, 0, 0] _ 6 6 [3, 1, 0, 0, 0, 0] _ (h.below (below_alloc w _) (Nat.le_refl _)) (k3_ints (l := [3, 1, 0, 0, 0, 0]) rfl (by decide))).mono ?_
  rintro e w' ⟨rfl, hq⟩
  exact ⟨by simp [Same], (below_alloc _ _).trans ((below_drew hq).mono (by simp))⟩
theorem k3_sameL (w : World) (a : Option Addr) (c : Nat) (h : ListsAt w a 2 c [[1], [2]]) :
    Calls Tryz.prog 12 #[.slice a 2 c, .slice (some ⟨w.heap.size + 1 + 1, 0, none⟩) 2 2] (((w.alloc (.cells #[.int .i64 1] 3)).alloc (.cells #[.int .i64 2] 3)).alloc (.cells #[.slice (some ⟨w.heap.size, 0, none⟩) 1 1, .slice (some ⟨w.heap.size + 1, 0, none⟩) 1 1] 23)) fun e w' => e = .returned (.bool true) ∧ Below w.heap.size w w' := by
  obtain ⟨w1, hw1⟩ : ∃ w1, w.alloc (.cells #[.int .i64 1] 3) = w1 := ⟨_, rfl⟩
  obtain ⟨w2, hw2⟩ : ∃ w2, w1.alloc (.cells #[.int .i64 2] 3) = w2 := ⟨_, rfl⟩
  have z1 : w1.heap.size = w.heap.size + 1 := by rw [← hw1]; simp
  have z2 : w2.heap.size = w.heap.size + 1 + 1 := by rw [← hw2, ← z1]; simp
  have b12 : Below w1.heap.size w1 w2 := by rw [← hw2]; exact below_alloc _ _
  have b1 : Below w.heap.size w w1 := by rw [← hw1]; exact below_alloc _ _
  have b2 : Below w.heap.size w w2 := b1.trans (b12.mono b1.size)
  have i1 : IntsAt w2 (some ⟨w.heap.size, 0, none⟩) 1 1 [1] := by
    refine IntsAt.below (w := w1) ?_ b12 (Nat.le_refl _)
    rw [← hw1]; exact k3_ints (l := [1]) rfl (by decide)
  have i2 : IntsAt w2 (some ⟨w.heap.size + 1, 0, none⟩) 1 1 [2] := by rw [← hw2, ← z1]; exact k3_ints (l := [2]) rfl (by decide)
  rw [hw1, hw2, ← z2]
  have b23 := below_alloc w2 (.cells #[.slice (some ⟨w.heap.size, 0, none⟩) 1 1, .slice (some ⟨w.heap.size + 1, 0, none⟩) 1 1] 23)
  have hL : ListsAt (w2.alloc (.cells #[.slice (some ⟨w.heap.size, 0, none⟩) 1 1, .slice (some ⟨w.heap.size + 1, 0, none⟩) 1 1] 23)) (some ⟨w2.heap.size, 0, none⟩) 2 2 [[1], [2]] :=
    ⟨rfl, Nat.le_refl _, by omega, fun i hi => by
      have : i = 0 ∨ i = 1 := by omega
      rcases this with rfl | rfl
      · exact ⟨_, 0, _, _, _, rfl, by simp, by rw [cells_alloc]; rfl, i1.below b23 (Nat.le_refl _)⟩
      · exact ⟨_, 0, _, _, _, rfl, by simp, by rw [cells_alloc]; rfl, i2.below b23 (Nat.le_refl _)⟩⟩
  have hb := b2.trans (b23.mono b2.size)
  refine (sameL_calls _ _ _ _ _ _ _ _ _ (h.below hb (Nat.le_refl _)) hL).mono ?_
  rintro e w' ⟨rfl, q, rfl⟩
  exact ⟨by simp [SameL], below_drewN hb q⟩
set_option maxRecDepth 100000 in
set_option maxHeartbeats 2000000 in
theorem known3_calls (w : World) :
    Calls Tryz.prog 9 #[] w fun e w' => e = .returned (.bool true) ∧ Below w.heap.size w w' := by
  have HA := hid_ k3A_calls
  have HB := hid_ k3B_calls
  have HS := hid_ k3_same
  have HL := hid_ k3_sameL
  go_enter Tryz.func9, Tryz.ntmps9
  go_wp2_with fail
  refine (HA.out w).mono ?_
  rintro e w1 ⟨a1, c1, rfl, hi1, hb1⟩
  have Hi1 := hid_ hi1
  have Hb1 := hid_ hb1
  clear hi1 hb1
  go_wp2_with fail
  refine (HB.out w1).mono ?_
  rintro e w2 ⟨a2, c2, rfl, hL2, hb2⟩
  have HL2 := hid_ hL2
  have Hb2 := hid_ hb2
  clear hL2 hb2
  go_wp2_with (first
    | (go_at_call 25; (with_reducible refine (HS.out w2 a1 c1 (Hi1.out.below Hb2.out (Nat.le_refl _))).mono ?_); rintro e w3 ⟨rfl, hb3⟩; have Hb3 := hid_ hb3; clear hb3)
    | (go_at_call 12; (with_reducible refine (HL.out w3 a2 c2 (HL2.out.below Hb3.out (Nat.le_refl _))).mono ?_); rintro e w4 ⟨rfl, hb4⟩))
  go_ret
  exact ⟨rfl, Hb1.out.trans ((Hb2.out.trans ((Hb3.out.trans (hb4.mono Hb3.out.size)).mono Hb2.out.size)).mono Hb1.out.size)⟩
end Go.Proofs.YtebbmhlkdfmmcaaGreat
