import Derived.Test.YtahknodnjjmagaaZk
namespace Go.Proofs.Ytahknodnjjmagaa
open Go.RowKit Go.Proofs.Kv

/-! ### IsMore of the program -/
theorem ints_two (w : World) (x y : Int) (E : TypeId) : IntsAt (w.alloc (.cells #[.int .i64 x, .int .i64 y] E)) (some ⟨w.heap.size, 0, none⟩) 2 2 [x, y] :=
  ⟨rfl, Nat.le_refl _, by omega, fun i hi => ⟨w.heap.size, 0, rfl, by simp, by
    rcases (show i = 0 ∨ i = 1 by omega) with rfl | rfl
    · exact cells_alloc _ _ _ 0
    · exact cells_alloc _ _ _ 1⟩⟩
theorem isNo_ok {P : Par} {i : Int} (h : isNo P i = true) : ∃ k : Nat, i = (k : Int) ∧ k < P.ents.length := by
  have h' : 0 ≤ i ∧ i ≤ (P.ents.length : Int) - 1 := by simpa [isNo, Within] using h
  exact ⟨i.toNat, (Int.toNat_of_nonneg h'.1).symm, by omega⟩
theorem errN_ok {P : Par} {i j : Int} (h : errN P [i, j] = 0) : validP P = 0 ∧ isNo P i = true ∧ isNo P j = true := by
  rw [errN2] at h
  split at h
  · rename_i hv
    refine ⟨hv, ?_⟩
    cases hi : isNo P i <;> cases hj : isNo P j <;> simp [hi, hj] at h ⊢
  · rename_i hv; exact absurd h hv
def resMore (P : Par) (i j : Int) : Bool := if errN P [i, j] = 0 then moreB (sp P i.toNat) (sp P j.toNat) else false
set_option maxRecDepth 100000 in
set_option maxHeartbeats 4000000 in
theorem ceIsMore_calls (v : Value) (P : Par) (i j : Int) (w : World) (h : ParAt w v P) :
    Calls Try.prog 33 #[v, .int .i64 i, .int .i64 j] w fun e w' => e = .returned (.tuple #[.bool (resMore P i j), .int .i64 (errN P [i, j])]) ∧ Below w.heap.size w w' := by
  have HP := hid_ h
  obtain ⟨a1, n1, c1, a2, n2, c2, rfl, h1, h2⟩ := h
  obtain ⟨w1, hw1⟩ : ∃ w1, w.alloc (.cells #[.slice a1 n1 c1, .slice a2 n2 c2] 25) = w1 := ⟨_, rfl⟩
  have cb : Below w.heap.size w w1 := by rw [← hw1]; exact below_alloc _ _
  have q0 : w1.cell? ⟨w.heap.size, 0, none⟩ = some (.slice a1 n1 c1) := by rw [← hw1]; exact cells_alloc _ _ _ 0
  have q1 : w1.cell? ⟨w.heap.size, 1, none⟩ = some (.slice a2 n2 c2) := by rw [← hw1]; exact cells_alloc _ _ _ 1
  have HP1 := hid_ (HP.out.below cb (Nat.le_refl _)); have Hc1 := hid_ cb
  have HE := hid_ (fun T => validateEntries_calls _ P _ 2 2 [i, j] (w1.alloc (.cells #[.int .i64 i, .int .i64 j] T)) (HP1.out.below (below_alloc _ _) (Nat.le_refl _)) (ints_two w1 i j T))
  clear h1 h2 cb
  by_cases he : errN P [i, j] = 0
  · have Hf : Hid (resMore P i j = moreB (sp P i.toNat) (sp P j.toNat)) := hid_ (if_pos he)
    obtain ⟨hv, hi, hj⟩ := errN_ok he
    obtain ⟨i', rfl, hi'⟩ := isNo_ok hi
    obtain ⟨j', rfl, hj'⟩ := isNo_ok hj
    have HM := hid_ (fun W (hW : Below w1.heap.size w1 W) => ceisMore_calls _ P i' j' W (HP1.out.below hW (Nat.le_refl _)) hv hi' hj')
    rw [he] at HE ⊢
    have Hf2 : Hid (resMore P i' j' = moreB (sp P i') (sp P j')) := hid_ (by rw [Hf.out, Int.toNat_natCast, Int.toNat_natCast])
    rw [Hf2.out]
    generalize moreB (sp P i') (sp P j') = z at *
    clear he hv hi hj Hf
    go_enter Try.func33, Try.ntmps33
    go_wp2_with (first
      | (go_at_call 82; (with_reducible refine (HE.out _).mono ?_); rintro e w2 ⟨rfl, hb2⟩; have hb3 := (below_alloc w1 (.cells #[.int .i64 (i' : Int), .int .i64 (j' : Int)] 3)).trans (hb2.mono (below_alloc w1 (.cells #[.int .i64 (i' : Int), .int .i64 (j' : Int)] 3)).size); have q0b := cell_below q0 hb3; have q1b := cell_below q1 hb3)
      | (go_at_call 83; (with_reducible refine (HM.out _ hb3).mono ?_); rintro e w4 ⟨rfl, hb4⟩))
    go_ret2
    exact ⟨rfl, Hc1.out.trans ((hb3.trans (hb4.mono hb3.size)).mono Hc1.out.size)⟩
  · have Hf : Hid (resMore P i j = false) := hid_ (if_neg he)
    rw [Hf.out]
    have hq : (errN P [i, j] != 0) = true := by simpa using he
    generalize errN P [i, j] = x at *
    clear he
    go_enter Try.func33, Try.ntmps33
    go_wp2_with (go_at_call 82; (with_reducible refine (HE.out _).mono ?_); rintro e w2 ⟨rfl, hb2⟩; have hb3 := (below_alloc w1 (.cells #[.int .i64 i, .int .i64 j] 3)).trans (hb2.mono (below_alloc w1 (.cells #[.int .i64 i, .int .i64 j] 3)).size))
    go_ret2
    exact ⟨rfl, Hc1.out.trans (hb3.mono Hc1.out.size)⟩
end Go.Proofs.Ytahknodnjjmagaa
