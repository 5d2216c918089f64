import Derived.Test.YtahknodnjjmagaaZ8
namespace Go.Proofs.Ytahknodnjjmagaa
open Go.RowKit Go.Proofs.Kv

/-! ### the law CellLists -/
theorem sameL_yes3 (a : Option Addr) (n c : Nat) (M : List (List Int)) (a' : Option Addr) (n' c' : Nat) (W : World) (h1 : ListsAt W a n c M) (h2 : ListsAt W a' n' c' M) :
    Calls Try.prog 23 #[.slice a n c, .slice a' n' c'] W fun e w' => e = .returned (.bool true) ∧ Below W.heap.size W w' :=
  (sameL_calls a n c M a' n' c' M W h1 h2).mono fun e w' ⟨he, q, hq⟩ => ⟨by rw [he]; simp [SameL], by rw [hq]; exact below_drewN (Below.refl _ _) _⟩
set_option maxRecDepth 100000 in
set_option maxHeartbeats 8000000 in
theorem cellLists_calls (v : Value) (P : Par) (w : World) (h : ParAt w v P) :
    Calls Try.prog 3 #[v] w fun e w' => e = .returned (.bool true) ∧ Below w.heap.size w w' := by
  have HP := hid_ h
  obtain ⟨a1, n1, c1, a2, n2, c2, rfl, h1, h2⟩ := h
  obtain ⟨w1, hw1⟩ : ∃ w1, w.alloc (.cells #[.slice a1 n1 c1, .slice a2 n2 c2] 25) = w1 := ⟨_, rfl⟩
  have cb : Below w.heap.size w w1 := by rw [← hw1]; exact below_alloc _ _
  have q0 : w1.cell? ⟨w.heap.size, 0, none⟩ = some (.slice a1 n1 c1) := by rw [← hw1]; exact cells_alloc _ _ _ 0
  have q1 : w1.cell? ⟨w.heap.size, 1, none⟩ = some (.slice a2 n2 c2) := by rw [← hw1]; exact cells_alloc _ _ _ 1
  have HP1 := hid_ (HP.out.below cb (Nat.le_refl _)); have Hc1 := hid_ cb
  have HK := hid_ known_calls
  have HG := hid_ (long_calls _ P w1 HP1.out)
  have HA := hid_ (fun W (hW : Below w1.heap.size w1 W) => ceCells_calls _ P W (HP1.out.below hW (Nat.le_refl _)))
  have HB := hid_ (fun W (hW : Below w1.heap.size w1 W) => r6Cells_calls _ P W (HP1.out.below hW (Nat.le_refl _)))
  have HV := hid_ (fun W (hW : Below w1.heap.size w1 W) => ceValidate_calls _ P W (HP1.out.below hW (Nat.le_refl _)))
  have HW := hid_ (fun W (hW : Below w1.heap.size w1 W) => r6Validate_calls _ P W (HP1.out.below hW (Nat.le_refl _)))
  clear h1 h2 cb
  cases hg : LongP P with
  | true =>
    rw [hg] at HG
    go_enter Try.func3, Try.ntmps3
    go_wp2_with (first
      | (go_at_call 17; (with_reducible refine HG.out.mono ?_); rintro e w2 ⟨rfl, hb2⟩)
      | (go_at_call 18; (with_reducible refine (HK.out _).mono ?_); rintro e w3 ⟨rfl, hb3⟩))
    go_ret
    exact ⟨rfl, Hc1.out.trans ((hb2.trans (hb3.mono hb2.size)).mono Hc1.out.size)⟩
  | false =>
    rw [hg] at HG
    clear hg
    generalize resCells P = M at *
    generalize validP P = x at *
    obtain ⟨m, hm⟩ : ∃ m, M.length = m := ⟨_, rfl⟩
    have HLm := hid_ hm
    clear hm
    go_enter Try.func3, Try.ntmps3
    go_wp2_with (first
      | (go_at_call 17; (with_reducible refine HG.out.mono ?_); rintro e w2 ⟨rfl, hb2⟩; have q02 := cell_below q0 hb2; have q12 := cell_below q1 hb2)
      | (go_at_call 19; (with_reducible refine (HA.out w2 hb2).mono ?_); rintro e w3 ⟨v3, rfl, hm3⟩; have hb3 := hb2.trans (hm3.bel.mono hb2.size); have q03 := cell_below q0 hb3; have q13 := cell_below q1 hb3; obtain ⟨a3, c3, rfl, hi3⟩ := hm3.at_; have Hi3 := hid_ hi3; rw [HLm.out] at Hi3 ⊢; clear hi3 hm3)
      | (go_at_call 20; (with_reducible refine (HB.out w3 hb3).mono ?_); rintro e w4 ⟨v4, rfl, hm4⟩; have hb4 := hb3.trans (hm4.bel.mono hb3.size); have q04 := cell_below q0 hb4; have q14 := cell_below q1 hb4; obtain ⟨a4, c4, rfl, hi4⟩ := hm4.at_; have Hj4 := hid_ hi4; rw [HLm.out] at Hj4 ⊢; have Hi4 := hid_ (Hi3.out.below hm4.bel (Nat.le_refl _)); clear hi4 hm4))
    have q04r := cell_regrown q04; have q14r := cell_regrown q14
    have HVg := hid_ (fun d os => HV.out (Go.Sort.grow (redrawn w4 d) os) (hb4.trans ((below_regrown w4 d os).mono hb4.size)))
    have HWg := hid_ (fun d os => HW.out (Go.Sort.grow (redrawn w4 d) os) (hb4.trans ((below_regrown w4 d os).mono hb4.size)))
    have HSg := hid_ (fun d os => sameL_yes3 _ _ _ M _ _ _ (Go.Sort.grow (redrawn w4 d) os) (Hi4.out.below (below_regrown w4 d os) (Nat.le_refl _)) (Hj4.out.below (below_regrown w4 d os) (Nat.le_refl _)))
    have HKg := hid_ (fun d os => HK.out (Go.Sort.grow (redrawn w4 d) os))
    refine wp_region_quiet_below (by kernel_rfl) (by kernel_rfl) ?_
    repeat (first
      | go_big_quiet_skip
      | (go_big_quiet_want; go_big_quiet_op; first | go_big_quiet_on | go_big_quiet_call ((first
        | (go_at_call 21; with_reducible exact Calls.regrown_of (HVg.out _ _))
        | (go_at_call 22; with_reducible exact Calls.regrown_of (HWg.out _ _))
        | (go_at_call 23; with_reducible exact Calls.regrown_of (HSg.out _ _))
        | (go_at_call 18; with_reducible exact Calls.regrown_of (HKg.out _ _)))))) 
    refine wpQuiet_nil ?_
    rintro wq ⟨pq, hpq⟩
    have hbq := below_wq hpq; clear hpq
    go_wp2
    go_ret
    exact ⟨rfl, Hc1.out.trans ((hb4.trans (hbq.mono hb4.size)).mono Hc1.out.size)⟩
end Go.Proofs.Ytahknodnjjmagaa
