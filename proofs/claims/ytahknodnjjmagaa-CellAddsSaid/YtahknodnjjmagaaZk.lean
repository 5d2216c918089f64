import Derived.Test.YtahknodnjjmagaaZj
namespace Go.Proofs.Ytahknodnjjmagaa
open Go.RowKit Go.Proofs.Kv

/-! ### more special: the program's -/
def moreB (a b : List Int) : Bool := hB b a && !hB a b
def sp (P : Par) (i : Nat) : List Int := (P.ents.getD i E0).spec
set_option maxRecDepth 100000 in
set_option maxHeartbeats 4000000 in
theorem ceisMore_calls (v : Value) (P : Par) (i j : Nat) (w : World) (h : ParAt w v P) (hv : validP P = 0) (hi : i < P.ents.length) (hj : j < P.ents.length) :
    Calls Try.prog 83 #[v, .int .i64 (i : Int), .int .i64 (j : Int)] w fun e w' => e = .returned (.bool (moreB (sp P i) (sp P j))) ∧ Below w.heap.size w w' := by
  obtain ⟨-, -, h10, hent⟩ := validP_ok hv
  obtain ⟨a1, n1, c1, a2, n2, c2, rfl, h1, h2⟩ := h
  have li := (specB_ok (hent i hi).1).1; have lj := (specB_ok (hent j hj).1).1
  have hi' : i < n2 := by rw [← h2.len]; exact hi
  have hj' : j < n2 := by rw [← h2.len]; exact hj
  have h10' : n2 ≤ 10 := by rw [← h2.len]; exact h10
  obtain ⟨w1, hw1⟩ : ∃ w1, w.alloc (.cells #[.slice a1 n1 c1, .slice a2 n2 c2] 25) = w1 := ⟨_, rfl⟩
  have cb : Below w.heap.size w w1 := by rw [← hw1]; exact below_alloc _ _
  have q0 : w1.cell? ⟨w.heap.size, 0, none⟩ = some (.slice a1 n1 c1) := by rw [← hw1]; exact cells_alloc _ _ _ 0
  have q1 : w1.cell? ⟨w.heap.size, 1, none⟩ = some (.slice a2 n2 c2) := by rw [← hw1]; exact cells_alloc _ _ _ 1
  have H2 := h2.below cb (Nat.le_refl _)
  obtain ⟨b, off, a3, n3, c3, rfl, -, k0, k1, hri⟩ := H2.cells i hi'
  obtain ⟨b', off', a4, n4, c4, hbe, -, l0, l1, hrj⟩ := H2.cells j hj'
  injection hbe with hbe
  injection hbe with e1 e2
  subst e1 e2
  have hl3 : n3 = P.sizes.length := by rw [← hri.len, li]
  have hl4 : n4 = P.sizes.length := by rw [← hrj.len, lj]
  have HA := hid_ (fun q => ceWithin_calls a3 n3 c3 (sp P i) a4 n4 c4 (sp P j) (w1.drewN q) (hri.drewN q) (hrj.drewN q) (by omega))
  have HB := hid_ (fun q => ceWithin_calls a4 n4 c4 (sp P j) a3 n3 c3 (sp P i) (w1.drewN q) (hrj.drewN q) (hri.drewN q) (by omega))
  have HM : Hid (moreB (sp P i) (sp P j) = (hB (sp P j) (sp P i) && !hB (sp P i) (sp P j))) := hid_ rfl
  have Hc1 := hid_ cb
  clear li lj hl3 hl4 hri hrj H2 h1 h2 cb hent hv h10 k1 l1 hi hj
  generalize hB (sp P j) (sp P i) = x at *
  generalize hB (sp P i) (sp P j) = y at *
  cases x with
  | false =>
    have Hf : Hid (moreB (sp P i) (sp P j) = false) := hid_ (by rw [HM.out]; rfl)
    go_enter Try.func83, Try.ntmps83
    go_wp2_with fail
    go_quiet (fail)
    go_wp2_with (go_at_call 99; (with_reducible refine (HA.out _).mono ?_); rintro e w3 ⟨rfl, rfl⟩)
    go_ret
    exact ⟨retB Hf.out, Hc1.out.trans (below_drewN (Below.refl _ _) _)⟩
  | true =>
    have Hf : Hid (moreB (sp P i) (sp P j) = !y) := hid_ (by rw [HM.out]; rfl)
    go_enter Try.func83, Try.ntmps83
    go_wp2_with fail
    go_quiet (fail)
    go_wp2_with (first
      | (go_at_call 99; (with_reducible refine (HA.out _).mono ?_); rintro e w3 ⟨rfl, rfl⟩)
      | (go_at_call 99; (with_reducible refine (HB.out _).mono ?_); rintro e w3 ⟨rfl, rfl⟩))
    go_ret
    exact ⟨retB Hf.out, Hc1.out.trans (below_drewN (Below.refl _ _) _)⟩
end Go.Proofs.Ytahknodnjjmagaa
