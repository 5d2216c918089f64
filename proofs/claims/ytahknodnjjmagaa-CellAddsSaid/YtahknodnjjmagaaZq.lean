import Derived.Test.YtahknodnjjmagaaZp
import Derived.Test.YtahknodnjjmagaaZl
namespace Go.Proofs.Ytahknodnjjmagaa
open Go.RowKit Go.Proofs.Kv

/-! ### more special: the document's -/
set_option maxRecDepth 100000 in
set_option maxHeartbeats 4000000 in
theorem inside_calls (v : Value) (P : Par) (a3 : Option Addr) (n3 c3 : Nat) (x : List Int) (a4 : Option Addr) (n4 c4 : Nat) (y : List Int) (w : World) (h : ParAt w v P) (hx : IntsAt w a3 n3 c3 x) (hy : IntsAt w a4 n4 c4 y) (hv : validP P = 0) (sx : specB P.sizes x (-1) = true) (sy : specB P.sizes y (-1) = true) :
    Calls Try.prog 117 #[v, .slice a3 n3 c3, .slice a4 n4 c4] w fun e w' => e = .returned (.bool (insB P.sizes x y)) ∧ Below w.heap.size w w' := by
  have HP := hid_ h
  obtain ⟨a1, n1, c1, a2, n2, c2, rfl, h1, h2⟩ := h
  obtain ⟨w1, hw1⟩ : ∃ w1, w.alloc (.cells #[.slice a1 n1 c1, .slice a2 n2 c2] 25) = w1 := ⟨_, rfl⟩
  have cb : Below w.heap.size w w1 := by rw [← hw1]; exact below_alloc _ _
  have q0 : w1.cell? ⟨w.heap.size, 0, none⟩ = some (.slice a1 n1 c1) := by rw [← hw1]; exact cells_alloc _ _ _ 0
  have q1 : w1.cell? ⟨w.heap.size, 1, none⟩ = some (.slice a2 n2 c2) := by rw [← hw1]; exact cells_alloc _ _ _ 1
  have HP1 := hid_ (HP.out.below cb (Nat.le_refl _)); have Hc1 := hid_ cb
  have HC := hid_ (r6cells_calls _ P w1 HP1.out hv)
  have HX := hid_ (hx.below cb (Nat.le_refl _)); have HY := hid_ (hy.below cb (Nat.le_refl _))
  have hx3 : n3 = P.sizes.length := by rw [← hx.len, (specB_ok sx).1]
  have hx4 : n4 = P.sizes.length := by rw [← hy.len, (specB_ok sy).1]
  have HGx := hid_ (fun j (hj : j < n3) => ((specB_ok sx).2 j (by rw [hx.len]; exact hj)).1)
  have HGy := hid_ (fun j (hj : j < n4) => ((specB_ok sy).2 j (by rw [hy.len]; exact hj)).1)
  have HLe : Hid (∀ k, k < (cellsL P.sizes).length → ((cellsL P.sizes).getD k []).length = P.sizes.length) := hid_ (fun k hk => (specB_ok (cells_spec hv hk)).1)
  have h27 := (cells_chain hv).2.2.1
  have HYes : Hid ((∀ j, j < (cellsL P.sizes).length → (!hB x ((cellsL P.sizes).getD j []) || hB y ((cellsL P.sizes).getD j [])) = true) → insB P.sizes x y = true) := hid_ (fun hh => by
    rw [insB, List.all_eq_true]
    intro c hc
    obtain ⟨i, hi, rfl⟩ := List.mem_iff_getElem.1 hc
    have := hh i hi
    rwa [show (cellsL P.sizes).getD i [] = (cellsL P.sizes)[i] by simp [List.getD, List.getElem?_eq_getElem hi]] at this)
  have HNo : Hid (∀ j, j < (cellsL P.sizes).length → (!hB x ((cellsL P.sizes).getD j []) || hB y ((cellsL P.sizes).getD j [])) = false → insB P.sizes x y = false) := hid_ (fun j hj hh => by
    rw [insB, List.all_eq_false]
    refine ⟨(cellsL P.sizes)[j], List.getElem_mem hj, ?_⟩
    rw [show (cellsL P.sizes).getD j [] = (cellsL P.sizes)[j] by simp [List.getD, List.getElem?_eq_getElem hj]] at hh
    rw [hh]; simp)
  have Hx3 := hid_ hx3; have Hx4 := hid_ hx4
  clear h1 h2 hx hy sx sy hv cb hx3 hx4
  generalize cellsL P.sizes = L at *
  go_enter Try.func117, Try.ntmps117
  go_wp2_with (go_at_call 70; (with_reducible refine HC.out.mono ?_); rintro e w2 ⟨v2, rfl, hm⟩; obtain ⟨a5, c5, rfl, hL5⟩ := hm.at_; have hb2 := hm.bel)
  have HL := hid_ hL5
  have Hb2 := hid_ hb2
  clear hm hL5 q0 q1
  go_loopw [8] (fun i wr => ∃ k q : Nat, k ≤ L.length ∧ i = .int .i64 k ∧ wr = w2.drewN q ∧ ∀ j, j < k → (!hB x (L.getD j []) || hB y (L.getD j [])) = true) (fun i _ => L.length - (intOf i).toNat)
  case atStart => exact ⟨0, 0, Nat.zero_le _, rfl, rfl, fun _ h => absurd h (by omega)⟩
  case round =>
    obtain ⟨k, q, hk, rfl, hq, hall⟩ := hrel
    have Hall := hid_ hall
    have hbr : Below w2.heap.size w2 wr := by rw [hq]; exact below_drewN (Below.refl _ _) _
    have HbF := hid_ (Hc1.out.trans ((Hb2.out.trans (hbr.mono Hb2.out.size)).mono Hc1.out.size))
    have Hq := hid_ hq
    clear hall hq
    by_cases hlt : k < L.length
    · obtain ⟨b, off, a6, n6, c6, rfl, hbs, hcell, hrow⟩ := (HL.out.below hbr (Nat.le_refl _)).cells k hlt
      have hl6 : n6 = P.sizes.length := by rw [← hrow.len, HLe.out k hlt]
      have hX := (HX.out.below Hb2.out (Nat.le_refl _)).below hbr (Nat.le_refl _)
      have hY := (HY.out.below Hb2.out (Nat.le_refl _)).below hbr (Nat.le_refl _)
      have hno := HNo.out k hlt
      have hyes := fun hh => lt_snoc (p := fun j => (!hB x (L.getD j []) || hB y (L.getD j [])) = true) Hall.out hh
      have HA := hid_ (holds_calls a6 n6 c6 (L.getD k []) a3 n3 c3 x wr hrow hX (by rw [Hx3.out, hl6]; exact Nat.le_refl _) HGx.out)
      have HB := hid_ (fun q => holds_calls a6 n6 c6 (L.getD k []) a4 n4 c4 y (wr.drewN q) (hrow.drewN q) (hY.drewN q) (by rw [Hx4.out, hl6]; exact Nat.le_refl _) HGy.out)
      clear hX hY hrow hl6 hbr
      generalize L.getD k [] = cl at *
      generalize hB x cl = bx at *
      generalize hB y cl = bY at *
      cases bx with
      | false =>
        have Hn := hid_ (hyes rfl)
        clear hno hyes
        go_wp2_with (go_at_call 52; (with_reducible refine HA.out.mono ?_); rintro e w5 ⟨rfl, q1, rfl⟩)
        go_roundw
        case rel => exact ⟨k + 1, _, by omega, by go_num, by rw [Hq.out, drewN2], Hn.out⟩
        case measure => simp [intOf]; omega
      | true =>
        cases bY with
        | false =>
          have Hf := hid_ (hno rfl)
          clear hno hyes
          go_wp2_with (first
            | (go_at_call 52; (with_reducible refine HA.out.mono ?_); rintro e w5 ⟨rfl, q1, rfl⟩)
            | (go_at_call 52; (with_reducible refine (HB.out q1).mono ?_); rintro e w5 ⟨rfl, q2, rfl⟩))
          go_ret
          exact ⟨retB Hf.out, below_drewN HbF.out _⟩
        | true =>
          have Hn := hid_ (hyes rfl)
          clear hno hyes
          go_wp2_with (first
            | (go_at_call 52; (with_reducible refine HA.out.mono ?_); rintro e w5 ⟨rfl, q1, rfl⟩)
            | (go_at_call 52; (with_reducible refine (HB.out q1).mono ?_); rintro e w5 ⟨rfl, q2, rfl⟩))
          go_roundw
          case rel => exact ⟨k + 1, _, by omega, by go_num, by rw [Hq.out, drewN2], Hn.out⟩
          case measure => simp [intOf]; omega
    · obtain rfl : L.length = k := by omega
      have Hf := hid_ (HYes.out Hall.out)
      go_wp2
      go_ret
      exact ⟨retB Hf.out, HbF.out⟩
set_option maxRecDepth 100000 in
set_option maxHeartbeats 4000000 in
theorem r6isMore_calls (v : Value) (P : Par) (i j : Nat) (w : World) (h : ParAt w v P) (hv : validP P = 0) (hi : i < P.ents.length) (hj : j < P.ents.length) :
    Calls Try.prog 85 #[v, .int .i64 (i : Int), .int .i64 (j : Int)] w fun e w' => e = .returned (.bool (moreB (sp P i) (sp P j))) ∧ Below w.heap.size w w' := by
  obtain ⟨-, -, h10, hent⟩ := validP_ok hv
  have si : specB P.sizes (sp P i) (-1) = true := (hent i hi).1
  have sj : specB P.sizes (sp P j) (-1) = true := (hent j hj).1
  have HP := hid_ h
  obtain ⟨a1, n1, c1, a2, n2, c2, rfl, h1, h2⟩ := h
  obtain ⟨w1, hw1⟩ : ∃ w1, w.alloc (.cells #[.slice a1 n1 c1, .slice a2 n2 c2] 25) = w1 := ⟨_, rfl⟩
  have cb : Below w.heap.size w w1 := by rw [← hw1]; exact below_alloc _ _
  have q0 : w1.cell? ⟨w.heap.size, 0, none⟩ = some (.slice a1 n1 c1) := by rw [← hw1]; exact cells_alloc _ _ _ 0
  have q1 : w1.cell? ⟨w.heap.size, 1, none⟩ = some (.slice a2 n2 c2) := by rw [← hw1]; exact cells_alloc _ _ _ 1
  have HP1 := hid_ (HP.out.below cb (Nat.le_refl _)); have Hc1 := hid_ cb
  have hi' : i < n2 := by rw [← h2.len]; exact hi
  have hj' : j < n2 := by rw [← h2.len]; exact hj
  have h10' : n2 ≤ 10 := by rw [← h2.len]; exact h10
  have H2 := h2.below cb (Nat.le_refl _)
  obtain ⟨b, off, a3, n3, c3, rfl, -, k0, k1, hri⟩ := H2.cells i hi'
  obtain ⟨b', off', a4, n4, c4, hbe, -, l0, l1, hrj⟩ := H2.cells j hj'
  injection hbe with hbe
  injection hbe with e1 e2
  subst e1 e2
  have HA := hid_ (fun q => inside_calls _ P a3 n3 c3 (sp P i) a4 n4 c4 (sp P j) (w1.drewN q) (HP1.out.drewN q) (hri.drewN q) (hrj.drewN q) hv si sj)
  have HB := hid_ (fun q W (hW : Below (w1.drewN q).heap.size (w1.drewN q) W) => inside_calls _ P a4 n4 c4 (sp P j) a3 n3 c3 (sp P i) W ((HP1.out.drewN q).below hW (Nat.le_refl _)) ((hrj.drewN q).below hW (Nat.le_refl _)) ((hri.drewN q).below hW (Nat.le_refl _)) hv sj si)
  rw [ins_eq hv si sj] at HA
  rw [ins_eq hv sj si] at HB
  have HM : Hid (moreB (sp P i) (sp P j) = (hB (sp P j) (sp P i) && !hB (sp P i) (sp P j))) := hid_ rfl
  have e0 : ∀ q, (w1.drewN q).cell? ⟨w.heap.size, 0, none⟩ = some (.slice a1 n1 c1) := fun q => q0
  have e1 : ∀ q, (w1.drewN q).cell? ⟨w.heap.size, 1, none⟩ = some (.slice (some ⟨b, off, none⟩) n2 c2) := fun q => q1
  have HP0 := hid_ e0; have HP2 := hid_ e1
  clear hri hrj H2 h1 h2 cb hent hv h10 k1 l1 hi hj si sj e0 e1
  generalize hB (sp P j) (sp P i) = x at *
  generalize hB (sp P i) (sp P j) = y at *
  cases x with
  | false =>
    have Hf : Hid (moreB (sp P i) (sp P j) = false) := hid_ (by rw [HM.out]; rfl)
    go_enter Try.func85, Try.ntmps85
    go_wp2_with fail
    go_quiet (fail)
    go_wp2_with (go_at_call 117; (with_reducible refine (HA.out _).mono ?_); rintro e w3 ⟨rfl, hb3⟩)
    go_ret
    exact ⟨retB Hf.out, Hc1.out.trans (((below_drewN (Below.refl _ _) _).trans hb3).mono Hc1.out.size)⟩
  | true =>
    have Hf : Hid (moreB (sp P i) (sp P j) = !y) := hid_ (by rw [HM.out]; rfl)
    go_enter Try.func85, Try.ntmps85
    go_wp2_with fail
    go_quiet (fail)
    go_wp2_with (first
      | (go_at_call 117; (with_reducible refine (HA.out _).mono ?_); rintro e w3 ⟨rfl, hb3⟩; have q03 := cell_below (HP0.out _) hb3; have q13 := cell_below (HP2.out _) hb3)
      | (go_at_call 117; (with_reducible refine (HB.out _ _ hb3).mono ?_); rintro e w4 ⟨rfl, hb4⟩))
    go_ret
    exact ⟨retB Hf.out, Hc1.out.trans ((((below_drewN (Below.refl _ _) _).trans hb3).trans (hb4.mono hb3.size)).mono Hc1.out.size)⟩
end Go.Proofs.Ytahknodnjjmagaa
