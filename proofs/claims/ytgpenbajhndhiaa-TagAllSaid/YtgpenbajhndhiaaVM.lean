import Derived.Test.YtgpenbajhndhiaaVmf
namespace Go.Proofs.Ytgpenbajhndhiaa
open Go.RowKit Go.Proofs.Kv Go

/-! ### the smallest costs are a proof -/
def rowP0 (L : Lx) (t : List Int) (i : Nat) : List Int := (List.range L.items.length).map fun j => lstS L t i j
def prf0 (L : Lx) (t : List Int) : List (List Int) := (List.range (t.length + 1)).map (rowP0 L t)
theorem prf0_row (L : Lx) (t : List Int) {i : Nat} (hi : i < t.length + 1) : (prf0 L t).getD i [] = rowP0 L t i := by
  unfold prf0; simp [List.getD, hi]
theorem rowP0_at (L : Lx) (t : List Int) (i : Nat) {j : Nat} (hj : j < L.items.length) : (rowP0 L t i).getD j 0 = lstS L t i j := by
  unfold rowP0; simp [List.getD, hj]
theorem prf0_at (L : Lx) (t : List Int) {i j : Nat} (hi : i < t.length + 1) (hj : j < L.items.length) : pv (prf0 L t) i j = lstS L t i j := by
  unfold pv; rw [prf0_row L t hi, rowP0_at L t i hj]
theorem prf0_rows {L : Lx} {t : List Int} (h : textE L t = 0) : rowsP L t (prf0 L t) = true := by
  obtain ⟨g, h12, -⟩ := textE_ok h
  have hl : (prf0 L t).length = t.length + 1 := by unfold prf0; simp
  unfold rowsP
  rw [rowsB_all hl, decide_eq_true (by omega)]
  intro i hi
  rw [prf0_row L t hi]
  have hr : (rowP0 L t i).length = L.items.length := by unfold rowP0; simp
  refine rowOk_yes hr fun j hj => ?_
  rw [rowP0_at L t i hj]
  have := lstS_in g h12 (i := i) (j := j) (by omega) hj
  simp [Within]; omega
theorem gP_prf0 {L : Lx} (g : GoodL L) {t : List Int} (ht : t.length ≤ 12) {fr j : Nat} (hf : fr ≤ t.length) (hj : j < L.items.length) : ∀ k, k ≤ L.items.length → gP L (prf0 L t) fr j k = minN ((behP L t fr j k).map (sumC L))
  | 0, _ => rfl
  | k + 1, hk => by
    have ih := gP_prf0 g ht hf hj k (by omega)
    by_cases hfo : 0 ≤ follV L k j
    · rw [gP_yes hfo, ih, lst_step g ht hf (by omega) hj hfo, prf0_at L t (by omega) (by omega), Int.add_assoc]
    · rw [gP_no hfo, ih, behP_succ, behL_no (by omega), List.append_nil]
theorem prf0_holds {L : Lx} {t : List Int} (h : textE L t = 0) : holdsB L t (prf0 L t) = true := by
  obtain ⟨g, h12, -⟩ := textE_ok h
  have hl : (prf0 L t).length = t.length + 1 := by unfold prf0; simp
  refine holdsB_yes hl rfl fun i hi j hj => ?_
  unfold okE
  cases he : endB L t i j with
  | false => rfl
  | true =>
    have e := endC_yes g hj he
    have e : lstS L t i j = behM L t (i - ln L j) j := congrArg Prod.snd e
    rw [prf0_at L t hi hj, e, Bool.true_and]
    have hg : greatV L (prf0 L t) (i - ln L j) j = behM L t (i - ln L j) j := by
      unfold greatV behM
      split
      · rfl
      · exact gP_prf0 g h12 (by omega) hj _ (Nat.le_refl _)
    rw [hg, decide_eq_false (by omega)]; rfl
theorem wP_prf0 {L : Lx} (g : GoodL L) {t : List Int} (ht : t.length ≤ 12) : ∀ k, k ≤ L.items.length → ((wP L t (rowP0 L t t.length) k).2 = false → allP L t k = []) ∧ ((wP L t (rowP0 L t t.length) k).2 = true → (wP L t (rowP0 L t t.length) k).1 = minN ((allP L t k).map (sumC L)))
  | 0, _ => ⟨fun _ => rfl, fun h => by cases h⟩
  | k + 1, hk => by
    obtain ⟨i1, i2⟩ := wP_prf0 g ht k (by omega)
    obtain ⟨⟨x, b⟩, hx⟩ : ∃ p, wP L t (rowP0 L t t.length) k = p := ⟨_, rfl⟩
    rw [hx] at i1 i2
    simp only [] at i1 i2
    have hr := rowP0_at L t t.length (show k < L.items.length by omega)
    have hl := (lstS_in g ht (Nat.le_refl t.length) (show k < L.items.length by omega)).2.1
    cases he : endB L t t.length k with
    | false =>
      have hs : S8 L t t.length k = [] := by rw [S8_eq g t t.length k (by omega), if_neg (by rw [he]; decide)]
      rw [wP_no hx he, allP_succ, hs, List.append_nil]
      exact ⟨i1, i2⟩
    | true =>
      have hm : minN ((allP L t (k + 1)).map (sumC L)) = min (minN ((allP L t k).map (sumC L))) (lstS L t t.length k) := by rw [allP_succ, List.map_append, minN_append]; rfl
      cases b with
      | false =>
        rw [wP_yes hx he (.inl rfl), hr]
        refine ⟨fun h => (by cases h), fun _ => ?_⟩
        rw [hm, i1 rfl]; show _ = min 100000 _; omega
      | true =>
        have h2 := i2 rfl
        by_cases hlt : lstS L t t.length k < x
        · rw [wP_yes hx he (.inr (by rw [hr]; exact hlt)), hr]
          refine ⟨fun h => (by cases h), fun _ => ?_⟩
          rw [hm, ← h2]; show lstS L t t.length k = _; omega
        · rw [wP_no' hx (by rw [hr]; exact hlt)]
          refine ⟨fun h => (by cases h), fun _ => ?_⟩
          rw [hm, ← h2]; show x = _; omega
theorem prf0_is {L : Lx} {t : List Int} (h : leastB L t = true) : proofE L t (prf0 L t) = 0 ∧ prfP L t (prf0 L t) = (leastV L t, true) := by
  have hb := h
  unfold leastB at h
  rw [Bool.and_eq_true, decide_eq_true_eq, decide_eq_true_eq] at h
  obtain ⟨g, h12, -⟩ := textE_ok h.1
  obtain ⟨e1, e2⟩ := proofE_0 h.1 (prf0_rows h.1) (prf0_holds h.1)
  refine ⟨e1, ?_⟩
  rw [e2]
  unfold wthP leastV
  rw [if_pos hb]
  by_cases h0 : t.length = 0
  · rw [if_pos h0]; unfold lstA allS; rw [if_pos h0]; rfl
  · rw [if_neg h0, prf0_row L t (by omega)]
    have hA : allS L t = allP L t L.items.length := by unfold allS; rw [if_neg h0]; rfl
    obtain ⟨i1, i2⟩ := wP_prf0 g h12 L.items.length (Nat.le_refl _)
    have hne : allP L t L.items.length ≠ [] := fun e => h.2 (by rw [cntA_ne, hA, e])
    cases hw : (wP L t (rowP0 L t t.length) L.items.length).2 with
    | false => exact absurd (i1 hw) hne
    | true =>
      refine Prod.ext ?_ hw
      rw [i2 hw]; unfold lstA; rw [hA]
end Go.Proofs.Ytgpenbajhndhiaa
