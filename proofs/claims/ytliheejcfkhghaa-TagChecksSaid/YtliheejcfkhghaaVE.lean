import Derived.Test.YtliheejcfkhghaaVD
namespace Go.Proofs.Ytliheejcfkhghaa
open Go.RowKit Go.Proofs.Kv Go

/-! ### CheckProof of the document -/
theorem begT_endB (L : Lx) (t : List Int) {i j : Nat} (h : ln L j ≤ i) (hi : i ≤ t.length) : begT (wd L j) (t.drop (i - ln L j)) = endB L t i j := by
  unfold begT endB
  have e : (wd L j).length = ln L j := rfl
  rw [e, List.length_drop, List.drop_take, decide_eq_true h, decide_eq_true (show ln L j ≤ t.length - (i - ln L j) by omega), show i - (i - ln L j) = ln L j by omega]
  rfl
set_option maxRecDepth 100000 in
set_option maxHeartbeats 4000000 in
theorem comes_end (v : Value) (L : Lx) (a : Option Addr) (n c : Nat) (t : List Int) (i j : Nat) (z : Int) (w : World) (h : LexAt w v L) (ht : IntsAt w a n c t) (g : GoodL L) (hj : j < L.items.length) (hi : i ≤ n) (hn : n ≤ 1000) (hz : (i : Int) - (ln L j : Int) = z) :
    Calls Try.prog 78 #[v, .slice a n c, .int .i64 z, .int .i64 (j : Int)] w fun e w' => e = .returned (.bool (endB L t i j)) ∧ Below w.heap.size w w' := by
  by_cases hl : ln L j ≤ i
  · have hz2 : z = ((i - ln L j : Nat) : Int) := by omega
    have := comes_calls v L a n c t (i - ln L j) j w h ht g hj (by omega) hn
    rw [begT_endB L t hl (by rw [ht.len]; exact hi), ← hz2] at this
    exact this
  · have he : endB L t i j = false := by unfold endB; rw [decide_eq_false hl, Bool.false_and]
    rw [he]
    have HP := hid_ h
    obtain ⟨a1, n1, c1, a2, n2, c2, rfl, h1, h2⟩ := h
    obtain ⟨w1, hw1⟩ : ∃ w1, w.alloc (.cells #[.slice a1 n1 c1, .slice a2 n2 c2] 25) = w1 := ⟨_, rfl⟩
    have cb : Below w.heap.size w w1 := by rw [← hw1]; exact below_alloc _ _
    have q0 : w1.cell? ⟨w.heap.size, 0, none⟩ = some (.slice a1 n1 c1) := by rw [← hw1]; exact cells_alloc _ _ _ 0
    have q1 : w1.cell? ⟨w.heap.size, 1, none⟩ = some (.slice a2 n2 c2) := by rw [← hw1]; exact cells_alloc _ _ _ 1
    have HP1 := hid_ (HP.out.below cb (Nat.le_refl _)); have Hc1 := hid_ cb
    have hl1 := h1.len
    obtain ⟨b, off, a3, m, c3, rfl, -, k0, k1, k2, hw⟩ := (h1.below cb (Nat.le_refl _)).cells j (by omega)
    have hge : decide (z ≥ 0) = false := decide_eq_false (by omega)
    have hj1 : j < n1 := by omega
    clear h1 h2 HP HP1 cb ht hl1 hw g hz hl hi hj he
    go_enter Try.func78, Try.ntmps78
    go_wp2
    go_ret
    exact ⟨rfl, Hc1.out⟩
theorem gP_ge {L : Lx} {P : List (List Int)} {fr j : Nat} {x : Int} (hx : x ≤ 100000) : ∀ k, (∀ k', k' < k → 0 ≤ follV L k' j → ¬ pv P fr k' + follV L k' j + (L.items.getD j I0).cost < x) → ¬ gP L P fr j k < x
  | 0, _ => by simp only [gP]; omega
  | k + 1, h => by
    have ih := gP_ge hx k (fun k' hk' => h k' (by omega))
    have := h k (by omega)
    rw [gP]
    split
    · rename_i hf
      have := this hf
      omega
    · exact ih
theorem gP_lt {L : Lx} {P : List (List Int)} {fr j k' : Nat} {x : Int} (hf : 0 ≤ follV L k' j) (h : pv P fr k' + follV L k' j + (L.items.getD j I0).cost < x) : ∀ k, k' < k → gP L P fr j k < x
  | 0, hk => absurd hk (by omega)
  | k + 1, hk => by
    by_cases e : k' = k
    · subst e
      rw [gP, if_pos hf]; omega
    · have ih := gP_lt hf h k (by omega)
      rw [gP]
      split
      · omega
      · exact ih
theorem okE_off {L : Lx} {t : List Int} {P : List (List Int)} {i j : Nat} (h : endB L t i j = false) : okE L t P i j = true := by unfold okE; rw [h]; rfl
theorem okE_z {L : Lx} {t : List Int} {P : List (List Int)} {i j : Nat} (h : endB L t i j = true) (h0 : i - ln L j = 0) : okE L t P i j = !decide ((L.items.getD j I0).cost < pv P i j) := by
  unfold okE greatV; rw [h, h0, if_pos rfl]; rfl
theorem okE_yes {L : Lx} {t : List Int} {P : List (List Int)} {i j fr : Nat} (h : endB L t i j = true) (h0 : i - ln L j = fr) (hfr : fr ≠ 0) (hx : pv P i j ≤ 100000)
    (hk : ∀ k', k' < L.items.length → 0 ≤ follV L k' j → ¬ pv P fr k' + follV L k' j + (L.items.getD j I0).cost < pv P i j) : okE L t P i j = true := by
  unfold okE greatV; rw [h, h0, if_neg hfr, decide_eq_false (gP_ge hx _ hk)]; rfl
theorem okE_no {L : Lx} {t : List Int} {P : List (List Int)} {i j fr k' : Nat} (h : endB L t i j = true) (h0 : i - ln L j = fr) (hfr : fr ≠ 0) (hk : k' < L.items.length) (hf : 0 ≤ follV L k' j)
    (hl : pv P fr k' + follV L k' j + (L.items.getD j I0).cost < pv P i j) : okE L t P i j = false := by
  unfold okE greatV; rw [h, h0, if_neg hfr, decide_eq_true (gP_lt hf hl _ hk)]; rfl
theorem rowOk_no {m : Nat} {r : List Int} {n : Nat} (h : r.length = n) (hn : n ≠ m) : rowOk8 (m : Int) (-100000) 100000 r = false := by
  unfold rowOk8; rw [h, decide_eq_false (by omega), Bool.false_and]
theorem rowOk_bad {m : Nat} {r : List Int} {n k : Nat} (h : r.length = n) (hk : k < n) (hw : Within (r.getD k 0) (-100000) 100000 = false) : rowOk8 (m : Int) (-100000) 100000 r = false := by
  unfold rowOk8; rw [areB_no (by omega) hw, Bool.and_false]
theorem rowOk_yes {m : Nat} {r : List Int} (h : r.length = m) (hw : ∀ k, k < m → Within (r.getD k 0) (-100000) 100000 = true) : rowOk8 (m : Int) (-100000) 100000 r = true := by
  unfold rowOk8; rw [h, decide_eq_true rfl, areB_yes h hw]; rfl
theorem proofE_1 {L : Lx} {t : List Int} {P : List (List Int)} (h : textE L t = 0) (hr : rowsP L t P = false) : proofE L t P = 1 ∧ prfP L t P = (0, false) := by
  have : proofE L t P = 1 := by unfold proofE; rw [if_pos h, hr, if_neg (by decide)]
  exact ⟨this, by unfold prfP; rw [this]; rfl⟩
theorem proofE_7 {L : Lx} {t : List Int} {P : List (List Int)} (h : textE L t = 0) (hr : rowsP L t P = true) (hh : holdsB L t P = false) : proofE L t P = 7 ∧ prfP L t P = (0, false) := by
  have : proofE L t P = 7 := by unfold proofE; rw [if_pos h, hr, if_pos rfl, hh, if_neg (by decide)]
  exact ⟨this, by unfold prfP; rw [this]; rfl⟩
theorem proofE_0 {L : Lx} {t : List Int} {P : List (List Int)} (h : textE L t = 0) (hr : rowsP L t P = true) (hh : holdsB L t P = true) : proofE L t P = 0 ∧ prfP L t P = wthP L t P := by
  have : proofE L t P = 0 := by unfold proofE; rw [if_pos h, hr, if_pos rfl, hh, if_pos rfl]
  exact ⟨this, by unfold prfP; rw [this, if_pos rfl]⟩
end Go.Proofs.Ytliheejcfkhghaa
