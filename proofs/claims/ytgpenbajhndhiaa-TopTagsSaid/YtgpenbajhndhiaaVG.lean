import Derived.Test.YtgpenbajhndhiaaVme
namespace Go.Proofs.Ytgpenbajhndhiaa
open Go.RowKit Go.Proofs.Kv Go

/-! ### no split costs less than a proof says -/
theorem okE_le {L : Lx} {t : List Int} {P : List (List Int)} {i j : Nat} (h : okE L t P i j = true) (he : endB L t i j = true) : pv P i j ≤ greatV L P (i - ln L j) j := by
  unfold okE at h
  rw [he, Bool.true_and, Bool.not_eq_true', decide_eq_false_iff_not] at h
  omega
theorem isS_snoc {L : Lx} {u s : List Int} {j : Nat} (h : isS L u (s ++ [(j : Int)])) : j < L.items.length ∧ wordsL L s ++ wd L j = u ∧ isS L (wordsL L s) s ∧ (s ≠ [] → 0 ≤ fvI L (s.getD (s.length - 1) 0) (j : Int)) := by
  obtain ⟨h1, h2, h3⟩ := h
  obtain ⟨a1, a2, a3⟩ := itemsB_snoc.1 h1
  rw [wordsL_snoc, wordL_nat] at h2
  rw [okF_snoc, Bool.and_eq_true] at h3
  refine ⟨by omega, h2, ⟨a1, rfl, h3.1⟩, fun hs => ?_⟩
  have := h3.2
  rw [Bool.or_eq_true, decide_eq_true_eq, decide_eq_true_eq] at this
  rcases this with h | h
  · exact absurd (List.length_eq_zero_iff.1 h) hs
  · exact h
theorem proof_low {L : Lx} (g : GoodL L) {t : List Int} {P : List (List Int)} (hP : GoodP L t P) (hh : holdsB L t P = true) : ∀ (m : Nat) (s : List Int) (i j : Nat), s.length ≤ m → i ≤ t.length → isS L (t.take i) (s ++ [(j : Int)]) → endB L t i j = true ∧ j < L.items.length ∧ pv P i j ≤ sumC L (s ++ [(j : Int)]) := by
  intro m
  induction m with
  | zero =>
    intro s i j hs hi h
    obtain rfl : s = [] := List.length_eq_zero_iff.1 (by omega)
    obtain ⟨hj, hw, -, -⟩ := isS_snoc h
    have hw : wd L j = t.take i := hw
    have hlen : ln L j = i := by
      have := congrArg List.length hw
      rw [List.length_take, Nat.min_eq_left hi] at this; exact this
    have he : endB L t i j = true := by
      unfold endB; rw [hlen, Nat.sub_self, List.drop_zero, ← hw]; simp [wd]
    refine ⟨he, hj, ?_⟩
    have h1 := okE_le (holdsB_at hh (i := i) (by rw [hP.len]; omega) hj) he
    rw [hlen, Nat.sub_self, greatV, if_pos rfl] at h1
    have e : sumC L ([] ++ [(j : Int)]) = (L.items.getD j I0).cost := by
      rw [sumC_snoc]
      simp [sumC, sumK, costI]
    rw [e]; exact h1
  | succ m ih =>
    intro s i j hs hi h
    rcases snoc_cases s with rfl | ⟨s', x, rfl⟩
    · exact ih [] i j (Nat.zero_le _) hi h
    · obtain ⟨hj, hw, hs', hf⟩ := isS_snoc h
      obtain ⟨a1, a2, a3⟩ := itemsB_snoc.1 hs'.1
      obtain ⟨k, rfl⟩ : ∃ k : Nat, x = (k : Int) := ⟨x.toNat, by omega⟩
      obtain ⟨fr, hfr⟩ : ∃ fr, (wordsL L (s' ++ [(k : Int)])).length = fr := ⟨_, rfl⟩
      have hlen : fr + ln L j = i := by
        have := congrArg List.length hw
        rw [List.length_append, List.length_take, Nat.min_eq_left hi, hfr] at this; exact this
      have htk : t.take fr = wordsL L (s' ++ [(k : Int)]) := by
        have e : (t.take i).take fr = wordsL L (s' ++ [(k : Int)]) := by rw [← hw, ← hfr, List.take_left]
        rw [List.take_take, Nat.min_eq_left (by omega)] at e; exact e
      have hdr : (t.take i).drop fr = wd L j := by rw [← hw, ← hfr, List.drop_left]
      have hfr1 : i - ln L j = fr := by omega
      have he : endB L t i j = true := by
        unfold endB; rw [hfr1, hdr, decide_eq_true (show ln L j ≤ i by omega)]; simp [wd]
      obtain ⟨-, hk, ihk⟩ := ih s' fr k (by simp at hs; omega) (by omega) (by rw [htk]; exact hs')
      have hfr0 : fr ≠ 0 := by
        have hb := isS_snoc (u := t.take fr) (by rw [htk]; exact hs')
        have h6 := (g.word k hk).1
        have := congrArg List.length hb.2.1
        rw [List.length_append, List.length_take, Nat.min_eq_left (by omega)] at this
        change 1 ≤ (wd L k).length at h6
        omega
      refine ⟨he, hj, ?_⟩
      have h1 := okE_le (holdsB_at hh (i := i) (by rw [hP.len]; omega) hj) he
      rw [hfr1, greatV, if_neg hfr0] at h1
      have hfo : 0 ≤ follV L k j := by
        have := hf (by simp)
        rw [List.length_append, List.length_singleton, Nat.add_sub_cancel, getD_snoc_eq, fvI, Int.toNat_natCast, Int.toNat_natCast] at this
        exact this
      have h2 : gP L P fr j L.items.length ≤ pv P fr k + follV L k j + (L.items.getD j I0).cost := by
        rcases Int.lt_or_le (pv P fr k + follV L k j + (L.items.getD j I0).cost) (gP L P fr j L.items.length) with hlt | hle
        · exact absurd (gP_lt (P := P) (fr := fr) hfo hlt L.items.length hk) (by omega)
        · exact hle
      have e : sumC L (s' ++ [(k : Int)] ++ [(j : Int)]) = sumC L (s' ++ [(k : Int)]) + ((L.items.getD j I0).cost + follV L k j) := by
        rw [sumC_snoc, if_neg (by simp), costI, Int.toNat_natCast, List.length_append, List.length_singleton, Nat.add_sub_cancel, getD_snoc_eq, fvI, Int.toNat_natCast, Int.toNat_natCast]
      rw [e]; omega
theorem wP_none {L : Lx} {t r : List Int} : ∀ k, (wP L t r k).2 = false → ∀ j, j < k → endB L t t.length j = false
  | 0, _, j, hj => absurd hj (by omega)
  | k + 1, hb, j, hj => by
    rw [wP] at hb
    by_cases hc : (endB L t t.length k && (!(wP L t r k).2 || decide (r.getD k 0 < (wP L t r k).1))) = true
    · rw [if_pos hc] at hb; cases hb
    · rw [if_neg hc] at hb
      by_cases e : j = k
      · subst e
        cases he : endB L t t.length j with
        | false => rfl
        | true => rw [he, hb] at hc; exact absurd rfl hc
      · exact wP_none k hb j (by omega)
theorem wP_in {L : Lx} {t r : List Int} (h : ∀ k, k < L.items.length → r.getD k 0 ≤ 100000) : ∀ k, k ≤ L.items.length → (wP L t r k).1 ≤ 100000
  | 0, _ => by simp [wP]
  | k + 1, hk => by
    rw [wP]
    split
    · exact h k (by omega)
    · exact wP_in h k (by omega)
theorem wP_low {L : Lx} {t r : List Int} : ∀ k, (wP L t r k).2 = true → ∀ j, j < k → endB L t t.length j = true → (wP L t r k).1 ≤ r.getD j 0
  | 0, _, j, hj, _ => absurd hj (by omega)
  | k + 1, hb, j, hj, he => by
    rw [wP] at hb ⊢
    by_cases hc : (endB L t t.length k && (!(wP L t r k).2 || decide (r.getD k 0 < (wP L t r k).1))) = true
    · rw [if_pos hc]
      rw [Bool.and_eq_true, Bool.or_eq_true, decide_eq_true_eq] at hc
      by_cases e : j = k
      · subst e; exact Int.le_refl _
      · by_cases h2 : (wP L t r k).2 = true
        · have ih := wP_low k h2 j (by omega) he
          rcases hc.2 with h3 | h3
          · rw [h2] at h3; cases h3
          · show r.getD k 0 ≤ _; omega
        · have := wP_none k (by simpa using h2) j (by omega)
          rw [this] at he; cases he
    · rw [if_neg hc] at hb ⊢
      by_cases e : j = k
      · subst e
        rw [he, hb, Bool.true_and, Bool.not_true, Bool.false_or, decide_eq_true_eq] at hc
        omega
      · exact wP_low k hb j (by omega) he
theorem le_minN {m : Int} (hm : m ≤ 100000) : ∀ {l : List Int}, (∀ x ∈ l, m ≤ x) → m ≤ minN l
  | [], _ => hm
  | x :: l, h => by
    have ih := le_minN hm (l := l) (fun y hy => h y (by simp [hy]))
    have := h x (by simp)
    show m ≤ min x (minN l)
    omega
theorem prf_facts {L : Lx} {t : List Int} {P : List (List Int)} (h : (prfP L t P).2 = true) : textE L t = 0 ∧ (leastB L t = true → (prfP L t P).1 ≤ leastV L t) := by
  by_cases he : proofE L t P = 0
  · have hp : prfP L t P = wthP L t P := by unfold prfP; rw [if_pos he]
    rw [hp] at h ⊢
    unfold proofE at he
    by_cases h0 : textE L t = 0
    · refine ⟨h0, fun hl => ?_⟩
      rw [if_pos h0] at he
      by_cases hr : rowsP L t P = true
      · rw [if_pos hr] at he
        by_cases hh : holdsB L t P = true
        · obtain ⟨g, -, -⟩ := textE_ok h0
          have hP := rowsP_good hr
          unfold leastV
          rw [if_pos hl]
          unfold lstA
          by_cases hn : t.length = 0
          · unfold wthP; rw [if_pos hn]
            obtain rfl : t = [] := List.length_eq_zero_iff.1 hn
            refine le_minN (by show (0 : Int) ≤ 100000; omega) fun x hx => ?_
            obtain ⟨s, hs, rfl⟩ := List.mem_map.1 hx
            have := isS_nil g ((mem_allS g [] s).1 hs)
            subst this
            exact Int.le_refl _
          · unfold wthP at h ⊢
            rw [if_neg hn] at h ⊢
            refine le_minN (wP_in (fun k hk => (hP.at_ (i := t.length) (by omega) hk).2) _ (Nat.le_refl _)) fun x hx => ?_
            obtain ⟨s, hs, rfl⟩ := List.mem_map.1 hx
            have hS := (mem_allS g t s).1 hs
            rcases snoc_cases s with rfl | ⟨s', y, rfl⟩
            · exfalso
              have := hS.2.1
              simp [wordsL] at this
              exact hn (by rw [this]; rfl)
            · obtain ⟨-, b2, b3⟩ := itemsB_snoc.1 hS.1
              obtain ⟨j, rfl⟩ : ∃ j : Nat, y = (j : Int) := ⟨y.toNat, by omega⟩
              obtain ⟨e1, e2, e3⟩ := proof_low g hP hh s'.length s' t.length j (Nat.le_refl _) (Nat.le_refl _) (by rw [List.take_length]; exact hS)
              exact Int.le_trans (wP_low _ h j e2 e1) e3
        · rw [if_neg hh] at he; cases he
      · rw [if_neg hr] at he; cases he
    · rw [if_neg h0] at he; exact absurd he h0
  · unfold prfP at h
    rw [if_neg he] at h; cases h
end Go.Proofs.Ytgpenbajhndhiaa
