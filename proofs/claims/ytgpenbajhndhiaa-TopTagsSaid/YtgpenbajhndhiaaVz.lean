import Derived.Test.YtgpenbajhndhiaaVy
namespace Go.Proofs.Ytgpenbajhndhiaa
open Go.RowKit Go.Proofs.Kv Go

/-! ### whether a lexicon is a code, as a value; facts of the laws -/
open Classical in
noncomputable def codeB (L : Lx) : Bool := if validL L = 0 then decide (¬ RR L []) else false
theorem codeB_is (L : Lx) : IsCodeIs L (codeB L) := by
  refine ⟨fun h => by unfold codeB; rw [if_neg h], fun h => ?_⟩
  unfold codeB; rw [if_pos h]
  unfold CodeIs
  simp
theorem code_calls (v : Value) (L : Lx) (w : World) (h : LexAt w v L) :
    Calls Try.prog 19 #[v] w fun e w' => e = .returned (.tuple #[.bool (codeB L), .int .i64 (validL L)]) ∧ Below w.heap.size w w' :=
  (taIsCode_calls v L w h).mono fun e w' ⟨b, he, hb, hbl⟩ => by
    obtain rfl := hb.uniq (codeB_is L)
    exact ⟨he, hbl⟩
theorem code_at {L : Lx} (h : codeB L = true) : validL L = 0 ∧ ¬ RR L [] := by
  by_cases h0 : validL L = 0
  · exact ⟨h0, ((codeB_is L).2 h0).1 h⟩
  · rw [(codeB_is L).1 h0] at h; cases h
theorem no_code {L : Lx} (h : RR L []) : codeB L = false := by
  cases hc : codeB L with
  | false => rfl
  | true => exact absurd h (code_at hc).2
theorem once_le {L : Lx} {t : List Int} (h : codeB L = true) : countV L t ≤ 1 := by
  obtain ⟨h0, hr⟩ := code_at h
  have g := validL_ok h0
  unfold countV
  split
  · unfold cntA
    have hn := nodup_allS g t
    have hm := fun s => (mem_allS g t s).1
    generalize allS L t = A at *
    match A, hn, hm with
    | [], _, _ => simp
    | [_], _, _ => simp
    | s :: s' :: A, hn, hm =>
      exfalso
      obtain ⟨a1, a2, -⟩ := hm s (by simp)
      obtain ⟨b1, b2, -⟩ := hm s' (by simp)
      have hne : s ≠ s' := fun e => (List.nodup_cons.1 hn).1 (by simp [e])
      exact hr (RR_of_two g s s' hne a1 b1 (a2.trans b2.symm))
  · omega
theorem two_not {L : Lx} {s t : List Int} (h : twoE L s t = 0) : validL L = 0 ∧ codeB L = false := by
  unfold twoE at h
  by_cases h0 : validL L = 0
  · refine ⟨h0, ?_⟩
    have g := validL_ok h0
    rw [if_pos h0] at h
    by_cases h1 : 200 < s.length ∨ 200 < t.length
    · rw [if_pos h1] at h; cases h
    · rw [if_neg h1] at h
      by_cases h2 : (itemsB L s && itemsB L t) = true
      · rw [if_pos h2] at h
        by_cases h3 : s = t ∨ wordsL L s ≠ wordsL L t
        · rw [if_pos h3] at h; cases h
        · rw [Bool.and_eq_true] at h2
          have hn : s ≠ t := fun e => h3 (.inl e)
          have hw : wordsL L s = wordsL L t := Classical.byContradiction fun e => h3 (.inr e)
          exact no_code (RR_of_two g s t hn h2.1 h2.2 hw)
      · rw [if_neg h2] at h; cases h
  · rw [if_neg h0] at h; exact absurd h h0
theorem split_is {L : Lx} {t s : List Int} (h : splitE L t s = 0) : textE L t = 0 ∧ isS L t s ∧ splitC L t s = sumC L s := by
  have hc : splitC L t s = sumC L s := by unfold splitC; rw [if_pos h]
  unfold splitE at h
  by_cases h0 : textE L t = 0
  · rw [if_pos h0] at h
    by_cases h1 : 12 < s.length
    · rw [if_pos h1] at h; cases h
    · rw [if_neg h1] at h
      by_cases h2 : itemsB L s = true
      · rw [if_pos h2] at h
        by_cases h3 : wordsL L s = t
        · rw [if_pos h3] at h
          by_cases h4 : okF L s = true
          · exact ⟨h0, ⟨h2, h3, h4⟩, hc⟩
          · rw [if_neg h4] at h; cases h
        · rw [if_neg h3] at h; cases h
      · rw [if_neg h2] at h; cases h
  · rw [if_neg h0] at h; exact absurd h h0
theorem least_le {L : Lx} {t s : List Int} (h : splitE L t s = 0) : textE L t = 0 ∧ leastB L t = true ∧ leastV L t ≤ splitC L t s := by
  obtain ⟨h0, hi, hc⟩ := split_is h
  obtain ⟨g, -, -⟩ := textE_ok h0
  have hm := (mem_allS g t s).2 hi
  have hb : leastB L t = true := by
    unfold leastB
    rw [decide_eq_true h0, Bool.true_and, decide_eq_true_eq]
    intro e
    rw [cntA_ne] at e
    rw [e] at hm; cases hm
  refine ⟨h0, hb, ?_⟩
  rw [hc]
  unfold leastV
  rw [if_pos hb]
  exact minN_mem (List.mem_map_of_mem hm)
theorem lists1_8 (u : World) (F : TypeId) {a0 : Option Addr} {n0 c0 : Nat} {l0 : List Int} (h0 : IntsAt u a0 n0 c0 l0) :
    ListsAt (u.alloc (.cells #[.slice a0 n0 c0] F)) (some ⟨u.heap.size, 0, none⟩) 1 1 [l0] := by
  have hb := below_alloc u (.cells #[.slice a0 n0 c0] F)
  refine ⟨rfl, Nat.le_refl _, by omega, fun i hi => ?_⟩
  obtain rfl : i = 0 := by omega
  exact ⟨u.heap.size, 0, _, _, _, rfl, by simp, cells_alloc _ _ _ 0, h0.below hb (Nat.le_refl _)⟩
theorem lists2_8 (u : World) (F : TypeId) {a0 a1 : Option Addr} {n0 c0 n1 c1 : Nat} {l0 l1 : List Int} (h0 : IntsAt u a0 n0 c0 l0) (h1 : IntsAt u a1 n1 c1 l1) :
    ListsAt (u.alloc (.cells #[.slice a0 n0 c0, .slice a1 n1 c1] F)) (some ⟨u.heap.size, 0, none⟩) 2 2 [l0, l1] := by
  have hb := below_alloc u (.cells #[.slice a0 n0 c0, .slice a1 n1 c1] F)
  refine ⟨rfl, Nat.le_refl _, by omega, fun i hi => ?_⟩
  rcases (show i = 0 ∨ i = 1 by omega) with rfl | rfl
  · exact ⟨u.heap.size, 0, _, _, _, rfl, by simp, cells_alloc _ _ _ 0, h0.below hb (Nat.le_refl _)⟩
  · exact ⟨u.heap.size, 0, _, _, _, rfl, by simp, cells_alloc _ _ _ 1, h1.below hb (Nat.le_refl _)⟩
/-! ### the law TagOnce -/
/-! ### the law TagTwos -/
end Go.Proofs.Ytgpenbajhndhiaa
