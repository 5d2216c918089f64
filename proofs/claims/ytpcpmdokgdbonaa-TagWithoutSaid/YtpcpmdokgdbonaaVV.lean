import Derived.Test.YtpcpmdokgdbonaaVmg
import Derived.Test.YtpcpmdokgdbonaaVO
namespace Go.Proofs.Ytpcpmdokgdbonaa
open Go.RowKit Go.Proofs.Kv Go

/-! ### lexicons beside lexicons -/
theorem validL_yes {L : Lx} (g : GoodL L) : validL L = 0 := by
  unfold validL
  have h1 := g.ge; have h2 := g.le
  rw [if_pos (by simp only [Within, Bool.and_eq_true, decide_eq_true_eq]; omega)]
  have h3 : L.items.any (fun x => !itemOk x) = false := any_no I0 rfl fun j hj => by
    obtain ⟨w1, w2, w3⟩ := g.word j hj
    obtain ⟨k1, k2⟩ := g.kind j hj
    obtain ⟨c1, c2⟩ := g.cost j hj
    rw [Bool.not_eq_false']
    simp only [itemOk, Within, Bool.and_eq_true, decide_eq_true_eq]
    exact ⟨⟨by omega, by omega⟩, w3, ⟨k1, k2⟩, c1, c2⟩
  rw [if_neg (by rw [h3]; decide)]
  have h4 : rowsB L.follow 4 4 (-1) 99 = true := by
    rw [rowsB_all g.rows (fun k hk => by
      obtain ⟨r1, r2⟩ := g.row k hk
      rw [rowOk8, r2, decide_eq_true (by omega)]; rfl)]
    decide
  rw [if_pos h4]
theorem textE_eq {L L' : Lx} (g : GoodL L) (g' : GoodL L') (t : List Int) : textE L t = textE L' t := by
  unfold textE; rw [validL_yes g, validL_yes g']
theorem cnt_map {L L' : Lx} {t t' : List Int} (g : GoodL L) (g' : GoodL L') (f : List Int → List Int) (hf : ∀ s, isS L t s → isS L' t' (f s)) (hi : ∀ s s', isS L t s → isS L t s' → f s = f s' → s = s') : cntA L t ≤ cntA L' t' := by
  have hn : ((allS L t).map f).Nodup := by
    unfold List.Nodup
    rw [List.pairwise_map]
    exact (nodup_allS g t).imp_of_mem fun ha hb hne e => hne (hi _ _ ((mem_allS g t _).1 ha) ((mem_allS g t _).1 hb) e)
  have := len_le_sub8 hn (m := allS L' t') fun x hx => by
    obtain ⟨s, hs, rfl⟩ := List.mem_map.1 hx
    exact (mem_allS g' t' _).2 (hf s ((mem_allS g t _).1 hs))
  rw [List.length_map] at this
  unfold cntA; omega
theorem lst_le {L L' : Lx} {t t' : List Int} (g : GoodL L) (g' : GoodL L') (h : ∀ s', isS L' t' s' → ∃ s, isS L t s ∧ sumC L s ≤ sumC L' s') : lstA L t ≤ lstA L' t' := by
  unfold lstA
  refine le_minN (minN_le _) fun x hx => ?_
  obtain ⟨s', hs', rfl⟩ := List.mem_map.1 hx
  obtain ⟨s, hs, hle⟩ := h s' ((mem_allS g' t' _).1 hs')
  exact Int.le_trans (minN_mem (List.mem_map.2 ⟨s, (mem_allS g t _).2 hs, rfl⟩)) hle
theorem leastB_of {L L' : Lx} {t t' : List Int} (ht : textE L t = textE L' t') (h : cntA L t = cntA L' t') : leastB L t = leastB L' t' := by
  unfold leastB; rw [ht, h]

/-! ### a dearer item -/
theorem setCost_len (L : Lx) (i : Nat) (k : Int) : (setCost L i k).items.length = L.items.length := by simp [setCost]
theorem setCost_at (L : Lx) (i : Nat) (k : Int) (j : Nat) : ((setCost L i k).items.getD j I0).word = (L.items.getD j I0).word ∧ ((setCost L i k).items.getD j I0).kind = (L.items.getD j I0).kind ∧ ((setCost L i k).items.getD j I0).cost = if j = i ∧ i < L.items.length then k else (L.items.getD j I0).cost := by
  show ((L.items.set i _).getD j I0).word = _ ∧ _
  by_cases hi : i < L.items.length
  · show _ ∧ ((L.items.set i _).getD j I0).kind = _ ∧ ((L.items.set i _).getD j I0).cost = _
    rw [getD_set8 _ _ _ _ _ hi]
    by_cases e : j = i
    · subst e; rw [if_pos rfl, if_pos ⟨rfl, hi⟩]; exact ⟨rfl, rfl, rfl⟩
    · rw [if_neg e, if_neg (by omega)]; exact ⟨rfl, rfl, rfl⟩
  · show _ ∧ ((L.items.set i _).getD j I0).kind = _ ∧ ((L.items.set i _).getD j I0).cost = _
    rw [List.set_eq_of_length_le (by omega), if_neg (by omega)]; exact ⟨rfl, rfl, rfl⟩
theorem setCost_good {L : Lx} (g : GoodL L) (i : Nat) {k : Int} (h0 : 0 ≤ k) (h1 : k ≤ 99) : GoodL (setCost L i k) where
  ge := by rw [setCost_len]; exact g.ge
  le := by rw [setCost_len]; exact g.le
  word j hj := by rw [setCost_len] at hj; rw [(setCost_at L i k j).1]; exact g.word j hj
  kind j hj := by rw [setCost_len] at hj; rw [(setCost_at L i k j).2.1]; exact g.kind j hj
  cost j hj := by
    rw [setCost_len] at hj; rw [(setCost_at L i k j).2.2]
    split
    · exact ⟨h0, h1⟩
    · exact g.cost j hj
  rows := g.rows
  row := g.row
theorem setCost_words (L : Lx) (i : Nat) (k : Int) (s : List Int) : wordsL (setCost L i k) s = wordsL L s := by
  unfold wordsL
  refine flatMap_congr8 fun x _ => ?_
  unfold wordL; exact (setCost_at L i k _).1
theorem setCost_fv (L : Lx) (i : Nat) (k : Int) (a b : Int) : fvI (setCost L i k) a b = fvI L a b := by
  unfold fvI follV
  rw [(setCost_at L i k _).2.1, (setCost_at L i k _).2.1]; rfl
theorem setCost_isS (L : Lx) (i : Nat) (k : Int) (t s : List Int) : isS (setCost L i k) t s ↔ isS L t s := by
  unfold isS
  have e1 : itemsB (setCost L i k) s = itemsB L s := by unfold itemsB; rw [setCost_len]
  have e2 : okF (setCost L i k) s = okF L s := by
    unfold okF
    congr 1
    funext j; unfold okC; rw [setCost_fv]
  rw [e1, e2, setCost_words]
theorem setCost_sum {L : Lx} {i : Nat} {k : Int} (hk : (L.items.getD i I0).cost ≤ k) (s : List Int) : sumC L s ≤ sumC (setCost L i k) s := by
  have key : ∀ n, sumK L s n ≤ sumK (setCost L i k) s n := fun n => by
    induction n with
    | zero => exact Int.le_refl _
    | succ n ih =>
      have : stepC L s n ≤ stepC (setCost L i k) s n := by
        unfold stepC
        have hc : costI L (s.getD n 0) ≤ costI (setCost L i k) (s.getD n 0) := by
          unfold costI
          rw [(setCost_at L i k _).2.2]
          split
          · rename_i h; rw [h.1]; exact hk
          · exact Int.le_refl _
        rw [setCost_fv]; omega
      show sumK L s n + _ ≤ sumK _ s n + _
      omega
  exact key _
theorem dearer_facts {L : Lx} {i b : Int} (h : drE L i b = 0) (t : List Int) : GoodL L ∧ textE (drL L i b) t = textE L t ∧ leastB (drL L i b) t = leastB L t ∧ (0 ≤ b → leastV L t ≤ leastV (drL L i b) t) := by
  have h0 := h
  unfold drE at h
  by_cases hv : viE L [i] = 0
  · rw [if_pos hv] at h
    by_cases hin : 0 ≤ costI L i + b ∧ costI L i + b ≤ 99
    · have g := validL_ok (viE_ok hv).1
      have hD : drL L i b = setCost L i.toNat (costI L i + b) := by unfold drL; rw [if_pos h0]
      rw [hD]
      have g' := setCost_good g i.toNat hin.1 hin.2
      have ht := textE_eq g' g t
      have hc : cntA (setCost L i.toNat (costI L i + b)) t = cntA L t := Int.le_antisymm
        (cnt_map g' g id (fun s hs => (setCost_isS L _ _ t s).1 hs) (fun s s' _ _ e => e))
        (cnt_map g g' id (fun s hs => (setCost_isS L _ _ t s).2 hs) (fun s s' _ _ e => e))
      have hl := leastB_of ht hc
      refine ⟨g, ht, hl, fun hb => ?_⟩
      unfold leastV
      rw [hl]
      split
      · exact lst_le g g' fun s' hs' => ⟨s', (setCost_isS L _ _ t s').1 hs', setCost_sum (by unfold costI; omega) s'⟩
      · exact Int.le_refl _
    · rw [if_neg hin] at h; cases h
  · rw [if_neg hv] at h; exact absurd h hv
end Go.Proofs.Ytpcpmdokgdbonaa
