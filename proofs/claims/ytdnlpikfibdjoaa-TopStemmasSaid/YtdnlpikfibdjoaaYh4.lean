import Derived.Test.YtdnlpikfibdjoaaYh3
namespace Go.Proofs.Ytdnlpikfibdjoaa
open Go.RowKit Go.Proofs.Kv Go

/-! ### readings of which some places are left -/
def selT (T : List (List Int)) (L : List Nat) : List (List Int) := T.map fun r => L.map fun i => r.getD i 0
theorem selT_len (T : List (List Int)) (L : List Nat) : (selT T L).length = T.length := by unfold selT; rw [List.length_map]
theorem selT_at {T : List (List Int)} {L : List Nat} {c : Nat} (h : c < T.length) : (selT T L).getD c [] = L.map fun i => (T.getD c []).getD i 0 := by
  unfold selT; simp [List.getD, h]
theorem selT_n0 {T : List (List Int)} (L : List Nat) (h : 0 < T.length) : n0 (selT T L) = L.length := by
  unfold n0
  rw [selT_at h, List.length_map]
theorem selT_all {T : List (List Int)} (g : GoodT T) : selT T (List.range (n0 T)) = T := by
  apply List.ext_getElem (by rw [selT_len])
  intro c h1 h2
  have e : T.getD c [] = T[c] := by simp [List.getD, List.getElem?_eq_getElem h2]
  have e1 : (selT T (List.range (n0 T)))[c] = (selT T (List.range (n0 T))).getD c [] := by simp [List.getD, List.getElem?_eq_getElem h1]
  rw [e1, selT_at h2, e]
  have hl := g.len c h2
  rw [e] at hl
  apply List.ext_getElem (by simp [hl])
  intro i h3 h4
  simp [List.getD, List.getElem?_eq_getElem h4]
theorem selT_valid {T : List (List Int)} (g : GoodT T) {L : List Nat} (h6 : L.length ≤ 6) (hL : ∀ i ∈ L, i < n0 T) : validT (selT T L) = 0 := by
  have hge := g.ge
  have hle := g.le
  have hn := selT_n0 (T := T) L (by omega)
  unfold validT
  rw [hn, selT_len, if_neg (by omega), if_pos]
  rw [List.all_eq_true]
  intro r hr
  unfold selT at hr
  obtain ⟨s, hs, rfl⟩ := List.mem_map.1 hr
  obtain ⟨c, hc, rfl⟩ := List.mem_iff_getElem.1 hs
  unfold rowOk areR
  rw [List.length_map, decide_eq_true rfl, Bool.true_and, List.all_eq_true]
  intro x hx
  obtain ⟨i, hi, rfl⟩ := List.mem_map.1 hx
  have := g.ok c hc i (hL i hi)
  have e : T.getD c [] = T[c] := by simp [List.getD, List.getElem?_eq_getElem hc]
  rw [e] at this
  unfold Within
  rw [decide_eq_true this.1, decide_eq_true this.2]; rfl
theorem getD_map0 {L : List Nat} {a : Nat} (h : a < L.length) (f : Nat → Int) : (L.map f).getD a 0 = f (L.getD a 0) := by simp [List.getD, List.getElem?_eq_getElem h]
theorem selT_cf {T : List (List Int)} {L : List Nat} {a b : Nat} (ha : a < L.length) (hb : b < L.length) : cfR (selT T L) a b = cfR T (L.getD a 0) (L.getD b 0) := by
  have e1 : ∀ a, a < L.length → colR (selT T L) a = colR T (L.getD a 0) := fun a ha => by
    unfold colR selT
    rw [List.map_map]
    exact List.map_congr_left fun r _ => getD_map0 ha _
  have e2 : colP (selT T L) a b = colP T (L.getD a 0) (L.getD b 0) := by
    unfold colP selT
    rw [List.map_map]
    refine List.map_congr_left fun r _ => ?_
    show (_, _) = (_, _)
    rw [getD_map0 ha, getD_map0 hb]
  have e3 : ∀ a, a < L.length → splR (selT T L) a = splR T (L.getD a 0) := fun a ha => by unfold splR diffR; rw [e1 a ha]
  unfold cfR
  rw [e2, e3 a ha, e3 b hb]
theorem selT_wout {T : List (List Int)} (g : GoodT T) {L : List Nat} (h6 : L.length ≤ 6) (hL : ∀ i ∈ L, i < n0 T) {p : Nat} (hp : p < L.length) (h1 : L.length ≠ 1) : woutE (selT T L) (p : Int) = 0 ∧ resWout (selT T L) (p : Int) = selT T (L.eraseIdx p) := by
  have hge := g.ge
  have hv := selT_valid g h6 hL
  have hn := selT_n0 (T := T) L (by omega)
  have hpl : placesE (selT T L) [(p : Int)] = 0 := by
    unfold placesE numE isNum
    rw [if_pos hv, if_pos]
    rw [hn]; simp; omega
  have hw : woutE (selT T L) (p : Int) = 0 := by
    unfold woutE
    rw [if_pos hpl, if_neg (by rw [hn]; exact h1)]
  refine ⟨hw, ?_⟩
  unfold resWout
  rw [if_pos hw, Int.toNat_natCast]
  unfold selT
  rw [List.map_map]
  exact List.map_congr_left fun r _ => by
    show (L.map fun i => r.getD i 0).eraseIdx p = (L.eraseIdx p).map fun i => r.getD i 0
    rw [List.eraseIdx_eq_take_drop_succ, List.eraseIdx_eq_take_drop_succ, List.map_append, List.map_take, List.map_drop]
/-- what is left when the places from k on were looked at: K behind the first k -/
def LeftK (T : List (List Int)) (M : List Int) (k : Nat) (L : List Nat) : Prop :=
  ∃ K, L = List.range k ++ K ∧ L.length ≤ 6 ∧ (∀ i ∈ L, i < n0 T) ∧ (∀ i ∈ K, k ≤ i) ∧ K.Pairwise (· < ·) ∧ ((∀ i ∈ K, (i : Int) ∈ M) ∨ (k = 0 ∧ L.length ≤ 1))
theorem left_start {T : List (List Int)} (g : GoodT T) (M : List Int) : LeftK T M (n0 T) (List.range (n0 T)) :=
  ⟨[], by simp, by have := g.w6; simpa using this, fun i hi => List.mem_range.1 hi, by simp, by simp, .inl (by simp)⟩
theorem left_keep {T : List (List Int)} {M : List Int} {k : Nat} {L : List Nat} (h : LeftK T M (k + 1) L) (hm : (k : Int) ∈ M) : LeftK T M k L := by
  obtain ⟨K, rfl, h6, hL, hK, hs, hM⟩ := h
  refine ⟨k :: K, by rw [List.range_succ, List.append_assoc]; rfl, h6, hL, fun i hi => ?_, List.pairwise_cons.2 ⟨fun i hi => by have := hK i hi; omega, hs⟩, .inl fun i hi => ?_⟩
  · rcases List.mem_cons.1 hi with rfl | hi
    · exact Nat.le_refl _
    · have := hK i hi; omega
  · rcases List.mem_cons.1 hi with rfl | hi
    · exact hm
    · exact (hM.resolve_right (by omega)) i hi
theorem left_one {T : List (List Int)} {M : List Int} {k : Nat} {L : List Nat} (h : LeftK T M (k + 1) L) (h1 : L.length = 1) : LeftK T M k L := by
  obtain ⟨K, rfl, h6, hL, hK, hs, hM⟩ := h
  rw [List.length_append, List.length_range] at h1
  obtain rfl : k = 0 := by omega
  have hK0 : K = [] := List.eq_nil_of_length_eq_zero (by omega)
  subst hK0
  exact ⟨[0], rfl, h6, hL, fun i hi => Nat.zero_le _, by simp, .inr ⟨rfl, by simp⟩⟩
theorem left_drop {T : List (List Int)} {M : List Int} {k : Nat} {L : List Nat} (h : LeftK T M (k + 1) L) : k < L.length ∧ LeftK T M k (L.eraseIdx k) := by
  obtain ⟨K, rfl, h6, hL, hK, hs, hM⟩ := h
  have e : (List.range (k + 1) ++ K).eraseIdx k = List.range k ++ K := by
    rw [List.eraseIdx_append_of_lt_length (by simp), List.range_succ, List.eraseIdx_append_of_length_le (by simp)]
    simp
  rw [e]
  rw [List.length_append, List.length_range] at h6 ⊢
  refine ⟨by omega, K, rfl, by rw [List.length_append, List.length_range]; omega, fun i hi => ?_, fun i hi => by have := hK i hi; omega, hs, .inl (hM.resolve_right (by omega))⟩
  rcases List.mem_append.1 hi with hi | hi
  · exact hL i (List.mem_append.2 (.inl (by rw [List.range_succ]; exact List.mem_append.2 (.inl hi))))
  · exact hL i (List.mem_append.2 (.inr hi))
theorem left_end {T : List (List Int)} (g : GoodT T) {M : List Int} (hcf : ∀ p q : Nat, (p : Int) ∈ M → (q : Int) ∈ M → p < q → cfR T p q = false) {L : List Nat} (h : LeftK T M 0 L) : validT (selT T L) = 0 ∧ resCan (selT T L) = true := by
  obtain ⟨K, hK0, h6, hL, hK, hs, hM⟩ := h
  have hK1 : L = K := by simpa using hK0
  subst hK1
  clear hK0
  obtain ⟨K, hKL⟩ : ∃ K, K = L := ⟨_, rfl⟩
  subst hKL
  have hv := selT_valid g h6 hL
  have hge := g.ge
  refine ⟨hv, can_of hv fun a b hab hb => ?_⟩
  rw [selT_n0 K (by omega)] at hb
  rw [selT_cf (by omega) hb]
  rcases hM with hM | ⟨-, hM⟩
  · have ea : K.getD a 0 = K[a]'(by omega) := by simp [List.getD, List.getElem?_eq_getElem (show a < K.length by omega)]
    have eb : K.getD b 0 = K[b] := by simp [List.getD, List.getElem?_eq_getElem hb]
    have hlt := List.pairwise_iff_getElem.1 hs a b (by omega) hb hab
    rw [ea, eb]
    exact hcf _ _ (hM _ (List.getElem_mem _)) (hM _ (List.getElem_mem _)) hlt
  · omega

/-! ### the sum of the changes -/
def sumD (T : List (List Int)) : Nat → Nat := sumN fun p => diffR T p - 1
theorem diff_pos {T : List (List Int)} (g : GoodT T) (p : Nat) : 1 ≤ diffR T p := by
  unfold diffR
  have hge := g.ge
  have : (colR T p).getD 0 0 ∈ uq (colR T p) := mem_uq.2 (getD_mem (by rw [colR_len]; omega))
  rcases Nat.eq_zero_or_pos (uq (colR T p)).length with h | h
  · rw [List.eq_nil_of_length_eq_zero h] at this; cases this
  · exact h
theorem sumD_step {T : List (List Int)} (hv : validT T = 0) {p : Nat} (hp : p < n0 T) : placesE T [(p : Int)] = 0 ∧ (sumD T p : Int) + (resDiff T (p : Int) - 1) = (sumD T (p + 1) : Nat) ∧ 1 ≤ resDiff T (p : Int) ∧ resDiff T (p : Int) ≤ 6 := by
  have g := validT_ok hv
  have hpl : placesE T [(p : Int)] = 0 := by
    unfold placesE numE isNum
    rw [if_pos hv, if_pos]
    simp; omega
  have hd : resDiff T (p : Int) = (diffR T p : Nat) := by unfold resDiff; rw [if_pos hpl, Int.toNat_natCast]
  have h1 := diff_pos g p
  have h2 := diffR_le T p
  have h3 := g.le
  have e : sumD T (p + 1) = sumD T p + (diffR T p - 1) := rfl
  exact ⟨hpl, by rw [hd, e]; omega, by omega, by omega⟩
theorem sumD_le {T : List (List Int)} (g : GoodT T) : ∀ p, sumD T p ≤ 6 * p
  | 0 => Nat.le_refl _
  | p + 1 => by
    have ih := sumD_le g p
    have e : sumD T (p + 1) = sumD T p + (diffR T p - 1) := rfl
    have := diffR_le T p
    have := g.le
    omega
theorem sumN_le {f h : Nat → Nat} : ∀ {n : Nat}, (∀ i, i < n → f i ≤ h i) → sumN f n ≤ sumN h n
  | 0, _ => Nat.le_refl _
  | n + 1, hh => by
    have := sumN_le (n := n) fun i hi => hh i (by omega)
    have := hh n (by omega)
    show sumN f n + f n ≤ sumN h n + h n
    omega
theorem total_ge {T : List (List Int)} {X : Tr} (hv : validT T = 0) (ho : okTot T X = true) : sumD T (n0 T) ≤ resTot T X := by
  unfold resTot
  rw [if_pos ho]
  have h := ho
  unfold okTot allN at h
  rw [Bool.and_eq_true, List.all_eq_true] at h
  refine sumN_le fun p hp => ?_
  have h1 := (read_check (h.2 p (List.mem_range.2 hp))).2.2.2
  obtain ⟨hpl, -, -, -⟩ := sumD_step hv hp
  have hd : resDiff T (p : Int) = (diffR T p : Nat) := by unfold resDiff; rw [if_pos hpl, Int.toNat_natCast]
  rw [hd] at h1
  omega
theorem total_no {T : List (List Int)} {X : Tr} (h : okTot T X = false) : resTot T X = 0 := by unfold resTot; rw [h]; rfl
theorem total_err {T : List (List Int)} {X : Tr} (h : errB T X ≠ 0) : okTot T X = false := by unfold okTot; rw [decide_eq_false h]; rfl
theorem great_nodup (T : List (List Int)) : (resGreat T).Nodup := by
  unfold resGreat
  split
  · obtain ⟨⟨b, -, -, hB⟩, -⟩ := greatB_best T (n0 T) (2 ^ n0 T) (Nat.two_pow_pos _)
    rw [hB]
    unfold memB
    exact natcast_nodup (List.nodup_range.filter _)
  · exact List.nodup_nil
end Go.Proofs.Ytdnlpikfibdjoaa
