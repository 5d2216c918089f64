import Derived.Test.YtdnlpikfibdjoaaY7
import Derived.Test.YtdnlpikfibdjoaaY1
namespace Go.Proofs.Ytdnlpikfibdjoaa
open Go.RowKit Go.Proofs.Kv

/-! ### what the fewest changes are good for -/
theorem chg_uq {X : Tr} (gX : GoodX X) {R : List Int} (hR : R.length = X.par.length) : ∀ {k : Nat}, 1 ≤ k → k ≤ X.par.length → (uq (R.take k)).length ≤ 1 + chgI X R k
  | 0, h, _ => absurd h (by omega)
  | k + 1, _, hk => by
    by_cases h0 : k = 0
    · subst h0
      have := uq_le (R.take (0 + 1))
      rw [List.length_take] at this; omega
    · have ih := chg_uq gX hR (k := k) (by omega) (by omega)
      rw [take_snoc R 0 k (by omega), uq_snoc]
      have e : chgI X R (k + 1) = chgI X R k + if k = 0 then 0 else ne1 (R.getD k 0) (R.getD (parX X k) 0) := rfl
      rw [e, if_neg h0]
      by_cases hm : R.getD k 0 ∈ R.take k
      · rw [insU_hit (mem_uq.2 hm)]; omega
      · have hpl := parX_lt gX k (by omega) (by omega)
        have hne : ¬ R.getD k 0 = R.getD (parX X k) 0 := fun he => hm (by
          rw [he]
          have : R.getD (parX X k) 0 = (R.take k).getD (parX X k) 0 := by simp [List.getD, hpl]
          rw [this]; exact getD_mem (by rw [List.length_take]; omega))
        rw [insU_miss (fun h => hm (mem_uq.1 h)), List.length_append, ne1, if_neg hne]
        simp only [List.length_cons, List.length_nil]; omega
/-- readings that agree with the copies -/
structure AgreeR (T : List (List Int)) (X : Tr) (p : Nat) (R : List Int) : Prop where
  len : R.length = X.par.length
  at_ : ∀ c, c < T.length → R.getD (nodeX X c) 0 = rdT T p c
theorem agree_diff {T : List (List Int)} {X : Tr} {p : Nat} {R : List Int} (gX : GoodX X) (hl : X.at_.length = T.length) (h : AgreeR T X p R) : diffR T p ≤ 1 + chgR X R := by
  have h1 := chg_uq gX h.len gX.ge (Nat.le_refl _)
  rw [← h.len, List.take_length] at h1
  have h2 : (uq (colR T p)).length ≤ (uq R).length := len_le_sub (uq_nodup _) fun x hx => by
    rw [mem_uq] at hx ⊢
    obtain ⟨c, hc, rfl⟩ := mem_getD hx
    rw [colR_len] at hc
    have := h.at_ c hc
    have hat := gX.at_ c (by omega)
    rw [colR_get hc]
    have e : rdT T p c = (T.getD c []).getD p 0 := rfl
    rw [← e, ← this]
    exact getD_mem (by rw [h.len]; unfold nodeX; omega)
  rw [h.len] at h1
  have e : chgI X R X.par.length = chgR X R := rfl
  rw [e] at h1
  unfold diffR
  omega
theorem read_agree {T : List (List Int)} {X : Tr} {p : Nat} (ho : okRead T X (p : Int) = true) : GoodT T ∧ GoodX X ∧ X.at_.length = T.length ∧ p < n0 T ∧ errA T X (p : Int) = 0 ∧ AgreeR T X p (readL T X (p : Int)) ∧ areR (readL T X (p : Int)) = true ∧ fewR T X (p : Int) = chgR X (readL T X (p : Int)) := by
  have h1 := ho
  rw [okRead, Bool.and_eq_true, decide_eq_true_eq] at h1
  obtain ⟨he, hs⟩ := h1
  obtain ⟨gT, gX, hl, hp0, hp1⟩ := errA_ok he
  have hp : p < n0 T := by omega
  rw [Int.toNat_natCast] at hs
  obtain ⟨K, hK⟩ := Option.isSome_iff_exists.1 hs
  have hr : readL T X (p : Int) = compL X K := by rw [readL, if_pos ho, Int.toNat_natCast, hK]; rfl
  have hf : fewR T X (p : Int) = chgR X (readL T X (p : Int)) := by rw [fewR, if_pos ho]
  have gK := atK_good gT gX hp hl hK
  obtain ⟨k1, k2, k3⟩ := foldK_ok gT gX hp hl (Nat.le_refl _) hK
  have hpar := fun v h0 (hv : v < X.par.length) => parX_lt gX v h0 hv
  have hgood := labP_good (par := parX X) (badK_good gK) gX.le hpar
  have hget : ∀ v, v < X.par.length → (compL X K).getD v 0 = ((labP (parX X) (badK K) X.par.length v : Nat) : Int) := fun v hv => labI_get _ _ hv
  refine ⟨gT, gX, hl, hp, he, ⟨by rw [hr]; exact compL_len _ _, fun c hc => ?_⟩, ?_, hf⟩
  · have hn : nodeX X c < X.par.length := by have := gX.at_ c (by omega); unfold nodeX; omega
    have hb := (hgood _ hn).2
    have hk2 := k2 c hc
    have hok := gT.ok c hc p hp
    have hok : 0 ≤ rdT T p c ∧ rdT T p c ≤ 2 := hok
    rw [hr, hget _ hn]
    unfold badK at hb
    rw [hk2] at hb
    simp only [Bool.and_eq_false_iff, decide_eq_false_iff_not, Decidable.not_not] at hb
    rcases hb with hb | hb
    · omega
    · exact hb.symm
  · rw [hr]
    refine areR_mk fun i hi => ?_
    rw [compL_len] at hi
    rw [hget i hi]
    have := (hgood i hi).1
    omega
theorem read_check {T : List (List Int)} {X : Tr} {p : Int} (ho : okRead T X p = true) : errC T X p (readL T X p) = 0 ∧ valC T X p (readL T X p) = fewR T X p ∧ errA T X p = 0 ∧ resDiff T p ≤ (fewR T X p : Int) + 1 := by
  have h1 := ho
  rw [okRead, Bool.and_eq_true, decide_eq_true_eq] at h1
  obtain ⟨-, -, -, hp0, -⟩ := errA_ok h1.1
  obtain ⟨k, rfl⟩ := nat_of hp0
  obtain ⟨gT, gX, hl, hp, he, hag, har, hf⟩ := read_agree ho
  have h0 : errC T X (k : Int) (readL T X (k : Int)) = 0 := by
    rw [errC, if_pos he, if_pos hag.len, if_pos har, Int.toNat_natCast, misB_no rfl fun c hc => hag.at_ c hc]; rfl
  refine ⟨h0, by rw [valC, if_pos h0, hf], he, ?_⟩
  have := agree_diff gX hl hag
  rw [resDiff]
  split
  · rw [Int.toNat_natCast, hf]; omega
  · omega
/-- no readings that are right change less -/
theorem check_least {T : List (List Int)} {X : Tr} {p : Int} {R : List Int} (h : errC T X p R = 0) : errA T X p = 0 ∧ okRead T X p = true ∧ fewR T X p ≤ valC T X p R := by
  have h0 := h
  rw [errC] at h
  split at h
  · rename_i he
    obtain ⟨gT, gX, hl, hp0, hp1⟩ := errA_ok he
    obtain ⟨k, rfl⟩ := nat_of hp0
    rw [Int.toNat_natCast] at h
    have hp : k < n0 T := by omega
    split at h
    · rename_i hlen
      split at h
      · rename_i har
        split at h
        · cases h
        · rename_i hmis
          have hat : ∀ c, c < T.length → R.getD (nodeX X c) 0 = rdT T k c := fun c hc => by
            refine Classical.byContradiction fun hne => hmis (misB_hit hc hne)
          have hval : valC T X (k : Int) R = chgR X R := by rw [valC, if_pos h0]
          rcases okRead_some he with ⟨K, hK, ho, hfm, -⟩ | ⟨hK, -, -, -⟩
          · refine ⟨he, ho, ?_⟩
            have gK := atK_good gT gX hp hl hK
            obtain ⟨k1, k2, k3⟩ := foldK_ok gT gX hp hl (Nat.le_refl _) hK
            have hpar := fun v h0 (hv : v < X.par.length) => parX_lt gX v h0 hv
            have g0 : 0 < X.par.length := by have := gX.ge; omega
            have hr : ∀ v, v < X.par.length → R.getD v 0 = (((R.getD v 0).toNat : Nat) : Int) ∧ (R.getD v 0).toNat < 3 := fun v hv => by
              have := areR_at har (k := v) (by omega); omega
            have hleast := labP_least (par := parX X) (badK_good gK) g0 gX.le hpar (L := fun v => (R.getD v 0).toNat) fun v hv => ⟨(hr v hv).2, by
              unfold badK
              by_cases e : K.getD v 0 = -1
              · rw [e]; rfl
              · obtain ⟨c, hc, rfl⟩ := k3 v hv e
                have h1 := k2 c hc
                have h2 := hat c hc
                rw [h1, ← h2, ← (hr _ hv).1]; simp⟩
            have e1 : chgN (parX X) (fun v => (R.getD v 0).toNat) X.par.length = chgR X R := by
              unfold chgN chgR
              refine sumN_congr fun i hi => ?_
              by_cases e : i = 0
              · rw [if_pos e, if_pos e]
              · have hpi := hpar i (by omega) hi
                rw [if_neg e, if_neg e, ← (hr i hi).1, ← (hr (parX X i) (by omega)).1]
            obtain ⟨hA, -⟩ := refMin_some gT gX hp hl hK
            have e2 : chgR X (compL X K) = chgN (parX X) (labP (parX X) (badK K) X.par.length) X.par.length := by
              unfold chgN chgR
              refine sumN_congr fun i hi => ?_
              by_cases e : i = 0
              · rw [if_pos e, if_pos e]
              · have hpi := hpar i (by omega) hi
                rw [if_neg e, if_neg e, compL, labI_get _ _ hi, labI_get _ _ (by omega)]; rfl
            rw [hfm, hA, hval, e2, ← e1]
            exact hleast
          · obtain ⟨c, d, hc, hd, hcd, hne⟩ := foldK_clash gT gX hp hl (Nat.le_refl _) hK
            have h1 := hat c hc
            have h2 := hat d hd
            rw [hcd] at h1
            exact absurd (h1.symm.trans h2) hne
      · cases h
    · cases h
  · rename_i he
    exact absurd h he
end Go.Proofs.Ytdnlpikfibdjoaa
