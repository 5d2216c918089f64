import Derived.Test.YtahknodnjjmagaaZdn
namespace Go.Proofs.Ytahknodnjjmagaa
open Go.RowKit Go.Proofs.Kv

/-! ### one more entry: cells for which it does not hold -/
theorem add_at {P : Par} {E : Ent} {k : Nat} (hk : k < P.ents.length) : (addP P E).ents.getD k E0 = P.ents.getD k E0 := by
  simp only [addP, List.getD]; rw [List.getElem?_append_left hk]
theorem add_last {P : Par} {E : Ent} : (addP P E).ents.getD P.ents.length E0 = E := by simp [addP, List.getD]
theorem form_add {P : Par} {E : Ent} {l : List Int} (h : hB E.spec l = false) : formR (addP P E) l = formR P l := by
  have hl : (addP P E).ents.length = P.ents.length + 1 := by simp [addP]
  have hsp : ∀ k, k < P.ents.length → sp (addP P E) k = sp P k := fun k hk => by rw [sp, add_at hk]; rfl
  have hnot : hB (sp (addP P E) P.ents.length) l = false := by rw [sp, add_last]; exact h
  have key : ∀ k, goodP P l k → goodP (addP P E) l k := fun k ⟨h1, h2, h3⟩ => by
    refine ⟨by omega, by rw [hsp k h1]; exact h2, fun m hm hb hne => ?_⟩
    by_cases hm2 : m < P.ents.length
    · rw [hsp m hm2] at hb ⊢
      rw [hsp k h1]
      exact h3 m hm2 hb hne
    · obtain rfl : m = P.ents.length := by omega
      rw [hnot] at hb; cases hb
  have key2 : ∀ k, goodP (addP P E) l k → goodP P l k := fun k ⟨h1, h2, h3⟩ => by
    have hk : k < P.ents.length := by
      rcases Nat.lt_or_ge k P.ents.length with hk | hk
      · exact hk
      · obtain rfl : k = P.ents.length := by omega
        rw [hnot] at h2; cases h2
    rw [hsp k hk] at h2
    refine ⟨hk, h2, fun m hm hb hne => ?_⟩
    have := h3 m (by omega) (by rw [hsp m hm]; exact hb) hne
    rwa [hsp k hk, hsp m hm] at this
  rcases form_char P l with ⟨k, hk, hf⟩ | ⟨hn, hf⟩
  · rcases form_char (addP P E) l with ⟨k', hk', hf'⟩ | ⟨hn', -⟩
    · have e := good_one (key2 k' hk') hk
      subst e
      rw [hf', hf, add_at hk.1]
    · exact absurd (key k hk) (hn' _)
  · rcases form_char (addP P E) l with ⟨k', hk', -⟩ | ⟨-, hf'⟩
    · exact absurd (key2 k' hk') (hn _)
    · rw [hf, hf']
theorem map_at {f : List Int → Int} {L : List (List Int)} {k : Nat} (hk : k < L.length) : (L.map f).getD k 0 = f (L.getD k []) := by
  simp [List.getD, hk]
theorem adds_ok {P : Par} {E : Ent} (h : errAdd P E = 0) : validP P = 0 ∧ validP (resAdd P E) = 0 ∧ (resFill P).length = (resCells P).length ∧ (resFill (resAdd P E)).length = (resCells P).length ∧ (∀ j, j < E.spec.length → -1 ≤ E.spec.getD j 0) ∧ ∀ k, k < (resCells P).length → E.spec.length = ((resCells P).getD k []).length ∧ (hB E.spec ((resCells P).getD k []) = false → (resFill P).getD k 0 = (resFill (resAdd P E)).getD k 0) := by
  have hr : resAdd P E = addP P E := by rw [resAdd, if_pos h]
  have hv : validP P = 0 := by
    unfold errAdd at h
    split at h
    · assumption
    · contradiction
  have hq : validP (addP P E) = 0 := by rw [errAdd, if_pos hv] at h; exact h
  have hE := ((validP_ok hq).2.2.2 P.ents.length (by simp [addP])).1
  rw [add_last] at hE
  obtain ⟨e1, e2⟩ := specB_ok hE
  have e1 : E.spec.length = P.sizes.length := e1
  rw [hr, resCells, resFill, resFill, if_pos hv, if_pos hv, if_pos hq]
  refine ⟨hv, hq, by simp [fillL], by simp [fillL, addP], fun j hj => (e2 j hj).1, fun k hk => ⟨?_, fun hb => ?_⟩⟩
  · rw [e1, (specB_ok (cells_spec hv hk)).1]
  · rw [fillL, fillL, map_at hk, map_at (show k < (cellsL (addP P E).sizes).length from hk)]
    exact (form_add hb).symm
end Go.Proofs.Ytahknodnjjmagaa
