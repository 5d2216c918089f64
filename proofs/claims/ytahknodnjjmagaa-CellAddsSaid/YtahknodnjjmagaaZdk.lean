import Derived.Test.YtahknodnjjmagaaZdj
import Derived.Test.YtahknodnjjmagaaZt
import Derived.Test.YtahknodnjjmagaaZu
namespace Go.Proofs.Ytahknodnjjmagaa
open Go.RowKit Go.Proofs.Kv

/-! ### the forms do not look at the entries' places -/
def goodP (P : Par) (l : List Int) (k : Nat) : Prop := k < P.ents.length ∧ hB (sp P k) l = true ∧ ∀ m, m < P.ents.length → hB (sp P m) l = true → m ≠ k → moreB (sp P k) (sp P m) = true
theorem mem_mat {P : Par} {l : List Int} {x : Int} : x ∈ matL P l ↔ ∃ k : Nat, x = (k : Int) ∧ k < P.ents.length ∧ hB (sp P k) l = true := by
  rw [matL, matK, List.mem_map]
  constructor
  · rintro ⟨y, hy, rfl⟩
    obtain ⟨h1, h2⟩ := List.mem_filter.1 hy
    exact ⟨y, rfl, List.mem_range.1 h1, h2⟩
  · rintro ⟨k, rfl, h1, h2⟩
    exact ⟨k, List.mem_filter.2 ⟨List.mem_range.2 h1, h2⟩, rfl⟩
theorem good_iff {P : Par} {l : List Int} {k : Nat} (hk : (k : Int) ∈ matL P l) : goodB P (matL P l) (k : Int) = true ↔ goodP P l k := by
  obtain ⟨k', e, h1, h2⟩ := mem_mat.1 hk
  obtain rfl : k = k' := Int.ofNat.inj e
  rw [goodB, Bool.not_eq_true', List.any_eq_false]
  constructor
  · intro h
    refine ⟨h1, h2, fun m hm hb hne => ?_⟩
    have := h (m : Int) (mem_mat.2 ⟨m, rfl, hm, hb⟩)
    rw [Int.toNat_natCast, Int.toNat_natCast, stopB, decide_eq_false hne] at this
    simpa using this
  · rintro ⟨-, -, h⟩ x hx
    obtain ⟨m, rfl, hm, hb⟩ := mem_mat.1 hx
    rw [Int.toNat_natCast, Int.toNat_natCast, stopB]
    by_cases hne : m = k
    · rw [decide_eq_true hne]; simp
    · rw [decide_eq_false hne, h m hm hb hne]; simp
theorem form_char (P : Par) (l : List Int) : (∃ k, goodP P l k ∧ formR P l = (P.ents.getD k E0).form) ∨ ((∀ k, ¬ goodP P l k) ∧ formR P l = -1) := by
  rcases dec_cases P l with ⟨k, -, hm, hg, -, -, hf⟩ | ⟨hn, -, -, hf⟩
  · exact .inl ⟨k, (good_iff hm).1 hg, hf⟩
  · refine .inr ⟨fun k hk => ?_, hf⟩
    have hm : (k : Int) ∈ matL P l := mem_mat.2 ⟨k, rfl, hk.1, hk.2.1⟩
    have := List.find?_eq_none.1 hn _ hm
    exact this ((good_iff hm).2 hk)
theorem good_one {P : Par} {l : List Int} {k k' : Nat} (h : goodP P l k) (h' : goodP P l k') : k = k' := by
  by_cases he : k = k'
  · exact he
  · have h1 := h.2.2 k' h'.1 h'.2.1 (Ne.symm he)
    have h2 := h'.2.2 k h.1 h.2.1 he
    rw [moreB, Bool.and_eq_true] at h1 h2
    rw [h2.1] at h1
    exact absurd h1.2 (by simp)
/-- two paradigms whose entries are the same up to their places -/
theorem form_perm {P Q : Par} (τ : Nat → Nat) (hl : Q.ents.length = P.ents.length) (hτ : ∀ k, k < P.ents.length → τ k < P.ents.length ∧ τ (τ k) = k ∧ Q.ents.getD k E0 = P.ents.getD (τ k) E0) (l : List Int) : formR Q l = formR P l := by
  have hsp : ∀ k, k < P.ents.length → sp Q k = sp P (τ k) := fun k hk => by rw [sp, (hτ k hk).2.2]; rfl
  have key : ∀ k, goodP Q l k → goodP P l (τ k) := fun k ⟨h1, h2, h3⟩ => by
    rw [hl] at h1
    refine ⟨(hτ k h1).1, by rw [← hsp k h1]; exact h2, fun m hm hb hne => ?_⟩
    have e : sp P m = sp Q (τ m) := by rw [hsp _ (hτ m hm).1, (hτ m hm).2.1]
    rw [e, ← hsp k h1]
    rw [e] at hb
    exact h3 (τ m) (by rw [hl]; exact (hτ m hm).1) hb (fun e2 => hne (by rw [← e2, (hτ m hm).2.1]))
  have key2 : ∀ k, goodP P l k → goodP Q l (τ k) := fun k ⟨h1, h2, h3⟩ => by
    have hs : sp Q (τ k) = sp P k := by rw [hsp _ (hτ k h1).1, (hτ k h1).2.1]
    refine ⟨by rw [hl]; exact (hτ k h1).1, by rw [hs]; exact h2, fun m hm hb hne => ?_⟩
    rw [hl] at hm
    rw [hs, hsp m hm]
    rw [hsp m hm] at hb
    exact h3 (τ m) (hτ m hm).1 hb (fun e2 => hne (by rw [← e2, (hτ m hm).2.1]))
  rcases form_char P l with ⟨k, hk, hf⟩ | ⟨hn, hf⟩
  · rcases form_char Q l with ⟨k', hk', hf'⟩ | ⟨hn', -⟩
    · have e := good_one (key k' hk') hk
      rw [hf', hf, (hτ k' (by rw [← hl]; exact hk'.1)).2.2, e]
    · exact absurd (key2 k hk) (hn' _)
  · rcases form_char Q l with ⟨k', hk', -⟩ | ⟨-, hf'⟩
    · exact absurd (key k' hk') (hn _)
    · rw [hf, hf']
def swT (i j k : Nat) : Nat := if k = i then j else if k = j then i else k
theorem swap_at {P : Par} {i j : Nat} (hi : i < P.ents.length) (hj : j < P.ents.length) (k : Nat) (hk : k < P.ents.length) : swT i j k < P.ents.length ∧ swT i j (swT i j k) = k ∧ (swapP P i j).ents.getD k E0 = P.ents.getD (swT i j k) E0 := by
  refine ⟨?_, ?_, ?_⟩
  · unfold swT; split
    · exact hj
    · split <;> assumption
  · unfold swT
    by_cases h1 : k = i
    · subst h1
      rw [if_pos rfl]
      by_cases h2 : j = k
      · rw [if_pos h2]; exact h2
      · rw [if_neg h2, if_pos rfl]
    · rw [if_neg h1]
      by_cases h2 : k = j
      · subst h2; rw [if_pos rfl, if_pos rfl]
      · rw [if_neg h2, if_neg h1, if_neg h2]
  · unfold swapP swT
    dsimp only
    by_cases h2 : k = j
    · subst h2
      rw [show ((P.ents.set i (P.ents.getD k E0)).set k (P.ents.getD i E0)).getD k E0 = P.ents.getD i E0 by simp [List.getD, hk]]
      by_cases h1 : k = i
      · rw [if_pos h1, h1]
      · rw [if_neg h1, if_pos rfl]
    · rw [show ((P.ents.set i (P.ents.getD j E0)).set j (P.ents.getD i E0)).getD k E0 = (P.ents.set i (P.ents.getD j E0)).getD k E0 by simp [List.getD, List.getElem?_set_ne (Ne.symm h2)]]
      by_cases h1 : k = i
      · subst h1
        rw [if_pos rfl]
        simp [List.getD, hk]
      · rw [if_neg h1, if_neg h2]
        simp [List.getD, List.getElem?_set_ne (Ne.symm h1)]
theorem valid_mk {P : Par} (h1 : 1 ≤ P.sizes.length ∧ P.sizes.length ≤ 3) (h2 : P.sizes.any (fun x => !okSize x) = false) (h3 : P.ents.length ≤ 10) (h4 : ∀ i, i < P.ents.length → specB P.sizes (P.ents.getD i E0).spec (-1) = true ∧ Within (P.ents.getD i E0).form 0 9 = true) : validP P = 0 := by
  rw [validP, if_neg (by omega), if_neg (by rw [h2]; simp), if_neg (by omega), if_neg]
  rw [Bool.not_eq_true, List.any_eq_false]
  intro e he
  obtain ⟨i, hi, rfl⟩ := List.mem_iff_getElem.1 he
  have := h4 i hi
  rw [show P.ents.getD i E0 = P.ents[i] by simp [List.getD, List.getElem?_eq_getElem hi]] at this
  rw [badEnt, this.1, this.2]; simp
theorem swap_valid {P : Par} {i j : Nat} (hv : validP P = 0) (hi : i < P.ents.length) (hj : j < P.ents.length) : validP (swapP P i j) = 0 := by
  obtain ⟨h1, h2, h3, h4⟩ := validP_ok hv
  have hl : (swapP P i j).ents.length = P.ents.length := by simp [swapP]
  refine valid_mk h1 h2 (by rw [hl]; exact h3) fun k hk => ?_
  rw [hl] at hk
  obtain ⟨e1, -, e3⟩ := swap_at hi hj k hk
  rw [e3]
  exact h4 _ e1
theorem swap_fill {P : Par} {i j : Int} (h : errN P [i, j] = 0) : validP P = 0 ∧ validP (resSwap P i j) = 0 ∧ resFill (resSwap P i j) = resFill P := by
  obtain ⟨hv, hi, hj⟩ := errN_ok h
  obtain ⟨i', rfl, hi'⟩ := isNo_ok hi
  obtain ⟨j', rfl, hj'⟩ := isNo_ok hj
  have e : resSwap P i' j' = swapP P i' j' := by rw [resSwap, if_pos h, Int.toNat_natCast, Int.toNat_natCast]
  have hs := swap_valid hv hi' hj'
  refine ⟨hv, by rw [e]; exact hs, ?_⟩
  rw [e, resFill, resFill, if_pos hs, if_pos hv, fillL, fillL]
  exact List.map_congr_left fun l _ => form_perm (swT i' j') (by simp [swapP]) (swap_at hi' hj') l
theorem MadeP6.par {w w' : World} {v : Value} {P : Par} (h : MadeP6 w w' v P) : ParAt w' v P := by
  obtain ⟨u, x, rfl, hs, he, -⟩ := h
  obtain ⟨a, n, c, rfl, hi⟩ := hs.ints
  obtain ⟨a', c', rfl, hx⟩ := he.at_
  exact ⟨a, n, c, a', _, c', rfl, hi, hx⟩
theorem MadeP6.bel {w w' : World} {v : Value} {P : Par} (h : MadeP6 w w' v P) : Below w.heap.size w w' := by
  obtain ⟨u, x, rfl, hs, he, hb⟩ := h
  exact hb
end Go.Proofs.Ytahknodnjjmagaa
