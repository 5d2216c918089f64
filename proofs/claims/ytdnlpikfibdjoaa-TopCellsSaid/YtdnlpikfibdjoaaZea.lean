import Derived.Test.YtdnlpikfibdjoaaZdz
import Derived.Test.YtdnlpikfibdjoaaZae
import Derived.Test.YtdnlpikfibdjoaaZ5
namespace Go.Proofs.Ytdnlpikfibdjoaa
open Go.RowKit Go.Proofs.Kv Go

/-! ### facts of TopCells -/
theorem hull_ex : errHu ⟨[2, 2], []⟩ [[0, 0], [1, 0]] = 0 ∧ resHull ⟨[2, 2], []⟩ [[0, 0], [1, 0]] = [-1, 0] := by decide +kernel
theorem filter_split {α : Type} {p q r : α → Bool} : ∀ (L : List α), (∀ x ∈ L, (p x).toNat = (q x).toNat + (r x).toNat) → (L.filter p).length = (L.filter q).length + (L.filter r).length
  | [], _ => rfl
  | x :: L, h => by
    have ih := filter_split L (fun y hy => h y (List.mem_cons_of_mem _ hy))
    have hx := h x List.mem_cons_self
    simp only [List.filter_cons]
    cases hp : p x <;> cases hq : q x <;> cases hr : r x <;> simp [hp, hq, hr] at hx <;> simp <;> omega
/-- how many cells have a form below k -/
def homK (P : Par) : Nat → Nat
  | 0 => 0
  | k + 1 => homK P k + (withL P (homeB P (k : Int))).length
theorem form_range {P : Par} (hv : validP P = 0) (l : List Int) : -1 ≤ formR P l ∧ formR P l ≤ 9 := by
  unfold formR
  cases hf : (matL P l).find? (goodB P (matL P l)) with
  | none => exact ⟨by simp, by simp⟩
  | some x =>
    obtain ⟨k, rfl, hk, -⟩ := mem_mat.1 (List.mem_of_find?_eq_some hf)
    have := form_ok hv hk
    simp only [Int.toNat_natCast]
    omega
theorem homK_rest {P : Par} : ∀ (k : Nat), homK P k + ((cellsL P.sizes).filter fun l => !(decide (0 ≤ formR P l) && decide (formR P l < (k : Int)))).length = (cellsL P.sizes).length
  | 0 => by
    have : ((cellsL P.sizes).filter fun l => !(decide (0 ≤ formR P l) && decide (formR P l < ((0 : Nat) : Int)))) = cellsL P.sizes := List.filter_eq_self.2 fun l _ => by
      by_cases h : 0 ≤ formR P l
      · rw [decide_eq_true h, decide_eq_false (by omega)]; rfl
      · rw [decide_eq_false h]; rfl
    rw [this]; simp [homK]
  | k + 1 => by
    have ih := homK_rest (P := P) k
    have hs := filter_split (p := fun l => !(decide (0 ≤ formR P l) && decide (formR P l < (k : Int)))) (q := homeB P (k : Int)) (r := fun l => !(decide (0 ≤ formR P l) && decide (formR P l < ((k + 1 : Nat) : Int)))) (cellsL P.sizes) (fun l _ => by
      unfold homeB
      rcases Int.lt_trichotomy (formR P l) k with h | h | h
      · rw [decide_eq_true h, decide_eq_false (p := formR P l = (k : Int)) (by omega), decide_eq_true (p := formR P l < ((k + 1 : Nat) : Int)) (by omega)]; cases decide (0 ≤ formR P l) <;> rfl
      · rw [decide_eq_false (p := formR P l < (k : Int)) (by omega), decide_eq_true (p := formR P l = (k : Int)) h, decide_eq_true (p := formR P l < ((k + 1 : Nat) : Int)) (by omega), decide_eq_true (p := 0 ≤ formR P l) (by omega)]; rfl
      · rw [decide_eq_false (p := formR P l < (k : Int)) (by omega), decide_eq_false (p := formR P l = (k : Int)) (by omega), decide_eq_false (p := formR P l < ((k + 1 : Nat) : Int)) (by omega)]; cases decide (0 ≤ formR P l) <;> rfl)
    show homK P k + ((cellsL P.sizes).filter (homeB P (k : Int))).length + _ = _
    omega
theorem form_none {P : Par} {l : List Int} (h : (matL P l).length = 0) : formR P l = -1 := by
  unfold formR
  rw [List.eq_nil_of_length_eq_zero h]; rfl
theorem homes_all {P : Par} (hv : validP P = 0) : homK P 10 + (resClash P).length + (resEmpty P).length = (resCells P).length := by
  have h1 := homK_rest (P := P) 10
  have h2 := filter_split (p := fun l => !(decide (0 ≤ formR P l) && decide (formR P l < ((10 : Nat) : Int)))) (q := clashB P) (r := emptyB P) (cellsL P.sizes) (fun l _ => by
    have hr := form_range hv l
    unfold clashB emptyB
    by_cases he : (matL P l).length = 0
    · have hn := form_none he
      rw [decide_eq_true he, hn, he]; rfl
    · rw [decide_eq_false he, decide_eq_true (p := 0 < (matL P l).length) (by omega)]
      by_cases hf : formR P l = -1
      · rw [hf]; rfl
      · rw [decide_eq_false hf, decide_eq_true (p := 0 ≤ formR P l) (by omega), decide_eq_true (p := formR P l < ((10 : Nat) : Int)) (by omega)]; rfl)
  unfold resClash resEmpty resCells
  rw [if_pos hv, if_pos hv, if_pos hv]
  show homK P 10 + ((cellsL P.sizes).filter (clashB P)).length + ((cellsL P.sizes).filter (emptyB P)).length = _
  omega
theorem homes_len (P : Par) (hv : validP P = 0) (k : Nat) (hk : k ≤ 9) : errH P (k : Int) = 0 ∧ homK P (k + 1) = homK P k + (resHomes P (k : Int)).length := by
  have he : errH P (k : Int) = 0 := by
    unfold errH Within
    rw [if_pos hv, if_pos]
    rw [decide_eq_true (by omega), decide_eq_true (by omega)]; rfl
  refine ⟨he, ?_⟩
  unfold resHomes
  rw [if_pos he]; rfl
theorem homK_le {P : Par} : ∀ k, homK P k ≤ (cellsL P.sizes).length := fun k => by have := homK_rest (P := P) k; omega
/-- which entry decides a cell -/
theorem decides_ok {P : Par} (hv : validP P = 0) {k : Nat} (hk : k < (resCells P).length) :
    errC P [(resCells P).getD k []] = 0 ∧ resMatches P ((resCells P).getD k []) = matL P ((resCells P).getD k []) ∧ (resDec P ((resCells P).getD k [])).2 = decide (0 ≤ (resFill P).getD k 0) ∧
    ((resDec P ((resCells P).getD k [])).2 = true → Has (matL P ((resCells P).getD k [])) (resDec P ((resCells P).getD k [])).1 = true ∧
      ∀ y ∈ matL P ((resCells P).getD k []), errN P [(resDec P ((resCells P).getD k [])).1, y] = 0 ∧ resMore P (resDec P ((resCells P).getD k [])).1 y = (y != (resDec P ((resCells P).getD k [])).1)) := by
  have hc : resCells P = cellsL P.sizes := by unfold resCells; rw [if_pos hv]
  have hf : (resFill P).getD k 0 = formR P ((resCells P).getD k []) := by
    unfold resFill
    rw [if_pos hv, hc]
    exact map_at (by rw [← hc]; exact hk)
  rw [hf]
  rw [hc] at hk ⊢
  have hsp := cells_spec hv hk
  generalize (cellsL P.sizes).getD k [] = l at *
  have he : errC P [l] = 0 := by
    unfold errC
    rw [if_pos hv, if_neg]
    simp [hsp]
  have hd : resDec P l = decP P (matL P l) := by unfold resDec; rw [if_pos he]
  refine ⟨he, by unfold resMatches; rw [if_pos he], ?_, ?_⟩
  · rw [hd]
    unfold decP formR
    cases hfd : (matL P l).find? (goodB P (matL P l)) with
    | none => rfl
    | some x =>
      obtain ⟨q, rfl, hq, -⟩ := mem_mat.1 (List.mem_of_find?_eq_some hfd)
      have := form_ok hv hq
      simp only [Int.toNat_natCast]
      rw [decide_eq_true this.1]
  · rw [hd]
    unfold decP
    cases hfd : (matL P l).find? (goodB P (matL P l)) with
    | none => intro h; cases h
    | some x =>
      intro _
      have hm := List.mem_of_find?_eq_some hfd
      have hg := List.find?_some hfd
      refine ⟨Has_iff.2 hm, fun y hy => ?_⟩
      obtain ⟨q, rfl, hq, -⟩ := mem_mat.1 hm
      obtain ⟨r, rfl, hr, -⟩ := mem_mat.1 hy
      have hen : errN P [(q : Int), (r : Int)] = 0 := by
        unfold errN isNo Within
        rw [if_pos hv, if_neg]
        simp
        omega
      refine ⟨hen, ?_⟩
      unfold resMore
      rw [if_pos hen, Int.toNat_natCast, Int.toNat_natCast]
      unfold goodB at hg
      rw [Bool.not_eq_true', List.any_eq_false] at hg
      have hs := hg (r : Int) hy
      unfold stopB at hs
      rw [Int.toNat_natCast, Int.toNat_natCast] at hs
      by_cases e : r = q
      · subst e
        unfold moreB
        simp
      · have e2 : ((r : Int) != (q : Int)) = true := by simp; omega
        rw [e2]
        cases hm : moreB (sp P q) (sp P r) with
        | true => rfl
        | false => rw [hm, decide_eq_false e] at hs; simp at hs
theorem red_len : ∀ (k : Nat) (Q : Par), k ≤ Q.ents.length → (redK Q k).ents.length ≤ Q.ents.length ∧ ((redK Q k).ents.length = Q.ents.length → redK Q k = Q ∧ ∀ i, i < k → needB Q i = false)
  | 0, Q, _ => ⟨Nat.le_refl _, fun _ => ⟨rfl, fun i h => absurd h (by omega)⟩⟩
  | k + 1, Q, h => by
    show (redK (redStep Q k) k).ents.length ≤ _ ∧ _
    cases hn : needB Q k with
    | true =>
      have hl := cutP_len (Q := Q) (i := k) (by omega)
      have ih := (red_len k (cutP Q k) (by omega)).1
      have hs := step_yes hn
      refine ⟨by rw [hs]; omega, fun e => ?_⟩
      have e : (redK (redStep Q k) k).ents.length = Q.ents.length := e
      rw [hs] at e
      omega
    | false =>
      obtain ⟨ih, ih2⟩ := red_len k Q (by omega)
      have hs := step_no hn
      refine ⟨by rw [hs]; exact ih, fun e => ?_⟩
      have e : (redK (redStep Q k) k).ents.length = Q.ents.length := e
      rw [hs] at e
      obtain ⟨h1, h2⟩ := ih2 e
      refine ⟨by show redK (redStep Q k) k = Q; rw [hs]; exact h1, fun i hi => ?_⟩
      by_cases hik : i = k
      · rw [hik]; exact hn
      · exact h2 i (by omega)
theorem short_ok {P : Par} (hv : validP P = 0) : (resRed P).ents.length ≤ P.ents.length ∧ ((resRed P).ents.length = P.ents.length → resRed P = P ∧ resNeed P = []) := by
  have hR : resRed P = redK P P.ents.length := by unfold resRed; rw [if_pos hv]
  obtain ⟨h1, h2⟩ := red_len P.ents.length P (Nat.le_refl _)
  rw [hR]
  refine ⟨h1, fun e => ?_⟩
  obtain ⟨h3, h4⟩ := h2 e
  refine ⟨h3, ?_⟩
  unfold resNeed needK
  rw [if_pos hv, List.map_eq_nil_iff, List.filter_eq_nil_iff]
  intro i hi
  rw [h4 i (List.mem_range.1 hi)]
  simp
end Go.Proofs.Ytdnlpikfibdjoaa
