import Derived.Test.YtebbmhlkdfmmcaaGreatPgk
namespace Go.Proofs.YtebbmhlkdfmmcaaGreat
open Go.RowKit Go.Proofs.Kv

/-! ### systems: which are valid -/
abbrev R0 : Rl := ⟨0, [], [], []⟩
/-- the error of the first rule that has one -/
def firstE : List Rl → Int
  | [] => 0
  | R :: L => if validR R = 0 then firstE L else validR R
def validS (L : List Rl) : Int := if 6 < L.length then 3 else firstE L
theorem firstE_ok : ∀ {L : List Rl}, firstE L = 0 → ∀ R ∈ L, validR R = 0
  | [], _, R, hR => by cases hR
  | S :: L, h, R, hR => by
    unfold firstE at h
    by_cases hs : validR S = 0
    · rw [if_pos hs] at h
      rcases List.mem_cons.1 hR with rfl | hR
      · exact hs
      · exact firstE_ok h R hR
    · rw [if_neg hs] at h; exact absurd h hs
theorem validS_ok {L : List Rl} (h : validS L = 0) : L.length ≤ 6 ∧ ∀ R ∈ L, validR R = 0 := by
  unfold validS at h
  by_cases hl : 6 < L.length
  · rw [if_pos hl] at h; cases h
  · rw [if_neg hl] at h; exact ⟨by omega, firstE_ok h⟩
theorem firstE_drop {L : List Rl} {k : Nat} (hk : k < L.length) : firstE (L.drop k) = if validR (L.getD k R0) = 0 then firstE (L.drop (k + 1)) else validR (L.getD k R0) := by
  have e : L.getD k R0 = L[k] := by simp [List.getD, List.getElem?_eq_getElem hk]
  rw [List.drop_eq_getElem_cons hk, firstE, e]

/-! ### weights -/
def wtOf (ws l : List Int) : Int := (l.map fun x => ws.getD x.toNat 0).sum
def okWts (l : List Int) : Bool := decide (l.length = 6) && l.all fun x => Within x 0 1000
def holdR (ws : List Int) (R : Rl) : Bool := decide (0 ≤ R.f) && decide (wtOf ws R.o < ws.getD R.f.toNat 0)
def holdB (L : List Rl) (ws : List Int) : Bool := L.all (holdR ws)
def stepR (ws : List Int) (R : Rl) : Option (List Int) :=
  if R.f < 0 ∨ 1000 < wtOf ws R.o + 1 then none else some (ws.set R.f.toNat (max (ws.getD R.f.toNat 0) (wtOf ws R.o + 1)))
def roundR : List Rl → List Int → Option (List Int)
  | [], ws => some ws
  | R :: L, ws => (stepR ws R).bind (roundR L)
inductive Runs (L : List Rl) : List Int → Option (List Int) → Prop
  | stop {ws : List Int} : holdB L ws = true → Runs L ws (some ws)
  | fail {ws : List Int} : holdB L ws = false → roundR L ws = none → Runs L ws none
  | more {ws ws' : List Int} {r : Option (List Int)} : holdB L ws = false → roundR L ws = some ws' → Runs L ws' r → Runs L ws r
theorem Runs.det {L : List Rl} {ws : List Int} {r r' : Option (List Int)} (h : Runs L ws r) (h' : Runs L ws r') : r = r' := by
  induction h generalizing r' with
  | stop hs =>
    cases h' with
    | stop => rfl
    | fail hf => rw [hs] at hf; cases hf
    | more hf => rw [hs] at hf; cases hf
  | fail hf hr =>
    cases h' with
    | stop hs => rw [hs] at hf; cases hf
    | fail => rfl
    | more _ hr' => rw [hr] at hr'; cases hr'
  | more hf hr _ ih =>
    cases h' with
    | stop hs => rw [hs] at hf; cases hf
    | fail _ hr' => rw [hr] at hr'; cases hr'
    | more _ hr' h2 => rw [hr] at hr'; injection hr' with e; subst e; exact ih h2
/-- how far the weights are from the greatest ones -/
def pot (ws : List Int) : Nat := (ws.map fun x => (1000 - x).toNat).sum
theorem pot_set : ∀ {ws : List Int} {i : Nat} {x : Int}, i < ws.length → ws.getD i 0 ≤ x → pot (ws.set i x) ≤ pot ws ∧ (ws.getD i 0 < x → x ≤ 1000 → pot (ws.set i x) < pot ws)
  | [], i, x, h, _ => by simp at h
  | y :: ws, 0, x, _, h => by
    simp only [List.getD_cons_zero] at h
    simp only [List.set_cons_zero, pot, List.map_cons, List.sum_cons, List.getD_cons_zero]
    exact ⟨by omega, fun _ _ => by omega⟩
  | y :: ws, i + 1, x, hi, h => by
    simp only [List.getD_cons_succ] at h
    have ih := pot_set (ws := ws) (i := i) (x := x) (by simpa using hi) h
    simp only [List.set_cons_succ, pot, List.map_cons, List.sum_cons, List.getD_cons_succ] at ih ⊢
    exact ⟨by omega, fun h1 h2 => by have := ih.2 h1 h2; omega⟩
/-- weights that are lists of six from 0 to 1000 -/
def WtL (ws : List Int) : Prop := ws.length = 6 ∧ ∀ x ∈ ws, 0 ≤ x ∧ x ≤ 1000
theorem WtL.at_ {ws : List Int} (h : WtL ws) (i : Nat) : 0 ≤ ws.getD i 0 ∧ ws.getD i 0 ≤ 1000 := by
  by_cases hi : i < ws.length
  · exact h.2 _ (getD_mem hi)
  · simp [List.getD, List.getElem?_eq_none (Nat.not_lt.1 hi)]
theorem WtL.zero : WtL (List.replicate 6 0) := ⟨by simp, fun x hx => by rw [List.eq_of_mem_replicate hx]; omega⟩
theorem wtOf_range {ws : List Int} (h : WtL ws) : ∀ (l : List Int), 0 ≤ wtOf ws l ∧ wtOf ws l ≤ 1000 * l.length
  | [] => by simp [wtOf]
  | x :: l => by
    have ih := wtOf_range h l
    have := h.at_ x.toNat
    simp only [wtOf, List.map_cons, List.sum_cons, List.length_cons] at ih ⊢
    omega
theorem stepR_ok {ws ws' : List Int} {R : Rl} (h : WtL ws) (hf : R.f ≤ 5) (hs : stepR ws R = some ws') : WtL ws' ∧ pot ws' ≤ pot ws ∧ (holdR ws R = false → pot ws' < pot ws) ∧ (holdR ws R = true → ws' = ws) := by
  unfold stepR at hs
  by_cases hc : R.f < 0 ∨ 1000 < wtOf ws R.o + 1
  · rw [if_pos hc] at hs; cases hs
  · rw [if_neg hc] at hs
    injection hs with hs
    subst hs
    have hi : R.f.toNat < ws.length := by rw [h.1]; omega
    have ha := h.at_ R.f.toNat
    obtain ⟨p1, p2⟩ := pot_set (x := max (ws.getD R.f.toNat 0) (wtOf ws R.o + 1)) hi (by omega)
    refine ⟨⟨by rw [List.length_set]; exact h.1, fun x hx => ?_⟩, p1, fun hh => ?_, fun hh => ?_⟩
    · rcases List.mem_or_eq_of_mem_set hx with hx | rfl
      · exact h.2 x hx
      · omega
    · have hn : ¬ wtOf ws R.o < ws.getD R.f.toNat 0 := by
        intro hx
        rw [holdR, decide_eq_true (show 0 ≤ R.f by omega), decide_eq_true hx] at hh
        cases hh
      exact p2 (by omega) (by omega)
    · rw [holdR, Bool.and_eq_true, decide_eq_true_eq, decide_eq_true_eq] at hh
      rw [Int.max_eq_left (by omega), List.getD, List.getElem?_eq_getElem hi]
      simp
theorem roundR_ok : ∀ {L : List Rl} {ws ws' : List Int}, WtL ws → (∀ R ∈ L, R.f ≤ 5) → roundR L ws = some ws' → WtL ws' ∧ pot ws' ≤ pot ws ∧ (holdB L ws = false → pot ws' < pot ws) ∧ (holdB L ws = true → ws' = ws)
  | [], ws, ws', h, _, hr => by
    simp only [roundR] at hr; injection hr with hr; subst hr
    exact ⟨h, Nat.le_refl _, fun hh => by simp [holdB] at hh, fun _ => rfl⟩
  | R :: L, ws, ws', h, hf, hr => by
    simp only [roundR] at hr
    obtain ⟨w1, h1, h2⟩ := Option.bind_eq_some_iff.1 hr
    obtain ⟨a1, a2, a3, a4⟩ := stepR_ok h (hf R (by simp)) h1
    obtain ⟨b1, b2, b3, b4⟩ := roundR_ok a1 (fun S hS => hf S (by simp [hS])) h2
    refine ⟨b1, by omega, fun hh => ?_, fun hh => ?_⟩
    · cases hR : holdR ws R with
      | false => have := a3 hR; omega
      | true =>
        have e := a4 hR
        subst e
        have : holdB L w1 = false := by simpa [holdB, hR] using hh
        have := b3 this
        omega
    · simp only [holdB, List.all_cons, Bool.and_eq_true] at hh
      have e := a4 hh.1
      subst e
      exact b4 hh.2
end Go.Proofs.YtebbmhlkdfmmcaaGreat
