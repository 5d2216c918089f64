import Derived.Test.YtebbmhlkdfmmcaaGreatJw
namespace Go.Proofs.YtebbmhlkdfmmcaaGreat
open Go.RowKit Go.Proofs.Kv

/-! ### the smallest weights: the document -/
def flagN : Value → Nat
  | .bool true => 1
  | _ => 0
theorem getD_R0_valid' {L : List Rl} (h : ∀ R ∈ L, validR R = 0) {k : Nat} (hk : k < L.length) : validR (L.getD k R0) = 0 := by
  refine h _ ?_
  rw [show L.getD k R0 = L[k] by simp [List.getD, List.getElem?_eq_getElem hk]]; exact List.getElem_mem _
theorem stepR_ref {ws : List Int} {R : Rl} (h : WtL ws) (h0 : 0 ≤ R.f) : stepR ws R = if ws.getD R.f.toNat 0 < wtOf ws R.o + 1 then (if 1000 < wtOf ws R.o + 1 then none else some (ws.set R.f.toNat (wtOf ws R.o + 1))) else some ws := by
  have ha := h.at_ R.f.toNat
  unfold stepR
  by_cases h1 : ws.getD R.f.toNat 0 < wtOf ws R.o + 1
  · rw [if_pos h1]
    by_cases h2 : 1000 < wtOf ws R.o + 1
    · rw [if_pos (.inr h2), if_pos h2]
    · rw [if_neg (by omega), if_neg h2, Int.max_eq_right (by omega)]
  · rw [if_neg h1, if_neg (by omega), Int.max_eq_left (by omega)]
    by_cases hi : R.f.toNat < ws.length
    · rw [List.getD, List.getElem?_eq_getElem hi]; simp
    · rw [List.set_eq_of_length_le (by omega)]
theorem step_holds {ws : List Int} {R : Rl} (h : WtL ws) (hh : holdR ws R = true) : stepR ws R = some ws := by
  rw [holdR, Bool.and_eq_true, decide_eq_true_eq, decide_eq_true_eq] at hh
  rw [stepR_ref h hh.1, if_neg (by omega)]
theorem round_holds : ∀ {L : List Rl} {ws : List Int}, WtL ws → (∀ R ∈ L, R.f ≤ 5) → holdB L ws = true → roundR L ws = some ws
  | [], ws, _, _, _ => rfl
  | R :: L, ws, h, hf, hh => by
    simp only [holdB, List.all_cons, Bool.and_eq_true] at hh
    rw [roundR, step_holds h hh.1]
    exact round_holds h (fun S hS => hf S (by simp [hS])) hh.2
end Go.Proofs.YtebbmhlkdfmmcaaGreat
