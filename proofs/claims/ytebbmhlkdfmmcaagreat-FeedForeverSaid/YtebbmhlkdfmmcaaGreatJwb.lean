import Derived.Test.YtebbmhlkdfmmcaaGreatJw
namespace Go.Proofs.YtebbmhlkdfmmcaaGreat
open Go.RowKit Go.Proofs.Kv

/-! ### weights: what the program says of a system that is not valid; CheckWeights -/
set_option maxRecDepth 100000 in
set_option maxHeartbeats 4000000 in
theorem feWeightsE_calls (A : Option Addr) (N C : Nat) (L : List Rl) (w : World) (h : RulesAt w A N C L) (hs : validS L ≠ 0) :
    Calls Tryz.prog 27 #[.slice A N C] w fun e w' => e = .returned (.tuple #[.slice none 0 0, .bool false, .int .i64 (validS L)]) ∧ Below w.heap.size w w' := by
  have HV := hid_ (feValidate_calls A N C L w h)
  have hq : (validS L != 0) = true := by simpa using hs
  generalize validS L = x at *
  clear hs
  go_enter Tryz.func27, Tryz.ntmps27
  go_wp2_with (go_at_call 47; (with_reducible refine HV.out.mono ?_); rintro e w3 ⟨rfl, hb3⟩)
  exact bodyPost_ret (v := .tuple #[.slice none 0 0, .bool false, .int .i64 x]) (by simp [results, Tryz.results27, go_sem]) rfl ⟨rfl, hb3⟩
def wtB (l : List Int) : Bool := decide (l.length = 6) && l.all fun x => Within x 0 1000
theorem wtB_ok {l : List Int} : wtB l = true ↔ WtL l := by
  unfold wtB WtL Within
  simp
theorem wtB_no {l : List Int} {k : Nat} (hk : k < l.length) (h : Within (l.getD k 0) 0 1000 = false) : wtB l = false := by
  unfold wtB
  rw [Bool.and_eq_false_iff]
  refine .inr (List.all_eq_false.2 ⟨_, getD_mem hk, by rw [h]; simp⟩)
theorem wtB_yes {l : List Int} {n : Nat} (hn : l.length = n) (h : ∀ j, j < n → Within (l.getD j 0) 0 1000 = true) : wtB l = decide (n = 6) := by
  unfold wtB
  rw [hn]
  have : (l.all fun x => Within x 0 1000) = true := by
    rw [List.all_eq_true]
    intro x hx
    obtain ⟨k, hk, e⟩ := mem_getD hx
    rw [← e]; exact h k (by omega)
  rw [this]; simp
def errCW (L : List Rl) (ws : List Int) : Int := if validS L = 0 then (if wtB ws then (if holdB L ws then 0 else 7) else 1) else validS L
end Go.Proofs.YtebbmhlkdfmmcaaGreat
