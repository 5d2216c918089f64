import Derived.Test.YtdnlpikfibdjoaaYme
namespace Go.Proofs.Ytdnlpikfibdjoaa
open Go.RowKit Go.Proofs.Kv

/-! ### Long, Large -/
def longT (T : List (List Int)) : Bool := T.any (fun r => decide (50 < r.length)) || decide (50 < T.length)
theorem longT_hit {T : List (List Int)} {k : Nat} (hk : k < T.length) (h : 50 < (T.getD k []).length) : longT T = true := by
  rw [longT, Bool.or_eq_true, List.any_eq_true]
  refine .inl ⟨T.getD k [], by simp [List.getD, List.getElem?_eq_getElem hk], by simpa using h⟩
theorem longT_all {T : List (List Int)} {n : Nat} (hn : T.length = n) (h : ∀ k, k < n → ¬ 50 < (T.getD k []).length) : longT T = decide (50 < n) := by
  rw [longT, hn, show T.any (fun r => decide (50 < r.length)) = false from ?_, Bool.false_or]
  rw [List.any_eq_false]
  intro r hr
  obtain ⟨i, hi, rfl⟩ := List.mem_iff_getElem.1 hr
  have := h i (by omega)
  simpa [List.getD, List.getElem?_eq_getElem hi] using this
set_option maxRecDepth 100000 in
theorem long_calls (a : Option Addr) (n c : Nat) (T : List (List Int)) (w : World) (h : ListsAt w a n c T) :
    Calls Try.prog 21 #[.slice a n c] w fun e w' => e = .returned (.bool (longT T)) ∧ w = w' := by
  have hn : n ≤ 9223372036854775807 := Nat.le_trans h.le h.small
  have HH := hid_ (fun k hk hh => @longT_hit T k hk hh)
  have HA := hid_ (@longT_all T n h.len)
  have Hl := hid_ h.len
  generalize longT T = z at *
  go_enter Try.func21, Try.ntmps21
  go_wp2
  go_loop [3] (fun i => ∃ k : Nat, k ≤ n ∧ i = .int .i64 k ∧ ∀ j, j < k → ¬ 50 < (T.getD j []).length) (fun i => n - (intOf i).toNat)
  case atStart => exact ⟨0, Nat.zero_le _, rfl, fun _ h => absurd h (by omega)⟩
  case round =>
    obtain ⟨k, hk, rfl, hall⟩ := hrel
    have Hall := hid_ hall; clear hall
    by_cases hlt : k < n
    · obtain ⟨b, off, a1, n1, c1, rfl, -, hcell, hrow⟩ := h.cells k hlt
      have hrl := hrow.len
      have hn1 := Nat.le_trans hrow.le hrow.small
      have hhit := HH.out k (by rw [Hl.out]; exact hlt)
      have hy := fun hx => lt_snoc (p := fun j => ¬ 50 < (T.getD j []).length) Hall.out hx
      rw [hrl] at hhit hy
      clear hrow hrl
      by_cases h5 : 50 < n1
      · have Hf := hid_ (hhit h5)
        clear hhit hy
        go_wp2
        go_ret
        exact ⟨retB Hf.out, rfl⟩
      · have Hf := hid_ (hy h5)
        clear hhit hy
        go_wp2
        go_round
        case rel => exact ⟨k + 1, by omega, by go_num, Hf.out⟩
        case measure => simp [intOf]; omega
    · obtain rfl : n = k := by omega
      have Hf := hid_ (HA.out Hall.out)
      by_cases h5 : 50 < n
      · have Hg := hid_ (Hf.out.trans (decide_eq_true h5))
        have h5' : 50 < (n : Int) := by omega
        clear h5
        go_wp2
        go_ret
        exact ⟨retB Hg.out, rfl⟩
      · have Hg := hid_ (Hf.out.trans (decide_eq_false h5))
        have h5' : ¬ 50 < (n : Int) := by omega
        clear h5
        go_wp2
        go_ret
        exact ⟨retB Hg.out, rfl⟩
def largeX (X : Tr) : Bool := decide (100 < X.par.length) || decide (100 < X.at_.length)
set_option maxRecDepth 100000 in
theorem large_calls (v : Value) (X : Tr) (w : World) (h : TreeAt w v X) :
    Calls Try.prog 39 #[v] w fun e w' => e = .returned (.bool (largeX X)) ∧ Below w.heap.size w w' := by
  have HP := hid_ h
  obtain ⟨a1, n1, c1, a2, n2, c2, rfl, h1, h2⟩ := h
  obtain ⟨w1, hw1⟩ : ∃ w1, w.alloc (.cells #[.slice a1 n1 c1, .slice a2 n2 c2] 46) = w1 := ⟨_, rfl⟩
  have cb : Below w.heap.size w w1 := by rw [← hw1]; exact below_alloc _ _
  have q0 : w1.cell? ⟨w.heap.size, 0, none⟩ = some (.slice a1 n1 c1) := by rw [← hw1]; exact cells_alloc _ _ _ 0
  have q1 : w1.cell? ⟨w.heap.size, 1, none⟩ = some (.slice a2 n2 c2) := by rw [← hw1]; exact cells_alloc _ _ _ 1
  have HP1 := hid_ (HP.out.below cb (Nat.le_refl _)); have Hc1 := hid_ cb
  have hn1 : n1 ≤ 9223372036854775807 := Nat.le_trans h1.le h1.small
  have hn2 : n2 ≤ 9223372036854775807 := Nat.le_trans h2.le h2.small
  have HL : Hid (largeX X = (decide (100 < n1) || decide (100 < n2))) := hid_ (by rw [largeX, h1.len, h2.len])
  clear h1 h2 cb
  by_cases h1 : 100 < n1
  · have Hf := hid_ (HL.out.trans (by rw [decide_eq_true h1]; rfl : _ = true))
    go_enter Try.func39, Try.ntmps39
    go_wp2
    go_ret
    exact ⟨retB Hf.out, Hc1.out⟩
  · have h1' : ¬ 100 < (n1 : Int) := by omega
    by_cases h2 : 100 < n2
    · have h2' : 100 < (n2 : Int) := by omega
      have Hf := hid_ (HL.out.trans (show (decide (100 < n1) || decide (100 < n2)) = true by simp [h2]))
      go_enter Try.func39, Try.ntmps39
      go_wp2
      go_ret
      exact ⟨retB Hf.out, Hc1.out⟩
    · have h2' : ¬ 100 < (n2 : Int) := by omega
      have Hf := hid_ (HL.out.trans (show (decide (100 < n1) || decide (100 < n2)) = false by simp [h1, h2]))
      go_enter Try.func39, Try.ntmps39
      go_wp2
      go_ret
      exact ⟨retB Hf.out, Hc1.out⟩
/-! ### the law StemmaPlaces -/
end Go.Proofs.Ytdnlpikfibdjoaa
