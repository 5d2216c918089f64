import Derived.Test.YtoopgmoopmbfnaaSndH
namespace Go.Proofs.Ytoopgmoopmbfnaa
open Go.RowKit Go.Proofs.Kv Go.Proofs.Snd

/-! ### large, Long -/
def bigOne (l : List Int) : Bool := decide (100 < l.length)
def bigL (L : List (List Int)) : Bool := decide (50 < L.length) || L.any bigOne
theorem bigL_no {L : List (List Int)} (h : bigL L = false) : L.length ≤ 50 ∧ ∀ s ∈ L, s.length ≤ 100 := by
  simp only [bigL, Bool.or_eq_false_iff, decide_eq_false_iff_not, List.any_eq_false] at h
  refine ⟨by omega, fun s hs => ?_⟩
  have := h.2 s hs
  simp only [bigOne, decide_eq_true_eq] at this
  omega
theorem flat_len {k : Nat} : ∀ {L : List (List Int)}, (∀ s ∈ L, s.length ≤ k) → L.flatten.length ≤ L.length * k
  | [], _ => by simp
  | s :: L, h => by
    have h1 := h s (by simp)
    have h2 := flat_len (L := L) (k := k) fun t ht => h t (by simp [ht])
    simp only [List.flatten_cons, List.length_append, List.length_cons, Nat.succ_mul]
    omega
theorem bigL_flat {L : List (List Int)} (h : bigL L = false) : L.flatten.length ≤ 100000 := by
  obtain ⟨h1, h2⟩ := bigL_no h
  have h3 := flat_len h2
  have : L.length * 100 ≤ 50 * 100 := Nat.mul_le_mul_right _ h1
  omega

theorem large_calls (a : Option Addr) (n c : Nat) (l : List Int) (w : World) (h : IntsAt w a n c l) :
    Calls Try.prog 12 #[.slice a n c] w fun e w' => e = .returned (.bool (bigOne l)) ∧ w = w' := by
  have Hf : Hid (bigOne l = decide ((100 : Int) < n)) := hid_ (by rw [bigOne, h.len]; exact decide_eq_decide.2 (by omega))
  go_enter Try.func12, Try.ntmps12
  go_wp2
  go_ret
  exact ⟨retB Hf.out, rfl⟩

set_option maxRecDepth 100000 in
theorem long_calls (a : Option Addr) (n c : Nat) (F : List (List Int)) (w : World) (h : ListsAt w a n c F) :
    Calls Try.prog 11 #[.slice a n c] w fun e w' => e = .returned (.bool (bigL F)) ∧ w = w' := by
  have hn : n ≤ 9223372036854775807 := Nat.le_trans h.le h.small
  have hlen := hid_ h.len
  by_cases hb : 50 < n
  · have Hf : Hid (bigL F = true) := hid_ (by rw [bigL, hlen.out, decide_eq_true hb]; rfl)
    go_enter Try.func11, Try.ntmps11
    go_wp2
    go_ret
    exact ⟨retB Hf.out, rfl⟩
  · have Hn : Hid (bigL F = F.any bigOne) := hid_ (by rw [bigL, hlen.out, decide_eq_false hb]; rfl)
    go_enter Try.func11, Try.ntmps11
    go_wp2
    go_loop [3] (fun i => ∃ k : Nat, k ≤ n ∧ i = .int .i64 k ∧ ∀ j, j < k → bigOne (F.getD j []) = false) (fun i => n - (intOf i).toNat)
    case atStart => exact ⟨0, Nat.zero_le _, rfl, fun _ h => absurd h (by omega)⟩
    case round =>
      obtain ⟨k, hk, rfl, hall⟩ := hrel
      have Hall := hid_ hall; clear hall
      by_cases hlt : k < n
      · obtain ⟨b, off, a1, n1, c1, rfl, hb', hcell, hrow⟩ := h.cells k hlt
        have hl : k < F.length := by rw [hlen.out]; exact hlt
        have hec := large_calls _ _ _ _ w hrow
        generalize hr : F.getD k [] = r at hrow hec
        have Hr := hid_ hr; clear hr
        cases hq : bigOne r with
        | true =>
          rw [hq] at hec
          have Hec := hid_ hec; clear hec
          have Hf : Hid (bigL F = true) := hid_ (by rw [Hn.out, List.any_eq_true]; exact ⟨r, by rw [← Hr.out]; simp [List.getD, List.getElem?_eq_getElem hl], hq⟩)
          clear hq
          go_wp2_with (go_at_call 12; refine Hec.out.mono ?_; rintro e w' ⟨rfl, rfl⟩)
          go_ret
          exact ⟨retB Hf.out, rfl⟩
        | false =>
          rw [hq] at hec
          have Hec := hid_ hec; clear hec
          have Hq := hid_ hq; clear hq
          go_wp2_with (go_at_call 12; refine Hec.out.mono ?_; rintro e w' ⟨rfl, rfl⟩)
          go_round
          case rel => exact ⟨k + 1, by omega, by go_num, lt_snoc Hall.out (by rw [Hr.out]; exact Hq.out)⟩
          case measure => simp [intOf]; omega
      · have Hf : Hid (bigL F = false) := hid_ (by
          rw [Hn.out, List.any_eq_false]
          intro s hs
          obtain ⟨i, hi, e⟩ := List.mem_iff_getElem.1 hs
          have := Hall.out i (by have := hlen.out; omega)
          rw [List.getD, List.getElem?_eq_getElem hi, Option.getD_some, e] at this
          rw [this]; simp)
        go_wp2
        go_ret
        exact ⟨retB Hf.out, rfl⟩
end Go.Proofs.Ytoopgmoopmbfnaa
