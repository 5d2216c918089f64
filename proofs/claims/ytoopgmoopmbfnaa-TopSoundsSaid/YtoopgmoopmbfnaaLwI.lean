import Derived.Test.YtoopgmoopmbfnaaSn4
import Derived.Test.YtoopgmoopmbfnaaSn2
namespace Go.Proofs.Ytoopgmoopmbfnaa
open Go.RowKit Go.Proofs.Kv Go.Proofs.Snd

/-! ### the statements' inside -/
def inB (s : List Int) (M : List (List Int)) : Bool := M.any fun r => Same s r
def insideB (L M : List (List Int)) : Bool := L.all fun s => inB s M
theorem inB_snoc {s : List Int} {M : List (List Int)} {k : Nat} (h : k < M.length) : inB s (M.take (k + 1)) = (inB s (M.take k) || Same s (M.getD k [])) := by
  unfold inB; rw [Kv.take_snoc M [] k h, List.any_append]; simp
theorem inside_yes {L M : List (List Int)} (h : ∀ c ∈ L, c ∈ M) : insideB L M = true := by
  unfold insideB inB
  rw [List.all_eq_true]
  intro s hs
  rw [List.any_eq_true]
  exact ⟨s, h s hs, by simp [Same]⟩
set_option maxRecDepth 100000 in
theorem inside_calls (a : Option Addr) (n c : Nat) (L : List (List Int)) (a' : Option Addr) (n' c' : Nat) (M : List (List Int)) (w : World) (h : ListsAt w a n c L) (h' : ListsAt w a' n' c' M) (hin : insideB L M = true) :
    Calls Try.prog 26 #[.slice a n c, .slice a' n' c'] w fun e w' => e = .returned (.bool true) ∧ ∃ q, w' = w.drewN q := by
  have hn : n ≤ 9223372036854775807 := Nat.le_trans h.le h.small
  have hn' : n' ≤ 9223372036854775807 := Nat.le_trans h'.le h'.small
  have Hl := hid_ h.len
  have Hl' := hid_ h'.len
  go_enter Try.func26, Try.ntmps26
  go_wp2
  go_loopw [5] (fun i wr => ∃ k q : Nat, k ≤ n ∧ i = .int .i64 k ∧ wr = w.drewN q) (fun i _ => n - (intOf i).toNat)
  case atStart => exact ⟨0, 0, Nat.zero_le _, rfl, rfl⟩
  case round =>
    obtain ⟨k, q, hk, rfl, hq⟩ := hrel
    have hI : ListsAt wr a n c L := by rw [hq]; exact h.drewN q
    have Hq0 := hid_ hq; clear hq
    obtain ⟨wo, rfl⟩ : ∃ wo : World, wo = wr := ⟨_, rfl⟩
    by_cases hlt : k < n
    · obtain ⟨b, off, a1, n1, c1, rfl, hb, hcell, hrow⟩ := hI.cells k hlt
      have Hin : Hid (inB (L.getD k []) M = true) := hid_ (by
        have := List.all_eq_true.1 hin (L.getD k []) (by rw [List.getD, List.getElem?_eq_getElem (by have := Hl.out; omega), Option.getD_some]; exact List.getElem_mem _)
        exact this)
      generalize L.getD k [] = y at hrow Hin
      go_wp2
      go_loopw [6, 7] (fun f i wr => ∃ j q : Nat, j ≤ n' ∧ i = .int .i64 j ∧ f = .bool (inB y (M.take j)) ∧ wr = w.drewN q) (fun _ i _ => n' - (intOf i).toNat)
      case atStart => exact ⟨0, q, Nat.zero_le _, rfl, rfl, Hq0.out⟩
      case round =>
        obtain ⟨j, q2, hj, rfl, rfl, hq2⟩ := hrel
        have hI1 : IntsAt wr a1 n1 c1 y := by rw [hq2]; have := hrow; rw [Hq0.out] at this; exact this.drewN (q := 0) |> fun h => ⟨h.len, h.le, h.small, h.cells⟩
        have hI' : ListsAt wr a' n' c' M := by rw [hq2]; exact h'.drewN q2
        have hcell1 : wr.cell? ⟨b, off + k, none⟩ = some (.slice a1 n1 c1) := by rw [hq2]; have := hcell; rw [Hq0.out] at this; exact this
        have Hq := hid_ hq2; clear hq2
        by_cases hlt2 : j < n'
        · obtain ⟨b', off', a2, n2, c2, rfl, hb', hcell', hrow'⟩ := hI'.cells j hlt2
          have Hs := hid_ (inB_snoc (s := y) (M := M) (k := j) (by rw [Hl'.out]; exact hlt2))
          generalize M.getD j [] = z at hrow' Hs
          cases hi : inB y (M.take j) with
          | true =>
            have Hf : Hid (inB y (M.take (j + 1)) = true) := hid_ (by rw [Hs.out, hi]; rfl)
            go_wp2
            go_quiet (fail)
            go_wp2
            go_roundw
            case rel => exact ⟨j + 1, _, by omega, by go_num, by rw [Hf.out], by rw [Hq.out, drewN2]⟩
            case measure => simp [intOf]; omega
          | false =>
            cases hs : Same y z with
            | true =>
              have Hf : Hid (inB y (M.take (j + 1)) = true) := hid_ (by rw [Hs.out, hs]; simp)
              go_wp2
              go_quiet ((go_at_call 41; exact quiet_more (same_as (hI1.drewN _) (hrow'.drewN _) hs)))
              go_wp2
              go_roundw
              case rel => exact ⟨j + 1, _, by omega, by go_num, by rw [Hf.out], by rw [Hq.out, drewN2]⟩
              case measure => simp [intOf]; omega
            | false =>
              have Hf : Hid (inB y (M.take (j + 1)) = false) := hid_ (by rw [Hs.out, hs, hi]; rfl)
              go_wp2
              go_quiet ((go_at_call 41; exact quiet_more (same_as (hI1.drewN _) (hrow'.drewN _) hs)))
              go_wp2
              go_roundw
              case rel => exact ⟨j + 1, _, by omega, by go_num, by rw [Hf.out], by rw [Hq.out, drewN2]⟩
              case measure => simp [intOf]; omega
        · obtain rfl : j = n' := by omega
          rw [show M.take j = M from List.take_of_length_le (by rw [Hl'.out]; exact Nat.le_refl _), Hin.out]
          go_wp2
          go_roundw
          case rel => exact ⟨k + 1, q2, by omega, by go_num, Hq.out⟩
          case measure => simp [intOf]; omega
    · go_wp2
      go_ret
      exact ⟨rfl, q, Hq0.out⟩
end Go.Proofs.Ytoopgmoopmbfnaa
