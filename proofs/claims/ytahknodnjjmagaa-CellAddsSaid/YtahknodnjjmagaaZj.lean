import Derived.Test.YtahknodnjjmagaaZi
namespace Go.Proofs.Ytahknodnjjmagaa
open Go.RowKit Go.Proofs.Kv

theorem errN2 (P : Par) (i j : Int) : errN P [i, j] = if validP P = 0 then (if isNo P i && isNo P j then 0 else 4) else validP P := by
  unfold errN
  by_cases h : validP P = 0
  · rw [if_pos h, if_pos h]
    simp only [List.any_cons, List.any_nil, Bool.or_false]
    cases isNo P i <;> cases isNo P j <;> rfl
  · rw [if_neg h, if_neg h]
set_option maxRecDepth 100000 in
set_option maxHeartbeats 4000000 in
theorem numbered_calls (v : Value) (P : Par) (i j : Int) (w : World) (h : ParAt w v P) :
    Calls Try.prog 84 #[v, .int .i64 i, .int .i64 j] w fun e w' => e = .returned (.int .i64 (errN P [i, j])) ∧ Below w.heap.size w w' := by
  have HP := hid_ h
  obtain ⟨a1, n1, c1, a2, n2, c2, rfl, h1, h2⟩ := h
  have hn2 : n2 ≤ 9223372036854775807 := Nat.le_trans h2.le h2.small
  obtain ⟨w1, hw1⟩ : ∃ w1, w.alloc (.cells #[.slice a1 n1 c1, .slice a2 n2 c2] 25) = w1 := ⟨_, rfl⟩
  have cb : Below w.heap.size w w1 := by rw [← hw1]; exact below_alloc _ _
  have q0 : w1.cell? ⟨w.heap.size, 0, none⟩ = some (.slice a1 n1 c1) := by rw [← hw1]; exact cells_alloc _ _ _ 0
  have q1 : w1.cell? ⟨w.heap.size, 1, none⟩ = some (.slice a2 n2 c2) := by rw [← hw1]; exact cells_alloc _ _ _ 1
  have Hc1 := hid_ cb
  have HV := hid_ (r6Validate_calls _ P w1 (HP.out.below cb (Nat.le_refl _)))
  have HE := hid_ (errN2 P i j)
  have HWi := hid_ (fun W => within6_calls i 0 ((n2 : Int) - 1) W)
  have HWj := hid_ (fun W => within6_calls j 0 ((n2 : Int) - 1) W)
  have hi : Within i 0 ((n2 : Int) - 1) = isNo P i := by rw [isNo, h2.len]
  have hj : Within j 0 ((n2 : Int) - 1) = isNo P j := by rw [isNo, h2.len]
  rw [hi] at HWi
  rw [hj] at HWj
  clear h1 h2 cb hi hj
  by_cases hv : validP P = 0
  · have HE2 : Hid (errN P [i, j] = if isNo P i && isNo P j then 0 else 4) := hid_ (by rw [HE.out, if_pos hv])
    rw [hv] at HV
    clear hv
    generalize isNo P i = bi at *
    generalize isNo P j = bj at *
    cases bi with
    | false =>
      have Hf : Hid (errN P [i, j] = 4) := hid_ (by rw [HE2.out]; rfl)
      go_enter Try.func84, Try.ntmps84
      go_wp2_with (first
        | (go_at_call 22; (with_reducible refine HV.out.mono ?_); rintro e w2 ⟨rfl, hb2⟩; have q0b := cell_below q0 hb2; have q1b := cell_below q1 hb2)
        | (go_at_call 73; (with_reducible refine (HWi.out _).mono ?_); rintro e w3 ⟨rfl, rfl⟩))
      go_ret
      exact ⟨retI Hf.out, Hc1.out.trans (hb2.mono Hc1.out.size)⟩
    | true =>
      cases bj with
      | false =>
        have Hf : Hid (errN P [i, j] = 4) := hid_ (by rw [HE2.out]; rfl)
        go_enter Try.func84, Try.ntmps84
        go_wp2_with (first
          | (go_at_call 22; (with_reducible refine HV.out.mono ?_); rintro e w2 ⟨rfl, hb2⟩; have q0b := cell_below q0 hb2; have q1b := cell_below q1 hb2)
          | (go_at_call 73; (with_reducible refine (HWi.out _).mono ?_); rintro e w3 ⟨rfl, rfl⟩)
          | (go_at_call 73; (with_reducible refine (HWj.out _).mono ?_); rintro e w3 ⟨rfl, rfl⟩))
        go_ret
        exact ⟨retI Hf.out, Hc1.out.trans (hb2.mono Hc1.out.size)⟩
      | true =>
        have Hf : Hid (errN P [i, j] = 0) := hid_ (by rw [HE2.out]; rfl)
        go_enter Try.func84, Try.ntmps84
        go_wp2_with (first
          | (go_at_call 22; (with_reducible refine HV.out.mono ?_); rintro e w2 ⟨rfl, hb2⟩; have q0b := cell_below q0 hb2; have q1b := cell_below q1 hb2)
          | (go_at_call 73; (with_reducible refine (HWi.out _).mono ?_); rintro e w3 ⟨rfl, rfl⟩)
          | (go_at_call 73; (with_reducible refine (HWj.out _).mono ?_); rintro e w3 ⟨rfl, rfl⟩))
        go_ret
        exact ⟨retI Hf.out, Hc1.out.trans (hb2.mono Hc1.out.size)⟩
  · have Hf : Hid (errN P [i, j] = validP P) := hid_ (by rw [HE.out, if_neg hv])
    have hq : (validP P != 0) = true := by simpa using hv
    generalize validP P = x at *
    clear hv
    go_enter Try.func84, Try.ntmps84
    go_wp2_with (go_at_call 22; (with_reducible refine HV.out.mono ?_); rintro e w2 ⟨rfl, hb2⟩)
    go_ret
    exact ⟨retI Hf.out, Hc1.out.trans (hb2.mono Hc1.out.size)⟩
end Go.Proofs.Ytahknodnjjmagaa
