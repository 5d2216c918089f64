import Derived.Test.YtahknodnjjmagaaZf
namespace Go.Proofs.Ytahknodnjjmagaa
open Go.RowKit Go.Proofs.Kv

/-! ### the errors of a paradigm and cells -/
def errC (P : Par) (L : List (List Int)) : Int := if validP P = 0 then (if L.any (fun l => !specB P.sizes l 0) then 1 else 0) else validP P
set_option maxRecDepth 100000 in
set_option maxHeartbeats 4000000 in
theorem validateCells_calls (v : Value) (P : Par) (a : Option Addr) (n c : Nat) (L : List (List Int)) (w : World) (h : ParAt w v P) (hl : ListsAt w a n c L) :
    Calls Try.prog 75 #[v, .slice a n c] w fun e w' => e = .returned (.int .i64 (errC P L)) ∧ Below w.heap.size w w' := by
  have HP := hid_ h
  obtain ⟨a1, n1, c1, a2, n2, c2, rfl, h1, h2⟩ := h
  have hn : n ≤ 9223372036854775807 := Nat.le_trans hl.le hl.small
  obtain ⟨w1, hw1⟩ : ∃ w1, w.alloc (.cells #[.slice a1 n1 c1, .slice a2 n2 c2] 25) = w1 := ⟨_, rfl⟩
  have cb : Below w.heap.size w w1 := by rw [← hw1]; exact below_alloc _ _
  have q0 : w1.cell? ⟨w.heap.size, 0, none⟩ = some (.slice a1 n1 c1) := by rw [← hw1]; exact cells_alloc _ _ _ 0
  have q1 : w1.cell? ⟨w.heap.size, 1, none⟩ = some (.slice a2 n2 c2) := by rw [← hw1]; exact cells_alloc _ _ _ 1
  have HL := hid_ (hl.below cb (Nat.le_refl _)); have H1 := hid_ (h1.below cb (Nat.le_refl _)); have Hc1 := hid_ cb
  have HV := hid_ (ceValidate_calls _ P w1 (HP.out.below cb (Nat.le_refl _)))
  have HNo := hid_ (fun hall => any_no (p := fun l => !specB P.sizes l 0) ([] : List Int) hl.len hall)
  have HHi := hid_ (fun k (hk : k < n) hh => any_hit (p := fun l => !specB P.sizes l 0) (k := k) ([] : List Int) (by rw [hl.len]; exact hk) hh)
  have HE : Hid (errC P L = if validP P = 0 then (if L.any (fun l => !specB P.sizes l 0) then 1 else 0) else validP P) := hid_ rfl
  clear h1 h2 hl cb
  by_cases hv : validP P = 0
  · have HE2 : Hid (errC P L = if L.any (fun l => !specB P.sizes l 0) then 1 else 0) := hid_ (by rw [HE.out, if_pos hv])
    rw [hv] at HV
    clear hv
    go_enter Try.func75, Try.ntmps75
    go_wp2_with (go_at_call 21; (with_reducible refine HV.out.mono ?_); rintro e w2 ⟨rfl, hb2⟩; have q0b := cell_below q0 hb2; have q1b := cell_below q1 hb2)
    have HL2 := hid_ (HL.out.below hb2 (Nat.le_refl _)); have H12 := hid_ (H1.out.below hb2 (Nat.le_refl _)); have Hb2 := hid_ hb2
    clear hb2 q0 q1
    go_loop [15] (fun i => ∃ k : Nat, k ≤ n ∧ i = .int .i64 k ∧ ∀ j, j < k → (!specB P.sizes (L.getD j []) 0) = false) (fun i => n - (intOf i).toNat)
    case atStart => exact ⟨0, Nat.zero_le _, rfl, fun _ h => absurd h (by omega)⟩
    case round =>
      obtain ⟨k, hk, rfl, hall⟩ := hrel
      have Hall := hid_ hall
      clear hall
      by_cases hlt : k < n
      · obtain ⟨b, off, a3, n3, c3, rfl, hbl, hcell, hrow⟩ := HL2.out.cells k hlt
        have hhi := HHi.out k hlt
        have hy := fun hx => lt_snoc (p := fun j => (!specB P.sizes (L.getD j []) 0) = false) Hall.out hx
        have HA := hid_ (areValues_calls a1 n1 c1 P.sizes a3 n3 c3 (L.getD k []) 0 w2 H12.out hrow)
        clear hrow hbl
        cases hsp : specB P.sizes (L.getD k []) 0 with
        | false =>
          rw [hsp] at HA
          have Hf : Hid (errC P L = 1) := hid_ (by rw [HE2.out, hhi (by rw [hsp]; rfl)]; rfl)
          clear hhi hy hsp
          go_wp2_with (go_at_call 71; (with_reducible refine HA.out.mono ?_); rintro e w5 ⟨rfl, rfl⟩)
          go_ret
          exact ⟨retI Hf.out, Hc1.out.trans (Hb2.out.mono Hc1.out.size)⟩
        | true =>
          rw [hsp] at HA
          have Hf := hid_ (hy (by rw [hsp]; rfl))
          clear hhi hy hsp
          go_wp2_with (go_at_call 71; (with_reducible refine HA.out.mono ?_); rintro e w5 ⟨rfl, rfl⟩)
          go_round
          case rel => exact ⟨k + 1, by omega, by go_num, Hf.out⟩
          case measure => simp [intOf]; omega
      · obtain rfl : n = k := by omega
        have Hf : Hid (errC P L = 0) := hid_ (by rw [HE2.out, HNo.out Hall.out]; rfl)
        go_wp2
        go_ret
        exact ⟨retI Hf.out, Hc1.out.trans (Hb2.out.mono Hc1.out.size)⟩
  · have Hf : Hid (errC P L = validP P) := hid_ (by rw [HE.out, if_neg hv])
    have hq : (validP P != 0) = true := by simpa using hv
    generalize validP P = x at *
    clear hv
    go_enter Try.func75, Try.ntmps75
    go_wp2_with (go_at_call 21; (with_reducible refine HV.out.mono ?_); rintro e w2 ⟨rfl, hb2⟩)
    go_ret
    exact ⟨retI Hf.out, Hc1.out.trans (hb2.mono Hc1.out.size)⟩
set_option maxRecDepth 100000 in
set_option maxHeartbeats 4000000 in
theorem celled_calls (v : Value) (P : Par) (a : Option Addr) (n c : Nat) (l : List Int) (w : World) (h : ParAt w v P) (hl : IntsAt w a n c l) :
    Calls Try.prog 77 #[v, .slice a n c] w fun e w' => e = .returned (.int .i64 (errC P [l])) ∧ Below w.heap.size w w' := by
  have HP := hid_ h
  obtain ⟨a1, n1, c1, a2, n2, c2, rfl, h1, h2⟩ := h
  obtain ⟨w1, hw1⟩ : ∃ w1, w.alloc (.cells #[.slice a1 n1 c1, .slice a2 n2 c2] 25) = w1 := ⟨_, rfl⟩
  have cb : Below w.heap.size w w1 := by rw [← hw1]; exact below_alloc _ _
  have q0 : w1.cell? ⟨w.heap.size, 0, none⟩ = some (.slice a1 n1 c1) := by rw [← hw1]; exact cells_alloc _ _ _ 0
  have q1 : w1.cell? ⟨w.heap.size, 1, none⟩ = some (.slice a2 n2 c2) := by rw [← hw1]; exact cells_alloc _ _ _ 1
  have HP1 := hid_ (HP.out.below cb (Nat.le_refl _))
  have HL := hid_ (hl.below cb (Nat.le_refl _)); have Hc1 := hid_ cb
  have HV := hid_ (r6Validate_calls _ P w1 HP1.out)
  clear h1 h2 hl cb
  by_cases hv : validP P = 0
  · have HS := hid_ (fun W (hW : Below w1.heap.size w1 W) => isSpec_calls _ P a n c l 0 W (HP1.out.below hW (Nat.le_refl _)) (HL.out.below hW (Nat.le_refl _)) (validP_ok hv).2.1)
    have HE : Hid (errC P [l] = if specB P.sizes l 0 then 0 else 1) := hid_ (by rw [errC, if_pos hv]; simp only [List.any_cons, List.any_nil, Bool.or_false]; cases specB P.sizes l 0 <;> rfl)
    rw [hv] at HV
    clear hv
    cases hsp : specB P.sizes l 0 with
    | false =>
      have Hf : Hid (errC P [l] = 1) := hid_ (by rw [HE.out, hsp]; rfl)
      rw [hsp] at HS
      clear hsp
      go_enter Try.func77, Try.ntmps77
      go_wp2_with (first
        | (go_at_call 22; (with_reducible refine HV.out.mono ?_); rintro e w2 ⟨rfl, hb2⟩; have q0b := cell_below q0 hb2; have q1b := cell_below q1 hb2)
        | (go_at_call 74; (with_reducible refine (HS.out _ hb2).mono ?_); rintro e w3 ⟨rfl, hb3⟩))
      go_ret
      exact ⟨retI Hf.out, Hc1.out.trans ((hb2.trans (hb3.mono hb2.size)).mono Hc1.out.size)⟩
    | true =>
      have Hf : Hid (errC P [l] = 0) := hid_ (by rw [HE.out, hsp]; rfl)
      rw [hsp] at HS
      clear hsp
      go_enter Try.func77, Try.ntmps77
      go_wp2_with (first
        | (go_at_call 22; (with_reducible refine HV.out.mono ?_); rintro e w2 ⟨rfl, hb2⟩; have q0b := cell_below q0 hb2; have q1b := cell_below q1 hb2)
        | (go_at_call 74; (with_reducible refine (HS.out _ hb2).mono ?_); rintro e w3 ⟨rfl, hb3⟩))
      go_ret
      exact ⟨retI Hf.out, Hc1.out.trans ((hb2.trans (hb3.mono hb2.size)).mono Hc1.out.size)⟩
  · have Hf : Hid (errC P [l] = validP P) := hid_ (by rw [errC, if_neg hv])
    have hq : (validP P != 0) = true := by simpa using hv
    generalize validP P = x at *
    clear hv
    go_enter Try.func77, Try.ntmps77
    go_wp2_with (go_at_call 22; (with_reducible refine HV.out.mono ?_); rintro e w2 ⟨rfl, hb2⟩)
    go_ret
    exact ⟨retI Hf.out, Hc1.out.trans (hb2.mono Hc1.out.size)⟩
end Go.Proofs.Ytahknodnjjmagaa
