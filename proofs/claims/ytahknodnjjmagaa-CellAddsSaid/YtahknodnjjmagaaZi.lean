import Derived.Test.YtahknodnjjmagaaZh
namespace Go.Proofs.Ytahknodnjjmagaa
open Go.RowKit Go.Proofs.Kv

/-! ### the errors of a paradigm and numbers of entries -/
def isNo (P : Par) (i : Int) : Bool := Within i 0 ((P.ents.length : Int) - 1)
def errN (P : Par) (L : List Int) : Int := if validP P = 0 then (if L.any (fun i => !isNo P i) then 4 else 0) else validP P
set_option maxRecDepth 100000 in
set_option maxHeartbeats 4000000 in
theorem validateEntries_calls (v : Value) (P : Par) (a : Option Addr) (n c : Nat) (L : List Int) (w : World) (h : ParAt w v P) (hl : IntsAt w a n c L) :
    Calls Try.prog 82 #[v, .slice a n c] w fun e w' => e = .returned (.int .i64 (errN P L)) ∧ Below w.heap.size w w' := by
  have HP := hid_ h
  obtain ⟨a1, n1, c1, a2, n2, c2, rfl, h1, h2⟩ := h
  have hn : n ≤ 9223372036854775807 := Nat.le_trans hl.le hl.small
  have hn2 : n2 ≤ 9223372036854775807 := Nat.le_trans h2.le h2.small
  obtain ⟨w1, hw1⟩ : ∃ w1, w.alloc (.cells #[.slice a1 n1 c1, .slice a2 n2 c2] 25) = w1 := ⟨_, rfl⟩
  have cb : Below w.heap.size w w1 := by rw [← hw1]; exact below_alloc _ _
  have q0 : w1.cell? ⟨w.heap.size, 0, none⟩ = some (.slice a1 n1 c1) := by rw [← hw1]; exact cells_alloc _ _ _ 0
  have q1 : w1.cell? ⟨w.heap.size, 1, none⟩ = some (.slice a2 n2 c2) := by rw [← hw1]; exact cells_alloc _ _ _ 1
  have HL := hid_ (hl.below cb (Nat.le_refl _)); have Hc1 := hid_ cb
  have HV := hid_ (ceValidate_calls _ P w1 (HP.out.below cb (Nat.le_refl _)))
  have HNo := hid_ (fun hall => any_no (p := fun i => !isNo P i) (0 : Int) hl.len hall)
  have HHi := hid_ (fun k (hk : k < n) hh => any_hit (p := fun i => !isNo P i) (k := k) (0 : Int) (by rw [hl.len]; exact hk) hh)
  have HI : Hid (∀ x, isNo P x = (decide (0 ≤ x) && decide (x ≤ (n2 : Int) - 1))) := hid_ (fun x => by rw [isNo, h2.len]; rfl)
  have HE : Hid (errN P L = if validP P = 0 then (if L.any (fun i => !isNo P i) then 4 else 0) else validP P) := hid_ rfl
  clear h1 h2 hl cb
  by_cases hv : validP P = 0
  · have HE2 : Hid (errN P L = if L.any (fun i => !isNo P i) then 4 else 0) := hid_ (by rw [HE.out, if_pos hv])
    rw [hv] at HV
    clear hv
    go_enter Try.func82, Try.ntmps82
    go_wp2_with (go_at_call 21; (with_reducible refine HV.out.mono ?_); rintro e w2 ⟨rfl, hb2⟩; have q0b := cell_below q0 hb2; have q1b := cell_below q1 hb2)
    have HL2 := hid_ (HL.out.below hb2 (Nat.le_refl _)); have Hb2 := hid_ hb2
    clear hb2 q0 q1
    go_loop [15] (fun i => ∃ k : Nat, k ≤ n ∧ i = .int .i64 k ∧ ∀ j, j < k → (!isNo P (L.getD j 0)) = false) (fun i => n - (intOf i).toNat)
    case atStart => exact ⟨0, Nat.zero_le _, rfl, fun _ h => absurd h (by omega)⟩
    case round =>
      obtain ⟨k, hk, rfl, hall⟩ := hrel
      have Hall := hid_ hall
      clear hall
      by_cases hlt : k < n
      · obtain ⟨b, off, rfl, -, hc⟩ := HL2.out.cells k hlt
        have hhi := HHi.out k hlt
        have hy := fun hx => lt_snoc (p := fun j => (!isNo P (L.getD j 0)) = false) Hall.out hx
        have hi := HI.out (L.getD k 0)
        generalize L.getD k 0 = x at *
        by_cases g0 : x < 0
        · have Hf : Hid (errN P L = 4) := hid_ (by rw [HE2.out, hhi (by rw [hi, decide_eq_false (show ¬ 0 ≤ x by omega)]; rfl)]; rfl)
          clear hhi hy hi
          go_wp2
          go_ret
          exact ⟨retI Hf.out, Hc1.out.trans (Hb2.out.mono Hc1.out.size)⟩
        · by_cases g1 : (n2 : Int) ≤ x
          · have Hf : Hid (errN P L = 4) := hid_ (by rw [HE2.out, hhi (by rw [hi, decide_eq_false (show ¬ x ≤ (n2 : Int) - 1 by omega)]; simp)]; rfl)
            clear hhi hy hi
            go_wp2
            go_ret
            exact ⟨retI Hf.out, Hc1.out.trans (Hb2.out.mono Hc1.out.size)⟩
          · have Hf := hid_ (hy (by rw [hi, decide_eq_true (show 0 ≤ x by omega), decide_eq_true (show x ≤ (n2 : Int) - 1 by omega)]; rfl))
            clear hhi hy hi
            go_wp2
            go_round
            case rel => exact ⟨k + 1, by omega, by go_num, Hf.out⟩
            case measure => simp [intOf]; omega
      · obtain rfl : n = k := by omega
        have Hf : Hid (errN P L = 0) := hid_ (by rw [HE2.out, HNo.out Hall.out]; rfl)
        go_wp2
        go_ret
        exact ⟨retI Hf.out, Hc1.out.trans (Hb2.out.mono Hc1.out.size)⟩
  · have Hf : Hid (errN P L = validP P) := hid_ (by rw [HE.out, if_neg hv])
    have hq : (validP P != 0) = true := by simpa using hv
    generalize validP P = x at *
    clear hv
    go_enter Try.func82, Try.ntmps82
    go_wp2_with (go_at_call 21; (with_reducible refine HV.out.mono ?_); rintro e w2 ⟨rfl, hb2⟩)
    go_ret
    exact ⟨retI Hf.out, Hc1.out.trans (hb2.mono Hc1.out.size)⟩
end Go.Proofs.Ytahknodnjjmagaa
