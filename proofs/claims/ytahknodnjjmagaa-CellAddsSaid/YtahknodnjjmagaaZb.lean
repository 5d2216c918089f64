import Derived.Test.YtahknodnjjmagaaZa
namespace Go.Proofs.Ytahknodnjjmagaa
open Go.RowKit Go.Proofs.Kv

/-! ### Validate -/
theorem any_no {α : Type} {l : List α} {p : α → Bool} {n : Nat} (d : α) (hn : l.length = n) (h : ∀ j, j < n → p (l.getD j d) = false) : l.any p = false := by
  rw [List.any_eq_false]
  intro x hx
  obtain ⟨i, hi, rfl⟩ := List.mem_iff_getElem.1 hx
  have := h i (by omega)
  rw [show l.getD i d = l[i] by simp [List.getD, List.getElem?_eq_getElem hi]] at this
  rw [this]; simp
theorem any_hit {α : Type} {l : List α} {p : α → Bool} {k : Nat} (d : α) (hk : k < l.length) (h : p (l.getD k d) = true) : l.any p = true := by
  rw [List.any_eq_true]
  refine ⟨l[k], List.getElem_mem hk, ?_⟩
  rw [show l.getD k d = l[k] by simp [List.getD, List.getElem?_eq_getElem hk]] at h
  exact h
theorem EntsAt.at_ {w : World} {a : Option Addr} {n c : Nat} {L : List Ent} (h : EntsAt w a n c L) {i : Nat} (hi : i < n) :
    ∃ b off a1 n1 c1, a = some ⟨b, off, none⟩ ∧ b < w.heap.size ∧ w.cell? ⟨b, off + i * 2, none⟩ = some (.slice a1 n1 c1) ∧ w.cell? ⟨b, off + i * 2 + 1, none⟩ = some (.int .i64 (L.getD i E0).form) ∧ IntsAt w a1 n1 c1 (L.getD i E0).spec := h.cells i hi
set_option maxRecDepth 100000 in
set_option maxHeartbeats 4000000 in
theorem ceValidate_calls (v : Value) (P : Par) (w : World) (h : ParAt w v P) :
    Calls Try.prog 21 #[v] w fun e w' => e = .returned (.int .i64 (validP P)) ∧ Below w.heap.size w w' := by
  obtain ⟨a, n, c, a2, n2, c2, rfl, h1, h2⟩ := h
  have hn : n ≤ 9223372036854775807 := Nat.le_trans h1.le h1.small
  have hn2 : n2 ≤ 9223372036854775807 := Nat.le_trans h2.le h2.small
  have HV : Hid (validP P = if n < 1 ∨ 3 < n then 1 else if P.sizes.any (fun x => !okSize x) then 1 else if 10 < n2 then 3 else if P.ents.any (badEnt P.sizes) then 1 else 0) := hid_ (by rw [validP, h1.len, h2.len])
  obtain ⟨w1, hw1⟩ : ∃ w1, w.alloc (.cells #[.slice a n c, .slice a2 n2 c2] 25) = w1 := ⟨_, rfl⟩
  have c1 : Below w.heap.size w w1 := by rw [← hw1]; exact below_alloc _ _
  have q0 : w1.cell? ⟨w.heap.size, 0, none⟩ = some (.slice a n c) := by rw [← hw1]; exact cells_alloc _ _ _ 0
  have q1 : w1.cell? ⟨w.heap.size, 1, none⟩ = some (.slice a2 n2 c2) := by rw [← hw1]; exact cells_alloc _ _ _ 1
  by_cases hb : n < 1 ∨ 3 < n
  · have Hf : Hid (validP P = 1) := hid_ (by rw [HV.out, if_pos hb])
    by_cases h0 : n < 1
    · obtain rfl : n = 0 := by omega
      clear hb h1 h2
      go_enter Try.func21, Try.ntmps21
      go_wp2
      go_ret
      exact ⟨retI Hf.out, c1⟩
    · have h3 : ¬ (n : Int) < 1 := by omega
      have h4 : 3 < (n : Int) := by omega
      clear hb h0 h1 h2
      go_enter Try.func21, Try.ntmps21
      go_wp2
      go_ret
      exact ⟨retI Hf.out, c1⟩
  · have HV2 : Hid (validP P = if P.sizes.any (fun x => !okSize x) then 1 else if 10 < n2 then 3 else if P.ents.any (badEnt P.sizes) then 1 else 0) := hid_ (by rw [HV.out, if_neg hb])
    have h3 : ¬ (n : Int) < 1 := by omega
    have h4 : ¬ 3 < (n : Int) := by omega
    have H1 := hid_ (h1.below c1 (Nat.le_refl _)); have H2 := hid_ (h2.below c1 (Nat.le_refl _)); have Hc1 := hid_ c1
    have HNo := hid_ (fun hall => any_no (p := fun x => !okSize x) (0 : Int) h1.len hall)
    have HHi := hid_ (fun k (hk : k < n) hh => any_hit (p := fun x => !okSize x) (k := k) (0 : Int) (by rw [h1.len]; exact hk) hh)
    have HNo2 := hid_ (fun hall => any_no (p := badEnt P.sizes) E0 h2.len hall)
    have HHi2 := hid_ (fun k (hk : k < n2) hh => any_hit (p := badEnt P.sizes) (k := k) E0 (by rw [h2.len]; exact hk) hh)
    clear hb h1 h2 c1
    go_enter Try.func21, Try.ntmps21
    go_wp2
    go_loop [20] (fun i => ∃ k : Nat, k ≤ n ∧ i = .int .i64 k ∧ ∀ j, j < k → (!okSize (P.sizes.getD j 0)) = false) (fun i => n - (intOf i).toNat)
    case atStart => exact ⟨0, Nat.zero_le _, rfl, fun _ h => absurd h (by omega)⟩
    case round =>
      obtain ⟨k, hk, rfl, hall⟩ := hrel
      have Hall := hid_ hall
      clear hall
      by_cases hlt : k < n
      · obtain ⟨b, off, rfl, -, hc⟩ := H1.out.cells k hlt
        have hhi := HHi.out k hlt
        have hy := fun hx => lt_snoc (p := fun j => (!okSize (P.sizes.getD j 0)) = false) Hall.out hx
        have hok : okSize (P.sizes.getD k 0) = (decide (2 ≤ P.sizes.getD k 0) && decide (P.sizes.getD k 0 ≤ 3)) := rfl
        generalize P.sizes.getD k 0 = x at *
        by_cases g0 : x < 2
        · have Hf : Hid (validP P = 1) := hid_ (by rw [HV2.out, hhi (by rw [hok, decide_eq_false (show ¬ 2 ≤ x by omega)]; rfl)]; rfl)
          clear hhi hy hok
          go_wp2
          go_ret
          exact ⟨retI Hf.out, Hc1.out⟩
        · by_cases g1 : 3 < x
          · have Hf : Hid (validP P = 1) := hid_ (by rw [HV2.out, hhi (by rw [hok, decide_eq_false (show ¬ x ≤ 3 by omega)]; simp)]; rfl)
            clear hhi hy hok
            go_wp2
            go_ret
            exact ⟨retI Hf.out, Hc1.out⟩
          · have Hf := hid_ (hy (by rw [hok, decide_eq_true (show 2 ≤ x by omega), decide_eq_true (show x ≤ 3 by omega)]; rfl))
            clear hhi hy hok
            go_wp2
            go_round
            case rel => exact ⟨k + 1, by omega, by go_num, Hf.out⟩
            case measure => simp [intOf]; omega
      · obtain rfl : n = k := by omega
        have Hs := hid_ (HNo.out Hall.out)
        have HV3 : Hid (validP P = if 10 < n2 then 3 else if P.ents.any (badEnt P.sizes) then 1 else 0) := hid_ (by rw [HV2.out, Hs.out]; rfl)
        by_cases h10 : 10 < n2
        · have Hf : Hid (validP P = 3) := hid_ (by rw [HV3.out, if_pos h10])
          have h10' : 10 < (n2 : Int) := by omega
          clear h10
          go_wp2
          go_ret
          exact ⟨retI Hf.out, Hc1.out⟩
        · have HV4 : Hid (validP P = if P.ents.any (badEnt P.sizes) then 1 else 0) := hid_ (by rw [HV3.out, if_neg h10])
          have h10' : ¬ 10 < (n2 : Int) := by omega
          clear h10
          go_wp2
          go_loopw [38] (fun i wr => ∃ k : Nat, k ≤ n2 ∧ i = .int .i64 k ∧ Below w1.heap.size w1 wr ∧ ∀ j, j < k → badEnt P.sizes (P.ents.getD j E0) = false) (fun i _ => n2 - (intOf i).toNat)
          case atStart => exact ⟨0, Nat.zero_le _, rfl, Below.refl _ _, fun _ h => absurd h (by omega)⟩
          case round =>
            obtain ⟨k, hk, rfl, hb, hall⟩ := hrel
            have Hall := hid_ hall
            clear hall
            by_cases hlt : k < n2
            · obtain ⟨b, off, a3, n3, c3, rfl, -, k0, k1, hi⟩ := (H2.out.below hb (Nat.le_refl _)).cells k hlt
              have hhi := HHi2.out k hlt
              have hy := fun hx => lt_snoc (p := fun j => badEnt P.sizes (P.ents.getD j E0) = false) Hall.out hx
              have hbe : badEnt P.sizes (P.ents.getD k E0) = (!specB P.sizes (P.ents.getD k E0).spec (-1) || !Within (P.ents.getD k E0).form 0 9) := rfl
              have q0r := cell_below q0 hb; have q1r := cell_below q1 hb
              generalize P.ents.getD k E0 = e0 at *
              obtain ⟨sp, fm⟩ := e0
              simp only at k1 hi hbe
              obtain ⟨wb, hwb⟩ : ∃ wb, wr.alloc (.cells #[.slice a3 n3 c3, .int .i64 fm] 56) = wb := ⟨_, rfl⟩
              have hcb : Below wr.heap.size wr wb := by rw [← hwb]; exact below_alloc _ _
              have u0 : wb.cell? ⟨wr.heap.size, 0, none⟩ = some (.slice a3 n3 c3) := by rw [← hwb]; exact cells_alloc _ _ _ 0
              have u1 : wb.cell? ⟨wr.heap.size, 1, none⟩ = some (.int .i64 fm) := by rw [← hwb]; exact cells_alloc _ _ _ 1
              have q0b := cell_below q0r hcb
              have HA := hid_ (areValues_calls a n c P.sizes a3 n3 c3 sp (-1) wb ((H1.out.below hb (Nat.le_refl _)).below hcb (Nat.le_refl _)) (hi.below hcb (Nat.le_refl _)))
              have HF := hid_ (isForm_calls fm wb)
              have Hb := hid_ (hb.trans (hcb.mono hb.size))
              clear hb hi hcb
              cases hsp : specB P.sizes sp (-1) with
              | false =>
                rw [hsp] at HA hbe
                have Hf : Hid (validP P = 1) := hid_ (by rw [HV4.out, hhi (by rw [hbe]; rfl)]; rfl)
                clear hhi hy hbe hsp
                go_wp2_with (go_at_call 71; (with_reducible refine HA.out.mono ?_); rintro e w5 ⟨rfl, rfl⟩)
                go_ret
                exact ⟨retI Hf.out, Hc1.out.trans (Hb.out.mono Hc1.out.size)⟩
              | true =>
                rw [hsp] at HA hbe
                cases hfm : Within fm 0 9 with
                | false =>
                  rw [hfm] at HF hbe
                  have Hf : Hid (validP P = 1) := hid_ (by rw [HV4.out, hhi (by rw [hbe]; rfl)]; rfl)
                  clear hhi hy hbe hsp hfm
                  go_wp2_with (first
                    | (go_at_call 71; (with_reducible refine HA.out.mono ?_); rintro e w5 ⟨rfl, rfl⟩)
                    | (go_at_call 72; (with_reducible refine HF.out.mono ?_); rintro e w5 ⟨rfl, rfl⟩))
                  go_ret
                  exact ⟨retI Hf.out, Hc1.out.trans (Hb.out.mono Hc1.out.size)⟩
                | true =>
                  rw [hfm] at HF hbe
                  have Hf := hid_ (hy (by rw [hbe]; rfl))
                  clear hhi hy hbe hsp hfm
                  go_wp2_with (first
                    | (go_at_call 71; (with_reducible refine HA.out.mono ?_); rintro e w5 ⟨rfl, rfl⟩)
                    | (go_at_call 72; (with_reducible refine HF.out.mono ?_); rintro e w5 ⟨rfl, rfl⟩))
                  go_roundw
                  case rel => exact ⟨k + 1, by omega, by go_num, Hb.out, Hf.out⟩
                  case measure => simp [intOf]; omega
            · obtain rfl : n2 = k := by omega
              have Hf : Hid (validP P = 0) := hid_ (by rw [HV4.out, HNo2.out Hall.out]; rfl)
              go_wp2
              go_ret
              exact ⟨retI Hf.out, Hc1.out.trans (hb.mono Hc1.out.size)⟩
end Go.Proofs.Ytahknodnjjmagaa
