import Derived.Test.YtdnlpikfibdjoaaZa
namespace Go.Proofs.Ytdnlpikfibdjoaa
open Go.RowKit Go.Proofs.Kv

/-! ### Validate -/
theorem any_no {α : Type} {l : List α} {p : α → Bool} {n : Nat} (d : α) (hn : l.length = n) (h : ∀ j, j < n → p (l.getD j d) = false) : l.any p = false := by
  rw [List.any_eq_false]
  intro x hx
  obtain ⟨i, hi, rfl⟩ := List.mem_iff_getElem.1 hx
  have := h i (by omega)
  rw [show l.getD i d = l[i] by simp [List.getD, List.getElem?_eq_getElem hi]] at this
  rw [this]; simp
theorem any_hit {α : Type} {l : List α} {p : α → Bool} {k : Nat} (d : α) (hk : k < l.length) (h : p (l.getD k d) = true) : l.any p = true := by
  rw [List.any_eq_true]
  refine ⟨l[k], List.getElem_mem hk, ?_⟩
  rw [show l.getD k d = l[k] by simp [List.getD, List.getElem?_eq_getElem hk]] at h
  exact h
theorem EntsAt.at_ {w : World} {a : Option Addr} {n c : Nat} {L : List Ent} (h : EntsAt w a n c L) {i : Nat} (hi : i < n) :
    ∃ b off a1 n1 c1, a = some ⟨b, off, none⟩ ∧ b < w.heap.size ∧ w.cell? ⟨b, off + i * 2, none⟩ = some (.slice a1 n1 c1) ∧ w.cell? ⟨b, off + i * 2 + 1, none⟩ = some (.int .i64 (L.getD i E0).form) ∧ IntsAt w a1 n1 c1 (L.getD i E0).spec := h.cells i hi
set_option maxRecDepth 100000 in
set_option maxHeartbeats 4000000 in
theorem ceValidate_calls (v : Value) (P : Par) (w : World) (h : ParAt w v P) :
    Calls Try.prog 52 #[v] w fun e w' => e = .returned (.int .i64 (validP P)) ∧ Below w.heap.size w w' := by
  obtain ⟨a, n, c, a2, n2, c2, rfl, h1, h2⟩ := h
  have hn : n ≤ 9223372036854775807 := Nat.le_trans h1.le h1.small
  have hn2 : n2 ≤ 9223372036854775807 := Nat.le_trans h2.le h2.small
  have HV : Hid (validP P = if n < 1 ∨ 3 < n then 1 else if P.sizes.any (fun x => !okSize x) then 1 else if 10 < n2 then 3 else if P.ents.any (badEnt P.sizes) then 1 else 0) := hid_ (by rw [validP, h1.len, h2.len])
  obtain ⟨w1, hw1⟩ : ∃ w1, w.alloc (.cells #[.slice a n c, .slice a2 n2 c2] 25) = w1 := ⟨_, rfl⟩
  have c1 : Below w.heap.size w w1 := by rw [← hw1]; exact below_alloc _ _
  have q0 : w1.cell? ⟨w.heap.size, 0, none⟩ = some (.slice a n c) := by rw [← hw1]; exact cells_alloc _ _ _ 0
  have q1 : w1.cell? ⟨w.heap.size, 1, none⟩ = some (.slice a2 n2 c2) := by rw [← hw1]; exact cells_alloc _ _ _ 1
  by_cases hb : n < 1 ∨ 3 < n
  · have Hf : Hid (validP P = 1) := hid_ (by rw [HV.out, if_pos hb])
    by_cases h0 : n < 1
    · obtain rfl : n = 0 := by omega
      clear hb h1 h2
      go_enter Try.func52, Try.ntmps52
      go_wp2
      go_ret
      exact ⟨retI Hf.out, c1⟩
    · have h3 : ¬ (n : Int) < 1 := by omega
      have h4 : 3 < (n : Int) := by omega
      clear hb h0 h1 h2
      go_enter Try.func52, Try.ntmps52
      go_wp2
      go_ret
      exact ⟨retI Hf.out, c1⟩
  · have HV2 : Hid (validP P = if P.sizes.any (fun x => !okSize x) then 1 else if 10 < n2 then 3 else if P.ents.any (badEnt P.sizes) then 1 else 0) := hid_ (by rw [HV.out, if_neg hb])
    have h3 : ¬ (n : Int) < 1 := by omega
    have h4 : ¬ 3 < (n : Int) := by omega
    have H1 := hid_ (h1.below c1 (Nat.le_refl _)); have H2 := hid_ (h2.below c1 (Nat.le_refl _)); have Hc1 := hid_ c1
    have HNo := hid_ (fun hall => any_no (p := fun x => !okSize x) (0 : Int) h1.len hall)
    have HHi := hid_ (fun k (hk : k < n) hh => any_hit (p := fun x => !okSize x) (k := k) (0 : Int) (by rw [h1.len]; exact hk) hh)
    have HNo2 := hid_ (fun hall => any_no (p := badEnt P.sizes) E0 h2.len hall)
    have HHi2 := hid_ (fun k (hk : k < n2) hh => any_hit (p := badEnt P.sizes) (k := k) E0 (by rw [h2.len]; exact hk) hh)
    clear hb h1 h2 c1
    go_enter Try.func52, Try.ntmps52
    go_wp2
    go_loop [20] (fun i => ∃ k : Nat, k ≤ n ∧ i = .int .i64 k ∧ ∀ j, j < k → (!okSize (P.sizes.getD j 0)) = false) (fun i => n - (intOf i).toNat)
    case atStart => exact ⟨0, Nat.zero_le _, rfl, fun _ h => absurd h (by omega)⟩
    case round =>
      obtain ⟨k, hk, rfl, hall⟩ := hrel
      have Hall := hid_ hall
      clear hall
      by_cases hlt : k < n
      · obtain ⟨b, off, rfl, -, hc⟩ := H1.out.cells k hlt
        have hhi := HHi.out k hlt
        have hy := fun hx => lt_snoc (p := fun j => (!okSize (P.sizes.getD j 0)) = false) Hall.out hx
        have hok : okSize (P.sizes.getD k 0) = (decide (2 ≤ P.sizes.getD k 0) && decide (P.sizes.getD k 0 ≤ 3)) := rfl
        generalize P.sizes.getD k 0 = x at *
        by_cases g0 : x < 2
        · have Hf : Hid (validP P = 1) := hid_ (by rw [HV2.out, hhi (by rw [hok, decide_eq_false (show ¬ 2 ≤ x by omega)]; rfl)]; rfl)
          clear hhi hy hok
          go_wp2
          go_ret
          exact ⟨retI Hf.out, Hc1.out⟩
        · by_cases g1 : 3 < x
          · have Hf : Hid (validP P = 1) := hid_ (by rw [HV2.out, hhi (by rw [hok, decide_eq_false (show ¬ x ≤ 3 by omega)]; simp)]; rfl)
            clear hhi hy hok
            go_wp2
            go_ret
            exact ⟨retI Hf.out, Hc1.out⟩
          · have Hf := hid_ (hy (by rw [hok, decide_eq_true (show 2 ≤ x by omega), decide_eq_true (show x ≤ 3 by omega)]; rfl))
            clear hhi hy hok
            go_wp2
            go_round
            case rel => exact ⟨k + 1, by omega, by go_num, Hf.out⟩
            case measure => simp [intOf]; omega
      · obtain rfl : n = k := by omega
        have Hs := hid_ (HNo.out Hall.out)
        have HV3 : Hid (validP P = if 10 < n2 then 3 else if P.ents.any (badEnt P.sizes) then 1 else 0) := hid_ (by rw [HV2.out, Hs.out]; rfl)
        by_cases h10 : 10 < n2
        · have Hf : Hid (validP P = 3) := hid_ (by rw [HV3.out, if_pos h10])
          have h10' : 10 < (n2 : Int) := by omega
          clear h10
          go_wp2
          go_ret
          exact ⟨retI Hf.out, Hc1.out⟩
        · have HV4 : Hid (validP P = if P.ents.any (badEnt P.sizes) then 1 else 0) := hid_ (by rw [HV3.out, if_neg h10])
          have h10' : ¬ 10 < (n2 : Int) := by omega
          clear h10
          go_wp2
          go_loopw [38] (fun i wr => ∃ k : Nat, k ≤ n2 ∧ i = .int .i64 k ∧ Below w1.heap.size w1 wr ∧ ∀ j, j < k → badEnt P.sizes (P.ents.getD j E0) = false) (fun i _ => n2 - (intOf i).toNat)
          case atStart => exact ⟨0, Nat.zero_le _, rfl, Below.refl _ _, fun _ h => absurd h (by omega)⟩
          case round =>
            obtain ⟨k, hk, rfl, hb, hall⟩ := hrel
            have Hall := hid_ hall
            clear hall
            by_cases hlt : k < n2
            · obtain ⟨b, off, a3, n3, c3, rfl, -, k0, k1, hi⟩ := (H2.out.below hb (Nat.le_refl _)).cells k hlt
              have hhi := HHi2.out k hlt
              have hy := fun hx => lt_snoc (p := fun j => badEnt P.sizes (P.ents.getD j E0) = false) Hall.out hx
              have hbe : badEnt P.sizes (P.ents.getD k E0) = (!specB P.sizes (P.ents.getD k E0).spec (-1) || !Within (P.ents.getD k E0).form 0 9) := rfl
              have q0r := cell_below q0 hb; have q1r := cell_below q1 hb
              generalize P.ents.getD k E0 = e0 at *
              obtain ⟨sp, fm⟩ := e0
              simp only at k1 hi hbe
              obtain ⟨wb, hwb⟩ : ∃ wb, wr.alloc (.cells #[.slice a3 n3 c3, .int .i64 fm] 39) = wb := ⟨_, rfl⟩
              have hcb : Below wr.heap.size wr wb := by rw [← hwb]; exact below_alloc _ _
              have u0 : wb.cell? ⟨wr.heap.size, 0, none⟩ = some (.slice a3 n3 c3) := by rw [← hwb]; exact cells_alloc _ _ _ 0
              have u1 : wb.cell? ⟨wr.heap.size, 1, none⟩ = some (.int .i64 fm) := by rw [← hwb]; exact cells_alloc _ _ _ 1
              have q0b := cell_below q0r hcb
              have HA := hid_ (areValues_calls a n c P.sizes a3 n3 c3 sp (-1) wb ((H1.out.below hb (Nat.le_refl _)).below hcb (Nat.le_refl _)) (hi.below hcb (Nat.le_refl _)))
              have HF := hid_ (isForm_calls fm wb)
              have Hb := hid_ (hb.trans (hcb.mono hb.size))
              clear hb hi hcb
              cases hsp : specB P.sizes sp (-1) with
              | false =>
                rw [hsp] at HA hbe
                have Hf : Hid (validP P = 1) := hid_ (by rw [HV4.out, hhi (by rw [hbe]; rfl)]; rfl)
                clear hhi hy hbe hsp
                go_wp2_with (go_at_call 104; (with_reducible refine HA.out.mono ?_); rintro e w5 ⟨rfl, rfl⟩)
                go_ret
                exact ⟨retI Hf.out, Hc1.out.trans (Hb.out.mono Hc1.out.size)⟩
              | true =>
                rw [hsp] at HA hbe
                cases hfm : Within fm 0 9 with
                | false =>
                  rw [hfm] at HF hbe
                  have Hf : Hid (validP P = 1) := hid_ (by rw [HV4.out, hhi (by rw [hbe]; rfl)]; rfl)
                  clear hhi hy hbe hsp hfm
                  go_wp2_with (first
                    | (go_at_call 104; (with_reducible refine HA.out.mono ?_); rintro e w5 ⟨rfl, rfl⟩)
                    | (go_at_call 82; (with_reducible refine HF.out.mono ?_); rintro e w5 ⟨rfl, rfl⟩))
                  go_ret
                  exact ⟨retI Hf.out, Hc1.out.trans (Hb.out.mono Hc1.out.size)⟩
                | true =>
                  rw [hfm] at HF hbe
                  have Hf := hid_ (hy (by rw [hbe]; rfl))
                  clear hhi hy hbe hsp hfm
                  go_wp2_with (first
                    | (go_at_call 104; (with_reducible refine HA.out.mono ?_); rintro e w5 ⟨rfl, rfl⟩)
                    | (go_at_call 82; (with_reducible refine HF.out.mono ?_); rintro e w5 ⟨rfl, rfl⟩))
                  go_roundw
                  case rel => exact ⟨k + 1, by omega, by go_num, Hb.out, Hf.out⟩
                  case measure => simp [intOf]; omega
            · obtain rfl : n2 = k := by omega
              have Hf : Hid (validP P = 0) := hid_ (by rw [HV4.out, HNo2.out Hall.out]; rfl)
              go_wp2
              go_ret
              exact ⟨retI Hf.out, Hc1.out.trans (hb.mono Hc1.out.size)⟩
end Go.Proofs.Ytdnlpikfibdjoaa
namespace Go.Proofs.Ytdnlpikfibdjoaa
open Go.RowKit Go.Proofs.Kv

theorem cell_regrown {w : World} {p : Addr} {v : Value} (h : w.cell? p = some v) : ∀ d os, (Go.Sort.grow (redrawn w d) os).cell? p = some v := fun d os => cell_below h (below_regrown w d os)
theorem wi_no {n : Nat} (h : n < 1 ∨ 3 < n) : Within (n : Int) 1 3 = false := by
  rcases h with h | h
  · show (decide _ && decide _) = false
    rw [decide_eq_false (show ¬ (1 : Int) ≤ n by omega)]; rfl
  · show (decide _ && decide _) = false
    rw [decide_eq_false (show ¬ (n : Int) ≤ 3 by omega), Bool.and_false]
theorem wi_yes {n : Nat} (h : ¬ (n < 1 ∨ 3 < n)) : Within (n : Int) 1 3 = true := by
  show (decide _ && decide _) = true
  rw [decide_eq_true (show (1 : Int) ≤ n by omega), decide_eq_true (show (n : Int) ≤ 3 by omega)]; rfl
set_option maxRecDepth 100000 in
set_option maxHeartbeats 4000000 in
theorem r6Validate_calls (v : Value) (P : Par) (w : World) (h : ParAt w v P) :
    Calls Try.prog 54 #[v] w fun e w' => e = .returned (.int .i64 (validP P)) ∧ Below w.heap.size w w' := by
  obtain ⟨a, n, c, a2, n2, c2, rfl, h1, h2⟩ := h
  have hn : n ≤ 9223372036854775807 := Nat.le_trans h1.le h1.small
  have hn2 : n2 ≤ 9223372036854775807 := Nat.le_trans h2.le h2.small
  have HV : Hid (validP P = if n < 1 ∨ 3 < n then 1 else if P.sizes.any (fun x => !okSize x) then 1 else if 10 < n2 then 3 else if P.ents.any (badEnt P.sizes) then 1 else 0) := hid_ (by rw [validP, h1.len, h2.len])
  obtain ⟨w1, hw1⟩ : ∃ w1, w.alloc (.cells #[.slice a n c, .slice a2 n2 c2] 25) = w1 := ⟨_, rfl⟩
  have c1 : Below w.heap.size w w1 := by rw [← hw1]; exact below_alloc _ _
  have q0 : w1.cell? ⟨w.heap.size, 0, none⟩ = some (.slice a n c) := by rw [← hw1]; exact cells_alloc _ _ _ 0
  have q1 : w1.cell? ⟨w.heap.size, 1, none⟩ = some (.slice a2 n2 c2) := by rw [← hw1]; exact cells_alloc _ _ _ 1
  have HW := hid_ (fun x lo hi W => within6_calls x lo hi W)
  have HL0 := HW.out n 1 3 w1
  have H1 := hid_ (h1.below c1 (Nat.le_refl _)); have H2 := hid_ (h2.below c1 (Nat.le_refl _)); have Hc1 := hid_ c1
  by_cases hb : n < 1 ∨ 3 < n
  · have Hf : Hid (validP P = 1) := hid_ (by rw [HV.out, if_pos hb])
    rw [show Within (n : Int) 1 3 = false from wi_no hb] at HL0
    have HL := hid_ HL0
    clear hb h1 h2 HL0
    go_enter Try.func54, Try.ntmps54
    go_wp2_with (go_at_call 105; (with_reducible refine HL.out.mono ?_); rintro e w5 ⟨rfl, rfl⟩)
    go_ret
    exact ⟨retI Hf.out, c1⟩
  · have HV2 : Hid (validP P = if P.sizes.any (fun x => !okSize x) then 1 else if 10 < n2 then 3 else if P.ents.any (badEnt P.sizes) then 1 else 0) := hid_ (by rw [HV.out, if_neg hb])
    rw [show Within (n : Int) 1 3 = true from wi_yes hb] at HL0
    have HL := hid_ HL0
    have HNo := hid_ (fun hall => any_no (p := fun x => !okSize x) (0 : Int) h1.len hall)
    have HHi := hid_ (fun k (hk : k < n) hh => any_hit (p := fun x => !okSize x) (k := k) (0 : Int) (by rw [h1.len]; exact hk) hh)
    have HNo2 := hid_ (fun hall => any_no (p := badEnt P.sizes) E0 h2.len hall)
    have HHi2 := hid_ (fun k (hk : k < n2) hh => any_hit (p := badEnt P.sizes) (k := k) E0 (by rw [h2.len]; exact hk) hh)
    clear hb h1 h2 c1 HL0
    go_enter Try.func54, Try.ntmps54
    go_wp2_with (go_at_call 105; (with_reducible refine HL.out.mono ?_); rintro e w5 ⟨rfl, rfl⟩)
    go_loop [3] (fun i => ∃ k : Nat, k ≤ n ∧ i = .int .i64 k ∧ ∀ j, j < k → (!okSize (P.sizes.getD j 0)) = false) (fun i => n - (intOf i).toNat)
    case atStart => exact ⟨0, Nat.zero_le _, rfl, fun _ h => absurd h (by omega)⟩
    case round =>
      obtain ⟨k, hk, rfl, hall⟩ := hrel
      have Hall := hid_ hall
      clear hall
      by_cases hlt : k < n
      · obtain ⟨b, off, rfl, -, hc⟩ := H1.out.cells k hlt
        have hhi := HHi.out k hlt
        have hy := fun hx => lt_snoc (p := fun j => (!okSize (P.sizes.getD j 0)) = false) Hall.out hx
        have hok : okSize (P.sizes.getD k 0) = Within (P.sizes.getD k 0) 2 3 := rfl
        generalize P.sizes.getD k 0 = x at *
        have HX := hid_ (fun W => HW.out x 2 3 W)
        cases hx : Within x 2 3 with
        | false =>
          rw [hx] at HX
          have Hf : Hid (validP P = 1) := hid_ (by rw [HV2.out, hhi (by rw [hok, hx]; rfl)]; rfl)
          clear hhi hy hok hx
          go_wp2_with (go_at_call 105; (with_reducible refine (HX.out _).mono ?_); rintro e w5 ⟨rfl, rfl⟩)
          go_ret
          exact ⟨retI Hf.out, Hc1.out⟩
        | true =>
          rw [hx] at HX
          have Hf := hid_ (hy (by rw [hok, hx]; rfl))
          clear hhi hy hok hx
          go_wp2_with (go_at_call 105; (with_reducible refine (HX.out _).mono ?_); rintro e w5 ⟨rfl, rfl⟩)
          go_round
          case rel => exact ⟨k + 1, by omega, by go_num, Hf.out⟩
          case measure => simp [intOf]; omega
      · obtain rfl : n = k := by omega
        have Hs := hid_ (HNo.out Hall.out)
        have HV3 : Hid (validP P = if 10 < n2 then 3 else if P.ents.any (badEnt P.sizes) then 1 else 0) := hid_ (by rw [HV2.out, Hs.out]; rfl)
        by_cases h10 : 10 < n2
        · have Hf : Hid (validP P = 3) := hid_ (by rw [HV3.out, if_pos h10])
          have h10' : 10 < (n2 : Int) := by omega
          clear h10
          go_wp2
          go_ret
          exact ⟨retI Hf.out, Hc1.out⟩
        · have HV4 : Hid (validP P = if P.ents.any (badEnt P.sizes) then 1 else 0) := hid_ (by rw [HV3.out, if_neg h10])
          have h10' : ¬ 10 < (n2 : Int) := by omega
          clear h10
          go_wp2
          go_loopw [4] (fun i wr => ∃ k : Nat, k ≤ n2 ∧ i = .int .i64 k ∧ Below w1.heap.size w1 wr ∧ ∀ j, j < k → badEnt P.sizes (P.ents.getD j E0) = false) (fun i _ => n2 - (intOf i).toNat)
          case atStart => exact ⟨0, Nat.zero_le _, rfl, Below.refl _ _, fun _ h => absurd h (by omega)⟩
          case round =>
            obtain ⟨k, hk, rfl, hb, hall⟩ := hrel
            have Hall := hid_ hall
            have q0r := cell_below q0 hb; have q1r := cell_below q1 hb
            clear hall
            by_cases hlt : k < n2
            · obtain ⟨b, off, a3, n3, c3, rfl, -, k0, k1, hi⟩ := (H2.out.below hb (Nat.le_refl _)).cells k hlt
              have hhi := HHi2.out k hlt
              have hy := fun hx => lt_snoc (p := fun j => badEnt P.sizes (P.ents.getD j E0) = false) Hall.out hx
              have hbe : badEnt P.sizes (P.ents.getD k E0) = (!specB P.sizes (P.ents.getD k E0).spec (-1) || !Within (P.ents.getD k E0).form 0 9) := rfl
              generalize P.ents.getD k E0 = e0 at *
              obtain ⟨sp, fm⟩ := e0
              simp only at k1 hi hbe
              have HP : Hid (ParAt wr (.agg #[.slice a n c, .slice (some ⟨b, off, none⟩) n2 c2]) P) := hid_ ⟨a, n, c, _, n2, c2, rfl, H1.out.below hb (Nat.le_refl _), H2.out.below hb (Nat.le_refl _)⟩
              have Hi := hid_ hi
              have HA := hid_ (fun d os => isSpec_calls _ P a3 n3 c3 sp (-1) _ (HP.out.below (below_regrown wr d os) (Nat.le_refl _)) (Hi.out.grown d os) Hs.out)
              have HF := hid_ (fun d os => grow_same (within6_calls fm 0 9 (Go.Sort.grow (redrawn wr d) os)))
              have Hb := hid_ hb
              clear hb hi q0 q1 HL
              have e0 := cell_regrown q0r; have e1 := cell_regrown q1r; have e2 := cell_regrown k0; have e3 := cell_regrown k1
              cases hsp : specB P.sizes sp (-1) with
              | false =>
                rw [hsp] at HA hbe
                have Hf : Hid (validP P = 1) := hid_ (by rw [HV4.out, hhi (by rw [hbe]; rfl)]; rfl)
                clear hhi hy hbe hsp
                go_wp2_with fail
                refine wp_region_quiet_below (by kernel_rfl) (by kernel_rfl) ?_
                repeat (first
                  | go_big_quiet_skip
                  | (go_big_quiet_want; go_big_quiet_op; first | go_big_quiet_on | go_big_quiet_call ((first
                    | (go_at_call 106; with_reducible exact Calls.regrown_of (HA.out _ _))
                    | (go_at_call 105; with_reducible exact Calls.regrown_of (HF.out _ _)))))) 
                refine wpQuiet_nil ?_
                rintro wq ⟨pq, hpq⟩
                have hbq := below_wq hpq; clear hpq
                go_wp2
                go_ret
                exact ⟨retI Hf.out, Hc1.out.trans ((Hb.out.trans (hbq.mono Hb.out.size)).mono Hc1.out.size)⟩
              | true =>
                rw [hsp] at HA hbe
                cases hfm : Within fm 0 9 with
                | false =>
                  rw [hfm] at HF hbe
                  have Hf : Hid (validP P = 1) := hid_ (by rw [HV4.out, hhi (by rw [hbe]; rfl)]; rfl)
                  clear hhi hy hbe hsp hfm
                  go_wp2_with fail
                  refine wp_region_quiet_below (by kernel_rfl) (by kernel_rfl) ?_
                  repeat (first
                    | go_big_quiet_skip
                    | (go_big_quiet_want; go_big_quiet_op; first | go_big_quiet_on | go_big_quiet_call ((first
                      | (go_at_call 106; with_reducible exact Calls.regrown_of (HA.out _ _))
                      | (go_at_call 105; with_reducible exact Calls.regrown_of (HF.out _ _)))))) 
                  refine wpQuiet_nil ?_
                  rintro wq ⟨pq, hpq⟩
                  have hbq := below_wq hpq; clear hpq
                  go_wp2
                  go_ret
                  exact ⟨retI Hf.out, Hc1.out.trans ((Hb.out.trans (hbq.mono Hb.out.size)).mono Hc1.out.size)⟩
                | true =>
                  rw [hfm] at HF hbe
                  have Hf := hid_ (hy (by rw [hbe]; rfl))
                  clear hhi hy hbe hsp hfm
                  go_wp2_with fail
                  refine wp_region_quiet_below (by kernel_rfl) (by kernel_rfl) ?_
                  repeat (first
                    | go_big_quiet_skip
                    | (go_big_quiet_want; go_big_quiet_op; first | go_big_quiet_on | go_big_quiet_call ((first
                      | (go_at_call 106; with_reducible exact Calls.regrown_of (HA.out _ _))
                      | (go_at_call 105; with_reducible exact Calls.regrown_of (HF.out _ _)))))) 
                  refine wpQuiet_nil ?_
                  rintro wq ⟨pq, hpq⟩
                  have hbq := below_wq hpq; clear hpq
                  go_wp2
                  go_roundw
                  case rel => exact ⟨k + 1, by omega, by go_num, Hb.out.trans (hbq.mono Hb.out.size), Hf.out⟩
                  case measure => simp [intOf]; omega
            · obtain rfl : n2 = k := by omega
              have Hf : Hid (validP P = 0) := hid_ (by rw [HV4.out, HNo2.out Hall.out]; rfl)
              go_wp2
              go_ret
              exact ⟨retI Hf.out, Hc1.out.trans (hb.mono Hc1.out.size)⟩
end Go.Proofs.Ytdnlpikfibdjoaa
namespace Go.Proofs.Ytdnlpikfibdjoaa
open Go.RowKit Go.Proofs.Kv

/-! ### a spec holds for a cell (or for all cells of a spec) -/
def hB (sp c : List Int) : Bool := (List.range sp.length).all fun i => decide (sp.getD i 0 = -1) || decide (sp.getD i 0 = c.getD i 0)
theorem hB_no {sp c : List Int} {k : Nat} (hk : k < sp.length) (h : (decide (sp.getD k 0 = -1) || decide (sp.getD k 0 = c.getD k 0)) = false) : hB sp c = false := by
  rw [hB]
  exact List.all_eq_false.2 ⟨k, List.mem_range.2 hk, by rw [h]; simp⟩
theorem hB_yes {sp c : List Int} {n : Nat} (hn : sp.length = n) (h : ∀ j, j < n → (decide (sp.getD j 0 = -1) || decide (sp.getD j 0 = c.getD j 0)) = true) : hB sp c = true := by
  rw [hB, hn]
  exact List.all_eq_true.2 fun i hi => h i (List.mem_range.1 hi)
set_option maxRecDepth 100000 in
set_option maxHeartbeats 2000000 in
theorem ceWithin_calls (a : Option Addr) (n c : Nat) (l : List Int) (a' : Option Addr) (n' c' : Nat) (m : List Int) (w : World) (h : IntsAt w a n c l) (h' : IntsAt w a' n' c' m) (hle : n' ≤ n) :
    Calls Try.prog 120 #[.slice a n c, .slice a' n' c', .int .i64 (-1)] w fun e w' => e = .returned (.bool (hB m l)) ∧ w = w' := by
  have hn : n ≤ 9223372036854775807 := Nat.le_trans h.le h.small
  have HY := hid_ (@hB_yes m l n' h'.len)
  have HN := hid_ (fun k (hk : k < n') => @hB_no m l k (by rw [h'.len]; exact hk))
  go_enter Try.func120, Try.ntmps120
  go_wp2
  go_loop [11] (fun i => ∃ k : Nat, k ≤ n' ∧ i = .int .i64 k ∧ ∀ j, j < k → (decide (m.getD j 0 = -1) || decide (m.getD j 0 = l.getD j 0)) = true) (fun i => n' - (intOf i).toNat)
  case atStart => exact ⟨0, Nat.zero_le _, rfl, fun _ h => absurd h (by omega)⟩
  case round =>
    obtain ⟨k, hk, rfl, hall⟩ := hrel
    have Hall := hid_ hall
    clear hall
    by_cases hlt : k < n'
    · obtain ⟨b, off, rfl, -, hc⟩ := h'.cells k hlt
      obtain ⟨b2, off2, rfl, -, hc2⟩ := h.cells k (by omega)
      have hkn : k < n := by omega
      have hno := HN.out k hlt
      have hy := fun hx => lt_snoc (p := fun j => (decide (m.getD j 0 = -1) || decide (m.getD j 0 = l.getD j 0)) = true) Hall.out hx
      generalize m.getD k 0 = x at *
      generalize l.getD k 0 = y at *
      by_cases h0 : x = -1
      · have Hf := hid_ (hy (by rw [decide_eq_true h0]; rfl))
        clear hy hno
        subst h0
        go_wp2
        go_round
        case rel => exact ⟨k + 1, by omega, by go_num, Hf.out⟩
        case measure => simp [intOf]; omega
      · by_cases h1 : x = y
        · have Hf := hid_ (hy (by rw [decide_eq_true h1, Bool.or_true]))
          clear hy hno
          subst h1
          go_wp2
          go_round
          case rel => exact ⟨k + 1, by omega, by go_num, Hf.out⟩
          case measure => simp [intOf]; omega
        · have Hf := hid_ (hno (by rw [decide_eq_false h0, decide_eq_false h1]; rfl))
          have b0 : (x != -1) = true := by simpa using h0
          have b1 : (x != y) = true := by simpa using h1
          clear hy hno h0 h1
          go_wp2
          go_ret
          exact ⟨retB Hf.out, rfl⟩
    · obtain rfl : n' = k := by omega
      have Hf := hid_ (HY.out Hall.out)
      go_wp2
      go_ret
      exact ⟨retB Hf.out, rfl⟩
set_option maxRecDepth 100000 in
set_option maxHeartbeats 2000000 in
theorem holds_calls (a : Option Addr) (n c : Nat) (l : List Int) (a' : Option Addr) (n' c' : Nat) (m : List Int) (w : World) (h : IntsAt w a n c l) (h' : IntsAt w a' n' c' m) (hle : n' ≤ n) (hge : ∀ j, j < n' → -1 ≤ m.getD j 0) :
    Calls Try.prog 145 #[.slice a' n' c', .slice a n c] w fun e w' => e = .returned (.bool (hB m l)) ∧ ∃ q, w' = w.drewN q := by
  have hn : n ≤ 9223372036854775807 := Nat.le_trans h.le h.small
  have HY := hid_ (@hB_yes m l n' h'.len)
  have HN := hid_ (fun k (hk : k < n') => @hB_no m l k (by rw [h'.len]; exact hk))
  have HG := hid_ hge
  clear hge
  go_enter Try.func145, Try.ntmps145
  go_wp2
  go_loopw [5] (fun i wr => ∃ k q : Nat, k ≤ n' ∧ i = .int .i64 k ∧ wr = w.drewN q ∧ ∀ j, j < k → (decide (m.getD j 0 = -1) || decide (m.getD j 0 = l.getD j 0)) = true) (fun i _ => n' - (intOf i).toNat)
  case atStart => exact ⟨0, 0, Nat.zero_le _, rfl, rfl, fun _ h => absurd h (by omega)⟩
  case round =>
    obtain ⟨k, q, hk, rfl, hq, hall⟩ := hrel
    have Hall := hid_ hall; have Hq := hid_ hq
    have HA := hid_ (show IntsAt wr a n c l by rw [hq]; exact h.drewN q)
    have HB := hid_ (show IntsAt wr a' n' c' m by rw [hq]; exact h'.drewN q)
    clear hall hq
    by_cases hlt : k < n'
    · obtain ⟨b, off, rfl, -, hc⟩ := HB.out.cells k hlt
      obtain ⟨b2, off2, rfl, -, hc2⟩ := HA.out.cells k (by omega)
      have hkn : k < n := by omega
      have hno := HN.out k hlt
      have hge := HG.out k hlt
      have hy := fun hx => lt_snoc (p := fun j => (decide (m.getD j 0 = -1) || decide (m.getD j 0 = l.getD j 0)) = true) Hall.out hx
      generalize m.getD k 0 = x at *
      generalize l.getD k 0 = y at *
      by_cases h0 : x = -1
      · have Hf := hid_ (hy (by rw [decide_eq_true h0]; rfl))
        clear hy hno hge
        subst h0
        go_wp2_with fail
        go_quiet (fail)
        go_wp2
        go_roundw
        case rel => exact ⟨k + 1, _, by omega, by go_num, by rw [Hq.out, drewN2], Hf.out⟩
        case measure => simp [intOf]; omega
      · have h0' : 0 ≤ x := by omega
        by_cases h1 : x = y
        · have Hf := hid_ (hy (by rw [decide_eq_true h1, Bool.or_true]))
          clear hy hno hge h0
          subst h1
          go_wp2_with fail
          go_quiet (fail)
          go_wp2
          go_roundw
          case rel => exact ⟨k + 1, _, by omega, by go_num, by rw [Hq.out, drewN2], Hf.out⟩
          case measure => simp [intOf]; omega
        · have Hf := hid_ (hno (by rw [decide_eq_false h0, decide_eq_false h1]; rfl))
          clear hy hno hge h0
          go_wp2_with fail
          go_quiet (fail)
          go_wp2
          go_ret
          exact ⟨retB Hf.out, _, by rw [Hq.out, drewN2]⟩
    · obtain rfl : n' = k := by omega
      have Hf := hid_ (HY.out Hall.out)
      go_wp2
      go_ret
      exact ⟨retB Hf.out, _, Hq.out⟩
end Go.Proofs.Ytdnlpikfibdjoaa
namespace Go.Proofs.Ytdnlpikfibdjoaa
open Go.RowKit Go.Proofs.Kv

/-! ### what a valid paradigm is -/
theorem specB_ok {sizes l : List Int} {lo : Int} (h : specB sizes l lo = true) : l.length = sizes.length ∧ ∀ j, j < l.length → lo ≤ l.getD j 0 ∧ l.getD j 0 ≤ sizes.getD j 0 - 1 := by
  rw [specB, Bool.and_eq_true] at h
  refine ⟨of_decide_eq_true h.1, fun j hj => ?_⟩
  have := List.all_eq_true.1 h.2 j (List.mem_range.2 hj)
  simpa [Within] using this
theorem ent_mem {L : List Ent} {i : Nat} (h : i < L.length) : L.getD i E0 ∈ L := by
  rw [show L.getD i E0 = L[i] by simp [List.getD, List.getElem?_eq_getElem h]]
  exact List.getElem_mem h
theorem validP_ok {P : Par} (h : validP P = 0) : (1 ≤ P.sizes.length ∧ P.sizes.length ≤ 3) ∧ P.sizes.any (fun x => !okSize x) = false ∧ P.ents.length ≤ 10 ∧ ∀ i, i < P.ents.length → specB P.sizes (P.ents.getD i E0).spec (-1) = true ∧ Within (P.ents.getD i E0).form 0 9 = true := by
  unfold validP at h
  split at h
  · exact absurd h (by decide)
  · rename_i h1
    split at h
    · exact absurd h (by decide)
    · rename_i h2
      split at h
      · exact absurd h (by decide)
      · rename_i h3
        split at h
        · exact absurd h (by decide)
        · rename_i h4
          refine ⟨by omega, by simpa using h2, by omega, fun i hi => ?_⟩
          have := List.any_eq_false.1 (by simpa using h4) _ (ent_mem hi)
          rw [badEnt] at this
          simpa using this

/-! ### the entries that match a cell -/
def matK (P : Par) (l : List Int) (k : Nat) : List Int := ((List.range k).filter fun i => hB (P.ents.getD i E0).spec l).map Int.ofNat
def matL (P : Par) (l : List Int) : List Int := matK P l P.ents.length
theorem matK_hit {P : Par} {l : List Int} {k : Nat} (h : hB (P.ents.getD k E0).spec l = true) : matK P l (k + 1) = matK P l k ++ [(k : Int)] := by
  simp only [matK, List.range_succ, List.filter_append, List.map_append]
  rw [List.filter_cons_of_pos (by exact h)]; rfl
theorem matK_miss {P : Par} {l : List Int} {k : Nat} (h : hB (P.ents.getD k E0).spec l = false) : matK P l (k + 1) = matK P l k := by
  simp only [matK, List.range_succ, List.filter_append, List.map_append]
  rw [List.filter_cons_of_neg (by rw [h]; simp)]; simp
theorem matK_le (P : Par) (l : List Int) (k : Nat) : (matK P l k).length ≤ k := by
  rw [matK, List.length_map]
  exact Nat.le_trans (List.length_filter_le _ _) (by simp)
set_option maxRecDepth 100000 in
set_option maxHeartbeats 4000000 in
theorem r6matches_calls (v : Value) (P : Par) (a : Option Addr) (n c : Nat) (l : List Int) (w : World) (h : ParAt w v P) (hl : IntsAt w a n c l) (hv : validP P = 0) (hs : P.sizes.length = n) :
    Calls Try.prog 138 #[v, .slice a n c] w fun e w' => ∃ v', e = .returned v' ∧ Made 3 w w' v' (matL P l) := by
  obtain ⟨i0, hi0, hz0, hz1, hz2⟩ := info_parts Try.infoInt
  obtain ⟨-, -, h10, hent⟩ := validP_ok hv
  obtain ⟨a1, n1, c1, a2, n2, c2, rfl, h1, h2⟩ := h
  have h10' : n2 ≤ 10 := by rw [← h2.len]; exact h10
  obtain ⟨w1, hw1⟩ : ∃ w1, w.alloc (.cells #[.slice a1 n1 c1, .slice a2 n2 c2] 25) = w1 := ⟨_, rfl⟩
  have cb : Below w.heap.size w w1 := by rw [← hw1]; exact below_alloc _ _
  have q0 : w1.cell? ⟨w.heap.size, 0, none⟩ = some (.slice a1 n1 c1) := by rw [← hw1]; exact cells_alloc _ _ _ 0
  have q1 : w1.cell? ⟨w.heap.size, 1, none⟩ = some (.slice a2 n2 c2) := by rw [← hw1]; exact cells_alloc _ _ _ 1
  have HE := hid_ (fun k (hk : k < n2) => specB_ok (hent k (by rw [h2.len]; exact hk)).1)
  have HL := hid_ (hl.below cb (Nat.le_refl _)); have H2 := hid_ (h2.below cb (Nat.le_refl _)); have Hc1 := hid_ cb
  have HM : Hid (matL P l = matK P l n2) := hid_ (by rw [matL, h2.len])
  have Hs := hid_ hs
  clear h1 h2 hl cb hent hv h10 hs
  go_enter Try.func138, Try.ntmps138
  go_wp2
  go_loopw [5, 6] (fun v i wr => ∃ k : Nat, k ≤ n2 ∧ i = .int .i64 k ∧ wr.ownsRow w1.heap.size 3 1 v (matK P l k).length ((matK P l k).map (Value.int .i64)) ∧ Below w1.heap.size w1 wr) (fun _ i _ => n2 - (intOf i).toNat)
  case atStart => exact ⟨0, Nat.zero_le _, rfl, World.ownsRow_nil _ _ _ _, Below.refl _ _⟩
  case round =>
    obtain ⟨k, hk, rfl, hown, hb⟩ := hrel
    have hsz := hb.size
    have q0r := cell_below q0 hb; have q1r := cell_below q1 hb
    by_cases hlt : k < n2
    · obtain ⟨b, off, a3, n3, c3, rfl, -, k0, k1, hi⟩ := (H2.out.below hb (Nat.le_refl _)).cells k hlt
      obtain ⟨e1, e2⟩ := HE.out k hlt
      have hle := matK_le P l k
      have hs1 : (matK P l k).length + 1 ≤ 1000000 := by omega
      have Hhit := hid_ (@matK_hit P l k); have Hmiss := hid_ (@matK_miss P l k)
      have e3 : n3 = n := by rw [← hi.len, e1, Hs.out]
      have Hc := hid_ (holds_calls a n c l a3 n3 c3 _ wr (HL.out.below hb (Nat.le_refl _)) hi (by omega) (fun j hj => (e2 j (by rw [hi.len]; exact hj)).1))
      clear e1 e2 e3 hi q0 q1 k1
      generalize hhv : hB (P.ents.getD k E0).spec l = hv at *
      cases hv with
      | true =>
        have Hm := hid_ (Hhit.out rfl)
        clear hhv
        go_wp2_with (first
          | (go_at_call 145; (with_reducible refine Hc.out.mono ?_); rintro e w5 ⟨rfl, q, rfl⟩)
          | (at_builtin; refine wpList_append_ints _ rfl (.tmp 22) (.tmp 24) _ rfl w1.heap.size 3 i0 Try.underlying22 hi0 hz0 hz1 hz2 _ _ _ rfl ((own_drewN hown q).alloc _) _ _ _ _ rfl (IntsAt.one _ _ _) hs1 (le_alloc (by simpa using hsz)) ?_; intro v' w6 hown1 hg1 hat1))
        go_roundw
        case rel => exact ⟨k + 1, by omega, by go_num, by rw [Hm.out]; simpa using hown1, below_app (below_drewN hb q) (by simpa using hsz) (own_drewN hown q) hg1⟩
        case measure => simp [intOf]; omega
      | false =>
        have Hm := hid_ (Hmiss.out rfl)
        clear hhv
        go_wp2_with (go_at_call 145; (with_reducible refine Hc.out.mono ?_); rintro e w5 ⟨rfl, q, rfl⟩)
        go_roundw
        case rel => exact ⟨k + 1, by omega, by go_num, by rw [Hm.out]; exact own_drewN hown q, below_drewN hb q⟩
        case measure => simp [intOf]; omega
    · obtain rfl : n2 = k := by omega
      go_wp2
      go_ret
      exact ⟨_, rfl, by rw [HM.out]; exact own_base hown Hc1.out.size, Hc1.out.trans (hb.mono Hc1.out.size)⟩
end Go.Proofs.Ytdnlpikfibdjoaa
namespace Go.Proofs.Ytdnlpikfibdjoaa
open Go.RowKit Go.Proofs.Kv

/-! ### all cells -/
def cellsK (sizes : List Int) : Nat → List (List Int)
  | 0 => [[]]
  | k + 1 => (cellsK sizes k).flatMap fun c => (List.range (sizes.getD k 0).toNat).map fun v : Nat => c ++ [(v : Int)]
def cellsL (sizes : List Int) : List (List Int) := cellsK sizes sizes.length
def advC (sizes : List Int) : Nat → List Int → Option (List Int)
  | 0, _ => none
  | k + 1, c => if c.getD k 0 < sizes.getD k 0 - 1 then some (c.set k (c.getD k 0 + 1)) else advC sizes k (c.set k 0)
def chainC (sizes : List Int) : List (List Int) → Bool
  | [] => false
  | [x] => specB sizes x 0 && decide (advC sizes sizes.length x = none)
  | x :: y :: r => specB sizes x 0 && (decide (advC sizes sizes.length x = some y) && chainC sizes (y :: r))
theorem chainC_at {sizes : List Int} : ∀ {L : List (List Int)}, chainC sizes L = true → (∀ k, k < L.length → specB sizes (L.getD k []) 0 = true) ∧ (∀ k, k + 1 < L.length → advC sizes sizes.length (L.getD k []) = some (L.getD (k + 1) [])) ∧ advC sizes sizes.length (L.getD (L.length - 1) []) = none ∧ 0 < L.length
  | [], _ => by contradiction
  | [x], h => by
    simp only [chainC, Bool.and_eq_true, decide_eq_true_eq] at h
    refine ⟨fun k hk => ?_, fun k hk => absurd hk (by simp), by simpa [List.getD] using h.2, by simp⟩
    obtain rfl : k = 0 := by simp at hk; omega
    simpa [List.getD] using h.1
  | x :: y :: r, h => by
    simp only [chainC, Bool.and_eq_true, decide_eq_true_eq] at h
    obtain ⟨h1, h2, h3, _⟩ := chainC_at h.2.2
    refine ⟨fun k hk => ?_, fun k hk => ?_, ?_, by simp⟩
    · cases k with
      | zero => simpa [List.getD] using h.1
      | succ k => simpa [List.getD] using h1 k (by simpa using hk)
    · cases k with
      | zero => simpa [List.getD] using h.2.1
      | succ k => simpa [List.getD] using h2 k (by simpa using hk)
    · simpa [List.getD] using h3
def allSizes : List (List Int) := [[2], [3], [2, 2], [2, 3], [3, 2], [3, 3], [2, 2, 2], [2, 2, 3], [2, 3, 2], [2, 3, 3], [3, 2, 2], [3, 2, 3], [3, 3, 2], [3, 3, 3]]
theorem size_two {x : Int} (h : okSize x = true) : x = 2 ∨ x = 3 := by
  simp [okSize, Within] at h; omega
theorem sizes_mem {l : List Int} (h : 1 ≤ l.length ∧ l.length ≤ 3) (hs : l.any (fun x => !okSize x) = false) : l ∈ allSizes := by
  have hs' := List.any_eq_false.1 hs
  match l, h with
  | [], h => exact absurd h.1 (by simp)
  | [a], _ =>
    rcases size_two (x := a) (by simpa using hs' a (by simp)) with rfl | rfl <;> simp [allSizes]
  | [a, b], _ =>
    rcases size_two (x := a) (by simpa using hs' a (by simp)) with rfl | rfl <;> rcases size_two (x := b) (by simpa using hs' b (by simp)) with rfl | rfl <;> simp [allSizes]
  | [a, b, c], _ =>
    rcases size_two (x := a) (by simpa using hs' a (by simp)) with rfl | rfl <;> rcases size_two (x := b) (by simpa using hs' b (by simp)) with rfl | rfl <;> rcases size_two (x := c) (by simpa using hs' c (by simp)) with rfl | rfl <;> simp [allSizes]
  | _ :: _ :: _ :: _ :: _, h => exact absurd h.2 (by simp)
theorem sizes_all : ∀ s ∈ allSizes, chainC s (cellsL s) = true ∧ (cellsL s).getD 0 [] = s.map (fun _ => 0) ∧ (cellsL s).length ≤ 27 ∧ (∀ k, k ≤ s.length → (cellsK s k).length ≤ 27) := by decide +kernel
theorem cells_chain {P : Par} (h : validP P = 0) : chainC P.sizes (cellsL P.sizes) = true ∧ (cellsL P.sizes).getD 0 [] = P.sizes.map (fun _ => 0) ∧ (cellsL P.sizes).length ≤ 27 ∧ (∀ k, k ≤ P.sizes.length → (cellsK P.sizes k).length ≤ 27) :=
  sizes_all _ (sizes_mem (validP_ok h).1 (validP_ok h).2.1)
theorem cells_spec {P : Par} (h : validP P = 0) {k : Nat} (hk : k < (cellsL P.sizes).length) : specB P.sizes ((cellsL P.sizes).getD k []) 0 = true := (chainC_at (cells_chain h).1).1 k hk

theorem getD_snoc {d : List Int} {v : Int} {j : Nat} : (d ++ [v]).getD j 0 = if j < d.length then d.getD j 0 else if j = d.length then v else 0 := by
  by_cases h : j < d.length
  · rw [if_pos h]; simp [List.getD, List.getElem?_append_left h]
  · rw [if_neg h]
    by_cases e : j = d.length
    · subst e; rw [if_pos rfl]; simp [List.getD]
    · rw [if_neg e]; simp [List.getD, List.getElem?_append_right (Nat.le_of_not_lt h)]
      rw [List.getElem?_eq_none (by simp; omega)]; rfl
theorem mem_cellsK {sizes : List Int} : ∀ {k : Nat} {c : List Int}, c ∈ cellsK sizes k ↔ c.length = k ∧ ∀ j, j < k → 0 ≤ c.getD j 0 ∧ c.getD j 0 ≤ sizes.getD j 0 - 1
  | 0, c => by simp [cellsK]
  | k + 1, c => by
    simp only [cellsK, List.mem_flatMap, List.mem_map, List.mem_range]
    constructor
    · rintro ⟨d, hd, v, hv, rfl⟩
      obtain ⟨hl, h⟩ := mem_cellsK.1 hd
      refine ⟨by simp [hl], fun j hj => ?_⟩
      rw [getD_snoc]
      by_cases h1 : j < d.length
      · rw [if_pos h1]; exact h j (by omega)
      · rw [if_neg h1, if_pos (by omega)]
        obtain rfl : j = k := by omega
        omega
    · rintro ⟨hl, h⟩
      refine ⟨c.take k, mem_cellsK.2 ⟨by simp; omega, fun j hj => ?_⟩, (c.getD k 0).toNat, ?_, ?_⟩
      · have := h j (by omega)
        simpa [List.getD, hj] using this
      · have := h k (by omega); omega
      · have := h k (by omega)
        rw [Int.toNat_of_nonneg this.1, ← take_snoc c 0 k (by omega), List.take_of_length_le (by omega)]
theorem mem_cellsL {sizes c : List Int} : c ∈ cellsL sizes ↔ specB sizes c 0 = true := by
  rw [cellsL, mem_cellsK, specB, Bool.and_eq_true, decide_eq_true_eq, List.all_eq_true]
  constructor
  · rintro ⟨h1, h2⟩
    exact ⟨h1, fun i hi => by have := h2 i (by have := List.mem_range.1 hi; omega); simpa [Within] using this⟩
  · rintro ⟨h1, h2⟩
    exact ⟨h1, fun j hj => by have := h2 j (List.mem_range.2 (by omega)); simpa [Within] using this⟩

/-! ### specs by their cells -/
theorem hB_iff {sp c : List Int} : hB sp c = true ↔ ∀ j, j < sp.length → sp.getD j 0 = -1 ∨ sp.getD j 0 = c.getD j 0 := by
  simp only [hB, List.all_eq_true, List.mem_range, Bool.or_eq_true, decide_eq_true_eq]
def insB (sizes a b : List Int) : Bool := (cellsL sizes).all fun c => !hB a c || hB b c
theorem ins_eq {P : Par} (hv : validP P = 0) {a b : List Int} (ha : specB P.sizes a (-1) = true) (hb : specB P.sizes b (-1) = true) : insB P.sizes a b = hB b a := by
  obtain ⟨la, ra⟩ := specB_ok ha
  obtain ⟨lb, rb⟩ := specB_ok hb
  have hs : ∀ j, j < P.sizes.length → 2 ≤ P.sizes.getD j 0 := fun j hj => by
    have := List.any_eq_false.1 (validP_ok hv).2.1 _ (getD_mem hj)
    simp [okSize, Within] at this
    exact this.1
  cases h : hB b a with
  | true =>
    rw [insB, List.all_eq_true]
    intro c hc
    cases h1 : hB a c with
    | false => rfl
    | true =>
      rw [hB_iff] at h h1
      have : hB b c = true := hB_iff.2 fun j hj => by
        rcases h j hj with h2 | h2
        · exact .inl h2
        · rcases h1 j (by omega) with h3 | h3
          · exact .inl (h2.trans h3)
          · exact .inr (h2.trans h3)
      rw [this]; rfl
  | false =>
    have hn : ¬ ∀ j, j < b.length → b.getD j 0 = -1 ∨ b.getD j 0 = a.getD j 0 := fun hh => by rw [hB_iff.2 hh] at h; cases h
    simp only [Classical.not_forall, not_or] at hn
    obtain ⟨t, ht, h1, h2⟩ := hn
    obtain ⟨f, hf⟩ : ∃ f : Nat → Int, f = fun j => if a.getD j 0 = -1 then (if j = t then (if b.getD t 0 = 0 then 1 else 0) else 0) else a.getD j 0 := ⟨_, rfl⟩
    obtain ⟨c, hc⟩ : ∃ c : List Int, c = (List.range P.sizes.length).map f := ⟨_, rfl⟩
    have hcl : c.length = P.sizes.length := by rw [hc]; simp
    have hcd : ∀ j, j < P.sizes.length → c.getD j 0 = f j := fun j hj => by rw [hc]; simp [List.getD, hj]
    have hmem : c ∈ cellsL P.sizes := by
      rw [cellsL, mem_cellsK]
      refine ⟨hcl, fun j hj => ?_⟩
      rw [hcd j hj, hf]
      have := hs j hj
      have := ra j (by omega)
      dsimp only
      split
      · split
        · split <;> omega
        · omega
      · omega
    have hac : hB a c = true := hB_iff.2 fun j hj => by
      rw [hcd j (by omega), hf]
      dsimp only
      split
      · exact .inl (by assumption)
      · exact .inr rfl
    have hbc : hB b c = false := by
      cases hx : hB b c with
      | false => rfl
      | true =>
        rcases hB_iff.1 hx t ht with h3 | h3
        · exact absurd h3 h1
        · rw [hcd t (by omega), hf] at h3
          dsimp only at h3
          have := rb t ht
          split at h3
          · rw [if_pos rfl] at h3
            split at h3 <;> omega
          · exact absurd h3 h2
    rw [insB, List.all_eq_false]
    exact ⟨c, hmem, by rw [hac, hbc]; simp⟩
end Go.Proofs.Ytdnlpikfibdjoaa
