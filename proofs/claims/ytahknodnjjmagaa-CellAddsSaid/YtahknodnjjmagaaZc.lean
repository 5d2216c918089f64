import Derived.Test.YtahknodnjjmagaaZb
namespace Go.Proofs.Ytahknodnjjmagaa
open Go.RowKit Go.Proofs.Kv

theorem cell_regrown {w : World} {p : Addr} {v : Value} (h : w.cell? p = some v) : ∀ d os, (Go.Sort.grow (redrawn w d) os).cell? p = some v := fun d os => cell_below h (below_regrown w d os)
theorem wi_no {n : Nat} (h : n < 1 ∨ 3 < n) : Within (n : Int) 1 3 = false := by
  rcases h with h | h
  · show (decide _ && decide _) = false
    rw [decide_eq_false (show ¬ (1 : Int) ≤ n by omega)]; rfl
  · show (decide _ && decide _) = false
    rw [decide_eq_false (show ¬ (n : Int) ≤ 3 by omega), Bool.and_false]
theorem wi_yes {n : Nat} (h : ¬ (n < 1 ∨ 3 < n)) : Within (n : Int) 1 3 = true := by
  show (decide _ && decide _) = true
  rw [decide_eq_true (show (1 : Int) ≤ n by omega), decide_eq_true (show (n : Int) ≤ 3 by omega)]; rfl
set_option maxRecDepth 100000 in
set_option maxHeartbeats 4000000 in
theorem r6Validate_calls (v : Value) (P : Par) (w : World) (h : ParAt w v P) :
    Calls Try.prog 22 #[v] w fun e w' => e = .returned (.int .i64 (validP P)) ∧ Below w.heap.size w w' := by
  obtain ⟨a, n, c, a2, n2, c2, rfl, h1, h2⟩ := h
  have hn : n ≤ 9223372036854775807 := Nat.le_trans h1.le h1.small
  have hn2 : n2 ≤ 9223372036854775807 := Nat.le_trans h2.le h2.small
  have HV : Hid (validP P = if n < 1 ∨ 3 < n then 1 else if P.sizes.any (fun x => !okSize x) then 1 else if 10 < n2 then 3 else if P.ents.any (badEnt P.sizes) then 1 else 0) := hid_ (by rw [validP, h1.len, h2.len])
  obtain ⟨w1, hw1⟩ : ∃ w1, w.alloc (.cells #[.slice a n c, .slice a2 n2 c2] 25) = w1 := ⟨_, rfl⟩
  have c1 : Below w.heap.size w w1 := by rw [← hw1]; exact below_alloc _ _
  have q0 : w1.cell? ⟨w.heap.size, 0, none⟩ = some (.slice a n c) := by rw [← hw1]; exact cells_alloc _ _ _ 0
  have q1 : w1.cell? ⟨w.heap.size, 1, none⟩ = some (.slice a2 n2 c2) := by rw [← hw1]; exact cells_alloc _ _ _ 1
  have HW := hid_ (fun x lo hi W => within6_calls x lo hi W)
  have HL0 := HW.out n 1 3 w1
  have H1 := hid_ (h1.below c1 (Nat.le_refl _)); have H2 := hid_ (h2.below c1 (Nat.le_refl _)); have Hc1 := hid_ c1
  by_cases hb : n < 1 ∨ 3 < n
  · have Hf : Hid (validP P = 1) := hid_ (by rw [HV.out, if_pos hb])
    rw [show Within (n : Int) 1 3 = false from wi_no hb] at HL0
    have HL := hid_ HL0
    clear hb h1 h2 HL0
    go_enter Try.func22, Try.ntmps22
    go_wp2_with (go_at_call 73; (with_reducible refine HL.out.mono ?_); rintro e w5 ⟨rfl, rfl⟩)
    go_ret
    exact ⟨retI Hf.out, c1⟩
  · have HV2 : Hid (validP P = if P.sizes.any (fun x => !okSize x) then 1 else if 10 < n2 then 3 else if P.ents.any (badEnt P.sizes) then 1 else 0) := hid_ (by rw [HV.out, if_neg hb])
    rw [show Within (n : Int) 1 3 = true from wi_yes hb] at HL0
    have HL := hid_ HL0
    have HNo := hid_ (fun hall => any_no (p := fun x => !okSize x) (0 : Int) h1.len hall)
    have HHi := hid_ (fun k (hk : k < n) hh => any_hit (p := fun x => !okSize x) (k := k) (0 : Int) (by rw [h1.len]; exact hk) hh)
    have HNo2 := hid_ (fun hall => any_no (p := badEnt P.sizes) E0 h2.len hall)
    have HHi2 := hid_ (fun k (hk : k < n2) hh => any_hit (p := badEnt P.sizes) (k := k) E0 (by rw [h2.len]; exact hk) hh)
    clear hb h1 h2 c1 HL0
    go_enter Try.func22, Try.ntmps22
    go_wp2_with (go_at_call 73; (with_reducible refine HL.out.mono ?_); rintro e w5 ⟨rfl, rfl⟩)
    go_loop [3] (fun i => ∃ k : Nat, k ≤ n ∧ i = .int .i64 k ∧ ∀ j, j < k → (!okSize (P.sizes.getD j 0)) = false) (fun i => n - (intOf i).toNat)
    case atStart => exact ⟨0, Nat.zero_le _, rfl, fun _ h => absurd h (by omega)⟩
    case round =>
      obtain ⟨k, hk, rfl, hall⟩ := hrel
      have Hall := hid_ hall
      clear hall
      by_cases hlt : k < n
      · obtain ⟨b, off, rfl, -, hc⟩ := H1.out.cells k hlt
        have hhi := HHi.out k hlt
        have hy := fun hx => lt_snoc (p := fun j => (!okSize (P.sizes.getD j 0)) = false) Hall.out hx
        have hok : okSize (P.sizes.getD k 0) = Within (P.sizes.getD k 0) 2 3 := rfl
        generalize P.sizes.getD k 0 = x at *
        have HX := hid_ (fun W => HW.out x 2 3 W)
        cases hx : Within x 2 3 with
        | false =>
          rw [hx] at HX
          have Hf : Hid (validP P = 1) := hid_ (by rw [HV2.out, hhi (by rw [hok, hx]; rfl)]; rfl)
          clear hhi hy hok hx
          go_wp2_with (go_at_call 73; (with_reducible refine (HX.out _).mono ?_); rintro e w5 ⟨rfl, rfl⟩)
          go_ret
          exact ⟨retI Hf.out, Hc1.out⟩
        | true =>
          rw [hx] at HX
          have Hf := hid_ (hy (by rw [hok, hx]; rfl))
          clear hhi hy hok hx
          go_wp2_with (go_at_call 73; (with_reducible refine (HX.out _).mono ?_); rintro e w5 ⟨rfl, rfl⟩)
          go_round
          case rel => exact ⟨k + 1, by omega, by go_num, Hf.out⟩
          case measure => simp [intOf]; omega
      · obtain rfl : n = k := by omega
        have Hs := hid_ (HNo.out Hall.out)
        have HV3 : Hid (validP P = if 10 < n2 then 3 else if P.ents.any (badEnt P.sizes) then 1 else 0) := hid_ (by rw [HV2.out, Hs.out]; rfl)
        by_cases h10 : 10 < n2
        · have Hf : Hid (validP P = 3) := hid_ (by rw [HV3.out, if_pos h10])
          have h10' : 10 < (n2 : Int) := by omega
          clear h10
          go_wp2
          go_ret
          exact ⟨retI Hf.out, Hc1.out⟩
        · have HV4 : Hid (validP P = if P.ents.any (badEnt P.sizes) then 1 else 0) := hid_ (by rw [HV3.out, if_neg h10])
          have h10' : ¬ 10 < (n2 : Int) := by omega
          clear h10
          go_wp2
          go_loopw [4] (fun i wr => ∃ k : Nat, k ≤ n2 ∧ i = .int .i64 k ∧ Below w1.heap.size w1 wr ∧ ∀ j, j < k → badEnt P.sizes (P.ents.getD j E0) = false) (fun i _ => n2 - (intOf i).toNat)
          case atStart => exact ⟨0, Nat.zero_le _, rfl, Below.refl _ _, fun _ h => absurd h (by omega)⟩
          case round =>
            obtain ⟨k, hk, rfl, hb, hall⟩ := hrel
            have Hall := hid_ hall
            have q0r := cell_below q0 hb; have q1r := cell_below q1 hb
            clear hall
            by_cases hlt : k < n2
            · obtain ⟨b, off, a3, n3, c3, rfl, -, k0, k1, hi⟩ := (H2.out.below hb (Nat.le_refl _)).cells k hlt
              have hhi := HHi2.out k hlt
              have hy := fun hx => lt_snoc (p := fun j => badEnt P.sizes (P.ents.getD j E0) = false) Hall.out hx
              have hbe : badEnt P.sizes (P.ents.getD k E0) = (!specB P.sizes (P.ents.getD k E0).spec (-1) || !Within (P.ents.getD k E0).form 0 9) := rfl
              generalize P.ents.getD k E0 = e0 at *
              obtain ⟨sp, fm⟩ := e0
              simp only at k1 hi hbe
              have HP : Hid (ParAt wr (.agg #[.slice a n c, .slice (some ⟨b, off, none⟩) n2 c2]) P) := hid_ ⟨a, n, c, _, n2, c2, rfl, H1.out.below hb (Nat.le_refl _), H2.out.below hb (Nat.le_refl _)⟩
              have Hi := hid_ hi
              have HA := hid_ (fun d os => isSpec_calls _ P a3 n3 c3 sp (-1) _ (HP.out.below (below_regrown wr d os) (Nat.le_refl _)) (Hi.out.grown d os) Hs.out)
              have HF := hid_ (fun d os => grow_same (within6_calls fm 0 9 (Go.Sort.grow (redrawn wr d) os)))
              have Hb := hid_ hb
              clear hb hi q0 q1 HL
              have e0 := cell_regrown q0r; have e1 := cell_regrown q1r; have e2 := cell_regrown k0; have e3 := cell_regrown k1
              cases hsp : specB P.sizes sp (-1) with
              | false =>
                rw [hsp] at HA hbe
                have Hf : Hid (validP P = 1) := hid_ (by rw [HV4.out, hhi (by rw [hbe]; rfl)]; rfl)
                clear hhi hy hbe hsp
                go_wp2_with fail
                refine wp_region_quiet_below (by kernel_rfl) (by kernel_rfl) ?_
                repeat (first
                  | go_big_quiet_skip
                  | (go_big_quiet_want; go_big_quiet_op; first | go_big_quiet_on | go_big_quiet_call ((first
                    | (go_at_call 74; with_reducible exact Calls.regrown_of (HA.out _ _))
                    | (go_at_call 73; with_reducible exact Calls.regrown_of (HF.out _ _)))))) 
                refine wpQuiet_nil ?_
                rintro wq ⟨pq, hpq⟩
                have hbq := below_wq hpq; clear hpq
                go_wp2
                go_ret
                exact ⟨retI Hf.out, Hc1.out.trans ((Hb.out.trans (hbq.mono Hb.out.size)).mono Hc1.out.size)⟩
              | true =>
                rw [hsp] at HA hbe
                cases hfm : Within fm 0 9 with
                | false =>
                  rw [hfm] at HF hbe
                  have Hf : Hid (validP P = 1) := hid_ (by rw [HV4.out, hhi (by rw [hbe]; rfl)]; rfl)
                  clear hhi hy hbe hsp hfm
                  go_wp2_with fail
                  refine wp_region_quiet_below (by kernel_rfl) (by kernel_rfl) ?_
                  repeat (first
                    | go_big_quiet_skip
                    | (go_big_quiet_want; go_big_quiet_op; first | go_big_quiet_on | go_big_quiet_call ((first
                      | (go_at_call 74; with_reducible exact Calls.regrown_of (HA.out _ _))
                      | (go_at_call 73; with_reducible exact Calls.regrown_of (HF.out _ _)))))) 
                  refine wpQuiet_nil ?_
                  rintro wq ⟨pq, hpq⟩
                  have hbq := below_wq hpq; clear hpq
                  go_wp2
                  go_ret
                  exact ⟨retI Hf.out, Hc1.out.trans ((Hb.out.trans (hbq.mono Hb.out.size)).mono Hc1.out.size)⟩
                | true =>
                  rw [hfm] at HF hbe
                  have Hf := hid_ (hy (by rw [hbe]; rfl))
                  clear hhi hy hbe hsp hfm
                  go_wp2_with fail
                  refine wp_region_quiet_below (by kernel_rfl) (by kernel_rfl) ?_
                  repeat (first
                    | go_big_quiet_skip
                    | (go_big_quiet_want; go_big_quiet_op; first | go_big_quiet_on | go_big_quiet_call ((first
                      | (go_at_call 74; with_reducible exact Calls.regrown_of (HA.out _ _))
                      | (go_at_call 73; with_reducible exact Calls.regrown_of (HF.out _ _)))))) 
                  refine wpQuiet_nil ?_
                  rintro wq ⟨pq, hpq⟩
                  have hbq := below_wq hpq; clear hpq
                  go_wp2
                  go_roundw
                  case rel => exact ⟨k + 1, by omega, by go_num, Hb.out.trans (hbq.mono Hb.out.size), Hf.out⟩
                  case measure => simp [intOf]; omega
            · obtain rfl : n2 = k := by omega
              have Hf : Hid (validP P = 0) := hid_ (by rw [HV4.out, HNo2.out Hall.out]; rfl)
              go_wp2
              go_ret
              exact ⟨retI Hf.out, Hc1.out.trans (hb.mono Hc1.out.size)⟩
end Go.Proofs.Ytahknodnjjmagaa
