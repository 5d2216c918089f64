import Derived.Test.YtgpenbajhndhiaaVb
namespace Go.Proofs.Ytgpenbajhndhiaa
open Go.RowKit Go.Proofs.Kv Go

/-! ### the checks of the document -/
set_option maxRecDepth 100000 in
set_option maxHeartbeats 2000000 in
theorem r8areSounds_calls (a : Option Addr) (n c : Nat) (l : List Int) (w : World) (h : IntsAt w a n c l) :
    Calls Try.prog 52 #[.slice a n c] w fun e w' => e = .returned (.bool (areB l 0 5)) ∧ w = w' := by
  have hn : n ≤ 9223372036854775807 := Nat.le_trans h.le h.small
  have HY := hid_ (@areB_yes l 0 5 n h.len)
  have HN := hid_ (fun k (hk : k < n) => @areB_no l 0 5 k (by rw [h.len]; exact hk))
  have HC := hid_ (fun x => within8_calls x 0 5 w)
  go_enter Try.func52, Try.ntmps52
  go_wp2
  go_loop [3] (fun i => ∃ k : Nat, k ≤ n ∧ i = .int .i64 k ∧ ∀ j, j < k → Within (l.getD j 0) 0 5 = true) (fun i => n - (intOf i).toNat)
  case atStart => exact ⟨0, Nat.zero_le _, rfl, fun _ h => absurd h (by omega)⟩
  case round =>
    obtain ⟨k, hk, rfl, hall⟩ := hrel
    have Hall := hid_ hall
    clear hall
    by_cases hlt : k < n
    · obtain ⟨b, off, rfl, -, hcell⟩ := h.cells k hlt
      have hno := HN.out k hlt
      have hy := fun hx => lt_snoc (p := fun j => Within (l.getD j 0) 0 5 = true) Hall.out hx
      have hy' : Within (l.getD k 0) 0 5 = true → ∀ j, j < k + 1 → Within (l.getD j 0) 0 5 = true := hy
      clear hy
      have hc := HC.out (l.getD k 0)
      generalize l.getD k 0 = x at *
      cases hm : Within x 0 5 with
      | true =>
        rw [hm] at hc
        have Hf := hid_ (hy' hm)
        have Hc := hid_ hc
        clear hm hno hy' hc
        go_wp2_with (go_at_call 59; (with_reducible refine Hc.out.mono ?_); rintro e w4 ⟨rfl, rfl⟩)
        go_round
        case rel => exact ⟨k + 1, by omega, by go_num, Hf.out⟩
        case measure => simp [intOf]; omega
      | false =>
        rw [hm] at hc
        have HR := hid_ (hno hm)
        have Hc := hid_ hc
        clear hm hno hy' hc
        go_wp2_with (go_at_call 59; (with_reducible refine Hc.out.mono ?_); rintro e w4 ⟨rfl, rfl⟩)
        go_ret
        exact ⟨retB HR.out, rfl⟩
    · obtain rfl : n = k := by omega
      have HR := hid_ (HY.out Hall.out)
      go_wp2
      go_ret
      exact ⟨retB HR.out, rfl⟩
set_option maxRecDepth 100000 in
set_option maxHeartbeats 2000000 in
theorem right_calls (a : Option Addr) (n c : Nat) (X : It) (w : World) (h : IntsAt w a n c X.word) :
    Calls Try.prog 67 #[.agg #[.slice a n c, .int .i64 X.kind, .int .i64 X.cost]] w fun e w' => e = .returned (.bool (itemOk X)) ∧ Below w.heap.size w w' := by
  have HI : Hid (itemOk X = (Within n 1 6 && (areB X.word 0 5 && (Within X.kind 0 3 && Within X.cost 0 99)))) := hid_ (by rw [itemOk, h.len])
  obtain ⟨wd, k, t⟩ := X
  simp only at h HI ⊢
  obtain ⟨w1, hw1⟩ : ∃ w1, w.alloc (.cells #[.slice a n c, .int .i64 k, .int .i64 t] 42) = w1 := ⟨_, rfl⟩
  have cb : Below w.heap.size w w1 := by rw [← hw1]; exact below_alloc _ _
  have q0 : w1.cell? ⟨w.heap.size, 0, none⟩ = some (.slice a n c) := by rw [← hw1]; exact cells_alloc _ _ _ 0
  have q1 : w1.cell? ⟨w.heap.size, 1, none⟩ = some (.int .i64 k) := by rw [← hw1]; exact cells_alloc _ _ _ 1
  have q2 : w1.cell? ⟨w.heap.size, 2, none⟩ = some (.int .i64 t) := by rw [← hw1]; exact cells_alloc _ _ _ 2
  have HA := hid_ (within8_calls n 1 6 w1)
  have HB := hid_ (r8areSounds_calls a n c wd w1 (h.below cb (Nat.le_refl _)))
  have HC := hid_ (within8_calls k 0 3 w1)
  have HD := hid_ (within8_calls t 0 99 w1)
  have Hcb := hid_ cb
  clear h cb
  generalize itemOk ⟨wd, k, t⟩ = R at *
  generalize Within n 1 6 = b1 at *
  generalize areB wd 0 5 = b2 at *
  generalize Within k 0 3 = b3 at *
  generalize Within t 0 99 = b4 at *
  cases b1 with
  | false =>
    go_enter Try.func67, Try.ntmps67
    go_wp2_with (go_at_call 59; (with_reducible refine HA.out.mono ?_); rintro e w2 ⟨rfl, rfl⟩)
    go_ret
    exact ⟨by rw [HI.out]; rfl, Hcb.out⟩
  | true =>
    cases b2 with
    | false =>
      go_enter Try.func67, Try.ntmps67
      go_wp2_with (first
        | (go_at_call 59; (with_reducible refine HA.out.mono ?_); rintro e w2 ⟨rfl, rfl⟩)
        | (go_at_call 52; (with_reducible refine HB.out.mono ?_); rintro e w2 ⟨rfl, rfl⟩))
      go_ret
      exact ⟨by rw [HI.out]; rfl, Hcb.out⟩
    | true =>
      cases b3 with
      | false =>
        go_enter Try.func67, Try.ntmps67
        go_wp2_with (first
          | (go_at_call 59; (with_reducible refine HA.out.mono ?_); rintro e w2 ⟨rfl, rfl⟩)
          | (go_at_call 52; (with_reducible refine HB.out.mono ?_); rintro e w2 ⟨rfl, rfl⟩)
          | (go_at_call 59; (with_reducible refine HC.out.mono ?_); rintro e w3 ⟨rfl, rfl⟩))
        go_ret
        exact ⟨by rw [HI.out]; rfl, Hcb.out⟩
      | true =>
        go_enter Try.func67, Try.ntmps67
        go_wp2_with (first
          | (go_at_call 59; (with_reducible refine HA.out.mono ?_); rintro e w2 ⟨rfl, rfl⟩)
          | (go_at_call 52; (with_reducible refine HB.out.mono ?_); rintro e w2 ⟨rfl, rfl⟩)
          | (go_at_call 59; (with_reducible refine HC.out.mono ?_); rintro e w3 ⟨rfl, rfl⟩)
          | (go_at_call 59; (with_reducible refine HD.out.mono ?_); rintro e w3 ⟨rfl, rfl⟩))
        go_ret
        exact ⟨by rw [HI.out]; rfl, Hcb.out⟩
set_option maxRecDepth 100000 in
set_option maxHeartbeats 4000000 in
theorem r8Validate_calls (v : Value) (L : Lx) (w : World) (h : LexAt w v L) :
    Calls Try.prog 51 #[v] w fun e w' => e = .returned (.int .i64 (validL L)) ∧ Below w.heap.size w w' := by
  have HP := hid_ h
  obtain ⟨a1, n1, c1, a2, n2, c2, rfl, h1, h2⟩ := h
  obtain ⟨w1, hw1⟩ : ∃ w1, w.alloc (.cells #[.slice a1 n1 c1, .slice a2 n2 c2] 25) = w1 := ⟨_, rfl⟩
  have cb : Below w.heap.size w w1 := by rw [← hw1]; exact below_alloc _ _
  have q0 : w1.cell? ⟨w.heap.size, 0, none⟩ = some (.slice a1 n1 c1) := by rw [← hw1]; exact cells_alloc _ _ _ 0
  have q1 : w1.cell? ⟨w.heap.size, 1, none⟩ = some (.slice a2 n2 c2) := by rw [← hw1]; exact cells_alloc _ _ _ 1
  have HP1 := hid_ (HP.out.below cb (Nat.le_refl _)); have Hc1 := hid_ cb
  have HV : Hid (validL L = if Within n1 1 8 = true then (if L.items.any (fun x => !itemOk x) = true then 1 else if rowsB L.follow 4 4 (-1) 99 = true then 0 else 1) else 3) := hid_ (by rw [validL, h1.len])
  have HA := hid_ (within8_calls n1 1 8 w1)
  have H1 := hid_ (h1.below cb (Nat.le_refl _)); have H2 := hid_ (h2.below cb (Nat.le_refl _))
  have hn1 : n1 ≤ 9223372036854775807 := Nat.le_trans h1.le h1.small
  have hn2 : n2 ≤ 9223372036854775807 := Nat.le_trans h2.le h2.small
  have HNo := hid_ (fun hall => any_no (p := fun x => !itemOk x) I0 h1.len hall)
  have HHi := hid_ (fun k (hk : k < n1) hh => any_hit (p := fun x => !itemOk x) (k := k) I0 (by rw [h1.len]; exact hk) hh)
  have HRn := hid_ (fun k (hk : k < n2) => @rowsB_no L.follow 4 4 (-1) 99 k (by rw [h2.len]; exact hk))
  have HRy := hid_ (@rowsB_all L.follow 4 4 (-1) 99 n2 h2.len)
  have HRl := hid_ (fun (hne : n2 ≠ 4) => show rowsB L.follow 4 4 (-1) 99 = false by rw [rowsB, h2.len, decide_eq_false (show ¬ (n2 : Int) = 4 by omega), Bool.and_false])
  clear cb h1 h2 HP HP1
  generalize validL L = R at *
  cases hw : Within n1 1 8 with
  | false =>
    rw [hw] at HA HV
    clear hw
    go_enter Try.func51, Try.ntmps51
    go_wp2_with (go_at_call 59; (with_reducible refine HA.out.mono ?_); rintro e w2 ⟨rfl, rfl⟩)
    go_ret
    exact ⟨by rw [HV.out]; rfl, Hc1.out⟩
  | true =>
    rw [hw, if_pos rfl] at HV
    rw [hw] at HA
    clear hw
    go_enter Try.func51, Try.ntmps51
    go_wp2_with (go_at_call 59; (with_reducible refine HA.out.mono ?_); rintro e w2 ⟨rfl, rfl⟩)
    go_loopw [3] (fun i wr => ∃ k : Nat, k ≤ n1 ∧ i = .int .i64 k ∧ Below w1.heap.size w1 wr ∧ ∀ j, j < k → (!itemOk (L.items.getD j I0)) = false) (fun i _ => n1 - (intOf i).toNat)
    case atStart => exact ⟨0, Nat.zero_le _, rfl, Below.refl _ _, fun _ h => absurd h (by omega)⟩
    case round =>
      obtain ⟨k, hk, rfl, hb, hall⟩ := hrel
      have Hall := hid_ hall
      clear hall
      have q0r := cell_below q0 hb; have q1r := cell_below q1 hb
      by_cases hlt : k < n1
      · obtain ⟨b, off, a3, n3, c3, rfl, -, k0, k1, k2, hi⟩ := (H1.out.below hb (Nat.le_refl _)).cells k hlt
        have hhi := HHi.out k hlt
        have hy := fun hx => lt_snoc (p := fun j => (!itemOk (L.items.getD j I0)) = false) Hall.out hx
        have hy' : (!itemOk (L.items.getD k I0)) = false → ∀ j, j < k + 1 → (!itemOk (L.items.getD j I0)) = false := hy
        clear hy
        generalize L.items.getD k I0 = X at *
        have HI := hid_ (right_calls a3 n3 c3 X wr hi)
        have Hb := hid_ hb
        clear hb hi
        cases hx : itemOk X with
        | true =>
          have Hf := hid_ (hy' (by rw [hx]; rfl))
          rw [hx] at HI
          clear hx hy' hhi
          go_wp2_with (go_at_call 67; (with_reducible refine HI.out.mono ?_); rintro e w2 ⟨rfl, hb2⟩)
          go_roundw
          case rel => exact ⟨k + 1, by omega, by go_num, Hb.out.trans (hb2.mono Hb.out.size), Hf.out⟩
          case measure => simp [intOf]; omega
        | false =>
          have Hf := hid_ (hhi (by rw [hx]; rfl))
          rw [hx] at HI
          clear hx hy' hhi
          go_wp2_with (go_at_call 67; (with_reducible refine HI.out.mono ?_); rintro e w2 ⟨rfl, hb2⟩)
          go_ret
          exact ⟨by rw [HV.out, Hf.out]; rfl, Hc1.out.trans ((Hb.out.trans (hb2.mono Hb.out.size)).mono Hc1.out.size)⟩
      · obtain rfl : n1 = k := by omega
        have HV2 := HV.out
        rw [HNo.out Hall.out, if_neg (by decide)] at HV2
        have HV3 := hid_ HV2
        have Hb0 := hid_ (Hc1.out.trans (hb.mono Hc1.out.size))
        have H2r := hid_ (H2.out.below hb (Nat.le_refl _))
        clear HV2 hb
        by_cases h4 : n2 = 4
        · subst h4
          go_wp2
          go_loop [4] (fun i => ∃ k : Nat, k ≤ 4 ∧ i = .int .i64 k ∧ ∀ j, j < k → rowOk8 4 (-1) 99 (L.follow.getD j []) = true) (fun i => 4 - (intOf i).toNat)
          case atStart => exact ⟨0, Nat.zero_le _, rfl, fun _ h => absurd h (by omega)⟩
          case round =>
            obtain ⟨k, hk, rfl, hall⟩ := hrel
            have Hall2 := hid_ hall
            clear hall
            by_cases hlt2 : k < 4
            · obtain ⟨b, off, a3, n3, c3, rfl, -, hcell, hrow⟩ := H2r.out.cells k hlt2
              have hno := HRn.out k hlt2
              have hy := fun hx => lt_snoc (p := fun j => rowOk8 4 (-1) 99 (L.follow.getD j []) = true) Hall2.out hx
              have hy' : rowOk8 4 (-1) 99 (L.follow.getD k []) = true → ∀ j, j < k + 1 → rowOk8 4 (-1) 99 (L.follow.getD j []) = true := hy
              clear hy
              by_cases h34 : n3 = 4
              · subst h34
                have hbn := fun j (hj : j < 4) => @areB_no (L.follow.getD k []) (-1) 99 j (by rw [hrow.len]; exact hj)
                have hby := @areB_yes (L.follow.getD k []) (-1) 99 4 hrow.len
                have ho : rowOk8 4 (-1) 99 (L.follow.getD k []) = areB (L.follow.getD k []) (-1) 99 := by rw [rowOk8, hrow.len]; rfl
                rw [ho] at hno hy'
                generalize L.follow.getD k [] = r at *
                have Hbn := hid_ hbn; have Hby := hid_ hby; have Hno := hid_ hno; have Hy := hid_ hy'
                clear hbn hby hno hy' ho
                go_wp2
                go_loop [5] (fun i => ∃ j : Nat, j ≤ 4 ∧ i = .int .i64 j ∧ ∀ i, i < j → Within (r.getD i 0) (-1) 99 = true) (fun i => 4 - (intOf i).toNat)
                case atStart => exact ⟨0, Nat.zero_le _, rfl, fun _ h => absurd h (by omega)⟩
                case round =>
                  obtain ⟨j, hj, rfl, hall⟩ := hrel
                  have Hall3 := hid_ hall
                  clear hall
                  by_cases hlt3 : j < 4
                  · obtain ⟨b2, off2, rfl, -, hcell2⟩ := hrow.cells j hlt3
                    have hn3 := Hbn.out j hlt3
                    have hy3 := fun hx => lt_snoc (p := fun j => Within (r.getD j 0) (-1) 99 = true) Hall3.out hx
                    have hy3' : Within (r.getD j 0) (-1) 99 = true → ∀ i, i < j + 1 → Within (r.getD i 0) (-1) 99 = true := hy3
                    clear hy3
                    generalize r.getD j 0 = x at *
                    have HC := hid_ (within8_calls x (-1) 99 wr)
                    cases hm : Within x (-1) 99 with
                    | true =>
                      rw [hm] at HC
                      have Hf := hid_ (hy3' hm)
                      clear hm hn3 hy3'
                      go_wp2_with (go_at_call 59; (with_reducible refine HC.out.mono ?_); rintro e w4 ⟨rfl, rfl⟩)
                      go_round
                      case rel => exact ⟨j + 1, by omega, by go_num, Hf.out⟩
                      case measure => simp [intOf]; omega
                    | false =>
                      rw [hm] at HC
                      have Hf := hid_ (Hno.out (hn3 hm))
                      clear hm hn3 hy3'
                      go_wp2_with (go_at_call 59; (with_reducible refine HC.out.mono ?_); rintro e w4 ⟨rfl, rfl⟩)
                      go_ret
                      exact ⟨by rw [HV3.out, Hf.out]; rfl, Hb0.out⟩
                  · obtain rfl : j = 4 := by omega
                    have Hf := hid_ (Hy.out (Hby.out Hall3.out))
                    go_wp2
                    go_round
                    case rel => exact ⟨k + 1, by omega, by go_num, Hf.out⟩
                    case measure => simp [intOf]; omega
              · have hq : ((n3 : Int) != 4) = true := by simp; omega
                have Hf := hid_ (hno (by rw [rowOk8, hrow.len, decide_eq_false (show ¬ (n3 : Int) = 4 by omega)]; rfl))
                clear hno hy' h34
                go_wp2
                go_ret
                exact ⟨by rw [HV3.out, Hf.out]; rfl, Hb0.out⟩
            · obtain rfl : k = 4 := by omega
              have Hf := hid_ (HRy.out Hall2.out)
              go_wp2
              go_ret
              exact ⟨by rw [HV3.out, Hf.out]; rfl, Hb0.out⟩
        · have hq : ((n2 : Int) != 4) = true := by simp; omega
          have Hf := hid_ (HRl.out h4)
          clear h4
          go_wp2
          go_ret
          exact ⟨by rw [HV3.out, Hf.out]; rfl, Hb0.out⟩
set_option maxRecDepth 100000 in
set_option maxHeartbeats 2000000 in
theorem texted_calls (v : Value) (L : Lx) (a : Option Addr) (n c : Nat) (t : List Int) (w : World) (h : LexAt w v L) (ht : IntsAt w a n c t) :
    Calls Try.prog 29 #[v, .slice a n c] w fun e w' => e = .returned (.int .i64 (textE L t)) ∧ Below w.heap.size w w' := by
  have HP := hid_ h
  obtain ⟨a1, n1, c1, a2, n2, c2, rfl, h1, h2⟩ := h
  obtain ⟨w1, hw1⟩ : ∃ w1, w.alloc (.cells #[.slice a1 n1 c1, .slice a2 n2 c2] 25) = w1 := ⟨_, rfl⟩
  have cb : Below w.heap.size w w1 := by rw [← hw1]; exact below_alloc _ _
  have q0 : w1.cell? ⟨w.heap.size, 0, none⟩ = some (.slice a1 n1 c1) := by rw [← hw1]; exact cells_alloc _ _ _ 0
  have q1 : w1.cell? ⟨w.heap.size, 1, none⟩ = some (.slice a2 n2 c2) := by rw [← hw1]; exact cells_alloc _ _ _ 1
  have HP1 := hid_ (HP.out.below cb (Nat.le_refl _)); have Hc1 := hid_ cb
  have HV : Hid (textE L t = if validL L = 0 then (if 12 < n then 3 else if areB t 0 5 = true then 0 else 1) else validL L) := hid_ (by rw [textE, ht.len])
  have HA := hid_ (r8Validate_calls _ L w1 HP1.out)
  have HT := hid_ (fun W (hW : Below w1.heap.size w1 W) => r8areSounds_calls a n c t W ((ht.below cb (Nat.le_refl _)).below hW (Nat.le_refl _)))
  clear cb h1 h2 HP HP1 ht
  generalize textE L t = R at *
  generalize areB t 0 5 = b1 at *
  by_cases he : validL L = 0
  · rw [he, if_pos rfl] at HV
    rw [he] at HA
    clear he
    by_cases hl : 12 < n
    · rw [if_pos hl] at HV
      go_enter Try.func29, Try.ntmps29
      go_wp2_with (go_at_call 51; (with_reducible refine HA.out.mono ?_); rintro e w2 ⟨rfl, hb2⟩)
      go_ret
      exact ⟨by rw [HV.out]; rfl, Hc1.out.trans (hb2.mono Hc1.out.size)⟩
    · rw [if_neg hl] at HV
      cases b1 with
      | true =>
        go_enter Try.func29, Try.ntmps29
        go_wp2_with (first
          | (go_at_call 51; (with_reducible refine HA.out.mono ?_); rintro e w2 ⟨rfl, hb2⟩)
          | (go_at_call 52; (with_reducible refine (HT.out _ hb2).mono ?_); rintro e w3 ⟨rfl, rfl⟩))
        go_ret
        exact ⟨by rw [HV.out]; rfl, Hc1.out.trans (hb2.mono Hc1.out.size)⟩
      | false =>
        go_enter Try.func29, Try.ntmps29
        go_wp2_with (first
          | (go_at_call 51; (with_reducible refine HA.out.mono ?_); rintro e w2 ⟨rfl, hb2⟩)
          | (go_at_call 52; (with_reducible refine (HT.out _ hb2).mono ?_); rintro e w3 ⟨rfl, rfl⟩))
        go_ret
        exact ⟨by rw [HV.out]; rfl, Hc1.out.trans (hb2.mono Hc1.out.size)⟩
  · have hq : (validL L != 0) = true := by simpa using he
    rw [if_neg he] at HV
    generalize validL L = x at *
    clear he
    go_enter Try.func29, Try.ntmps29
    go_wp2_with (go_at_call 51; (with_reducible refine HA.out.mono ?_); rintro e w2 ⟨rfl, hb2⟩)
    go_ret
    exact ⟨by rw [HV.out]; rfl, Hc1.out.trans (hb2.mono Hc1.out.size)⟩
end Go.Proofs.Ytgpenbajhndhiaa
