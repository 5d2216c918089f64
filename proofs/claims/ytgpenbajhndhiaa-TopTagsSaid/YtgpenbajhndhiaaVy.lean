import Derived.Test.YtgpenbajhndhiaaVx
namespace Go.Proofs.Ytgpenbajhndhiaa
open Go.RowKit Go.Proofs.Kv Go

/-! ### the sanity check -/
theorem threeL_good : GoodL threeL := validL_ok (by decide +kernel)
theorem threeL_no {b : Bool} (h : IsCodeIs threeL b) : b = false := by
  have h1 := h.2 (by decide +kernel)
  cases b with
  | false => rfl
  | true => exact absurd (RR_of_two threeL_good [0, 2] [1] (by decide) (by decide +kernel) (by decide +kernel) (by decide +kernel)) (h1.1 rfl)
theorem sane_facts : textE threeL [0, 1] = 0 ∧ countV threeL [0, 1] = 2 ∧ leastB threeL [0, 1] = true ∧ leastV threeL [0, 1] = 2 ∧ validL threeL = 0 ∧ twoE threeL [0, 2] [1] = 0 := by decide +kernel
theorem LexAt.lit {w : World} {v : Value} {L : Lx} (h : LexAt w v L) : ∃ a n c a' n' c', v = .agg #[.slice a n c, .slice a' n' c'] := by
  obtain ⟨a, n, c, a', n', c', e, -, -⟩ := h
  exact ⟨a, n, c, a', n', c', e⟩
theorem two_lits (W : World) (F : TypeId) : IntsAt ((W.alloc (.cells #[.int .i64 0, .int .i64 2] F)).alloc (.cells #[.int .i64 1] F)) (some ⟨W.heap.size, 0, none⟩) 2 2 [0, 2] ∧ IntsAt ((W.alloc (.cells #[.int .i64 0, .int .i64 2] F)).alloc (.cells #[.int .i64 1] F)) (some ⟨W.heap.size + 1, 0, none⟩) 1 1 [1] := by
  refine ⟨(ints_two8 W 0 2 F).below (below_alloc _ _) (Nat.le_refl _), ?_⟩
  have := IntsAt.one (W.alloc (.cells #[.int .i64 0, .int .i64 2] F)) 1 F
  simpa only [size_alloc_one] using this
theorem below_up8 {w w' : World} (h : Below w.heap.size w w') (o : Obj) : Below w.heap.size w (w'.alloc o) := h.alloc h.size o
theorem below_then8 {w w1 w2 : World} (h1 : Below w.heap.size w w1) (h2 : Below w1.heap.size w1 w2) : Below w.heap.size w w2 := h1.trans (h2.mono h1.size)
set_option maxRecDepth 100000 in
set_option maxHeartbeats 4000000 in
theorem sane_calls (w : World) :
    Calls Try.prog 7 #[] w fun e w' => e = .returned (.bool true) ∧ Below w.heap.size w w' := by
  obtain ⟨s1, s2, s3, s4, s5, s6⟩ := sane_facts
  have HT := hid_ three_calls
  have HC := hid_ (fun W v (h : LexAt W v threeL) a n c (h' : IntsAt W a n c [0, 1]) => taCount_calls v threeL a n c _ W h h')
  have HL := hid_ (fun W v (h : LexAt W v threeL) a n c (h' : IntsAt W a n c [0, 1]) => taLeast_calls v threeL a n c _ W h h')
  have HI := hid_ (fun W v (h : LexAt W v threeL) => taIsCode_calls v threeL W h)
  have HW := hid_ (fun W v (h : LexAt W v threeL) a n c a' n' c' (h1 : IntsAt W a n c [0, 2]) (h2 : IntsAt W a' n' c' [1]) => taCheckTwo_calls v threeL a n c _ a' n' c' _ W h h1 h2)
  simp only [s1, s2] at HC
  simp only [s1, s3, s4] at HL
  simp only [s5] at HI
  simp only [s6] at HW
  clear s1 s2 s3 s4 s5 s6
  go_enter Try.func7, Try.ntmps7
  go_wp2_with (first
    | (go_at_call 25; (with_reducible refine (HT.out w).mono ?_); rintro e w1 ⟨v1, rfl, hl1, hb1⟩; obtain ⟨a1, n1, c1, b1, m1, d1, rfl⟩ := LexAt.lit hl1; have HA := hid_ (hl1.below (below_alloc w1 (.cells #[.int .i64 0, .int .i64 1] 3)) (Nat.le_refl _)); have HcA := hid_ (HC.out _ _ HA.out _ _ _ (ints_two8 w1 0 1 3)); have HbA := hid_ (below_up8 hb1 (.cells #[.int .i64 0, .int .i64 1] 3)); clear hl1 hb1)
    | (go_at_call 10; (with_reducible refine HcA.out.mono ?_); rintro e w2 ⟨rfl, hb2⟩; have Hb2 := hid_ (below_then8 HbA.out hb2); clear hb2)
    | (go_at_call 25; (with_reducible refine (HT.out w2).mono ?_); rintro e w3 ⟨v3, rfl, hl3, hb3⟩; obtain ⟨a3, n3, c3, b3, m3, d3, rfl⟩ := LexAt.lit hl3; have HlB := hid_ (HL.out _ _ (hl3.below (below_alloc w3 (.cells #[.int .i64 0, .int .i64 1] 3)) (Nat.le_refl _)) _ _ _ (ints_two8 w3 0 1 3)); have HbB := hid_ (below_up8 (below_then8 Hb2.out hb3) (.cells #[.int .i64 0, .int .i64 1] 3)); clear hl3 hb3)
    | (go_at_call 8; (with_reducible refine HlB.out.mono ?_); rintro e w4 ⟨rfl, hb4⟩; have Hb4 := hid_ (below_then8 HbB.out hb4); clear hb4)
    | (go_at_call 25; (with_reducible refine (HT.out w4).mono ?_); rintro e w5 ⟨v5, rfl, hl5, hb5⟩; obtain ⟨a5, n5, c5, b5, m5, d5, rfl⟩ := LexAt.lit hl5; have HiC := hid_ (HI.out _ _ hl5); have HbC := hid_ (below_then8 Hb4.out hb5); clear hl5 hb5)
    | (go_at_call 19; (with_reducible refine HiC.out.mono ?_); rintro e w6 ⟨b6, rfl, hi6, hb6⟩; obtain rfl := threeL_no hi6; have Hb6 := hid_ (below_then8 HbC.out hb6); clear hb6 hi6)
    | (go_at_call 25; (with_reducible refine (HT.out w6).mono ?_); rintro e w7 ⟨v7, rfl, hl7, hb7⟩; obtain ⟨a7, n7, c7, b7, m7, d7, rfl⟩ := LexAt.lit hl7; have HwD := hid_ (HW.out _ _ ((hl7.below (below_alloc w7 (.cells #[.int .i64 0, .int .i64 2] 3)) (Nat.le_refl _)).below (below_alloc _ (.cells #[.int .i64 1] 3)) (Nat.le_refl _)) _ _ _ _ _ _ (two_lits w7 3).1 (two_lits w7 3).2); have HbD := hid_ (below_up8 (below_up8 (below_then8 Hb6.out hb7) (.cells #[.int .i64 0, .int .i64 2] 3)) (.cells #[.int .i64 1] 3)); clear hl7 hb7)
    | (go_at_call 22; (with_reducible refine HwD.out.mono ?_); rintro e w8 ⟨rfl, hb8⟩; have Hb8 := hid_ (below_then8 HbD.out hb8); clear hb8))
  go_ret
  exact ⟨rfl, Hb8.out⟩
/-! ### Long -/
def longX (L : Lx) (Ls : List (List Int)) : Bool := Ls.any (fun r => decide (300 < r.length)) || (L.items.any (fun x => decide (50 < x.word.length)) || (L.follow.any (fun r => decide (50 < r.length)) || (decide (50 < L.items.length) || decide (50 < L.follow.length))))
set_option maxRecDepth 100000 in
set_option maxHeartbeats 4000000 in
theorem long8_calls (v : Value) (L : Lx) (a : Option Addr) (n c : Nat) (Ls : List (List Int)) (w : World) (h : LexAt w v L) (hs : ListsAt w a n c Ls) :
    Calls Try.prog 6 #[v, .slice a n c] w fun e w' => e = .returned (.bool (longX L Ls)) ∧ Below w.heap.size w w' := by
  have HP := hid_ h
  obtain ⟨a1, n1, c1, a2, n2, c2, rfl, h1, h2⟩ := h
  obtain ⟨w1, hw1⟩ : ∃ w1, w.alloc (.cells #[.slice a1 n1 c1, .slice a2 n2 c2] 25) = w1 := ⟨_, rfl⟩
  have cb : Below w.heap.size w w1 := by rw [← hw1]; exact below_alloc _ _
  have q0 : w1.cell? ⟨w.heap.size, 0, none⟩ = some (.slice a1 n1 c1) := by rw [← hw1]; exact cells_alloc _ _ _ 0
  have q1 : w1.cell? ⟨w.heap.size, 1, none⟩ = some (.slice a2 n2 c2) := by rw [← hw1]; exact cells_alloc _ _ _ 1
  have HP1 := hid_ (HP.out.below cb (Nat.le_refl _)); have Hc1 := hid_ cb
  have hn : n ≤ 9223372036854775807 := Nat.le_trans hs.le hs.small
  have hn1 : n1 ≤ 9223372036854775807 := Nat.le_trans h1.le h1.small
  have hn2 : n2 ≤ 9223372036854775807 := Nat.le_trans h2.le h2.small
  have HX : Hid (longX L Ls = (Ls.any (fun r => decide (300 < r.length)) || (L.items.any (fun x => decide (50 < x.word.length)) || (L.follow.any (fun r => decide (50 < r.length)) || (decide (50 < n1) || decide (50 < n2)))))) := hid_ (by rw [longX, h1.len, h2.len])
  have HN1 := hid_ (fun hall => any_no (p := fun r : List Int => decide (300 < r.length)) [] hs.len hall)
  have HH1 := hid_ (fun k (hk : k < n) hh => any_hit (p := fun r : List Int => decide (300 < r.length)) (k := k) [] (by rw [hs.len]; exact hk) hh)
  have HN2 := hid_ (fun hall => any_no (p := fun x : It => decide (50 < x.word.length)) I0 h1.len hall)
  have HH2 := hid_ (fun k (hk : k < n1) hh => any_hit (p := fun x : It => decide (50 < x.word.length)) (k := k) I0 (by rw [h1.len]; exact hk) hh)
  have HN3 := hid_ (fun hall => any_no (p := fun r : List Int => decide (50 < r.length)) [] h2.len hall)
  have HH3 := hid_ (fun k (hk : k < n2) hh => any_hit (p := fun r : List Int => decide (50 < r.length)) (k := k) [] (by rw [h2.len]; exact hk) hh)
  have Hs := hs.below cb (Nat.le_refl _)
  have H1 := hid_ (h1.below cb (Nat.le_refl _)); have H2 := hid_ (h2.below cb (Nat.le_refl _))
  clear h1 h2 cb HP HP1 hs
  generalize longX L Ls = z at *
  go_enter Try.func6, Try.ntmps6
  go_wp2
  go_loop [5] (fun i => ∃ k : Nat, k ≤ n ∧ i = .int .i64 k ∧ ∀ j, j < k → decide (300 < (Ls.getD j []).length) = false) (fun i => n - (intOf i).toNat)
  case atStart => exact ⟨0, Nat.zero_le _, rfl, fun _ h => absurd h (by omega)⟩
  case round =>
    obtain ⟨k, hk, rfl, hall⟩ := hrel
    have Hall := hid_ hall; clear hall
    by_cases hlt : k < n
    · obtain ⟨b, off, a3, n3, c3, rfl, -, hcell, hrow⟩ := Hs.cells k hlt
      have hrl := hrow.len
      have hn3 := Nat.le_trans hrow.le hrow.small
      have hhit := HH1.out k hlt
      have hy := fun hx => lt_snoc (p := fun j => decide (300 < (Ls.getD j []).length) = false) Hall.out hx
      have hy' : decide (300 < (Ls.getD k []).length) = false → ∀ j, j < k + 1 → decide (300 < (Ls.getD j []).length) = false := hy
      clear hy
      rw [hrl] at hhit hy'
      clear hrow hrl
      by_cases h5 : 300 < n3
      · have Hf := hid_ (HX.out.trans (by rw [hhit (decide_eq_true h5)]; rfl : _ = true))
        clear hhit hy'
        go_wp2
        go_ret
        exact ⟨retB Hf.out, Hc1.out⟩
      · have Hf := hid_ (hy' (decide_eq_false h5))
        clear hhit hy'
        go_wp2
        go_round
        case rel => exact ⟨k + 1, by omega, by go_num, Hf.out⟩
        case measure => simp [intOf]; omega
    · obtain rfl : n = k := by omega
      have HX1 := HX.out
      rw [HN1.out Hall.out, Bool.false_or] at HX1
      have HX2 := hid_ HX1
      clear HX1 HX Hall HN1 HH1
      go_wp2
      go_loop [6] (fun i => ∃ k : Nat, k ≤ n1 ∧ i = .int .i64 k ∧ ∀ j, j < k → decide (50 < (L.items.getD j I0).word.length) = false) (fun i => n1 - (intOf i).toNat)
      case atStart => exact ⟨0, Nat.zero_le _, rfl, fun _ h => absurd h (by omega)⟩
      case round =>
        obtain ⟨k, hk, rfl, hall⟩ := hrel
        have Hall := hid_ hall; clear hall
        by_cases hlt : k < n1
        · obtain ⟨b, off, a3, n3, c3, rfl, -, k0, k1, k2, hrow⟩ := H1.out.cells k hlt
          have hrl := hrow.len
          have hn3 := Nat.le_trans hrow.le hrow.small
          have hhit := HH2.out k hlt
          have hy := fun hx => lt_snoc (p := fun j => decide (50 < (L.items.getD j I0).word.length) = false) Hall.out hx
          have hy' : decide (50 < (L.items.getD k I0).word.length) = false → ∀ j, j < k + 1 → decide (50 < (L.items.getD j I0).word.length) = false := hy
          clear hy
          rw [hrl] at hhit hy'
          clear hrow hrl
          by_cases h5 : 50 < n3
          · have Hf := hid_ (HX2.out.trans (by rw [hhit (decide_eq_true h5)]; rfl : _ = true))
            clear hhit hy'
            go_wp2
            go_ret
            exact ⟨retB Hf.out, Hc1.out⟩
          · have Hf := hid_ (hy' (decide_eq_false h5))
            clear hhit hy'
            go_wp2
            go_round
            case rel => exact ⟨k + 1, by omega, by go_num, Hf.out⟩
            case measure => simp [intOf]; omega
        · obtain rfl : n1 = k := by omega
          have HX1 := HX2.out
          rw [HN2.out Hall.out, Bool.false_or] at HX1
          have HX3 := hid_ HX1
          clear HX1 HX2 Hall HN2 HH2
          go_wp2
          go_loop [7] (fun i => ∃ k : Nat, k ≤ n2 ∧ i = .int .i64 k ∧ ∀ j, j < k → decide (50 < (L.follow.getD j []).length) = false) (fun i => n2 - (intOf i).toNat)
          case atStart => exact ⟨0, Nat.zero_le _, rfl, fun _ h => absurd h (by omega)⟩
          case round =>
            obtain ⟨k, hk, rfl, hall⟩ := hrel
            have Hall := hid_ hall; clear hall
            by_cases hlt : k < n2
            · obtain ⟨b, off, a3, n3, c3, rfl, -, hcell, hrow⟩ := H2.out.cells k hlt
              have hrl := hrow.len
              have hn3 := Nat.le_trans hrow.le hrow.small
              have hhit := HH3.out k hlt
              have hy := fun hx => lt_snoc (p := fun j => decide (50 < (L.follow.getD j []).length) = false) Hall.out hx
              have hy' : decide (50 < (L.follow.getD k []).length) = false → ∀ j, j < k + 1 → decide (50 < (L.follow.getD j []).length) = false := hy
              clear hy
              rw [hrl] at hhit hy'
              clear hrow hrl
              by_cases h5 : 50 < n3
              · have Hf := hid_ (HX3.out.trans (by rw [hhit (decide_eq_true h5)]; rfl : _ = true))
                clear hhit hy'
                go_wp2
                go_ret
                exact ⟨retB Hf.out, Hc1.out⟩
              · have Hf := hid_ (hy' (decide_eq_false h5))
                clear hhit hy'
                go_wp2
                go_round
                case rel => exact ⟨k + 1, by omega, by go_num, Hf.out⟩
                case measure => simp [intOf]; omega
            · obtain rfl : n2 = k := by omega
              have HX1 := HX3.out
              rw [HN3.out Hall.out, Bool.false_or] at HX1
              have HX4 := hid_ HX1
              clear HX1 HX3 Hall HN3 HH3
              by_cases h5 : 50 < n1
              · have Hf := hid_ (HX4.out.trans (by rw [decide_eq_true h5]; rfl : _ = true))
                go_wp2
                go_ret
                exact ⟨retB Hf.out, Hc1.out⟩
              · have h5' : ¬ 50 < (n1 : Int) := by omega
                by_cases h6 : 50 < n2
                · have h6' : 50 < (n2 : Int) := by omega
                  have Hf := hid_ (HX4.out.trans (by rw [decide_eq_true h6, Bool.or_true] : _ = true))
                  go_wp2
                  go_ret
                  exact ⟨retB Hf.out, Hc1.out⟩
                · have h6' : ¬ 50 < (n2 : Int) := by omega
                  have Hf := hid_ (HX4.out.trans (by rw [decide_eq_false h5, decide_eq_false h6]; rfl : _ = false))
                  go_wp2
                  go_ret
                  exact ⟨retB Hf.out, Hc1.out⟩
end Go.Proofs.Ytgpenbajhndhiaa
