import Derived.Test.YtliheejcfkhghaaVF
import Derived.Test.YtliheejcfkhghaaVG
namespace Go.Proofs.Ytliheejcfkhghaa
open Go.RowKit Go.Proofs.Kv Go

/-! ### the law TagChecks -/
set_option maxRecDepth 100000 in
set_option maxHeartbeats 4000000 in
theorem tagChecks_calls (v : Value) (L : Lx) (a : Option Addr) (n c : Nat) (t : List Int) (a' : Option Addr) (n' c' : Nat) (P : List (List Int)) (w : World) (h : LexAt w v L) (ht : IntsAt w a n c t) (hL : ListsAt w a' n' c' P) :
    Calls Try.prog 6 #[v, .slice a n c, .slice a' n' c'] w fun e w' => e = .returned (.bool true) ∧ Below w.heap.size w w' := by
  have HP := hid_ h
  obtain ⟨a1, n1, c1, a2, n2, c2, rfl, h1, h2⟩ := h
  obtain ⟨w1, hw1⟩ : ∃ w1, w.alloc (.cells #[.slice a1 n1 c1, .slice a2 n2 c2] 25) = w1 := ⟨_, rfl⟩
  have cb : Below w.heap.size w w1 := by rw [← hw1]; exact below_alloc _ _
  have q0 : w1.cell? ⟨w.heap.size, 0, none⟩ = some (.slice a1 n1 c1) := by rw [← hw1]; exact cells_alloc _ _ _ 0
  have q1 : w1.cell? ⟨w.heap.size, 1, none⟩ = some (.slice a2 n2 c2) := by rw [← hw1]; exact cells_alloc _ _ _ 1
  have HP1 := hid_ (HP.out.below cb (Nat.le_refl _)); have Hc1 := hid_ cb
  have HG := hid_ (long8_calls _ L _ 1 1 [t] _ (HP1.out.below (below_alloc w1 (.cells #[.slice a n c] 26)) (Nat.le_refl _)) (lists1_8 w1 26 (ht.below cb (Nat.le_refl _))))
  have Ha := hid_ (below_alloc w1 (.cells #[.slice a n c] 26))
  have HQ := hid_ (fun W (hW : Below w1.heap.size w1 W) => (⟨cell_below q0 hW, cell_below q1 hW⟩ : _ ∧ _))
  have HA := hid_ (fun W (hW : Below w1.heap.size w1 W) => taCheckProof_calls _ L a n c t a' n' c' P W (HP1.out.below hW (Nat.le_refl _)) ((ht.below cb (Nat.le_refl _)).below hW (Nat.le_refl _)) ((hL.below cb (Nat.le_refl _)).below hW (Nat.le_refl _)))
  have HB := hid_ (fun W (hW : Below w1.heap.size w1 W) => r8CheckProof_calls _ L a n c t a' n' c' P W (HP1.out.below hW (Nat.le_refl _)) ((ht.below cb (Nat.le_refl _)).below hW (Nat.le_refl _)) ((hL.below cb (Nat.le_refl _)).below hW (Nat.le_refl _)))
  have HLe := hid_ (fun W (hW : Below w1.heap.size w1 W) => taLeast_calls _ L a n c t W (HP1.out.below hW (Nat.le_refl _)) ((ht.below cb (Nat.le_refl _)).below hW (Nat.le_refl _)))
  have HLs := hid_ (fun W (hW : Below w1.heap.size w1 W) => (hL.below cb (Nat.le_refl _)).below hW (Nat.le_refl _))
  have HK := hid_ sane_calls
  have HF := @prf_facts L t P
  have hn'1 : n' ≤ 9223372036854775807 := Nat.le_trans hL.le hL.small
  clear h1 h2 HP HP1 cb ht hL
  cases hg : longX L [t] with
  | true =>
    rw [hg] at HG
    clear hg HF
    go_enter Try.func6, Try.ntmps6
    go_wp2_with (first
      | (go_at_call 18; (with_reducible refine HG.out.mono ?_); rintro e w2 ⟨rfl, hb2⟩; have Hb2 := hid_ (below_then8 Ha.out hb2); clear hb2)
      | (go_at_call 19; (with_reducible refine (HK.out _).mono ?_); rintro e w3 ⟨rfl, hb3⟩))
    go_ret
    exact ⟨rfl, Hc1.out.trans ((below_then8 Hb2.out hb3).mono Hc1.out.size)⟩
  | false =>
    rw [hg] at HG
    clear hg
    generalize leastV L t = m at *
    generalize leastB L t = s at *
    generalize textE L t = x at *
    generalize (prfP L t P).1 = k at *
    generalize (prfP L t P).2 = b at *
    generalize proofE L t P = y at *
    have hkk : (k != k) = false := by simp
    have hyy : (y != y) = false := by simp
    by_cases h50 : 50 < n'
    · have h50' : (n' : Int) > 50 := by omega
      clear HF
      go_enter Try.func6, Try.ntmps6
      go_wp2_with (first
        | (go_at_call 18; (with_reducible refine HG.out.mono ?_); rintro e w2 ⟨rfl, hb2⟩; have Hb2 := hid_ (below_then8 Ha.out hb2); clear hb2)
        | (go_at_call 19; (with_reducible refine (HK.out _).mono ?_); rintro e w3 ⟨rfl, hb3⟩))
      go_ret
      exact ⟨rfl, Hc1.out.trans ((below_then8 Hb2.out hb3).mono Hc1.out.size)⟩
    · have h50' : ¬ (n' : Int) > 50 := by omega
      go_enter Try.func6, Try.ntmps6
      go_wp2_with (go_at_call 18; (with_reducible refine HG.out.mono ?_); rintro e w2 ⟨rfl, hb2'⟩; have hb2 := below_then8 Ha.out hb2')
      have Hls := hid_ (HLs.out w2 hb2)
      have Hb2 := hid_ hb2
      clear hb2
      go_loop [7] (fun iv => ∃ i : Nat, i ≤ n' ∧ iv = .int .i64 i) (fun iv => n' - (intOf iv).toNat)
      case atStart => exact ⟨0, Nat.zero_le _, rfl⟩
      case round =>
        obtain ⟨i, hi, rfl⟩ := hrel
        by_cases hlt : i < n'
        · obtain ⟨br, off, a3, n3, c3, ea, -, hcell, hrow⟩ := Hls.out.cells i hlt
          have hn3 := Nat.le_trans hrow.le hrow.small
          subst ea
          clear hrow
          by_cases h5 : 50 < n3
          · have h5' : (n3 : Int) > 50 := by omega
            go_wp2_with (go_at_call 19; (with_reducible refine (HK.out _).mono ?_); rintro e w3 ⟨rfl, hb3⟩)
            go_ret
            exact ⟨rfl, Hc1.out.trans ((below_then8 Hb2.out hb3).mono Hc1.out.size)⟩
          · have h5' : ¬ (n3 : Int) > 50 := by omega
            go_wp2
            go_round
            case rel => exact ⟨i + 1, by omega, by go_num⟩
            case measure => simp [intOf]; omega
        · obtain rfl : n' = i := by omega
          obtain ⟨q2, r2⟩ := HQ.out w2 Hb2.out
          cases b with
          | false =>
            clear HF
            go_wp2_with (first
              | (go_at_call 32; (with_reducible refine (HA.out _ Hb2.out).mono ?_); rintro e w3 ⟨rfl, hb3'⟩; have hb3 := below_then8 Hb2.out hb3'; obtain ⟨q3, r3⟩ := HQ.out w3 hb3)
              | (go_at_call 33; (with_reducible refine (HB.out _ hb3).mono ?_); rintro e w4 ⟨rfl, hb4'⟩; have hb4 := below_then8 hb3 hb4'; obtain ⟨q4, r4⟩ := HQ.out w4 hb4)
              | (go_at_call 24; (with_reducible refine (HLe.out _ hb4).mono ?_); rintro e w5 ⟨rfl, hb5'⟩; have hb5 := below_then8 hb4 hb5')
              | (go_at_call 19; (with_reducible refine (HK.out _).mono ?_); rintro e w6 ⟨rfl, hb6⟩))
            go_ret
            exact ⟨rfl, Hc1.out.trans ((below_then8 hb5 hb6).mono Hc1.out.size)⟩
          | true =>
            obtain ⟨rfl, hle⟩ := HF rfl
            clear HF
            cases s with
            | false =>
              clear hle
              go_wp2_with (first
                | (go_at_call 32; (with_reducible refine (HA.out _ Hb2.out).mono ?_); rintro e w3 ⟨rfl, hb3'⟩; have hb3 := below_then8 Hb2.out hb3'; obtain ⟨q3, r3⟩ := HQ.out w3 hb3)
                | (go_at_call 33; (with_reducible refine (HB.out _ hb3).mono ?_); rintro e w4 ⟨rfl, hb4'⟩; have hb4 := below_then8 hb3 hb4'; obtain ⟨q4, r4⟩ := HQ.out w4 hb4)
                | (go_at_call 24; (with_reducible refine (HLe.out _ hb4).mono ?_); rintro e w5 ⟨rfl, hb5'⟩; have hb5 := below_then8 hb4 hb5')
                | (go_at_call 19; (with_reducible refine (HK.out _).mono ?_); rintro e w6 ⟨rfl, hb6⟩))
              go_ret
              exact ⟨rfl, Hc1.out.trans ((below_then8 hb5 hb6).mono Hc1.out.size)⟩
            | true =>
              have hle2 := hle rfl
              clear hle
              go_wp2_with (first
                | (go_at_call 32; (with_reducible refine (HA.out _ Hb2.out).mono ?_); rintro e w3 ⟨rfl, hb3'⟩; have hb3 := below_then8 Hb2.out hb3'; obtain ⟨q3, r3⟩ := HQ.out w3 hb3)
                | (go_at_call 33; (with_reducible refine (HB.out _ hb3).mono ?_); rintro e w4 ⟨rfl, hb4'⟩; have hb4 := below_then8 hb3 hb4'; obtain ⟨q4, r4⟩ := HQ.out w4 hb4)
                | (go_at_call 24; (with_reducible refine (HLe.out _ hb4).mono ?_); rintro e w5 ⟨rfl, hb5'⟩; have hb5 := below_then8 hb4 hb5')
                | (go_at_call 19; (with_reducible refine (HK.out _).mono ?_); rintro e w6 ⟨rfl, hb6⟩))
              go_ret
              exact ⟨rfl, Hc1.out.trans ((below_then8 hb5 hb6).mono Hc1.out.size)⟩
end Go.Proofs.Ytliheejcfkhghaa
