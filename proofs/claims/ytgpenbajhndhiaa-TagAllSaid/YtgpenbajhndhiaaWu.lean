import Derived.Test.YtgpenbajhndhiaaWt
namespace Go.Proofs.Ytgpenbajhndhiaa
open Go.RowKit Go.Proofs.Kv Go

/-! ### the law TagAll -/
theorem allR_split {L : Lx} {t : List Int} {s : List Int} (h : s ∈ allR L t) : splitE L t s = 0 ∧ splitC L t s = sumC L s ∧ isS L t s := by
  unfold allR at h
  by_cases he : allE L t = 0
  · rw [if_pos he, (List.mergeSort_perm _ _).mem_iff] at h
    have h0 : textE L t = 0 := by
      unfold allE at he
      by_cases h0 : textE L t = 0
      · exact h0
      · rw [if_neg h0] at he; exact absurd he h0
    obtain ⟨g, -, -⟩ := textE_ok h0
    have hs := (mem_allS g t s).1 h
    obtain ⟨h1, h2⟩ := isS_split h0 hs
    exact ⟨h1, h2, hs⟩
  · rw [if_neg he] at h; cases h
theorem getD_mem8 {R : List (List Int)} {i : Nat} (h : i < R.length) : R.getD i [] ∈ R := by
  rw [List.getD, List.getElem?_eq_getElem h]; exact List.getElem_mem _
set_option maxRecDepth 100000 in
set_option maxHeartbeats 4000000 in
theorem tagAll_calls (v : Value) (L : Lx) (a : Option Addr) (n c : Nat) (t : List Int) (w : World) (h : LexAt w v L) (ht : IntsAt w a n c t) :
    Calls Try.prog 4 #[v, .slice a n c] w fun e w' => e = .returned (.bool true) ∧ Below w.heap.size w w' := by
  have HP := hid_ h
  obtain ⟨a1, n1, c1, a2, n2, c2, rfl, h1, h2⟩ := h
  obtain ⟨w1, hw1⟩ : ∃ w1, w.alloc (.cells #[.slice a1 n1 c1, .slice a2 n2 c2] 25) = w1 := ⟨_, rfl⟩
  have cb : Below w.heap.size w w1 := by rw [← hw1]; exact below_alloc _ _
  have q0 : w1.cell? ⟨w.heap.size, 0, none⟩ = some (.slice a1 n1 c1) := by rw [← hw1]; exact cells_alloc _ _ _ 0
  have q1 : w1.cell? ⟨w.heap.size, 1, none⟩ = some (.slice a2 n2 c2) := by rw [← hw1]; exact cells_alloc _ _ _ 1
  have HP1 := hid_ (HP.out.below cb (Nat.le_refl _)); have Hc1 := hid_ cb
  have HG := hid_ (long8_calls _ L _ 1 1 [t] _ (HP1.out.below (below_alloc w1 (.cells #[.slice a n c] 26)) (Nat.le_refl _)) (lists1_8 w1 26 (ht.below cb (Nat.le_refl _))))
  have Ha := hid_ (below_alloc w1 (.cells #[.slice a n c] 26))
  have HQ := hid_ (fun W (hW : Below w1.heap.size w1 W) => (⟨cell_below q0 hW, cell_below q1 hW⟩ : _ ∧ _))
  have HL := hid_ (fun W (hW : Below w1.heap.size w1 W) => HP1.out.below hW (Nat.le_refl _))
  have HT := hid_ (fun W (hW : Below w1.heap.size w1 W) => (ht.below cb (Nat.le_refl _)).below hW (Nat.le_refl _))
  have H1 := hid_ (fun W hW => taAll_calls _ L a n c t W (HL.out W hW) (HT.out W hW))
  have H2 := hid_ (fun W hW => r8All_calls _ L a n c t W (HL.out W hW) (HT.out W hW))
  have H3 := hid_ (fun W hW a' n' c' s hs => taCheckSplit_calls _ L a n c t a' n' c' s W (HL.out W hW) (HT.out W hW) hs)
  have HK := hid_ sane_calls
  have HR : Hid (∀ s ∈ allR L t, splitE L t s = 0) := hid_ fun s hs => (allR_split hs).1
  unfold AllPost at H1 H2
  clear h1 h2 HP HP1 cb ht
  cases hg : longX L [t] with
  | true =>
    rw [hg] at HG
    clear hg
    go_enter Try.func4, Try.ntmps4
    go_wp2_with (first
      | (go_at_call 6; (with_reducible refine HG.out.mono ?_); rintro e w2 ⟨rfl, hb2⟩; have Hb2 := hid_ (below_then8 Ha.out hb2); clear hb2)
      | (go_at_call 7; (with_reducible refine (HK.out _).mono ?_); rintro e w3 ⟨rfl, hb3⟩))
    go_ret
    exact ⟨rfl, Hc1.out.trans ((below_then8 Hb2.out hb3).mono Hc1.out.size)⟩
  | false =>
    rw [hg] at HG
    clear hg
    generalize allE L t = x at *
    generalize allR L t = R at *
    go_enter Try.func4, Try.ntmps4
    go_wp2_with (first
      | (go_at_call 6; (with_reducible refine HG.out.mono ?_); rintro e w2 ⟨rfl, hb2'⟩; have hb2 := below_then8 Ha.out hb2'; obtain ⟨q2, r2⟩ := HQ.out w2 hb2)
      | (go_at_call 14; (with_reducible refine (H1.out _ hb2).mono ?_); rintro e w3 ⟨a3, n3, c3, rfl, hL3, hb3'⟩; have hb3 := below_then8 hb2 hb3'; obtain ⟨q3, r3⟩ := HQ.out w3 hb3; have HL3 := hid_ hL3; clear hL3)
      | (go_at_call 15; (with_reducible refine (H2.out _ hb3).mono ?_); rintro e w4 ⟨a4, n4, c4, rfl, hL4, hb4'⟩; have hb4 := below_then8 hb3 hb4'; have HL34 := hid_ (HL3.out.below hb4' (Nat.le_refl _)); have HSm := hid_ (sameL8_calls a3 n3 c3 R a4 n4 c4 R w4 HL34.out hL4); rw [decide_eq_true rfl] at HSm; clear hL4)
      | (go_at_call 16; (with_reducible refine HSm.out.mono ?_); rintro e w5 ⟨rfl, hw5⟩; have hb5' : Below w4.heap.size w4 w5 := (by (obtain ⟨q, rfl⟩ := hw5; exact below_drewN (Below.refl _ w4) q)); clear hw5; have hb5 := below_then8 hb4 hb5'; have HL5 := hid_ (HL34.out.below hb5' (Nat.le_refl _))))
    go_loopw [9] (fun iv wr => ∃ i : Nat, iv = .int .i64 (i : Int) ∧ i ≤ n3 ∧ Below w5.heap.size w5 wr) (fun iv _ => n3 - (intOf iv).toNat)
    case atStart => exact ⟨0, rfl, Nat.zero_le _, Below.refl _ _⟩
    case round =>
      obtain ⟨i, rfl, hi, hb⟩ := hrel
      have Hb := hid_ hb
      have H1r := hid_ (hb5.trans (hb.mono hb5.size))
      have hs3 := Nat.le_trans HL5.out.le HL5.out.small
      by_cases hin : i < n3
      · have hwi : IntKind.i64.wrap ((i : Int) + 1) = (i : Int) + 1 := IntWalk.i64_in _ (by omega)
        obtain ⟨q0r, q1r⟩ := HQ.out wr H1r.out
        obtain ⟨bm, offm, ai, ni, ci, e7, -, hcell, hIr⟩ := (HL5.out.below hb (Nat.le_refl _)).cells i hin
        have he0 := HR.out (R.getD i []) (getD_mem8 (by rw [HL5.out.len]; exact hin))
        have gA := cell_regrown q0r; have gB := cell_regrown q1r; have gC := cell_regrown hcell
        have HC := hid_ (fun d os => H3.out (Go.Sort.grow (redrawn wr d) os) (H1r.out.trans ((below_regrown wr d os).mono H1r.out.size)) ai ni ci (R.getD i []) (hIr.below (below_regrown wr d os) (Nat.le_refl _)))
        rw [he0] at HC
        generalize splitC L t (R.getD i []) = y at *
        clear hb q0r q1r hcell hIr he0
        subst e7
        go_wp2
        refine wp_region_quiet_below (by kernel_rfl) (by kernel_rfl) ?_
        repeat (first | go_big_quiet_skip | (go_big_quiet_want; go_big_quiet_op; first | go_big_quiet_on | go_big_quiet_call ((go_at_call 17; with_reducible exact Calls.regrown_of (HC.out _ _)))))
        refine wpQuiet_nil ?_
        rintro wq ⟨pq, hpq⟩
        have hbq := below_wq hpq
        have Hjq := hid_ hbq
        clear hpq hbq gA gB gC
        go_wp2
        go_roundw
        case rel => exact ⟨i + 1, by go_num, by omega, Hb.out.trans (Hjq.out.mono Hb.out.size)⟩
        case measure => simp [intOf]; omega
      · have hnl : ¬ (i : Int) < (n3 : Int) := by omega
        clear hb
        go_wp2_with (go_at_call 7; (with_reducible refine (HK.out _).mono ?_); rintro e w8 ⟨rfl, hb8⟩)
        go_ret
        exact ⟨rfl, Hc1.out.trans ((below_then8 H1r.out hb8).mono Hc1.out.size)⟩
end Go.Proofs.Ytgpenbajhndhiaa
