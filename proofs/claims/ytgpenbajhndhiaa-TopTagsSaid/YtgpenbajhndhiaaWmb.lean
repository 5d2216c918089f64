import Derived.Test.YtgpenbajhndhiaaWs
import Derived.Test.YtgpenbajhndhiaaVz
import Derived.Test.YtgpenbajhndhiaaVmn
namespace Go.Proofs.Ytgpenbajhndhiaa
open Go.RowKit Go.Proofs.Kv Go

/-! ### All of the document -/
set_option maxRecDepth 100000 in
set_option maxHeartbeats 4000000 in
theorem r8All_calls (v : Value) (L : Lx) (a : Option Addr) (n c : Nat) (t : List Int) (w : World) (h : LexAt w v L) (ht : IntsAt w a n c t) :
    Calls Try.prog 15 #[v, .slice a n c] w fun e w' => AllPost L t w e w' := by
  have HP := hid_ h
  obtain ⟨a1, n1, c1, a2, n2, c2, rfl, h1, h2⟩ := h
  obtain ⟨w1, hw1⟩ : ∃ w1, w.alloc (.cells #[.slice a1 n1 c1, .slice a2 n2 c2] 25) = w1 := ⟨_, rfl⟩
  have cb : Below w.heap.size w w1 := by rw [← hw1]; exact below_alloc _ _
  have q0 : w1.cell? ⟨w.heap.size, 0, none⟩ = some (.slice a1 n1 c1) := by rw [← hw1]; exact cells_alloc _ _ _ 0
  have q1 : w1.cell? ⟨w.heap.size, 1, none⟩ = some (.slice a2 n2 c2) := by rw [← hw1]; exact cells_alloc _ _ _ 1
  have HP1 := hid_ (HP.out.below cb (Nat.le_refl _)); have Hc1 := hid_ cb
  have HCo := hid_ (r8Count_calls _ L a n c t w1 HP1.out (ht.below cb (Nat.le_refl _)))
  have HQ := hid_ (fun W (hW : Below w1.heap.size w1 W) => (⟨cell_below q0 hW, cell_below q1 hW⟩ : _ ∧ _))
  by_cases he : textE L t = 0
  · obtain ⟨g, h12, -⟩ := textE_ok he
    have hcv : countV L t = cntA L t := by unfold countV; rw [if_pos he]
    obtain ⟨m, hm⟩ : ∃ m : Nat, cntA L t = (m : Int) := ⟨_, rfl⟩
    rw [hcv, he, hm] at HCo
    by_cases h50 : (50 : Int) < (m : Int)
    · have hE : allE L t = 3 := by unfold allE; rw [if_pos he, hm, if_pos h50]
      have HG : Hid (∀ W, Below w.heap.size w W → AllPost L t w (.returned (.tuple #[.slice none 0 0, .int .i64 3])) W) := hid_ fun W hW => ⟨none, 0, 0, by rw [hE], by (unfold allR; rw [hE, if_neg (by decide)]; exact ListsAt.nil _ _ _ (by omega)), hW⟩
      clear he hm hcv HP HP1 h1 h2 cb ht hE g h12
      go_enter Try.func15, Try.ntmps15
      go_wp2_with (go_at_call 11; (with_reducible refine HCo.out.mono ?_); rintro e w2 ⟨rfl, hb2⟩)
      go_ret2
      exact HG.out _ (Hc1.out.trans (hb2.mono Hc1.out.size))
    · have hE : allE L t = 0 := by unfold allE; rw [if_pos he, hm, if_neg h50]
      have HG : Hid (∀ W a' c', ListsAt W a' m c' ((allS L t).mergeSort leL) → Below w.heap.size w W → AllPost L t w (.returned (.tuple #[.slice a' m c', .int .i64 0])) W) := hid_ fun W a' c' hL hW => ⟨a', m, c', by rw [hE], by (unfold allR; rw [hE, if_pos rfl]; exact hL), hW⟩
      by_cases hm0 : m = 0
      · subst hm0
        rw [show ((0 : Nat) : Int) = 0 from rfl] at HCo h50 hm
        have hA : (allS L t).mergeSort leL = [] := by rw [cntA_ne.1 hm, List.mergeSort_nil]
        rw [hA] at HG
        clear he hm hcv HP HP1 h1 h2 cb ht hE g h12 hA h50
        go_enter Try.func15, Try.ntmps15
        go_wp2_with (go_at_call 11; (with_reducible refine HCo.out.mono ?_); rintro e w2 ⟨rfl, hb2⟩)
        go_ret2
        exact HG.out _ _ _ (ListsAt.nil _ _ _ (by omega)) (Hc1.out.trans (hb2.mono Hc1.out.size))
      · have hz : ((m : Int) == 0) = false := by simp; omega
        have hlen : (restL L t (n + 1) 0 (-1)).length = m := by
          rw [← ht.len, restL_all g, List.length_mergeSort]
          unfold cntA at hm; omega
        have hRe : restL L t (n + 1) 0 (-1) = (allS L t).mergeSort leL := by rw [← ht.len, restL_all g]
        have HS := hid_ (fun W (hW : Below w1.heap.size w1 W) => rest_calls L g a n c t (by rw [← ht.len]; exact h12) (n + 1) 0 (-1) _ W (HP1.out.below hW (Nat.le_refl _)) ((ht.below cb (Nat.le_refl _)).below hW (Nat.le_refl _)) (Nat.zero_le _) (by omega) (.inl rfl) (by rw [hlen]; omega))
        rw [hRe] at HS
        have Hlen : Hid (((allS L t).mergeSort leL).length = m) := hid_ (by rw [← hRe]; exact hlen)
        rw [show ((0 : Nat) : Int) = 0 from rfl] at HS
        clear he hm hcv HP HP1 h1 h2 cb ht hE g h12 hm0 hlen hRe
        go_enter Try.func15, Try.ntmps15
        go_wp2_with (first
          | (go_at_call 11; (with_reducible refine HCo.out.mono ?_); rintro e w2 ⟨rfl, hb2⟩; obtain ⟨q2, r2⟩ := HQ.out w2 hb2)
          | (go_at_call 35; (with_reducible refine (HS.out _ hb2).mono ?_); rintro e w3 ⟨v3, us3, rfl, hO3, hb3⟩; obtain ⟨a3, c3, rfl, hL3⟩ := hO3.lists; rw [Hlen.out] at hL3 ⊢; have HL3 := hid_ hL3; clear hO3 hL3))
        go_ret2
        exact HG.out _ _ _ HL3.out (Hc1.out.trans ((hb2.trans (hb3.mono hb2.size)).mono Hc1.out.size))
  · have hq : (textE L t != 0) = true := by simpa using he
    have hE : allE L t = textE L t := by unfold allE; rw [if_neg he]
    have hcv : countV L t = 0 := by unfold countV; rw [if_neg he]
    have HG : Hid (∀ W, Below w.heap.size w W → AllPost L t w (.returned (.tuple #[.slice none 0 0, .int .i64 (textE L t)])) W) := hid_ fun W hW => ⟨none, 0, 0, by rw [hE], by (unfold allR; rw [hE, if_neg he]; exact ListsAt.nil _ _ _ (by omega)), hW⟩
    rw [hcv] at HCo
    generalize textE L t = x at *
    clear he HP HP1 h1 h2 cb ht hE hcv
    go_enter Try.func15, Try.ntmps15
    go_wp2_with (go_at_call 11; (with_reducible refine HCo.out.mono ?_); rintro e w2 ⟨rfl, hb2⟩)
    go_ret2
    exact HG.out _ (Hc1.out.trans (hb2.mono Hc1.out.size))
/-! ### the law TagLeast -/
theorem isS_split {L : Lx} {t s : List Int} (he : textE L t = 0) (h : isS L t s) : splitE L t s = 0 ∧ splitC L t s = sumC L s := by
  obtain ⟨g, h12, -⟩ := textE_ok he
  have h1 := isS_small g h12 h
  have h2 : splitE L t s = 0 := by
    unfold splitE
    rw [if_pos he, if_neg (by omega), if_pos h.1, if_pos h.2.1, if_pos h.2.2]
  exact ⟨h2, by unfold splitC; rw [if_pos h2]⟩
set_option maxRecDepth 100000 in
set_option maxHeartbeats 4000000 in
theorem tagLeast_calls (v : Value) (L : Lx) (a : Option Addr) (n c : Nat) (t : List Int) (w : World) (h : LexAt w v L) (ht : IntsAt w a n c t) :
    Calls Try.prog 3 #[v, .slice a n c] w fun e w' => e = .returned (.bool true) ∧ Below w.heap.size w w' := by
  have HP := hid_ h
  obtain ⟨a1, n1, c1, a2, n2, c2, rfl, h1, h2⟩ := h
  obtain ⟨w1, hw1⟩ : ∃ w1, w.alloc (.cells #[.slice a1 n1 c1, .slice a2 n2 c2] 25) = w1 := ⟨_, rfl⟩
  have cb : Below w.heap.size w w1 := by rw [← hw1]; exact below_alloc _ _
  have q0 : w1.cell? ⟨w.heap.size, 0, none⟩ = some (.slice a1 n1 c1) := by rw [← hw1]; exact cells_alloc _ _ _ 0
  have q1 : w1.cell? ⟨w.heap.size, 1, none⟩ = some (.slice a2 n2 c2) := by rw [← hw1]; exact cells_alloc _ _ _ 1
  have HP1 := hid_ (HP.out.below cb (Nat.le_refl _)); have Hc1 := hid_ cb
  have HG := hid_ (long8_calls _ L _ 1 1 [t] _ (HP1.out.below (below_alloc w1 (.cells #[.slice a n c] 26)) (Nat.le_refl _)) (lists1_8 w1 26 (ht.below cb (Nat.le_refl _))))
  have Ha := hid_ (below_alloc w1 (.cells #[.slice a n c] 26))
  have HQ := hid_ (fun W (hW : Below w1.heap.size w1 W) => (⟨cell_below q0 hW, cell_below q1 hW⟩ : _ ∧ _))
  have HL := hid_ (fun W (hW : Below w1.heap.size w1 W) => HP1.out.below hW (Nat.le_refl _))
  have HT := hid_ (fun W (hW : Below w1.heap.size w1 W) => (ht.below cb (Nat.le_refl _)).below hW (Nat.le_refl _))
  have H1 := hid_ (fun W hW => taLeast_calls _ L a n c t W (HL.out W hW) (HT.out W hW))
  have H2 := hid_ (fun W hW => r8Least_calls _ L a n c t W (HL.out W hW) (HT.out W hW))
  have H3 := hid_ (fun W hW => taCount_calls _ L a n c t W (HL.out W hW) (HT.out W hW))
  have H4 := hid_ (fun W hW => r8Count_calls _ L a n c t W (HL.out W hW) (HT.out W hW))
  have H5 := hid_ (fun W hW => taBest_calls _ L a n c t W (HL.out W hW) (HT.out W hW))
  have H6 := hid_ (fun W hW a' n' c' s hs => r8CheckSplit_calls _ L a n c t a' n' c' s W (HL.out W hW) (HT.out W hW) hs)
  have HK := hid_ sane_calls
  have HBv : Hid (leastB L t = (decide (textE L t = 0) && decide (cntA L t ≠ 0))) := hid_ rfl
  have HCv : Hid (countV L t = if textE L t = 0 then cntA L t else 0) := hid_ rfl
  have HSp : Hid (leastB L t = true → ∀ s, isS L t s → splitE L t s = 0 ∧ splitC L t s = sumC L s) := hid_ fun hl s hs => isS_split (by unfold leastB at hl; rw [Bool.and_eq_true, decide_eq_true_eq] at hl; exact hl.1) hs
  have HC0 : Hid (0 ≤ cntA L t) := hid_ (by unfold cntA; omega)
  unfold BestPost at H5
  clear h1 h2 HP HP1 cb ht
  cases hg : longX L [t] with
  | true =>
    rw [hg] at HG
    clear hg
    go_enter Try.func3, Try.ntmps3
    go_wp2_with (first
      | (go_at_call 6; (with_reducible refine HG.out.mono ?_); rintro e w2 ⟨rfl, hb2⟩; have Hb2 := hid_ (below_then8 Ha.out hb2); clear hb2)
      | (go_at_call 7; (with_reducible refine (HK.out _).mono ?_); rintro e w3 ⟨rfl, hb3⟩))
    go_ret
    exact ⟨rfl, Hc1.out.trans ((below_then8 Hb2.out hb3).mono Hc1.out.size)⟩
  | false =>
    rw [hg] at HG
    clear hg
    cases hl : leastB L t with
    | false =>
      rw [hl] at H1 H2 H5 HBv
      have hc0 : countV L t = 0 := by
        rw [HCv.out]
        split
        · rename_i he
          have h9 := HBv.out
          rw [decide_eq_true he, Bool.true_and] at h9
          by_cases h8 : cntA L t = 0
          · exact h8
          · rw [decide_eq_true h8] at h9; cases h9
        · rfl
      rw [hc0] at H3 H4
      generalize leastV L t = m at *
      generalize textE L t = x at *
      clear hl HCv HBv HSp HC0 hc0
      go_enter Try.func3, Try.ntmps3
      go_wp2_with (first
        | (go_at_call 6; (with_reducible refine HG.out.mono ?_); rintro e w2 ⟨rfl, hb2'⟩; have hb2 := below_then8 Ha.out hb2'; obtain ⟨q2, r2⟩ := HQ.out w2 hb2)
        | (go_at_call 8; (with_reducible refine (H1.out _ hb2).mono ?_); rintro e w3 ⟨rfl, hb3'⟩; have hb3 := below_then8 hb2 hb3'; obtain ⟨q3, r3⟩ := HQ.out w3 hb3)
        | (go_at_call 9; (with_reducible refine (H2.out _ hb3).mono ?_); rintro e w4 ⟨rfl, hb4'⟩; have hb4 := below_then8 hb3 hb4'; obtain ⟨q4, r4⟩ := HQ.out w4 hb4)
        | (go_at_call 10; (with_reducible refine (H3.out _ hb4).mono ?_); rintro e w5 ⟨rfl, hb5'⟩; have hb5 := below_then8 hb4 hb5'; obtain ⟨q5, r5⟩ := HQ.out w5 hb5)
        | (go_at_call 11; (with_reducible refine (H4.out _ hb5).mono ?_); rintro e w6 ⟨rfl, hb6'⟩; have hb6 := below_then8 hb5 hb6'; obtain ⟨q6, r6⟩ := HQ.out w6 hb6)
        | (go_at_call 12; (with_reducible refine (H5.out _ hb6).mono ?_); rintro e w7 ⟨a7, n7, c7, s7, rfl, hI7, -, hz7, hb7'⟩; obtain rfl := hz7 (by trivial); have hb7 := below_then8 hb6 hb7'; clear hI7 hz7)
        | (go_at_call 7; (with_reducible refine (HK.out _).mono ?_); rintro e w8 ⟨rfl, hb8⟩))
      go_ret
      exact ⟨by simp, Hc1.out.trans ((below_then8 hb7 hb8).mono Hc1.out.size)⟩
    | true =>
      have hxc : textE L t = 0 ∧ cntA L t ≠ 0 := by
        have h9 := hl
        unfold leastB at h9
        rw [Bool.and_eq_true, decide_eq_true_eq, decide_eq_true_eq] at h9
        exact h9
      have hcv : countV L t = cntA L t := by rw [HCv.out, if_pos hxc.1]
      have HSp' := hid_ (HSp.out hl)
      rw [hl, hxc.1] at H1 H2 H5
      rw [hxc.1, hcv] at H3 H4
      have hpos : decide (cntA L t > 0) = true := decide_eq_true (by have := HC0.out; have := hxc.2; omega)
      generalize leastV L t = m at *
      generalize cntA L t = k at *
      clear hl HCv HBv HSp HC0 hcv hxc
      go_enter Try.func3, Try.ntmps3
      go_wp2_with (first
        | (go_at_call 6; (with_reducible refine HG.out.mono ?_); rintro e w2 ⟨rfl, hb2'⟩; have hb2 := below_then8 Ha.out hb2'; obtain ⟨q2, r2⟩ := HQ.out w2 hb2)
        | (go_at_call 8; (with_reducible refine (H1.out _ hb2).mono ?_); rintro e w3 ⟨rfl, hb3'⟩; have hb3 := below_then8 hb2 hb3'; obtain ⟨q3, r3⟩ := HQ.out w3 hb3)
        | (go_at_call 9; (with_reducible refine (H2.out _ hb3).mono ?_); rintro e w4 ⟨rfl, hb4'⟩; have hb4 := below_then8 hb3 hb4'; obtain ⟨q4, r4⟩ := HQ.out w4 hb4)
        | (go_at_call 10; (with_reducible refine (H3.out _ hb4).mono ?_); rintro e w5 ⟨rfl, hb5'⟩; have hb5 := below_then8 hb4 hb5'; obtain ⟨q5, r5⟩ := HQ.out w5 hb5)
        | (go_at_call 11; (with_reducible refine (H4.out _ hb5).mono ?_); rintro e w6 ⟨rfl, hb6'⟩; have hb6 := below_then8 hb5 hb6'; obtain ⟨q6, r6⟩ := HQ.out w6 hb6)
        | (go_at_call 12; (with_reducible refine (H5.out _ hb6).mono ?_); rintro e w7 ⟨a7, n7, c7, s7, rfl, hI7, hs7, -, hb7'⟩; have hb7 := below_then8 hb6 hb7'; obtain ⟨q7, r7⟩ := HQ.out w7 hb7; have hs8 := HSp'.out s7 (hs7 (by trivial)).1; have HCs := H6.out w7 hb7 _ _ _ _ hI7; rw [hs8.1, hs8.2, (hs7 (by trivial)).2] at HCs; have HCs := hid_ HCs; clear hI7 hs7 hs8)
        | (go_at_call 13; (with_reducible refine HCs.out.mono ?_); rintro e w8 ⟨rfl, hb8'⟩; have hb8 := below_then8 hb7 hb8')
        | (go_at_call 7; (with_reducible refine (HK.out _).mono ?_); rintro e w9 ⟨rfl, hb9⟩))
      go_ret
      exact ⟨by simp, Hc1.out.trans ((below_then8 hb8 hb9).mono Hc1.out.size)⟩
end Go.Proofs.Ytgpenbajhndhiaa
namespace Go.Proofs.Ytgpenbajhndhiaa
open Go.RowKit Go.Proofs.Kv Go

/-! ### the law TagAll -/
theorem allR_split {L : Lx} {t : List Int} {s : List Int} (h : s ∈ allR L t) : splitE L t s = 0 ∧ splitC L t s = sumC L s ∧ isS L t s := by
  unfold allR at h
  by_cases he : allE L t = 0
  · rw [if_pos he, (List.mergeSort_perm _ _).mem_iff] at h
    have h0 : textE L t = 0 := by
      unfold allE at he
      by_cases h0 : textE L t = 0
      · exact h0
      · rw [if_neg h0] at he; exact absurd he h0
    obtain ⟨g, -, -⟩ := textE_ok h0
    have hs := (mem_allS g t s).1 h
    obtain ⟨h1, h2⟩ := isS_split h0 hs
    exact ⟨h1, h2, hs⟩
  · rw [if_neg he] at h; cases h
theorem getD_mem8 {R : List (List Int)} {i : Nat} (h : i < R.length) : R.getD i [] ∈ R := by
  rw [List.getD, List.getElem?_eq_getElem h]; exact List.getElem_mem _
set_option maxRecDepth 100000 in
set_option maxHeartbeats 4000000 in
theorem tagAll_calls (v : Value) (L : Lx) (a : Option Addr) (n c : Nat) (t : List Int) (w : World) (h : LexAt w v L) (ht : IntsAt w a n c t) :
    Calls Try.prog 4 #[v, .slice a n c] w fun e w' => e = .returned (.bool true) ∧ Below w.heap.size w w' := by
  have HP := hid_ h
  obtain ⟨a1, n1, c1, a2, n2, c2, rfl, h1, h2⟩ := h
  obtain ⟨w1, hw1⟩ : ∃ w1, w.alloc (.cells #[.slice a1 n1 c1, .slice a2 n2 c2] 25) = w1 := ⟨_, rfl⟩
  have cb : Below w.heap.size w w1 := by rw [← hw1]; exact below_alloc _ _
  have q0 : w1.cell? ⟨w.heap.size, 0, none⟩ = some (.slice a1 n1 c1) := by rw [← hw1]; exact cells_alloc _ _ _ 0
  have q1 : w1.cell? ⟨w.heap.size, 1, none⟩ = some (.slice a2 n2 c2) := by rw [← hw1]; exact cells_alloc _ _ _ 1
  have HP1 := hid_ (HP.out.below cb (Nat.le_refl _)); have Hc1 := hid_ cb
  have HG := hid_ (long8_calls _ L _ 1 1 [t] _ (HP1.out.below (below_alloc w1 (.cells #[.slice a n c] 26)) (Nat.le_refl _)) (lists1_8 w1 26 (ht.below cb (Nat.le_refl _))))
  have Ha := hid_ (below_alloc w1 (.cells #[.slice a n c] 26))
  have HQ := hid_ (fun W (hW : Below w1.heap.size w1 W) => (⟨cell_below q0 hW, cell_below q1 hW⟩ : _ ∧ _))
  have HL := hid_ (fun W (hW : Below w1.heap.size w1 W) => HP1.out.below hW (Nat.le_refl _))
  have HT := hid_ (fun W (hW : Below w1.heap.size w1 W) => (ht.below cb (Nat.le_refl _)).below hW (Nat.le_refl _))
  have H1 := hid_ (fun W hW => taAll_calls _ L a n c t W (HL.out W hW) (HT.out W hW))
  have H2 := hid_ (fun W hW => r8All_calls _ L a n c t W (HL.out W hW) (HT.out W hW))
  have H3 := hid_ (fun W hW a' n' c' s hs => taCheckSplit_calls _ L a n c t a' n' c' s W (HL.out W hW) (HT.out W hW) hs)
  have HK := hid_ sane_calls
  have HR : Hid (∀ s ∈ allR L t, splitE L t s = 0) := hid_ fun s hs => (allR_split hs).1
  unfold AllPost at H1 H2
  clear h1 h2 HP HP1 cb ht
  cases hg : longX L [t] with
  | true =>
    rw [hg] at HG
    clear hg
    go_enter Try.func4, Try.ntmps4
    go_wp2_with (first
      | (go_at_call 6; (with_reducible refine HG.out.mono ?_); rintro e w2 ⟨rfl, hb2⟩; have Hb2 := hid_ (below_then8 Ha.out hb2); clear hb2)
      | (go_at_call 7; (with_reducible refine (HK.out _).mono ?_); rintro e w3 ⟨rfl, hb3⟩))
    go_ret
    exact ⟨rfl, Hc1.out.trans ((below_then8 Hb2.out hb3).mono Hc1.out.size)⟩
  | false =>
    rw [hg] at HG
    clear hg
    generalize allE L t = x at *
    generalize allR L t = R at *
    go_enter Try.func4, Try.ntmps4
    go_wp2_with (first
      | (go_at_call 6; (with_reducible refine HG.out.mono ?_); rintro e w2 ⟨rfl, hb2'⟩; have hb2 := below_then8 Ha.out hb2'; obtain ⟨q2, r2⟩ := HQ.out w2 hb2)
      | (go_at_call 14; (with_reducible refine (H1.out _ hb2).mono ?_); rintro e w3 ⟨a3, n3, c3, rfl, hL3, hb3'⟩; have hb3 := below_then8 hb2 hb3'; obtain ⟨q3, r3⟩ := HQ.out w3 hb3; have HL3 := hid_ hL3; clear hL3)
      | (go_at_call 15; (with_reducible refine (H2.out _ hb3).mono ?_); rintro e w4 ⟨a4, n4, c4, rfl, hL4, hb4'⟩; have hb4 := below_then8 hb3 hb4'; have HL34 := hid_ (HL3.out.below hb4' (Nat.le_refl _)); have HSm := hid_ (sameL8_calls a3 n3 c3 R a4 n4 c4 R w4 HL34.out hL4); rw [decide_eq_true rfl] at HSm; clear hL4)
      | (go_at_call 16; (with_reducible refine HSm.out.mono ?_); rintro e w5 ⟨rfl, hw5⟩; have hb5' : Below w4.heap.size w4 w5 := (by (obtain ⟨q, rfl⟩ := hw5; exact below_drewN (Below.refl _ w4) q)); clear hw5; have hb5 := below_then8 hb4 hb5'; have HL5 := hid_ (HL34.out.below hb5' (Nat.le_refl _))))
    go_loopw [9] (fun iv wr => ∃ i : Nat, iv = .int .i64 (i : Int) ∧ i ≤ n3 ∧ Below w5.heap.size w5 wr) (fun iv _ => n3 - (intOf iv).toNat)
    case atStart => exact ⟨0, rfl, Nat.zero_le _, Below.refl _ _⟩
    case round =>
      obtain ⟨i, rfl, hi, hb⟩ := hrel
      have Hb := hid_ hb
      have H1r := hid_ (hb5.trans (hb.mono hb5.size))
      have hs3 := Nat.le_trans HL5.out.le HL5.out.small
      by_cases hin : i < n3
      · have hwi : IntKind.i64.wrap ((i : Int) + 1) = (i : Int) + 1 := IntWalk.i64_in _ (by omega)
        obtain ⟨q0r, q1r⟩ := HQ.out wr H1r.out
        obtain ⟨bm, offm, ai, ni, ci, e7, -, hcell, hIr⟩ := (HL5.out.below hb (Nat.le_refl _)).cells i hin
        have he0 := HR.out (R.getD i []) (getD_mem8 (by rw [HL5.out.len]; exact hin))
        have gA := cell_regrown q0r; have gB := cell_regrown q1r; have gC := cell_regrown hcell
        have HC := hid_ (fun d os => H3.out (Go.Sort.grow (redrawn wr d) os) (H1r.out.trans ((below_regrown wr d os).mono H1r.out.size)) ai ni ci (R.getD i []) (hIr.below (below_regrown wr d os) (Nat.le_refl _)))
        rw [he0] at HC
        generalize splitC L t (R.getD i []) = y at *
        clear hb q0r q1r hcell hIr he0
        subst e7
        go_wp2
        refine wp_region_quiet_below (by kernel_rfl) (by kernel_rfl) ?_
        repeat (first | go_big_quiet_skip | (go_big_quiet_want; go_big_quiet_op; first | go_big_quiet_on | go_big_quiet_call ((go_at_call 17; with_reducible exact Calls.regrown_of (HC.out _ _)))))
        refine wpQuiet_nil ?_
        rintro wq ⟨pq, hpq⟩
        have hbq := below_wq hpq
        have Hjq := hid_ hbq
        clear hpq hbq gA gB gC
        go_wp2
        go_roundw
        case rel => exact ⟨i + 1, by go_num, by omega, Hb.out.trans (Hjq.out.mono Hb.out.size)⟩
        case measure => simp [intOf]; omega
      · have hnl : ¬ (i : Int) < (n3 : Int) := by omega
        clear hb
        go_wp2_with (go_at_call 7; (with_reducible refine (HK.out _).mono ?_); rintro e w8 ⟨rfl, hb8⟩)
        go_ret
        exact ⟨rfl, Hc1.out.trans ((below_then8 H1r.out hb8).mono Hc1.out.size)⟩
end Go.Proofs.Ytgpenbajhndhiaa
namespace Go.Proofs.Ytgpenbajhndhiaa
open Go.RowKit Go.Proofs.Kv Go

/-! ### facts of the law TopTags -/
def oneI : List It := [⟨[0], 0, 0⟩]
def oneL : Lx := ⟨oneI, threeF 4⟩
theorem one_facts : allE oneL [0, 0, 0] = 0 ∧ allR oneL [0, 0, 0] = [[0, 0, 0]] := by
  have h1 : textE oneL [0, 0, 0] = 0 := by decide
  have h2 : allS oneL [0, 0, 0] = [[0, 0, 0]] := by decide +kernel
  have h3 : allE oneL [0, 0, 0] = 0 := by
    unfold allE cntA
    rw [if_pos h1, h2]; rfl
  refine ⟨h3, ?_⟩
  unfold allR
  rw [if_pos h3, h2, List.mergeSort_singleton]
theorem top_text {L : Lx} {s : List Int} (h : txE L s = 0) : (splitE L (txV L s) s = 0 ∨ splitE L (txV L s) s = 6) ∧ validL L = 0 ∧ splitE (frL L) (txV L s) s = 0 ∧ textE (frL L) (txV L s) = 0 ∧ 0 < countV (frL L) (txV L s) := by
  have h3 := text_split h
  obtain ⟨h0, h1, h2⟩ := txE_ok h
  have g := validL_ok h0
  have hf : frL L = freeL L := by unfold frL; rw [if_pos h0]
  have hv : txV L s = wordsL L s := by unfold txV; rw [if_pos h]
  have g' := free_good g
  have hi : itemsB (freeL L) s = true := h1
  have hw : wordsL (freeL L) s = wordsL L s := rfl
  obtain ⟨i1, i2⟩ := words_in g h1
  have hvf : validL (freeL L) = 0 := validL_yes g'
  have ht : textE (freeL L) (wordsL L s) = 0 := by unfold textE; rw [if_pos hvf, if_neg (by omega), if_pos i2]
  have hs : isS (freeL L) (wordsL L s) s := ⟨hi, hw, free_ok L s⟩
  rw [hf, hv]
  rw [hv] at h3
  refine ⟨h3, h0, (isS_split ht hs).1, ht, ?_⟩
  unfold countV cntA
  rw [if_pos ht]
  have := List.length_pos_of_mem ((mem_allS g' _ s).2 hs)
  omega
theorem txV_err {L : Lx} {s : List Int} (h : txE L s ≠ 0) : txV L s = [] := by unfold txV; rw [if_neg h]
theorem all_len {L : Lx} {t : List Int} (he : textE L t = 0) (h : cntA L t ≤ 50) : allE L t = 0 ∧ ((allR L t).length : Int) = cntA L t := by
  have h1 : allE L t = 0 := by unfold allE; rw [if_pos he, if_neg (by omega)]
  refine ⟨h1, ?_⟩
  unfold allR
  rw [if_pos h1, List.length_mergeSort]; rfl
theorem all_more {L : Lx} {t : List Int} (he : textE L t = 0) (h : 50 < cntA L t) : allE L t = 3 := by unfold allE; rw [if_pos he, if_pos h]
theorem allR_nodup (L : Lx) (t : List Int) : (allR L t).Nodup := by
  unfold allR
  by_cases h : allE L t = 0
  · rw [if_pos h]
    have h0 : textE L t = 0 := by
      unfold allE at h
      by_cases h0 : textE L t = 0
      · exact h0
      · rw [if_neg h0] at h; exact absurd h h0
    exact (List.mergeSort_perm _ _).nodup_iff.2 (nodup_allS (textE_ok h0).1 t)
  · rw [if_neg h]; exact List.nodup_nil
theorem allR_ne {L : Lx} {t : List Int} {i j : Nat} (hi : i < (allR L t).length) (hj : j < (allR L t).length) (h : i ≠ j) : (allR L t).getD i [] ≠ (allR L t).getD j [] := by
  simp only [List.getD, List.getElem?_eq_getElem hi, List.getElem?_eq_getElem hj, Option.getD_some]
  intro e
  exact h ((List.getElem_inj (allR_nodup L t)).1 e)
/-- the least of the costs of the first k -/
structure LowI (L : Lx) (t : List Int) (k : Nat) (m : Int) : Prop where
  zero : k = 0 → m = -1
  ge : ∀ i, i < k → m ≤ sumC L ((allR L t).getD i [])
  mem : 0 < k → ∃ i, i < k ∧ m = sumC L ((allR L t).getD i [])
theorem LowI.start (L : Lx) (t : List Int) : LowI L t 0 (-1) := ⟨fun _ => rfl, fun i h => by omega, fun h => by omega⟩
theorem LowI.take {L : Lx} {t : List Int} {k : Nat} {m : Int} (h : LowI L t k m) (hm : m < 0 ∨ sumC L ((allR L t).getD k []) < m) (h0 : ∀ i, i < k → 0 ≤ sumC L ((allR L t).getD i [])) : LowI L t (k + 1) (sumC L ((allR L t).getD k [])) := by
  refine ⟨fun e => by omega, fun i hi => ?_, fun _ => ⟨k, by omega, rfl⟩⟩
  rcases Nat.lt_or_ge i k with h1 | h1
  · have h2 := h.ge i h1
    rcases hm with hm | hm
    · obtain ⟨j, hj, e⟩ := h.mem (by omega)
      have := h0 j hj; omega
    · omega
  · obtain rfl : i = k := by omega
    omega
theorem LowI.skip {L : Lx} {t : List Int} {k : Nat} {m : Int} (h : LowI L t k m) (h1 : ¬ m < 0) (h2 : ¬ sumC L ((allR L t).getD k []) < m) : LowI L t (k + 1) m := by
  refine ⟨fun e => by omega, fun i hi => ?_, fun _ => ?_⟩
  · rcases Nat.lt_or_ge i k with h3 | h3
    · exact h.ge i h3
    · obtain rfl : i = k := by omega
      omega
  · rcases Nat.eq_zero_or_pos k with h3 | h3
    · have := h.zero h3; omega
    · obtain ⟨i, hi, e⟩ := h.mem h3
      exact ⟨i, by omega, e⟩
theorem LowI.last {L : Lx} {t : List Int} {m : Int} (he : textE L t = 0) (hl : leastB L t = true) (hE : allE L t = 0) (h : LowI L t (allR L t).length m) : m = leastV L t := by
  obtain ⟨g, h12, -⟩ := textE_ok he
  have hR : allR L t = (allS L t).mergeSort leL := by unfold allR; rw [if_pos hE]
  have hc : cntA L t ≠ 0 := by
    unfold leastB at hl
    rw [Bool.and_eq_true, decide_eq_true_eq, decide_eq_true_eq] at hl
    exact hl.2
  have hv : leastV L t = lstA L t := by unfold leastV; rw [if_pos hl]
  obtain ⟨s, hs, e⟩ := cheap_least g h12 hc
  have hm : s ∈ allR L t := by rw [hR, (List.mergeSort_perm _ _).mem_iff]; exact (mem_allS g t s).2 hs
  obtain ⟨i, hi, ei⟩ := List.mem_iff_getElem.1 hm
  have h1 := h.ge i hi
  rw [List.getD, List.getElem?_eq_getElem hi, Option.getD_some, ei, e] at h1
  obtain ⟨j, hj, ej⟩ := h.mem (by omega)
  have h2 := lst_min g (allR_split (getD_mem8 hj)).2.2
  omega
theorem allR_cost {L : Lx} {t : List Int} {i : Nat} (hi : i < (allR L t).length) : splitE L t ((allR L t).getD i []) = 0 ∧ splitC L t ((allR L t).getD i []) = sumC L ((allR L t).getD i []) ∧ leastV L t ≤ sumC L ((allR L t).getD i []) ∧ 0 ≤ sumC L ((allR L t).getD i []) := by
  obtain ⟨h1, h2, h3⟩ := allR_split (getD_mem8 hi)
  obtain ⟨h4, -, h5⟩ := least_le h1
  obtain ⟨g, h12, -⟩ := textE_ok h4
  exact ⟨h1, h2, by rw [← h2]; exact h5, (isS_small g h12 h3).1⟩
theorem allR_two {L : Lx} {t : List Int} (h : 1 < (allR L t).length) : twoE L ((allR L t).getD 0 []) ((allR L t).getD 1 []) = 0 := by
  obtain ⟨a1, -, a3⟩ := allR_split (getD_mem8 (show 0 < (allR L t).length by omega))
  obtain ⟨-, -, b3⟩ := allR_split (getD_mem8 h)
  obtain ⟨h4, -, -⟩ := least_le a1
  obtain ⟨g, h12, -⟩ := textE_ok h4
  have hne := allR_ne (L := L) (t := t) (i := 0) (j := 1) (by omega) h (by omega)
  have hv : validL L = 0 := by
    unfold textE at h4
    by_cases h0 : validL L = 0
    · exact h0
    · rw [if_neg h0] at h4; exact absurd h4 h0
  have l1 := (isS_small g h12 a3).2.2
  have l2 := (isS_small g h12 b3).2.2
  unfold twoE
  rw [if_pos hv, if_neg (by omega), a3.1, b3.1, if_pos (by decide), if_neg]
  rintro (e | e)
  · exact hne e
  · exact e (a3.2.1.trans b3.2.1.symm)
end Go.Proofs.Ytgpenbajhndhiaa
