import Derived.Test.YtliheejcfkhghaaVz
namespace Go.Proofs.Ytliheejcfkhghaa
open Go.RowKit Go.Proofs.Kv Go

/-! ### the law TagSplits -/
set_option maxRecDepth 100000 in
set_option maxHeartbeats 4000000 in
theorem tagSplits_calls (v : Value) (L : Lx) (a : Option Addr) (n c : Nat) (t : List Int) (a' : Option Addr) (n' c' : Nat) (s : List Int) (w : World) (h : LexAt w v L) (ht : IntsAt w a n c t) (hs : IntsAt w a' n' c' s) :
    Calls Try.prog 3 #[v, .slice a n c, .slice a' n' c'] w fun e w' => e = .returned (.bool true) ∧ Below w.heap.size w w' := by
  have HP := hid_ h
  obtain ⟨a1, n1, c1, a2, n2, c2, rfl, h1, h2⟩ := h
  obtain ⟨w1, hw1⟩ : ∃ w1, w.alloc (.cells #[.slice a1 n1 c1, .slice a2 n2 c2] 25) = w1 := ⟨_, rfl⟩
  have cb : Below w.heap.size w w1 := by rw [← hw1]; exact below_alloc _ _
  have q0 : w1.cell? ⟨w.heap.size, 0, none⟩ = some (.slice a1 n1 c1) := by rw [← hw1]; exact cells_alloc _ _ _ 0
  have q1 : w1.cell? ⟨w.heap.size, 1, none⟩ = some (.slice a2 n2 c2) := by rw [← hw1]; exact cells_alloc _ _ _ 1
  have HP1 := hid_ (HP.out.below cb (Nat.le_refl _)); have Hc1 := hid_ cb
  have HG := hid_ (long8_calls _ L _ 2 2 [t, s] _ (HP1.out.below (below_alloc w1 (.cells #[.slice a n c, .slice a' n' c'] 26)) (Nat.le_refl _)) (lists2_8 w1 26 (ht.below cb (Nat.le_refl _)) (hs.below cb (Nat.le_refl _))))
  have Ha := hid_ (below_alloc w1 (.cells #[.slice a n c, .slice a' n' c'] 26))
  have HQ := hid_ (fun W (hW : Below w1.heap.size w1 W) => (⟨cell_below q0 hW, cell_below q1 hW⟩ : _ ∧ _))
  have HS := hid_ (fun W (hW : Below w1.heap.size w1 W) => (⟨cell_below q0 hW, cell_below q1 hW, hW⟩ : _ ∧ _ ∧ _))
  have HA := hid_ (fun W (hW : Below w1.heap.size w1 W) => taCheckSplit_calls _ L a n c t a' n' c' s W (HP1.out.below hW (Nat.le_refl _)) ((ht.below cb (Nat.le_refl _)).below hW (Nat.le_refl _)) ((hs.below cb (Nat.le_refl _)).below hW (Nat.le_refl _)))
  have HB := hid_ (fun W (hW : Below w1.heap.size w1 W) => r8CheckSplit_calls _ L a n c t a' n' c' s W (HP1.out.below hW (Nat.le_refl _)) ((ht.below cb (Nat.le_refl _)).below hW (Nat.le_refl _)) ((hs.below cb (Nat.le_refl _)).below hW (Nat.le_refl _)))
  have HV := hid_ (fun W (hW : Below w1.heap.size w1 W) => taValidate_calls _ L W (HP1.out.below hW (Nat.le_refl _)))
  have HR := hid_ (fun W (hW : Below w1.heap.size w1 W) => r8Validate_calls _ L W (HP1.out.below hW (Nat.le_refl _)))
  have HL := hid_ (fun W (hW : Below w1.heap.size w1 W) => taLeast_calls _ L a n c t W (HP1.out.below hW (Nat.le_refl _)) ((ht.below cb (Nat.le_refl _)).below hW (Nat.le_refl _)))
  have HK := hid_ sane_calls
  have HF := @least_le L t s
  clear h1 h2 HP HP1 cb ht hs
  cases hg : longX L [t, s] with
  | true =>
    rw [hg] at HG
    clear hg HF
    go_enter Try.func3, Try.ntmps3
    go_wp2_with (first
      | (go_at_call 18; (with_reducible refine HG.out.mono ?_); rintro e w2 ⟨rfl, hb2⟩; have Hb2 := hid_ (below_then8 Ha.out hb2); clear hb2)
      | (go_at_call 19; (with_reducible refine (HK.out _).mono ?_); rintro e w3 ⟨rfl, hb3⟩))
    go_ret
    exact ⟨rfl, Hc1.out.trans ((below_then8 Hb2.out hb3).mono Hc1.out.size)⟩
  | false =>
    rw [hg] at HG
    clear hg
    generalize splitE L t s = y at *
    generalize splitC L t s = k at *
    generalize validL L = x at *
    generalize textE L t = z at *
    generalize leastB L t = b at *
    generalize leastV L t = m at *
    have hxx : (x != x) = false := by simp
    have hyy : (y != y) = false := by simp
    have hkk : (k != k) = false := by simp
    by_cases hy : y = 0
    · subst hy
      obtain ⟨rfl, rfl, hle⟩ := HF rfl
      clear HF
      go_enter Try.func3, Try.ntmps3
      go_wp2_with (first
        | (go_at_call 18; (with_reducible refine HG.out.mono ?_); rintro e w2 ⟨rfl, hb2'⟩; have hb2 := below_then8 Ha.out hb2'; obtain ⟨q2, r2⟩ := HQ.out w2 hb2)
        | (go_at_call 20; (with_reducible refine (HA.out _ hb2).mono ?_); rintro e w3 ⟨rfl, hb3'⟩; have hb3 := below_then8 hb2 hb3'; obtain ⟨q3, r3⟩ := HQ.out w3 hb3)
        | (go_at_call 21; (with_reducible refine (HB.out _ hb3).mono ?_); rintro e w4 ⟨rfl, hb4'⟩; have hb4 := below_then8 hb3 hb4'; obtain ⟨q4, r4⟩ := HQ.out w4 hb4))
      go_wp2_with fail
      have hbd : Below w1.heap.size w1 w4.drew := Below.drew hb4
      go_region_held3 (fun W => W.cell? ⟨w.heap.size, 0, none⟩ = some (.slice a1 n1 c1) ∧ W.cell? ⟨w.heap.size, 1, none⟩ = some (.slice a2 n2 c2) ∧ Below w1.heap.size w1 W) ((refine HS.out _ ?_; assumption))
        (first
          | ((go_at_call 22; (with_reducible refine (HV.out _ hbd).mono ?_); rintro e w5 ⟨rfl, hb5'⟩; have hb5 := below_then8 hbd hb5'))
          | ((go_at_call 23; (with_reducible refine (HR.out _ hb5).mono ?_); rintro e w6 ⟨rfl, hb6'⟩; have hb6 := below_then8 hb5 hb6')))
      all_goals
        obtain ⟨q6, r6⟩ := HQ.out _ hb6
        go_wp2_with (first
          | (go_at_call 24; (with_reducible refine (HL.out _ hb6).mono ?_); rintro e w7 ⟨rfl, hb7'⟩; have hb7 := below_then8 hb6 hb7')
          | (go_at_call 19; (with_reducible refine (HK.out _).mono ?_); rintro e w8 ⟨rfl, hb8⟩))
        go_ret
        exact ⟨rfl, Hc1.out.trans ((below_then8 hb7 hb8).mono Hc1.out.size)⟩
    · have hq : (y != 0) = true := by simpa using hy
      clear hy HF
      go_enter Try.func3, Try.ntmps3
      go_wp2_with (first
        | (go_at_call 18; (with_reducible refine HG.out.mono ?_); rintro e w2 ⟨rfl, hb2'⟩; have hb2 := below_then8 Ha.out hb2'; obtain ⟨q2, r2⟩ := HQ.out w2 hb2)
        | (go_at_call 20; (with_reducible refine (HA.out _ hb2).mono ?_); rintro e w3 ⟨rfl, hb3'⟩; have hb3 := below_then8 hb2 hb3'; obtain ⟨q3, r3⟩ := HQ.out w3 hb3)
        | (go_at_call 21; (with_reducible refine (HB.out _ hb3).mono ?_); rintro e w4 ⟨rfl, hb4'⟩; have hb4 := below_then8 hb3 hb4'; obtain ⟨q4, r4⟩ := HQ.out w4 hb4))
      go_wp2_with fail
      have hbd : Below w1.heap.size w1 w4.drew := Below.drew hb4
      go_region_held3 (fun W => W.cell? ⟨w.heap.size, 0, none⟩ = some (.slice a1 n1 c1) ∧ W.cell? ⟨w.heap.size, 1, none⟩ = some (.slice a2 n2 c2) ∧ Below w1.heap.size w1 W) ((refine HS.out _ ?_; assumption))
        (first
          | ((go_at_call 22; (with_reducible refine (HV.out _ hbd).mono ?_); rintro e w5 ⟨rfl, hb5'⟩; have hb5 := below_then8 hbd hb5'))
          | ((go_at_call 23; (with_reducible refine (HR.out _ hb5).mono ?_); rintro e w6 ⟨rfl, hb6'⟩; have hb6 := below_then8 hb5 hb6')))
      all_goals
        obtain ⟨q6, r6⟩ := HQ.out _ hb6
        go_wp2_with (first
          | (go_at_call 24; (with_reducible refine (HL.out _ hb6).mono ?_); rintro e w7 ⟨rfl, hb7'⟩; have hb7 := below_then8 hb6 hb7')
          | (go_at_call 19; (with_reducible refine (HK.out _).mono ?_); rintro e w8 ⟨rfl, hb8⟩))
        go_ret
        exact ⟨rfl, Hc1.out.trans ((below_then8 hb7 hb8).mono Hc1.out.size)⟩
end Go.Proofs.Ytliheejcfkhghaa
