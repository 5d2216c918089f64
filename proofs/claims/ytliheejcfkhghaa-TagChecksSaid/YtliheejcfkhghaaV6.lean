import Derived.Test.YtliheejcfkhghaaV5
namespace Go.Proofs.Ytliheejcfkhghaa
open Go.RowKit Go.Proofs.Kv Go

/-! ### the law TagGreedy -/
set_option maxRecDepth 100000 in
set_option maxHeartbeats 4000000 in
theorem tagGreedy_calls (v : Value) (L : Lx) (a : Option Addr) (n c : Nat) (t : List Int) (w : World) (h : LexAt w v L) (ht : IntsAt w a n c t) :
    Calls Try.prog 8 #[v, .slice a n c] w fun e w' => e = .returned (.bool true) ∧ Below w.heap.size w w' := by
  have HP := hid_ h
  obtain ⟨a1, n1, c1, a2, n2, c2, rfl, h1, h2⟩ := h
  obtain ⟨w1, hw1⟩ : ∃ w1, w.alloc (.cells #[.slice a1 n1 c1, .slice a2 n2 c2] 25) = w1 := ⟨_, rfl⟩
  have cb : Below w.heap.size w w1 := by rw [← hw1]; exact below_alloc _ _
  have q0 : w1.cell? ⟨w.heap.size, 0, none⟩ = some (.slice a1 n1 c1) := by rw [← hw1]; exact cells_alloc _ _ _ 0
  have q1 : w1.cell? ⟨w.heap.size, 1, none⟩ = some (.slice a2 n2 c2) := by rw [← hw1]; exact cells_alloc _ _ _ 1
  have HP1 := hid_ (HP.out.below cb (Nat.le_refl _)); have Hc1 := hid_ cb
  have HG := hid_ (long8_calls _ L _ 1 1 [t] _ (HP1.out.below (below_alloc w1 (.cells #[.slice a n c] 26)) (Nat.le_refl _)) (lists1_8 w1 26 (ht.below cb (Nat.le_refl _))))
  have Ha := hid_ (below_alloc w1 (.cells #[.slice a n c] 26))
  have HQ := hid_ (fun W (hW : Below w1.heap.size w1 W) => (⟨cell_below q0 hW, cell_below q1 hW⟩ : _ ∧ _))
  have HA := hid_ (fun W (hW : Below w1.heap.size w1 W) => taGreedy_calls _ L a n c t W (HP1.out.below hW (Nat.le_refl _)) ((ht.below cb (Nat.le_refl _)).below hW (Nat.le_refl _)))
  have HB := hid_ (fun W (hW : Below w1.heap.size w1 W) => r8Greedy_calls _ L a n c t W (HP1.out.below hW (Nat.le_refl _)) ((ht.below cb (Nat.le_refl _)).below hW (Nat.le_refl _)))
  have HK := hid_ sane_calls
  clear h1 h2 HP HP1 cb ht
  cases hg : longX L [t] with
  | true =>
    rw [hg] at HG
    clear hg
    go_enter Try.func8, Try.ntmps8
    go_wp2_with (first
      | (go_at_call 18; (with_reducible refine HG.out.mono ?_); rintro e w2 ⟨rfl, hb2⟩; have Hb2 := hid_ (below_then8 Ha.out hb2); clear hb2)
      | (go_at_call 19; (with_reducible refine (HK.out _).mono ?_); rintro e w3 ⟨rfl, hb3⟩))
    go_ret
    exact ⟨rfl, Hc1.out.trans ((below_then8 Hb2.out hb3).mono Hc1.out.size)⟩
  | false =>
    rw [hg] at HG
    clear hg
    unfold GrPost at HA HB
    generalize grN L t = k at *
    generalize textE L t = y at *
    generalize grI L t = X at *
    obtain ⟨m, hm⟩ : ∃ m, X.length = m := ⟨_, rfl⟩
    have HM := hid_ hm
    clear hm
    have hyy : (y == y) = true := by simp
    have hkk : (k == k) = true := by simp
    have HS := hid_ (fun W a2 c2 a3 c3 (h2 : IntsAt W a2 m c2 X) (h3 : IntsAt W a3 m c3 X) => (by have := sameI8_calls a2 m c2 X a3 m c3 X W h2 h3; rw [decide_eq_true rfl] at this; exact this : Calls Try.prog 37 #[.slice a2 m c2, .slice a3 m c3] W fun e w' => e = .returned (.bool true) ∧ ∃ q, w' = W.drewN q))
    go_enter Try.func8, Try.ntmps8
    go_wp2_with (first
      | (go_at_call 18; (with_reducible refine HG.out.mono ?_); rintro e w2 ⟨rfl, hb2'⟩; have hb2 := below_then8 Ha.out hb2'; obtain ⟨q2, r2⟩ := HQ.out w2 hb2)
      | (go_at_call 35; (with_reducible refine (HA.out _ hb2).mono ?_); rintro e w3 ⟨v3, rfl, hm3⟩; have hb3 := below_then8 hb2 hm3.bel; obtain ⟨q3, r3⟩ := HQ.out w3 hb3; obtain ⟨a3, c3, rfl, hi3⟩ := hm3.at_; have Hi3 := hid_ hi3; rw [HM.out] at Hi3 ⊢; clear hi3 hm3)
      | (go_at_call 36; (with_reducible refine (HB.out _ hb3).mono ?_); rintro e w4 ⟨v4, rfl, hm4⟩; have hb4' := hm4.bel; have hb4 := below_then8 hb3 hb4'; obtain ⟨a4, c4, rfl, hi4⟩ := hm4.at_; rw [HM.out] at hi4 ⊢; have HSg := hid_ (HS.out _ _ _ _ _ (Hi3.out.below hb4' (Nat.le_refl _)) hi4); clear hi4 hm4)
      | (go_at_call 37; (with_reducible refine HSg.out.mono ?_); rintro e w5 ⟨rfl, q5, hw5⟩; have hb5' : Below w4.heap.size w4 w5 := (by rw [hw5]; exact below_drewN (Below.refl _ _) _); have hb5 := below_then8 hb4 hb5'; clear hw5)
      | (go_at_call 19; (with_reducible refine (HK.out _).mono ?_); rintro e w7 ⟨rfl, hb7⟩))
    go_ret
    exact ⟨rfl, Hc1.out.trans ((below_then8 hb5 hb7).mono Hc1.out.size)⟩
end Go.Proofs.Ytliheejcfkhghaa
