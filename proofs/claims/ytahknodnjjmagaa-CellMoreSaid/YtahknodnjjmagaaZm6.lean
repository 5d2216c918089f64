import Derived.Test.YtahknodnjjmagaaZ3
import Derived.Test.YtahknodnjjmagaaZab
import Derived.Test.YtahknodnjjmagaaZu
namespace Go.Proofs.Ytahknodnjjmagaa
open Go.RowKit Go.Proofs.Kv

/-! ### the law CellMore -/
theorem same_yes6 (a : Option Addr) (n c : Nat) (M : List Int) (a' : Option Addr) (n' c' : Nat) (W : World) (h1 : IntsAt W a n c M) (h2 : IntsAt W a' n' c' M) :
    Calls Try.prog 31 #[.slice a n c, .slice a' n' c'] W fun e w' => e = .returned (.bool true) ∧ Below W.heap.size W w' :=
  (same_calls a n c M a' n' c' M W h1 h2).mono fun e w' ⟨he, q, hq⟩ => ⟨by rw [he]; simp [Same], by rw [hq]; exact below_drewN (Below.refl _ _) _⟩
theorem errN_swap (P : Par) (i j : Int) : errN P [j, i] = errN P [i, j] := by
  rw [errN2, errN2, Bool.and_comm]
theorem more_meet {P : Par} {i j : Int} (h : errN P [i, j] = 0) : (resMore P i j && resMore P j i) = false ∧ (resMore P i j = true → (resMeet P i j).2 = true) := by
  have h2 := (errN_swap P i j).trans h
  rw [resMore, resMore, resMeet, if_pos h, if_pos h2, if_pos h]
  constructor
  · simp only [moreB]
    cases hB (sp P j.toNat) (sp P i.toNat) <;> cases hB (sp P i.toNat) (sp P j.toNat) <;> rfl
  · intro hm
    rw [moreB, Bool.and_eq_true] at hm
    have h3 := hB_iff.1 hm.1
    obtain ⟨hv, hi, hj⟩ := errN_ok h
    obtain ⟨i', rfl, hi'⟩ := isNo_ok hi
    obtain ⟨j', rfl, hj'⟩ := isNo_ok hj
    rw [Int.toNat_natCast, Int.toNat_natCast] at h3 ⊢
    have li := (specB_ok ((validP_ok hv).2.2.2 i' hi').1).1; have lj := (specB_ok ((validP_ok hv).2.2.2 j' hj').1).1
    dsimp only
    rw [meetB, List.all_eq_true]
    intro k hk
    have hk2 : k < (sp P j').length := by
      have e1 : (sp P i').length = P.sizes.length := li
      have e2 : (sp P j').length = P.sizes.length := lj
      have := List.mem_range.1 hk
      omega
    rcases h3 k hk2 with h4 | h4
    · rw [decide_eq_true h4]; simp
    · rw [decide_eq_true h4.symm]; simp
set_option maxRecDepth 100000 in
set_option maxHeartbeats 8000000 in
theorem cellMore_calls (v : Value) (P : Par) (i j : Int) (w : World) (h : ParAt w v P) :
    Calls Try.prog 5 #[v, .int .i64 i, .int .i64 j] w fun e w' => e = .returned (.bool true) ∧ Below w.heap.size w w' := by
  have HP := hid_ h
  obtain ⟨a1, n1, c1, a2, n2, c2, rfl, h1, h2⟩ := h
  obtain ⟨w1, hw1⟩ : ∃ w1, w.alloc (.cells #[.slice a1 n1 c1, .slice a2 n2 c2] 25) = w1 := ⟨_, rfl⟩
  have cb : Below w.heap.size w w1 := by rw [← hw1]; exact below_alloc _ _
  have q0 : w1.cell? ⟨w.heap.size, 0, none⟩ = some (.slice a1 n1 c1) := by rw [← hw1]; exact cells_alloc _ _ _ 0
  have q1 : w1.cell? ⟨w.heap.size, 1, none⟩ = some (.slice a2 n2 c2) := by rw [← hw1]; exact cells_alloc _ _ _ 1
  have HP1 := hid_ (HP.out.below cb (Nat.le_refl _)); have Hc1 := hid_ cb
  have HK := hid_ known_calls
  have HG := hid_ (long_calls _ P w1 HP1.out)
  have HA := hid_ (fun W (hW : Below w1.heap.size w1 W) => ceIsMore_calls _ P i j W (HP1.out.below hW (Nat.le_refl _)))
  have HB := hid_ (fun W (hW : Below w1.heap.size w1 W) => r6IsMore_calls _ P i j W (HP1.out.below hW (Nat.le_refl _)))
  have HC := hid_ (fun W (hW : Below w1.heap.size w1 W) => ceMeet_calls _ P i j W (HP1.out.below hW (Nat.le_refl _)))
  have HD := hid_ (fun W (hW : Below w1.heap.size w1 W) => r6Meet_calls _ P i j W (HP1.out.below hW (Nat.le_refl _)))
  have HE := hid_ (fun W (hW : Below w1.heap.size w1 W) => ceIsMore_calls _ P j i W (HP1.out.below hW (Nat.le_refl _)))
  clear h1 h2 cb
  cases hg : LongP P with
  | true =>
    rw [hg] at HG
    go_enter Try.func5, Try.ntmps5
    go_wp2_with (first
      | (go_at_call 17; (with_reducible refine HG.out.mono ?_); rintro e w2 ⟨rfl, hb2⟩)
      | (go_at_call 18; (with_reducible refine (HK.out _).mono ?_); rintro e w3 ⟨rfl, hb3⟩))
    go_ret
    exact ⟨rfl, Hc1.out.trans ((hb2.trans (hb3.mono hb2.size)).mono Hc1.out.size)⟩
  | false =>
    rw [hg] at HG
    clear hg
    have hmm := @more_meet P i j
    have hsw := errN_swap P i j
    rw [hsw] at HE
    generalize resMore P i j = r at *
    generalize resMore P j i = rb at *
    generalize resMeet P i j = f at *
    clear hsw
    generalize errN P [i, j] = x at *
    obtain ⟨M, z⟩ := f
    dsimp only at *
    obtain ⟨m, hm⟩ : ∃ m, M.length = m := ⟨_, rfl⟩
    have HLm := hid_ hm
    clear hm
    by_cases hx : x = 0
    · subst hx
      obtain ⟨e1, e2⟩ := hmm rfl
      clear hmm
      cases r with
      | false =>
        clear e1 e2
        go_enter Try.func5, Try.ntmps5
        go_wp2_with (first
          | (go_at_call 17; (with_reducible refine HG.out.mono ?_); rintro e w2 ⟨rfl, hb2⟩; have q02 := cell_below q0 hb2; have q12 := cell_below q1 hb2)
          | (go_at_call 33; (with_reducible refine (HA.out w2 hb2).mono ?_); rintro e w3 ⟨rfl, hc3⟩; have hb3 := hb2.trans (hc3.mono hb2.size); have q03 := cell_below q0 hb3; have q13 := cell_below q1 hb3)
          | (go_at_call 34; (with_reducible refine (HB.out w3 hb3).mono ?_); rintro e w4 ⟨rfl, hc4⟩; have hb4 := hb3.trans (hc4.mono hb3.size); have q04 := cell_below q0 hb4; have q14 := cell_below q1 hb4)
          | (go_at_call 35; (with_reducible refine (HC.out w4 hb4).mono ?_); rintro e w5 ⟨v5, rfl, hm5⟩; have hb5 := hb4.trans (hm5.bel.mono hb4.size); have q05 := cell_below q0 hb5; have q15 := cell_below q1 hb5; obtain ⟨a5, c5, rfl, hi5⟩ := hm5.at_; have Hi5 := hid_ hi5; rw [HLm.out] at Hi5 ⊢; clear hi5 hm5)
          | (go_at_call 36; (with_reducible refine (HD.out w5 hb5).mono ?_); rintro e w6 ⟨v6, rfl, hm6⟩; have hb6 := hb5.trans (hm6.bel.mono hb5.size); have q06 := cell_below q0 hb6; have q16 := cell_below q1 hb6; obtain ⟨a6, c6, rfl, hi6⟩ := hm6.at_; have Hj6 := hid_ hi6; rw [HLm.out] at Hj6 ⊢; have Hi6 := hid_ (Hi5.out.below hm6.bel (Nat.le_refl _)); clear hi6 hm6)
          | (go_at_call 31; (with_reducible refine (same_yes6 _ _ _ M _ _ _ w6 Hi6.out Hj6.out).mono ?_); rintro e w7 ⟨rfl, hc7⟩; have hb7 := hb6.trans (hc7.mono hb6.size); have q07 := cell_below q0 hb7; have q17 := cell_below q1 hb7; have Hi7 := hid_ (Hi6.out.below hc7 (Nat.le_refl _)); have Hj7 := hid_ (Hj6.out.below hc7 (Nat.le_refl _)))
          | (go_at_call 33; (with_reducible refine (HE.out w7 hb7).mono ?_); rintro e w8 ⟨rfl, hc8⟩; have hb8 := hb7.trans (hc8.mono hb7.size))
          | (go_at_call 18; (with_reducible refine (HK.out _).mono ?_); rintro e wk ⟨rfl, hbk⟩))
        go_ret
        exact ⟨rfl, Hc1.out.trans ((hb8.trans (hbk.mono hb8.size)).mono Hc1.out.size)⟩
      | true =>
        obtain rfl := e2 rfl
        obtain rfl : rb = false := by simpa using e1
        clear e1 e2
        go_enter Try.func5, Try.ntmps5
        go_wp2_with (first
          | (go_at_call 17; (with_reducible refine HG.out.mono ?_); rintro e w2 ⟨rfl, hb2⟩; have q02 := cell_below q0 hb2; have q12 := cell_below q1 hb2)
          | (go_at_call 33; (with_reducible refine (HA.out w2 hb2).mono ?_); rintro e w3 ⟨rfl, hc3⟩; have hb3 := hb2.trans (hc3.mono hb2.size); have q03 := cell_below q0 hb3; have q13 := cell_below q1 hb3)
          | (go_at_call 34; (with_reducible refine (HB.out w3 hb3).mono ?_); rintro e w4 ⟨rfl, hc4⟩; have hb4 := hb3.trans (hc4.mono hb3.size); have q04 := cell_below q0 hb4; have q14 := cell_below q1 hb4)
          | (go_at_call 35; (with_reducible refine (HC.out w4 hb4).mono ?_); rintro e w5 ⟨v5, rfl, hm5⟩; have hb5 := hb4.trans (hm5.bel.mono hb4.size); have q05 := cell_below q0 hb5; have q15 := cell_below q1 hb5; obtain ⟨a5, c5, rfl, hi5⟩ := hm5.at_; have Hi5 := hid_ hi5; rw [HLm.out] at Hi5 ⊢; clear hi5 hm5)
          | (go_at_call 36; (with_reducible refine (HD.out w5 hb5).mono ?_); rintro e w6 ⟨v6, rfl, hm6⟩; have hb6 := hb5.trans (hm6.bel.mono hb5.size); have q06 := cell_below q0 hb6; have q16 := cell_below q1 hb6; obtain ⟨a6, c6, rfl, hi6⟩ := hm6.at_; have Hj6 := hid_ hi6; rw [HLm.out] at Hj6 ⊢; have Hi6 := hid_ (Hi5.out.below hm6.bel (Nat.le_refl _)); clear hi6 hm6)
          | (go_at_call 31; (with_reducible refine (same_yes6 _ _ _ M _ _ _ w6 Hi6.out Hj6.out).mono ?_); rintro e w7 ⟨rfl, hc7⟩; have hb7 := hb6.trans (hc7.mono hb6.size); have q07 := cell_below q0 hb7; have q17 := cell_below q1 hb7; have Hi7 := hid_ (Hi6.out.below hc7 (Nat.le_refl _)); have Hj7 := hid_ (Hj6.out.below hc7 (Nat.le_refl _)))
          | (go_at_call 33; (with_reducible refine (HE.out w7 hb7).mono ?_); rintro e w8 ⟨rfl, hc8⟩; have hb8 := hb7.trans (hc8.mono hb7.size))
          | (go_at_call 18; (with_reducible refine (HK.out _).mono ?_); rintro e wk ⟨rfl, hbk⟩))
        go_ret
        exact ⟨rfl, Hc1.out.trans ((hb8.trans (hbk.mono hb8.size)).mono Hc1.out.size)⟩
    · have hq : (x != 0) = true := by simpa using hx
      clear hmm hx
      go_enter Try.func5, Try.ntmps5
      go_wp2_with (first
        | (go_at_call 17; (with_reducible refine HG.out.mono ?_); rintro e w2 ⟨rfl, hb2⟩; have q02 := cell_below q0 hb2; have q12 := cell_below q1 hb2)
        | (go_at_call 33; (with_reducible refine (HA.out w2 hb2).mono ?_); rintro e w3 ⟨rfl, hc3⟩; have hb3 := hb2.trans (hc3.mono hb2.size); have q03 := cell_below q0 hb3; have q13 := cell_below q1 hb3)
        | (go_at_call 34; (with_reducible refine (HB.out w3 hb3).mono ?_); rintro e w4 ⟨rfl, hc4⟩; have hb4 := hb3.trans (hc4.mono hb3.size); have q04 := cell_below q0 hb4; have q14 := cell_below q1 hb4)
        | (go_at_call 35; (with_reducible refine (HC.out w4 hb4).mono ?_); rintro e w5 ⟨v5, rfl, hm5⟩; have hb5 := hb4.trans (hm5.bel.mono hb4.size); have q05 := cell_below q0 hb5; have q15 := cell_below q1 hb5; obtain ⟨a5, c5, rfl, hi5⟩ := hm5.at_; have Hi5 := hid_ hi5; rw [HLm.out] at Hi5 ⊢; clear hi5 hm5)
        | (go_at_call 36; (with_reducible refine (HD.out w5 hb5).mono ?_); rintro e w6 ⟨v6, rfl, hm6⟩; have hb6 := hb5.trans (hm6.bel.mono hb5.size); have q06 := cell_below q0 hb6; have q16 := cell_below q1 hb6; obtain ⟨a6, c6, rfl, hi6⟩ := hm6.at_; have Hj6 := hid_ hi6; rw [HLm.out] at Hj6 ⊢; have Hi6 := hid_ (Hi5.out.below hm6.bel (Nat.le_refl _)); clear hi6 hm6)
        | (go_at_call 31; (with_reducible refine (same_yes6 _ _ _ M _ _ _ w6 Hi6.out Hj6.out).mono ?_); rintro e w7 ⟨rfl, hc7⟩; have hb7 := hb6.trans (hc7.mono hb6.size); have q07 := cell_below q0 hb7; have q17 := cell_below q1 hb7; have Hi7 := hid_ (Hi6.out.below hc7 (Nat.le_refl _)); have Hj7 := hid_ (Hj6.out.below hc7 (Nat.le_refl _)))
        | (go_at_call 33; (with_reducible refine (HE.out w7 hb7).mono ?_); rintro e w8 ⟨rfl, hc8⟩; have hb8 := hb7.trans (hc8.mono hb7.size))
        | (go_at_call 18; (with_reducible refine (HK.out _).mono ?_); rintro e wk ⟨rfl, hbk⟩))
      go_ret
      exact ⟨rfl, Hc1.out.trans ((hb8.trans (hbk.mono hb8.size)).mono Hc1.out.size)⟩
end Go.Proofs.Ytahknodnjjmagaa
