import Derived.Test.YtnpdhmejnoplcaaPa
namespace Go.Proofs.Ytnpdhmejnoplcaa
open Go.RowKit Go.Proofs.Kv

theorem validR_no (R : Rl) (h1 : Within R.f (-1) 5 = true) (hw : isWord R.o = true) : (if R.f < 0 ∧ R.o.length = 0 ∨ R.o.length = 1 ∧ R.o.getD 0 0 = R.f then (6 : Int) else 0) = if noChange R then 6 else 0 := by
  have hr : -1 ≤ R.f := by simp [Within] at h1; omega
  unfold noChange
  by_cases hf : R.f = -1
  · rw [if_pos hf]
    by_cases h0 : R.o.length = 0
    · simp [h0, hf]
    · have hq : ¬ (R.o.length = 1 ∧ R.o.getD 0 0 = R.f) := by
        rintro ⟨h1, h2⟩
        rw [isWord, List.all_eq_true] at hw
        have := hw _ (getD_mem (l := R.o) (k := 0) (by omega))
        rw [h2, hf] at this
        cases this
      rw [if_neg (by omega)]
      simp [h0]
  · rw [if_neg hf]
    have : ¬ R.f < 0 := by omega
    by_cases h0 : R.o.length = 1 <;> simp [this, h0]

theorem nb_no {x : Int} (h : Within x (-1) 5 = false) : (x != -1) = true ∧ Within x 0 5 = false := by
  rw [Bool.eq_false_iff] at *
  simp only [Within, ne_eq, Bool.and_eq_true, decide_eq_true_eq, bne_iff_ne] at *
  omega
theorem nb_yes {x : Int} (h : Within x (-1) 5 = true) : (x != -1) = false ∨ (x != -1) = true ∧ Within x 0 5 = true := by
  by_cases hx : x = -1
  · subst hx; exact .inl rfl
  · right
    simp only [Within, Bool.and_eq_true, decide_eq_true_eq, bne_iff_ne] at *
    omega

set_option maxRecDepth 100000 in
set_option maxHeartbeats 2000000 in
theorem ruValidate_calls (v : Value) (R : Rl) (w : World) (h : RuleAt w v R) :
    Calls Try.prog 33 #[v] w fun e w' => e = .returned (.int .i64 (validR R)) ∧ Below w.heap.size w w' := by
  have hno := hid_ (validR_no R)
  have hch := hid_ (fun W h => changesNothing_calls v R W h)
  have h0 := hid_ h
  obtain ⟨a, n, c, a', n', c', a'', n'', c'', rfl, h1, h2, h3⟩ := h
  obtain ⟨f, o, le, ri⟩ := R
  dsimp only at h1 h2 h3 ⊢ hno hch
  have hn : n ≤ 9223372036854775807 := Nat.le_trans h1.le h1.small
  have hlen := hid_ h1.len
  have HB := hid_ (below_alloc w (.cells #[.int .i64 f, .slice a n c, .slice a' n' c', .slice a'' n'' c''] 24))
  have k0 := hid_ (ruIsSound_calls f)
  cases hw : Within f (-1) 5 with
  | false =>
    have Hf : Hid (validR ⟨f, o, le, ri⟩ = 1) := hid_ (by simp [validR, hw])
    have hq := (nb_no hw).1
    have hs := (nb_no hw).2
    go_enter Try.func33, Try.ntmps33
    go_wp2_with (go_at_call 113; refine (k0.out _).mono ?_; rintro e w' ⟨rfl, rfl⟩)
    go_ret
    exact ⟨retI Hf.out, HB.out⟩
  | true =>
    have Hw := hid_ hw
    have hs2 : Hid ((f != -1) = false ∨ (f != -1) = true ∧ Within f 0 5 = true) := hid_ (nb_yes hw)
    by_cases h2n : 2 < n
    · have Hf : Hid (validR ⟨f, o, le, ri⟩ = 3) := hid_ (by simp [validR, hw, hlen.out, h2n])
      clear hw
      rcases hs2.out with hq | ⟨hq, hs⟩
      all_goals
        go_enter Try.func33, Try.ntmps33
        go_wp2_with (go_at_call 113; refine (k0.out _).mono ?_; rintro e w' ⟨rfl, rfl⟩)
        go_ret
        exact ⟨retI Hf.out, HB.out⟩
    · have Hv : Hid (validR ⟨f, o, le, ri⟩ = if isWord o then (if setN le then (if setN ri then (if f < 0 ∧ o.length = 0 ∨ o.length = 1 ∧ o.getD 0 0 = f then 6 else 0) else 1) else 1) else 1) := hid_ (by simp [validR, hw, hlen.out, h2n])
      have k1 := hid_ (areSounds_calls _ _ _ _ _ (h1.below HB.out (Nat.le_refl _)))
      have k2 := hid_ (areNeighbors_calls _ _ _ _ _ (h2.below HB.out (Nat.le_refl _)))
      have k3 := hid_ (areNeighbors_calls _ _ _ _ _ (h3.below HB.out (Nat.le_refl _)))
      have k4 := hid_ (hch.out _ (h0.out.below HB.out (Nat.le_refl _)))
      have Hn : Hid (isWord o = true → (if f < 0 ∧ o.length = 0 ∨ o.length = 1 ∧ o.getD 0 0 = f then (6 : Int) else 0) = if noChange ⟨f, o, le, ri⟩ then 6 else 0) := hid_ (hno.out hw)
      clear hw hch hno
      generalize isWord o = b1 at Hv k1 Hn
      generalize setN le = b2 at Hv k2
      generalize setN ri = b3 at Hv k3
      generalize noChange ⟨f, o, le, ri⟩ = b4 at Hn k4
      cases b1 with
      | false =>
        clear k2 k3 k4
        rcases hs2.out with hq | ⟨hq, hs⟩
        all_goals
          go_enter Try.func33, Try.ntmps33
          go_wp2_with (first
            | (go_at_call 113; refine (k0.out _).mono ?_; rintro e w' ⟨rfl, rfl⟩)
            | (go_at_call 114; refine (k1.out).mono ?_; rintro e w' ⟨rfl, rfl⟩))
          go_ret
          exact ⟨retI Hv.out, HB.out⟩
      | true =>
        cases b2 with
        | false =>
          clear k3 k4
          rcases hs2.out with hq | ⟨hq, hs⟩
          all_goals
            go_enter Try.func33, Try.ntmps33
            go_wp2_with (first
              | (go_at_call 113; refine (k0.out _).mono ?_; rintro e w' ⟨rfl, rfl⟩)
              | (go_at_call 114; refine (k1.out).mono ?_; rintro e w' ⟨rfl, rfl⟩)
              | (go_at_call 115; refine (k2.out).mono ?_; rintro e w' ⟨rfl, rfl⟩))
            go_ret
            exact ⟨retI Hv.out, HB.out⟩
        | true =>
          cases b3 with
          | false =>
            clear k4
            rcases hs2.out with hq | ⟨hq, hs⟩
            all_goals
              go_enter Try.func33, Try.ntmps33
              go_wp2_with (first
                | (go_at_call 113; refine (k0.out _).mono ?_; rintro e w' ⟨rfl, rfl⟩)
                | (go_at_call 114; refine (k1.out).mono ?_; rintro e w' ⟨rfl, rfl⟩)
                | (go_at_call 115; with_reducible refine (k2.out).mono ?_; rintro e w' ⟨rfl, rfl⟩)
                | (go_at_call 115; refine (k3.out).mono ?_; rintro e w' ⟨rfl, rfl⟩))
              go_ret
              exact ⟨retI Hv.out, HB.out⟩
          | true =>
            have Hv2 : Hid (validR ⟨f, o, le, ri⟩ = bif b4 then 6 else 0) := hid_ (by rw [Hv.out]; simp only [if_true]; rw [Hn.out rfl]; cases b4 <;> rfl)
            clear Hv Hn
            rcases hs2.out with hq | ⟨hq, hs⟩
            all_goals
              cases b4
              all_goals
                go_enter Try.func33, Try.ntmps33
                go_wp2_with (first
                  | (go_at_call 113; refine (k0.out _).mono ?_; rintro e w' ⟨rfl, rfl⟩)
                  | (go_at_call 114; refine (k1.out).mono ?_; rintro e w' ⟨rfl, rfl⟩)
                  | (go_at_call 115; with_reducible refine (k2.out).mono ?_; rintro e w' ⟨rfl, rfl⟩)
                  | (go_at_call 115; refine (k3.out).mono ?_; rintro e w' ⟨rfl, rfl⟩)
                  | (go_at_call 116; refine (k4.out).mono ?_; rintro e w' ⟨rfl, hb⟩))
                go_ret
                exact ⟨retI Hv2.out, below_then HB.out hb⟩
end Go.Proofs.Ytnpdhmejnoplcaa
