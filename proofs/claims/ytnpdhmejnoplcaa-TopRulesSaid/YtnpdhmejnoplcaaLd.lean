import Derived.Test.YtnpdhmejnoplcaaLae
import Derived.Test.YtnpdhmejnoplcaaRgn
import Derived.Deep.RegionHeld3
namespace Go.Proofs.Ytnpdhmejnoplcaa
open Go.RowKit Go.Proofs.Kv

theorem sameT_calls (a : Option Addr) (n c : Nat) (l : List Int) (a' : Option Addr) (n' c' : Nat) (W : World) (h : IntsAt W a n c l) (h' : IntsAt W a' n' c' l) :
    Calls Try.prog 37 #[.slice a n c, .slice a' n' c'] W fun e w' => e = .returned (.bool true) ∧ Below W.heap.size W w' := by
  have := grow_drew (same_calls a n c l a' n' c' l W h h')
  rwa [show Same l l = true by simp [Same]] at this
theorem first_yes {R : Rl} {l : List Int} (h : isFirst R l = true) : ∃ p P, plP R l = p :: P ∧ errApply R l p = 0 ∧ resApply R l p = resFirst R l ∧ errFirst R l = 0 ∧ err2 R l = 0 := by
  simp only [isFirst, Bool.and_eq_true, Bool.not_eq_true', decide_eq_true_eq, decide_eq_false_iff_not] at h
  obtain ⟨⟨h1, h2⟩, h3⟩ := h
  cases hP : plP R l with
  | nil => exact absurd hP h2
  | cons p P =>
    rw [hP] at h3
    have hp : plB R.f R.le R.ri l p = true := (mem_pl.1 (show p ∈ plP R l by rw [hP]; simp)).2.2
    refine ⟨p, P, rfl, ?_, ?_, ?_, h1⟩
    · rw [errApply, if_pos h1, apE, if_pos hp]; exact h3
    · rw [resApply, if_pos h1, apV, if_pos hp, resFirst, if_pos h1, if_neg h2, hP]; rfl
    · rw [errFirst, if_pos h1, if_neg h2, hP]; exact h3

set_option maxRecDepth 100000 in
set_option maxHeartbeats 4000000 in
theorem ruleFirsts_calls (v : Value) (R : Rl) (a : Option Addr) (n c : Nat) (l : List Int) (w : World) (hr : RuleAt w v R) (h : IntsAt w a n c l) :
    Calls Try.prog 5 #[v, .slice a n c] w fun e w' => e = .returned (.bool true) ∧ Below w.heap.size w w' := by
  have Hr := hid_ hr
  obtain ⟨a1, n1, c1, a2, n2, c2, a3, n3, c3, rfl, h1, h2, h3⟩ := hr
  clear h1 h2 h3
  obtain ⟨w1, hw1⟩ : ∃ w1, w.alloc (.cells #[.int .i64 R.f, .slice a1 n1 c1, .slice a2 n2 c2, .slice a3 n3 c3] 24) = w1 := ⟨_, rfl⟩
  have Hb1 : Hid (Below w.heap.size w w1) := hid_ (by rw [← hw1]; exact below_alloc _ _)
  have HW1 := hid_ hw1
  have HQ := hid_ (fun W (hW : Below w1.heap.size w1 W) => box4 HW1.out hW)
  have HR := hid_ (fun W (hW : Below w1.heap.size w1 W) => (Hr.out.below Hb1.out (Nat.le_refl _)).below hW (Nat.le_refl _))
  have HK := hid_ known_calls
  have hb1 : Below w1.heap.size w1 w1 := Below.refl _ _
  obtain ⟨q0, q1, q2, q3⟩ := HQ.out w1 hb1
  have HI := hid_ (fun W (hW : Below w1.heap.size w1 W) => (h.below Hb1.out (Nat.le_refl _)).below hW (Nat.le_refl _))
  clear h
  have HG0 : Hid (∀ W, Below w1.heap.size w1 W → Calls Try.prog 28 #[.agg #[.int .i64 R.f, .slice a1 n1 c1, .slice a2 n2 c2, .slice a3 n3 c3]] W fun e w' => e = .returned (.bool (bigR R)) ∧ Below W.heap.size W w') := hid_ (fun W hW => long_calls _ R W (HR.out W hW))
  have HG1 : Hid (∀ W, Below w1.heap.size w1 W → Calls Try.prog 29 #[.slice a n c] W fun e w' => e = .returned (.bool (bigOne l)) ∧ Below W.heap.size W w') := hid_ (fun W hW => (large_calls a n c l W (HI.out W hW)).mono (fun _ _ ⟨he, hm⟩ => ⟨he, below_same hm⟩))
  cases hg0 : bigR R with
  | true =>
    rw [hg0] at HG0
    go_enter Try.func5, Try.ntmps5
    go_wp2_with (first
      | (go_at_call 28; refine (HG0.out _ hb1).mono ?_; rintro e wg0 ⟨rfl, hcg0⟩; have hbg0 := hcg0)
      | (go_at_call 30; refine (HK.out _).mono ?_; rintro e wk ⟨rfl, hck⟩))
    go_ret
    exact ⟨rfl, Hb1.out.trans ((hbg0.trans (hck.mono hbg0.size)).mono Hb1.out.size)⟩
  | false =>
    rw [hg0] at HG0
    cases hg1 : bigOne l with
    | true =>
      rw [hg1] at HG1
      go_enter Try.func5, Try.ntmps5
      go_wp2_with (first
        | (go_at_call 28; refine (HG0.out _ hb1).mono ?_; rintro e wg0 ⟨rfl, hcg0⟩; have hbg0 := hcg0; obtain ⟨q0, q1, q2, q3⟩ := HQ.out wg0 hbg0)
        | (go_at_call 29; refine (HG1.out _ hbg0).mono ?_; rintro e wg1 ⟨rfl, hcg1⟩; have hbg1 := hbg0.trans (hcg1.mono hbg0.size))
        | (go_at_call 30; refine (HK.out _).mono ?_; rintro e wk ⟨rfl, hck⟩))
      go_ret
      exact ⟨rfl, Hb1.out.trans ((hbg1.trans (hck.mono hbg1.size)).mono Hb1.out.size)⟩
    | false =>
      rw [hg1] at HG1
      have HP := hid_ (fun W hW => ruFirst_calls _ R a n c l W (HR.out W hW) (HI.out W hW))
      have HF := hid_ (fun W hW => refFirst_calls _ R a n c l W (HR.out W hW) (HI.out W hW))
      have HL := hid_ (fun W hW => ruPlaces_calls _ R a n c l W (HR.out W hW) (HI.out W hW))
      have HA := hid_ (fun W hW p => ruApply_calls _ R a n c l p W (HR.out W hW) (HI.out W hW))
      have HSm := hid_ (fun W a n c l a' n' c' h h' => sameT_calls a n c l a' n' c' W h h')
      have HY := hid_ (@first_yes R l)
      have HPl : Hid (err2 R l = 0 → resPlaces R l = plP R l) := hid_ (fun h => if_pos h)
      generalize resFirst R l = m at *
      generalize errFirst R l = e0 at *
      cases hx : isFirst R l with
      | false =>
        rw [hx] at HP HF
        clear hx HY
        go_enter Try.func5, Try.ntmps5
        go_wp2_with (first
          | (go_at_call 28; refine (HG0.out _ hb1).mono ?_; rintro e wg0 ⟨rfl, hcg0⟩; have hbg0 := hcg0; obtain ⟨q0, q1, q2, q3⟩ := HQ.out wg0 hbg0)
          | (go_at_call 29; refine (HG1.out _ hbg0).mono ?_; rintro e wg1 ⟨rfl, hcg1⟩; have hbg1 := hbg0.trans (hcg1.mono hbg0.size); obtain ⟨q0, q1, q2, q3⟩ := HQ.out wg1 hbg1)
          | (go_at_call 40; refine (HP.out _ hbg1).mono ?_; rintro e w4 ⟨v4, rfl, hm4⟩; have hb4 : Below w1.heap.size w1 w4 := hbg1.trans (hm4.bel.mono hbg1.size); obtain ⟨q0, q1, q2, q3⟩ := HQ.out w4 hb4; obtain ⟨ax, cx, rfl, hix⟩ := hm4.at_; have Hx := hid_ hix; clear hix)
          | (go_at_call 41; refine (HF.out _ hb4).mono ?_; rintro e w5 ⟨v5, rfl, hm5⟩; have hb5 : Below w1.heap.size w1 w5 := hb4.trans (hm5.bel.mono hb4.size); obtain ⟨q0, q1, q2, q3⟩ := HQ.out w5 hb5; obtain ⟨ay, cy, rfl, hiy⟩ := hm5.at_; have Hy := hid_ hiy; clear hiy)
          | (go_at_call 37; with_reducible refine (HSm.out _ _ _ _ _ _ _ _ (Hx.out.below hm5.bel (Nat.le_refl _)) Hy.out).mono ?_; rintro e w6 ⟨rfl, hc6⟩; have hb6 := hb5.trans (hc6.mono hb5.size); obtain ⟨q0, q1, q2, q3⟩ := HQ.out w6 hb6)
          | (go_at_call 31; refine (HL.out _ hb6).mono ?_; rintro e w7 ⟨v7, rfl, hm7⟩; have hb7 : Below w1.heap.size w1 w7 := hb6.trans (hm7.bel.mono hb6.size); obtain ⟨q0, q1, q2, q3⟩ := HQ.out w7 hb7; obtain ⟨az, cz, rfl, hiz⟩ := hm7.at_; have Hz := hid_ hiz; clear hiz)
          | (go_at_call 30; refine (HK.out _).mono ?_; rintro e wk ⟨rfl, hck⟩))
        go_ret
        exact ⟨rfl, Hb1.out.trans ((hb7.trans (hck.mono hb7.size)).mono Hb1.out.size)⟩
      | true =>
        obtain ⟨p, P, y1, y2, y3, y4, y5⟩ := HY.out hx
        have y6 := HPl.out y5
        rw [y1] at y6
        rw [y6, y5] at HL
        have HA' := hid_ (fun W hW => HA.out W hW p)
        rw [y2, y3] at HA'
        rw [hx, y4] at HP HF
        clear hx HY y1 y2 y3 y5 y6 HPl HA
        have hln : ((((p :: P).length : Nat) : Int) == 0) = false := by simp; omega
        have hln2 : (0 : Int) < (((p :: P).length : Nat) : Int) := by simp only [List.length_cons]; omega
        have hln3 : 0 < (p :: P).length := by simp
        go_enter Try.func5, Try.ntmps5
        go_wp2_with (first
          | (go_at_call 28; refine (HG0.out _ hb1).mono ?_; rintro e wg0 ⟨rfl, hcg0⟩; have hbg0 := hcg0; obtain ⟨q0, q1, q2, q3⟩ := HQ.out wg0 hbg0)
          | (go_at_call 29; refine (HG1.out _ hbg0).mono ?_; rintro e wg1 ⟨rfl, hcg1⟩; have hbg1 := hbg0.trans (hcg1.mono hbg0.size); obtain ⟨q0, q1, q2, q3⟩ := HQ.out wg1 hbg1)
          | (go_at_call 40; refine (HP.out _ hbg1).mono ?_; rintro e w4 ⟨v4, rfl, hm4⟩; have hb4 : Below w1.heap.size w1 w4 := hbg1.trans (hm4.bel.mono hbg1.size); obtain ⟨q0, q1, q2, q3⟩ := HQ.out w4 hb4; obtain ⟨ax, cx, rfl, hix⟩ := hm4.at_; have Hx := hid_ hix; clear hix)
          | (go_at_call 41; refine (HF.out _ hb4).mono ?_; rintro e w5 ⟨v5, rfl, hm5⟩; have hb5 : Below w1.heap.size w1 w5 := hb4.trans (hm5.bel.mono hb4.size); obtain ⟨q0, q1, q2, q3⟩ := HQ.out w5 hb5; obtain ⟨ay, cy, rfl, hiy⟩ := hm5.at_; have Hy := hid_ hiy; clear hiy)
          | (go_at_call 37; with_reducible refine (HSm.out _ _ _ _ _ _ _ _ (Hx.out.below hm5.bel (Nat.le_refl _)) Hy.out).mono ?_; rintro e w6 ⟨rfl, hc6⟩; have hb6 := hb5.trans (hc6.mono hb5.size); obtain ⟨q0, q1, q2, q3⟩ := HQ.out w6 hb6)
          | (go_at_call 31; refine (HL.out _ hb6).mono ?_; rintro e w7 ⟨v7, rfl, hm7⟩; have hb7 : Below w1.heap.size w1 w7 := hb6.trans (hm7.bel.mono hb6.size); obtain ⟨q0, q1, q2, q3⟩ := HQ.out w7 hb7; obtain ⟨az, cz, rfl, hiz⟩ := hm7.at_; have Hz := hid_ hiz; clear hiz; obtain ⟨b, off, rfl, hbl, hcell⟩ := Hz.out.cells 0 hln3; generalize hN : (p :: P).length = N at *))
        have hcell' : w7.cell? ⟨b, off, none⟩ = some (.int .i64 p) := hcell
        clear hcell
        have hz5 : w.heap.size < w7.heap.size := World.block_lt_of_cell? w7 ⟨w.heap.size, 0, none⟩ q0
        have HS : Hid (∀ W, Below w7.heap.size w7 W → W.cell? ⟨w.heap.size, 0, none⟩ = some (.int .i64 R.f) ∧ W.cell? ⟨w.heap.size, 1, none⟩ = some (.slice a1 n1 c1) ∧ W.cell? ⟨w.heap.size, 2, none⟩ = some (.slice a2 n2 c2) ∧ W.cell? ⟨w.heap.size, 3, none⟩ = some (.slice a3 n3 c3) ∧ W.cell? ⟨b, off, none⟩ = some (.int .i64 p) ∧ Below w7.heap.size w7 W) := hid_ (fun W hW => ⟨(hW.cell hz5).trans q0, (hW.cell hz5).trans q1, (hW.cell hz5).trans q2, (hW.cell hz5).trans q3, (hW.cell hbl).trans hcell', hW⟩)
        have hbd : Below w7.heap.size w7 w7.drew := Below.drew (Below.refl _ _)
        have hbw : Below w1.heap.size w1 w7.drew := hb7.trans (hbd.mono hb7.size)
        go_region_held3 (fun W => W.cell? ⟨w.heap.size, 0, none⟩ = some (.int .i64 R.f) ∧ W.cell? ⟨w.heap.size, 1, none⟩ = some (.slice a1 n1 c1) ∧ W.cell? ⟨w.heap.size, 2, none⟩ = some (.slice a2 n2 c2) ∧ W.cell? ⟨w.heap.size, 3, none⟩ = some (.slice a3 n3 c3) ∧ W.cell? ⟨b, off, none⟩ = some (.int .i64 p) ∧ Below w7.heap.size w7 W) (first | exact HS.out _ (by assumption) | fail)
          (first
            | (go_at_call 38; refine (HA'.out _ hbw).mono ?_; rintro e w8 ⟨v8, rfl, hm8⟩; have hb78 : Below w7.heap.size w7 w8 := hbd.trans (hm8.bel.mono hbd.size); obtain ⟨a8, c8, rfl, hi8⟩ := hm8.at_; have H8 := hid_ hi8; clear hi8))
        have hb8 : Below w1.heap.size w1 w8 := hb7.trans (hb78.mono hb7.size)
        have Hx8 := hid_ ((((Hx.out.below hm5.bel (Nat.le_refl _)).below hc6 (Nat.le_refl _)).below hm7.bel (Nat.le_refl _)).below hb78 (Nat.le_refl _))
        go_wp2_with (first
          | (go_at_call 37; with_reducible refine (HSm.out _ _ _ _ _ _ _ _ Hx8.out H8.out).mono ?_; rintro e w9 ⟨rfl, hc9⟩; have hb9 := hb8.trans (hc9.mono hb8.size))
          | (go_at_call 30; refine (HK.out _).mono ?_; rintro e wk ⟨rfl, hck⟩))
        go_ret
        exact ⟨rfl, Hb1.out.trans ((hb9.trans (hck.mono hb9.size)).mono Hb1.out.size)⟩
end Go.Proofs.Ytnpdhmejnoplcaa
