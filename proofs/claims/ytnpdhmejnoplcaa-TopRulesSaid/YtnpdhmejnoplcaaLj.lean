import Derived.Test.YtnpdhmejnoplcaaLae
import Derived.Test.YtnpdhmejnoplcaaPmo
import Derived.Test.YtnpdhmejnoplcaaPqr
namespace Go.Proofs.Ytnpdhmejnoplcaa
open Go.RowKit Go.Proofs.Kv

theorem mir_ok {R : Rl} (h : validR R = 0) : validR (mirR R) = 0 ∧ meaV (mirR R) = meaV R := by
  have hm : mirR R = ⟨R.f, R.o.reverse, R.ri, R.le⟩ := if_pos h
  obtain ⟨g1, g2, g3, g4, g5, g6⟩ := validR_ok h
  have hw : isWord R.o.reverse = true := by rw [isWord, List.all_reverse]; exact g4
  have hwi : Within R.f (-1) 5 = true := by simp [Within, g1, g2]
  have hc : ¬ (R.f < 0 ∧ R.o.length = 0 ∨ R.o.length = 1 ∧ R.o.getD 0 0 = R.f) := by
    intro hc
    unfold validR at h
    rw [hwi, g4, g5, g6, if_pos rfl, if_neg (by omega), if_pos rfl, if_pos rfl, if_pos rfl, if_pos hc] at h
    cases h
  have hc2 : ¬ (R.f < 0 ∧ R.o.reverse.length = 0 ∨ R.o.reverse.length = 1 ∧ R.o.reverse.getD 0 0 = R.f) := by
    rw [List.length_reverse]
    intro h2
    apply hc
    rcases h2 with h2 | ⟨h2, h3⟩
    · exact .inl h2
    · refine .inr ⟨h2, ?_⟩
      obtain ⟨x, hx⟩ := List.length_eq_one_iff.1 h2
      rw [hx] at h3 ⊢
      exact h3
  have hv : validR (mirR R) = 0 := by
    rw [hm, validR]
    show (if Within R.f (-1) 5 then (if 2 < R.o.reverse.length then 3 else if isWord R.o.reverse then (if setN R.ri then (if setN R.le then (if R.f < 0 ∧ R.o.reverse.length = 0 ∨ R.o.reverse.length = 1 ∧ R.o.reverse.getD 0 0 = R.f then 6 else 0) else 1) else 1) else 1) else 1) = (0 : Int)
    rw [hwi, hw, g5, g6, if_pos rfl, if_neg (by rw [List.length_reverse]; omega), if_pos rfl, if_pos rfl, if_pos rfl, if_neg hc2]
  refine ⟨hv, ?_⟩
  rw [meaV, if_pos hv, meaV, if_pos h, hm]
  show (R.o.reverse.length : Int) + R.ri.length + R.le.length + tkN R = _
  rw [List.length_reverse]; omega
theorem mir_len {R : Rl} (h : bigR R = false) : (mirR R).o.length ≤ 100 ∧ (mirR R).le.length ≤ 100 ∧ (mirR R).ri.length ≤ 100 := by
  simp only [bigR, Bool.or_eq_false_iff] at h
  obtain ⟨⟨h1, h2⟩, h3⟩ := h
  have h1 := bigOne_no h1
  have h2 := bigOne_no h2
  have h3 := bigOne_no h3
  unfold mirR
  split
  · exact ⟨by show R.o.reverse.length ≤ 100; rw [List.length_reverse]; exact h1, h3, h2⟩
  · exact ⟨by simp, by simp, by simp⟩
theorem big_len {R : Rl} (h : bigR R = false) : R.o.length ≤ 100 ∧ R.le.length ≤ 100 ∧ R.ri.length ≤ 100 := by
  simp only [bigR, Bool.or_eq_false_iff] at h
  exact ⟨bigOne_no h.1.1, bigOne_no h.1.2, bigOne_no h.2⟩

set_option maxRecDepth 100000 in
set_option maxHeartbeats 4000000 in
theorem ruleMeasures_calls (v : Value) (R : Rl) (w : World) (hr : RuleAt w v R) :
    Calls Try.prog 16 #[v] w fun e w' => e = .returned (.bool true) ∧ Below w.heap.size w w' := by
  have Hr := hid_ hr
  obtain ⟨a1, n1, c1, a2, n2, c2, a3, n3, c3, rfl, h1, h2, h3⟩ := hr
  clear h1 h2 h3
  obtain ⟨w1, hw1⟩ : ∃ w1, w.alloc (.cells #[.int .i64 R.f, .slice a1 n1 c1, .slice a2 n2 c2, .slice a3 n3 c3] 24) = w1 := ⟨_, rfl⟩
  have Hb1 : Hid (Below w.heap.size w w1) := hid_ (by rw [← hw1]; exact below_alloc _ _)
  have HW1 := hid_ hw1
  have HQ := hid_ (fun W (hW : Below w1.heap.size w1 W) => box4 HW1.out hW)
  have HR := hid_ (fun W (hW : Below w1.heap.size w1 W) => (Hr.out.below Hb1.out (Nat.le_refl _)).below hW (Nat.le_refl _))
  have HK := hid_ known_calls
  have hb1 : Below w1.heap.size w1 w1 := Below.refl _ _
  obtain ⟨q0, q1, q2, q3⟩ := HQ.out w1 hb1
  have HG0 : Hid (∀ W, Below w1.heap.size w1 W → Calls Try.prog 28 #[.agg #[.int .i64 R.f, .slice a1 n1 c1, .slice a2 n2 c2, .slice a3 n3 c3]] W fun e w' => e = .returned (.bool (bigR R)) ∧ Below W.heap.size W w') := hid_ (fun W hW => long_calls _ R W (HR.out W hW))
  cases hg0 : bigR R with
  | true =>
    rw [hg0] at HG0
    go_enter Try.func16, Try.ntmps16
    go_wp2_with (first
      | (go_at_call 28; refine (HG0.out _ hb1).mono ?_; rintro e wg0 ⟨rfl, hcg0⟩; have hbg0 := hcg0)
      | (go_at_call 30; refine (HK.out _).mono ?_; rintro e wk ⟨rfl, hck⟩))
    go_ret
    exact ⟨rfl, Hb1.out.trans ((hbg0.trans (hck.mono hbg0.size)).mono Hb1.out.size)⟩
  | false =>
    rw [hg0] at HG0
    obtain ⟨g1, g2, g3⟩ := big_len hg0
    obtain ⟨g4, g5, g6⟩ := mir_len hg0
    have HP := hid_ (fun W hW => ruMeasure_calls _ R W (HR.out W hW) g1 g2 g3)
    have HF := hid_ (fun W hW => r2Measure_calls _ R W (HR.out W hW) g1 g2 g3)
    have HM := hid_ (fun W hW => ruMirror_calls _ R W (HR.out W hW) g2 g3)
    have HN := hid_ (fun v W h => ruMeasure_calls v (mirR R) W h g4 g5 g6)
    have HY := hid_ (@mir_ok R)
    clear g1 g2 g3 g4 g5 g6
    generalize mirR R = M at *
    by_cases he : validR R = 0
    · obtain ⟨y1, y2⟩ := HY.out he
      rw [he] at HP HF HM
      rw [y1, y2] at HN
      clear HY y1 y2 he
      generalize meaV R = x1 at *
      go_enter Try.func16, Try.ntmps16
      go_wp2_with (first
        | (go_at_call 28; refine (HG0.out _ hb1).mono ?_; rintro e wg0 ⟨rfl, hcg0⟩; have hbg0 := hcg0; obtain ⟨q0, q1, q2, q3⟩ := HQ.out wg0 hbg0)
        | (go_at_call 68; with_reducible refine (HP.out _ hbg0).mono ?_; rintro e w4 ⟨rfl, hc4⟩; have hb4 : Below w1.heap.size w1 w4 := hbg0.trans (hc4.mono hbg0.size); obtain ⟨q0, q1, q2, q3⟩ := HQ.out w4 hb4)
        | (go_at_call 69; refine (HF.out _ hb4).mono ?_; rintro e w5 ⟨rfl, hc5⟩; have hb5 : Below w1.heap.size w1 w5 := hb4.trans (hc5.mono hb4.size); obtain ⟨q0, q1, q2, q3⟩ := HQ.out w5 hb5)
        | (go_at_call 59; refine (HM.out _ hb5).mono ?_; rintro e w6 ⟨v6, rfl, hr6, hc6⟩; have hb6 : Below w1.heap.size w1 w6 := hb5.trans (hc6.mono hb5.size); have HR6 := hid_ hr6; obtain ⟨x1, y1, z1, x2, y2, z2, x3, y3, z3, rfl, -, -, -⟩ := hr6)
        | (go_at_call 68; with_reducible refine (HN.out _ _ (HR6.out.below (below_alloc w6 _) (Nat.le_refl _))).mono ?_; rintro e w7 ⟨rfl, hc7⟩; have hb7 : Below w1.heap.size w1 w7 := hb6.trans (((below_alloc w6 _).trans (hc7.mono (by simp))).mono hb6.size))
        | (go_at_call 30; refine (HK.out _).mono ?_; rintro e wk ⟨rfl, hck⟩))
      go_ret
      exact ⟨rfl, Hb1.out.trans ((hb7.trans (hck.mono hb7.size)).mono Hb1.out.size)⟩
    · clear HY
      have hq : (validR R != 0) = true := by simpa using he
      generalize meaV R = x1 at *
      generalize validR R = x2 at *
      clear he
      go_enter Try.func16, Try.ntmps16
      go_wp2_with (first
        | (go_at_call 28; refine (HG0.out _ hb1).mono ?_; rintro e wg0 ⟨rfl, hcg0⟩; have hbg0 := hcg0; obtain ⟨q0, q1, q2, q3⟩ := HQ.out wg0 hbg0)
        | (go_at_call 68; with_reducible refine (HP.out _ hbg0).mono ?_; rintro e w4 ⟨rfl, hc4⟩; have hb4 : Below w1.heap.size w1 w4 := hbg0.trans (hc4.mono hbg0.size); obtain ⟨q0, q1, q2, q3⟩ := HQ.out w4 hb4)
        | (go_at_call 69; refine (HF.out _ hb4).mono ?_; rintro e w5 ⟨rfl, hc5⟩; have hb5 : Below w1.heap.size w1 w5 := hb4.trans (hc5.mono hb4.size); obtain ⟨q0, q1, q2, q3⟩ := HQ.out w5 hb5)
        | (go_at_call 59; refine (HM.out _ hb5).mono ?_; rintro e w6 ⟨v6, rfl, hr6, hc6⟩; have hb6 : Below w1.heap.size w1 w6 := hb5.trans (hc6.mono hb5.size); have HR6 := hid_ hr6; obtain ⟨x1, y1, z1, x2, y2, z2, x3, y3, z3, rfl, -, -, -⟩ := hr6)
        | (go_at_call 68; with_reducible refine (HN.out _ _ (HR6.out.below (below_alloc w6 _) (Nat.le_refl _))).mono ?_; rintro e w7 ⟨rfl, hc7⟩; have hb7 : Below w1.heap.size w1 w7 := hb6.trans (((below_alloc w6 _).trans (hc7.mono (by simp))).mono hb6.size))
        | (go_at_call 30; refine (HK.out _).mono ?_; rintro e wk ⟨rfl, hck⟩))
      go_ret
      exact ⟨rfl, Hb1.out.trans ((hb7.trans (hck.mono hb7.size)).mono Hb1.out.size)⟩
end Go.Proofs.Ytnpdhmejnoplcaa
