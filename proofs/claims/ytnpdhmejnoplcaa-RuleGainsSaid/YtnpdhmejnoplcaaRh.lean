import Derived.Test.YtnpdhmejnoplcaaRe
import Derived.Test.YtnpdhmejnoplcaaPh
namespace Go.Proofs.Ytnpdhmejnoplcaa
open Go.RowKit Go.Proofs.Kv

/-! ### the reference's places are the program's -/
theorem isPl_eq {R : Rl} {l : List Int} (hf : -1 ≤ R.f) : isPl R l = plB R.f R.le R.ri l := by
  funext i
  unfold isPl plB
  by_cases h : R.f < 0
  · obtain h1 : R.f = -1 := by omega
    rw [if_pos h, if_pos h1]
    unfold Within
    by_cases h2 : i < 0
    · rw [if_pos h2, decide_eq_false (by omega : ¬ 0 ≤ i)]; simp
    · by_cases h3 : (l.length : Int) < i
      · rw [if_neg h2, if_pos h3, decide_eq_false (by omega : ¬ i ≤ (l.length : Int))]; simp
      · rw [if_neg h2, if_neg h3, decide_eq_true (by omega : 0 ≤ i), decide_eq_true (by omega : i ≤ (l.length : Int))]; simp
  · rw [if_neg h, if_neg (by omega : ¬ R.f = -1)]
    have ha : atL l i = if Within i 0 ((l.length : Int) - 1) then l.getD i.toNat 0 else -1 := rfl
    by_cases h2 : i < 0
    · rw [if_pos h2, Within, decide_eq_false (by omega : ¬ 0 ≤ i)]; simp
    · by_cases h3 : (l.length : Int) < i
      · rw [if_neg h2, if_pos h3, Within, decide_eq_false (by omega : ¬ i ≤ (l.length : Int) - 1)]; simp
      · rw [if_neg h2, if_neg h3, ha]
        cases hw : Within i 0 ((l.length : Int) - 1) with
        | true => simp
        | false =>
          have : ((-1 : Int) == R.f) = false := by simp; omega
          simp [this]

/-! ### asked, Places -/
set_option maxRecDepth 100000 in
theorem asked_calls (v : Value) (R : Rl) (a : Option Addr) (n c : Nat) (l : List Int) (w : World) (hr : RuleAt w v R) (h : IntsAt w a n c l) :
    Calls Try.prog 111 #[v, .slice a n c] w fun e w' => e = .returned (.int .i64 (err2 R l)) ∧ Below w.heap.size w w' := by
  have Hr := hid_ hr
  obtain ⟨a1, n1, c1, a2, n2, c2, a3, n3, c3, rfl, h1, h2, h3⟩ := hr
  clear h1 h2 h3
  obtain ⟨w1, hw1⟩ : ∃ w1, w.alloc (.cells #[.int .i64 R.f, .slice a1 n1 c1, .slice a2 n2 c2, .slice a3 n3 c3] 24) = w1 := ⟨_, rfl⟩
  have Hb1 : Hid (Below w.heap.size w w1) := hid_ (by rw [← hw1]; exact below_alloc _ _)
  obtain ⟨k0, k1, k2, k3⟩ := box4 hw1 (Below.refl _ _)
  have Hv1 := hid_ (validate_calls _ R w1 (Hr.out.below Hb1.out (Nat.le_refl _)))
  have Hv2 := hid_ (fun w2 (hb : Below w1.heap.size w1 w2) => validateWord_calls a n c l w2 ((h.below Hb1.out (Nat.le_refl _)).below hb (Nat.le_refl _)))
  clear h
  by_cases he : validR R = 0
  · have Hf : Hid (err2 R l = validW l) := hid_ (if_pos he)
    rw [he] at Hv1
    clear he
    go_enter Try.func111, Try.ntmps111
    go_wp2_with (first
      | (go_at_call 34; refine Hv1.out.mono ?_; rintro e w4 ⟨rfl, hb2⟩)
      | (go_at_call 36; refine (Hv2.out _ hb2).mono ?_; rintro e w' ⟨rfl, rfl⟩))
    go_ret
    exact ⟨retI Hf.out, Hb1.out.trans (hb2.mono Hb1.out.size)⟩
  · have Hf : Hid (err2 R l = validR R) := hid_ (if_neg he)
    have hq : (validR R != 0) = true := by simpa using he
    generalize validR R = x1 at *
    clear he
    go_enter Try.func111, Try.ntmps111
    go_wp2_with (go_at_call 34; refine Hv1.out.mono ?_; rintro e w4 ⟨rfl, hb2⟩)
    go_ret
    exact ⟨retI Hf.out, Hb1.out.trans (hb2.mono Hb1.out.size)⟩
set_option maxRecDepth 100000 in
theorem refPlaces_calls (v : Value) (R : Rl) (a : Option Addr) (n c : Nat) (l : List Int) (w : World) (hr : RuleAt w v R) (h : IntsAt w a n c l) :
    Calls Try.prog 32 #[v, .slice a n c] w fun e w' => ∃ v', e = .returned (.tuple #[v', .int .i64 (err2 R l)]) ∧ Made 3 w w' v' (resPlaces R l) := by
  have Hr := hid_ hr
  obtain ⟨a1, n1, c1, a2, n2, c2, a3, n3, c3, rfl, h1, h2, h3⟩ := hr
  clear h1 h2 h3
  obtain ⟨w1, hw1⟩ : ∃ w1, w.alloc (.cells #[.int .i64 R.f, .slice a1 n1 c1, .slice a2 n2 c2, .slice a3 n3 c3] 24) = w1 := ⟨_, rfl⟩
  have Hb1 : Hid (Below w.heap.size w w1) := hid_ (by rw [← hw1]; exact below_alloc _ _)
  obtain ⟨k0, k1, k2, k3⟩ := box4 hw1 (Below.refl _ _)
  have HR1 := hid_ (Hr.out.below Hb1.out (Nat.le_refl _))
  have HI1 := hid_ (h.below Hb1.out (Nat.le_refl _))
  have Hv1 := hid_ (asked_calls _ R a n c l w1 HR1.out HI1.out)
  have HW1 := hid_ hw1
  by_cases he : err2 R l = 0
  · have Hf : Hid (resPlaces R l = plP R l) := hid_ (if_pos he)
    obtain ⟨e1, e2⟩ := err2_ok he
    obtain ⟨g1, g2, g3, g4, g5, g6⟩ := validR_ok e1
    obtain ⟨g7, g8⟩ := validW_ok e2
    have Hpl := hid_ (fun W (hW : Below w1.heap.size w1 W) => placesOf_calls _ R a n c l W (HR1.out.below hW (Nat.le_refl _)) (HI1.out.below hW (Nat.le_refl _)) (by have := h.len; omega))
    have Heq : Hid (pl (isPl R l) (n + 1) = plP R l) := hid_ (by rw [isPl_eq g1, ← h.len]; rfl)
    rw [he] at Hv1 ⊢
    clear g1 g2 g3 g4 g5 g6 g7 g8 e1 e2 he h
    go_enter Try.func32, Try.ntmps32
    go_wp2_with (first
      | (go_at_call 111; refine Hv1.out.mono ?_; rintro e w4 ⟨rfl, hb2⟩; obtain ⟨q0, q1, q2, q3⟩ := box4 HW1.out hb2)
      | (go_at_call 112; refine (Hpl.out _ hb2).mono ?_; rintro e w6 ⟨v4, rfl, hm⟩))
    go_ret2
    exact ⟨_, rfl, by rw [Hf.out, ← Heq.out]; exact hm.after (Hb1.out.trans (hb2.mono Hb1.out.size))⟩
  · have Hf : Hid (resPlaces R l = []) := hid_ (if_neg he)
    generalize err2 R l = er at *
    have hq : (er != 0) = true := by simpa using he
    clear he
    go_enter Try.func32, Try.ntmps32
    go_wp2_with (go_at_call 111; refine Hv1.out.mono ?_; rintro e w4 ⟨rfl, hb2⟩)
    go_ret2
    exact ⟨_, rfl, by rw [Hf.out]; exact Made.none_ _ (Hb1.out.trans (hb2.mono Hb1.out.size))⟩
end Go.Proofs.Ytnpdhmejnoplcaa
