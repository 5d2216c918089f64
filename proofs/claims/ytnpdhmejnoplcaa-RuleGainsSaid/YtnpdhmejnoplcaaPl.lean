import Derived.Test.YtnpdhmejnoplcaaPh
import Derived.Test.YtnpdhmejnoplcaaRh
namespace Go.Proofs.Ytnpdhmejnoplcaa
open Go.RowKit Go.Proofs.Kv

theorem sides_left (a b : Value) (w : World) : (Instr.index 107 (.agg #[a, b]) (.int .i64 0)).run Try.prog w = .ok a w := by
  simp [Instr.index, run_underlying Try.underlying107, asIntOf, go_sem, part]
theorem sides_right (a b : Value) (w : World) : (Instr.index 107 (.agg #[a, b]) (.int .i64 1)).run Try.prog w = .ok b w := by
  simp [Instr.index, run_underlying Try.underlying107, asIntOf, go_sem, part]
/-! ### May -/
def okMay (s x : Int) : Bool := (decide (s = 0) || decide (s = 1)) && Within x (-1) 5
def errMay (R : Rl) (s x : Int) : Int := if validR R = 0 then (if okMay s x then 0 else 1) else validR R
def isMay (R : Rl) (s x : Int) : Bool := if validR R = 0 then (if okMay s x then (if s = 0 then mayL R.le x else mayL R.ri x) else false) else false
set_option maxRecDepth 100000 in
set_option maxHeartbeats 2000000 in
theorem ruMay_calls (v : Value) (R : Rl) (s x : Int) (w : World) (hr : RuleAt w v R) :
    Calls Try.prog 46 #[v, .int .i64 s, .int .i64 x] w fun e w' => e = .returned (.tuple #[.bool (isMay R s x), .int .i64 (errMay R s x)]) ∧ Below w.heap.size w w' := by
  have Hr := hid_ hr
  obtain ⟨a1, n1, c1, a2, n2, c2, a3, n3, c3, rfl, h1, h2, h3⟩ := hr
  obtain ⟨w1, hw1⟩ : ∃ w1, w.alloc (.cells #[.int .i64 R.f, .slice a1 n1 c1, .slice a2 n2 c2, .slice a3 n3 c3] 24) = w1 := ⟨_, rfl⟩
  have Hb1 : Hid (Below w.heap.size w w1) := hid_ (by rw [← hw1]; exact below_alloc _ _)
  obtain ⟨k0, k1, k2, k3⟩ := box4 hw1 (Below.refl _ _)
  have HW1 := hid_ hw1
  have HR1 := hid_ (fun W (hW : Below w1.heap.size w1 W) => (Hr.out.below Hb1.out (Nat.le_refl _)).below hW (Nat.le_refl _))
  have HV := hid_ (ruValidate_calls _ R w1 (Hr.out.below Hb1.out (Nat.le_refl _)))
  by_cases he : validR R = 0
  · have HE : Hid (errMay R s x = if okMay s x then 0 else 1) := hid_ (if_pos he)
    have HI : Hid (isMay R s x = if okMay s x then (if s = 0 then mayL R.le x else mayL R.ri x) else false) := hid_ (if_pos he)
    obtain ⟨g1, g2, g3, g4, g5, g6⟩ := validR_ok he
    rw [he] at HV
    have HS := hid_ (fun W hW => sidesOf_calls _ R W (HR1.out W hW) g5 g6)
    have HN := hid_ (isNeighbor_calls x)
    clear h1 h2 h3 g1 g2 g3 g4 g5 g6 he
    by_cases hs : s = 0 ∨ s = 1
    · have Hs : Hid (okMay s x = Within x (-1) 5) := hid_ (by unfold okMay; rcases hs with rfl | rfl <;> simp)
      cases hx : Within x (-1) 5 with
      | false =>
        rw [hx] at HN Hs
        rw [Hs.out] at HE HI
        clear hx
        rcases hs with rfl | rfl
        all_goals
          go_enter Try.func46, Try.ntmps46
          go_wp2_with (first
            | (go_at_call 33; refine HV.out.mono ?_; rintro e w4 ⟨rfl, hb2⟩; obtain ⟨q0, q1, q2, q3⟩ := box4 HW1.out hb2)
            | (go_at_call 130; refine (HN.out _).mono ?_; rintro e w' ⟨rfl, rfl⟩))
          go_ret2
          exact ⟨by rw [HE.out, HI.out]; rfl, Hb1.out.trans (hb2.mono Hb1.out.size)⟩
      | true =>
        rw [hx] at HN Hs
        rw [Hs.out] at HE HI
        have HH := hid_ (fun l W => has7_calls l x W (by simp [Within] at hx; omega) (by simp [Within] at hx; omega))
        clear hx
        rcases hs with rfl | rfl
        · have hix := sides_left
          go_enter Try.func46, Try.ntmps46
          go_wp2_with (first
            | (go_at_call 33; refine HV.out.mono ?_; rintro e w4 ⟨rfl, hb2⟩; obtain ⟨q0, q1, q2, q3⟩ := box4 HW1.out hb2)
            | (go_at_call 130; refine (HN.out _).mono ?_; rintro e w' ⟨rfl, rfl⟩)
            | (go_at_call 127; refine (HS.out _ hb2).mono ?_; rintro e w5 ⟨rfl, hb5⟩)
            | (go_at_call 182; refine (HH.out _ _).mono ?_; rintro e w6 ⟨rfl, hb6⟩))
          go_ret2
          exact ⟨by rw [HE.out, HI.out]; rfl, Hb1.out.trans ((hb2.trans ((hb5.trans (hb6.mono hb5.size)).mono hb2.size)).mono Hb1.out.size)⟩
        · have hix := sides_right
          go_enter Try.func46, Try.ntmps46
          go_wp2_with (first
            | (go_at_call 33; refine HV.out.mono ?_; rintro e w4 ⟨rfl, hb2⟩; obtain ⟨q0, q1, q2, q3⟩ := box4 HW1.out hb2)
            | (go_at_call 130; refine (HN.out _).mono ?_; rintro e w' ⟨rfl, rfl⟩)
            | (go_at_call 127; refine (HS.out _ hb2).mono ?_; rintro e w5 ⟨rfl, hb5⟩)
            | (go_at_call 182; refine (HH.out _ _).mono ?_; rintro e w6 ⟨rfl, hb6⟩))
          go_ret2
          exact ⟨by rw [HE.out, HI.out]; rfl, Hb1.out.trans ((hb2.trans ((hb5.trans (hb6.mono hb5.size)).mono hb2.size)).mono Hb1.out.size)⟩
    · have Hs : Hid (okMay s x = false) := hid_ (by unfold okMay; have : decide (s = 0) = false := decide_eq_false (fun h => hs (.inl h)); have h2 : decide (s = 1) = false := decide_eq_false (fun h => hs (.inr h)); rw [this, h2]; rfl)
      rw [Hs.out] at HE HI
      have hs0 : ¬ s = 0 := fun h => hs (.inl h)
      have hs1 : ¬ s = 1 := fun h => hs (.inr h)
      clear hs
      go_enter Try.func46, Try.ntmps46
      go_wp2_with (go_at_call 33; refine HV.out.mono ?_; rintro e w4 ⟨rfl, hb2⟩; obtain ⟨q0, q1, q2, q3⟩ := box4 HW1.out hb2)
      go_ret2
      exact ⟨by rw [HE.out, HI.out]; rfl, Hb1.out.trans (hb2.mono Hb1.out.size)⟩
  · have HE : Hid (errMay R s x = validR R) := hid_ (if_neg he)
    have HI : Hid (isMay R s x = false) := hid_ (if_neg he)
    have hq : (validR R != 0) = true := by simpa using he
    generalize validR R = x1 at *
    clear he
    go_enter Try.func46, Try.ntmps46
    go_wp2_with (go_at_call 33; refine HV.out.mono ?_; rintro e w4 ⟨rfl, hb2⟩; obtain ⟨q0, q1, q2, q3⟩ := box4 HW1.out hb2)
    go_ret2
    exact ⟨by rw [HE.out, HI.out]; rfl, Hb1.out.trans (hb2.mono Hb1.out.size)⟩
set_option maxRecDepth 100000 in
set_option maxHeartbeats 2000000 in
theorem r2May_calls (v : Value) (R : Rl) (s x : Int) (w : World) (hr : RuleAt w v R) :
    Calls Try.prog 47 #[v, .int .i64 s, .int .i64 x] w fun e w' => e = .returned (.tuple #[.bool (isMay R s x), .int .i64 (errMay R s x)]) ∧ Below w.heap.size w w' := by
  have Hr := hid_ hr
  obtain ⟨a1, n1, c1, a2, n2, c2, a3, n3, c3, rfl, h1, h2, h3⟩ := hr
  obtain ⟨w1, hw1⟩ : ∃ w1, w.alloc (.cells #[.int .i64 R.f, .slice a1 n1 c1, .slice a2 n2 c2, .slice a3 n3 c3] 24) = w1 := ⟨_, rfl⟩
  have Hb1 : Hid (Below w.heap.size w w1) := hid_ (by rw [← hw1]; exact below_alloc _ _)
  obtain ⟨k0, k1, k2, k3⟩ := box4 hw1 (Below.refl _ _)
  have HW1 := hid_ hw1
  have HR1 := hid_ (fun W (hW : Below w1.heap.size w1 W) => (Hr.out.below Hb1.out (Nat.le_refl _)).below hW (Nat.le_refl _))
  have HV := hid_ (validate_calls _ R w1 (Hr.out.below Hb1.out (Nat.le_refl _)))
  by_cases he : validR R = 0
  · have HE : Hid (errMay R s x = if okMay s x then 0 else 1) := hid_ (if_pos he)
    have HI : Hid (isMay R s x = if okMay s x then (if s = 0 then mayL R.le x else mayL R.ri x) else false) := hid_ (if_pos he)
    obtain ⟨g1, g2, g3, g4, g5, g6⟩ := validR_ok he
    rw [he] at HV
    have HM2 := hid_ (fun W (hW : Below w1.heap.size w1 W) => may_calls a2 n2 c2 R.le x W ((h2.below Hb1.out (Nat.le_refl _)).below hW (Nat.le_refl _)))
    have HM3 := hid_ (fun W (hW : Below w1.heap.size w1 W) => may_calls a3 n3 c3 R.ri x W ((h3.below Hb1.out (Nat.le_refl _)).below hW (Nat.le_refl _)))
    have HN := hid_ (within2_calls x (-1) 5)
    have HD := hid_ (within2_calls s 0 1)
    clear h1 h2 h3 g1 g2 g3 g4 g5 g6 he
    by_cases hs : s = 0 ∨ s = 1
    · have Hs : Hid (okMay s x = Within x (-1) 5) := hid_ (by unfold okMay; rcases hs with rfl | rfl <;> simp)
      have hD : Within s 0 1 = true := by rcases hs with rfl | rfl <;> rfl
      rw [hD] at HD
      cases hx : Within x (-1) 5 with
      | false =>
        rw [hx] at HN Hs
        rw [Hs.out] at HE HI
        clear hx
        clear hs
        go_enter Try.func47, Try.ntmps47
        go_wp2_with (first
          | (go_at_call 34; refine HV.out.mono ?_; rintro e w4 ⟨rfl, hb2⟩; obtain ⟨q0, q1, q2, q3⟩ := box4 HW1.out hb2)
          | (go_at_call 117; with_reducible refine (HD.out _).mono ?_; rintro e w' ⟨rfl, rfl⟩)
          | (go_at_call 117; with_reducible refine (HN.out _).mono ?_; rintro e w' ⟨rfl, rfl⟩))
        go_ret2
        exact ⟨by rw [HE.out, HI.out]; rfl, Hb1.out.trans (hb2.mono Hb1.out.size)⟩
      | true =>
        rw [hx] at HN Hs
        rw [Hs.out] at HE HI
        clear hx
        rcases hs with rfl | rfl
        · skip
          go_enter Try.func47, Try.ntmps47
          go_wp2_with (first
            | (go_at_call 34; refine HV.out.mono ?_; rintro e w4 ⟨rfl, hb2⟩; obtain ⟨q0, q1, q2, q3⟩ := box4 HW1.out hb2)
            | (go_at_call 117; with_reducible refine (HD.out _).mono ?_; rintro e w' ⟨rfl, rfl⟩)
            | (go_at_call 117; with_reducible refine (HN.out _).mono ?_; rintro e w' ⟨rfl, rfl⟩)
            | (go_at_call 131; refine (HM2.out _ hb2).mono ?_; rintro e w' ⟨rfl, rfl⟩))
          go_ret2
          exact ⟨by rw [HE.out, HI.out]; rfl, Hb1.out.trans (hb2.mono Hb1.out.size)⟩
        · skip
          go_enter Try.func47, Try.ntmps47
          go_wp2_with (first
            | (go_at_call 34; refine HV.out.mono ?_; rintro e w4 ⟨rfl, hb2⟩; obtain ⟨q0, q1, q2, q3⟩ := box4 HW1.out hb2)
            | (go_at_call 117; with_reducible refine (HD.out _).mono ?_; rintro e w' ⟨rfl, rfl⟩)
            | (go_at_call 117; with_reducible refine (HN.out _).mono ?_; rintro e w' ⟨rfl, rfl⟩)
            | (go_at_call 131; refine (HM3.out _ hb2).mono ?_; rintro e w' ⟨rfl, rfl⟩))
          go_ret2
          exact ⟨by rw [HE.out, HI.out]; rfl, Hb1.out.trans (hb2.mono Hb1.out.size)⟩
    · have Hs : Hid (okMay s x = false) := hid_ (by unfold okMay; have : decide (s = 0) = false := decide_eq_false (fun h => hs (.inl h)); have h2 : decide (s = 1) = false := decide_eq_false (fun h => hs (.inr h)); rw [this, h2]; rfl)
      rw [Hs.out] at HE HI
      have hD : Within s 0 1 = false := by unfold Within; by_cases h0 : 0 ≤ s <;> by_cases h1 : s ≤ 1 <;> simp [h0, h1] <;> omega
      rw [hD] at HD
      clear hs
      go_enter Try.func47, Try.ntmps47
      go_wp2_with (first
        | (go_at_call 34; refine HV.out.mono ?_; rintro e w4 ⟨rfl, hb2⟩; obtain ⟨q0, q1, q2, q3⟩ := box4 HW1.out hb2)
        | (go_at_call 117; with_reducible refine (HD.out _).mono ?_; rintro e w' ⟨rfl, rfl⟩))
      go_ret2
      exact ⟨by rw [HE.out, HI.out]; rfl, Hb1.out.trans (hb2.mono Hb1.out.size)⟩
  · have HE : Hid (errMay R s x = validR R) := hid_ (if_neg he)
    have HI : Hid (isMay R s x = false) := hid_ (if_neg he)
    have hq : (validR R != 0) = true := by simpa using he
    generalize validR R = x1 at *
    clear he
    go_enter Try.func47, Try.ntmps47
    go_wp2_with (go_at_call 34; refine HV.out.mono ?_; rintro e w4 ⟨rfl, hb2⟩; obtain ⟨q0, q1, q2, q3⟩ := box4 HW1.out hb2)
    go_ret2
    exact ⟨by rw [HE.out, HI.out]; rfl, Hb1.out.trans (hb2.mono Hb1.out.size)⟩
end Go.Proofs.Ytnpdhmejnoplcaa
