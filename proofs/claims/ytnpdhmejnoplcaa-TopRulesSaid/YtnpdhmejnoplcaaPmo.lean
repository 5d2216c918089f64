import Derived.Test.YtnpdhmejnoplcaaPgk
import Derived.Test.YtnpdhmejnoplcaaRgn
import Derived.Test.YtnpdhmejnoplcaaKa
namespace Go.Proofs.Ytnpdhmejnoplcaa
open Go.RowKit Go.Proofs.Kv

theorem sides_left (a b : Value) (w : World) : (Instr.index 107 (.agg #[a, b]) (.int .i64 0)).run Try.prog w = .ok a w := by
  simp [Instr.index, run_underlying Try.underlying107, asIntOf, go_sem, part]
theorem sides_right (a b : Value) (w : World) : (Instr.index 107 (.agg #[a, b]) (.int .i64 1)).run Try.prog w = .ok b w := by
  simp [Instr.index, run_underlying Try.underlying107, asIntOf, go_sem, part]
/-! ### May -/
def okMay (s x : Int) : Bool := (decide (s = 0) || decide (s = 1)) && Within x (-1) 5
def errMay (R : Rl) (s x : Int) : Int := if validR R = 0 then (if okMay s x then 0 else 1) else validR R
def isMay (R : Rl) (s x : Int) : Bool := if validR R = 0 then (if okMay s x then (if s = 0 then mayL R.le x else mayL R.ri x) else false) else false
set_option maxRecDepth 100000 in
set_option maxHeartbeats 2000000 in
theorem ruMay_calls (v : Value) (R : Rl) (s x : Int) (w : World) (hr : RuleAt w v R) :
    Calls Try.prog 46 #[v, .int .i64 s, .int .i64 x] w fun e w' => e = .returned (.tuple #[.bool (isMay R s x), .int .i64 (errMay R s x)]) ∧ Below w.heap.size w w' := by
  have Hr := hid_ hr
  obtain ⟨a1, n1, c1, a2, n2, c2, a3, n3, c3, rfl, h1, h2, h3⟩ := hr
  obtain ⟨w1, hw1⟩ : ∃ w1, w.alloc (.cells #[.int .i64 R.f, .slice a1 n1 c1, .slice a2 n2 c2, .slice a3 n3 c3] 24) = w1 := ⟨_, rfl⟩
  have Hb1 : Hid (Below w.heap.size w w1) := hid_ (by rw [← hw1]; exact below_alloc _ _)
  obtain ⟨k0, k1, k2, k3⟩ := box4 hw1 (Below.refl _ _)
  have HW1 := hid_ hw1
  have HR1 := hid_ (fun W (hW : Below w1.heap.size w1 W) => (Hr.out.below Hb1.out (Nat.le_refl _)).below hW (Nat.le_refl _))
  have HV := hid_ (ruValidate_calls _ R w1 (Hr.out.below Hb1.out (Nat.le_refl _)))
  by_cases he : validR R = 0
  · have HE : Hid (errMay R s x = if okMay s x then 0 else 1) := hid_ (if_pos he)
    have HI : Hid (isMay R s x = if okMay s x then (if s = 0 then mayL R.le x else mayL R.ri x) else false) := hid_ (if_pos he)
    obtain ⟨g1, g2, g3, g4, g5, g6⟩ := validR_ok he
    rw [he] at HV
    have HS := hid_ (fun W hW => sidesOf_calls _ R W (HR1.out W hW) g5 g6)
    have HN := hid_ (isNeighbor_calls x)
    clear h1 h2 h3 g1 g2 g3 g4 g5 g6 he
    by_cases hs : s = 0 ∨ s = 1
    · have Hs : Hid (okMay s x = Within x (-1) 5) := hid_ (by unfold okMay; rcases hs with rfl | rfl <;> simp)
      cases hx : Within x (-1) 5 with
      | false =>
        rw [hx] at HN Hs
        rw [Hs.out] at HE HI
        clear hx
        rcases hs with rfl | rfl
        all_goals
          go_enter Try.func46, Try.ntmps46
          go_wp2_with (first
            | (go_at_call 33; refine HV.out.mono ?_; rintro e w4 ⟨rfl, hb2⟩; obtain ⟨q0, q1, q2, q3⟩ := box4 HW1.out hb2)
            | (go_at_call 130; refine (HN.out _).mono ?_; rintro e w' ⟨rfl, rfl⟩))
          go_ret2
          exact ⟨by rw [HE.out, HI.out]; rfl, Hb1.out.trans (hb2.mono Hb1.out.size)⟩
      | true =>
        rw [hx] at HN Hs
        rw [Hs.out] at HE HI
        have HH := hid_ (fun l W => has7_calls l x W (by simp [Within] at hx; omega) (by simp [Within] at hx; omega))
        clear hx
        rcases hs with rfl | rfl
        · have hix := sides_left
          go_enter Try.func46, Try.ntmps46
          go_wp2_with (first
            | (go_at_call 33; refine HV.out.mono ?_; rintro e w4 ⟨rfl, hb2⟩; obtain ⟨q0, q1, q2, q3⟩ := box4 HW1.out hb2)
            | (go_at_call 130; refine (HN.out _).mono ?_; rintro e w' ⟨rfl, rfl⟩)
            | (go_at_call 127; refine (HS.out _ hb2).mono ?_; rintro e w5 ⟨rfl, hb5⟩)
            | (go_at_call 182; refine (HH.out _ _).mono ?_; rintro e w6 ⟨rfl, hb6⟩))
          go_ret2
          exact ⟨by rw [HE.out, HI.out]; rfl, Hb1.out.trans ((hb2.trans ((hb5.trans (hb6.mono hb5.size)).mono hb2.size)).mono Hb1.out.size)⟩
        · have hix := sides_right
          go_enter Try.func46, Try.ntmps46
          go_wp2_with (first
            | (go_at_call 33; refine HV.out.mono ?_; rintro e w4 ⟨rfl, hb2⟩; obtain ⟨q0, q1, q2, q3⟩ := box4 HW1.out hb2)
            | (go_at_call 130; refine (HN.out _).mono ?_; rintro e w' ⟨rfl, rfl⟩)
            | (go_at_call 127; refine (HS.out _ hb2).mono ?_; rintro e w5 ⟨rfl, hb5⟩)
            | (go_at_call 182; refine (HH.out _ _).mono ?_; rintro e w6 ⟨rfl, hb6⟩))
          go_ret2
          exact ⟨by rw [HE.out, HI.out]; rfl, Hb1.out.trans ((hb2.trans ((hb5.trans (hb6.mono hb5.size)).mono hb2.size)).mono Hb1.out.size)⟩
    · have Hs : Hid (okMay s x = false) := hid_ (by unfold okMay; have : decide (s = 0) = false := decide_eq_false (fun h => hs (.inl h)); have h2 : decide (s = 1) = false := decide_eq_false (fun h => hs (.inr h)); rw [this, h2]; rfl)
      rw [Hs.out] at HE HI
      have hs0 : ¬ s = 0 := fun h => hs (.inl h)
      have hs1 : ¬ s = 1 := fun h => hs (.inr h)
      clear hs
      go_enter Try.func46, Try.ntmps46
      go_wp2_with (go_at_call 33; refine HV.out.mono ?_; rintro e w4 ⟨rfl, hb2⟩; obtain ⟨q0, q1, q2, q3⟩ := box4 HW1.out hb2)
      go_ret2
      exact ⟨by rw [HE.out, HI.out]; rfl, Hb1.out.trans (hb2.mono Hb1.out.size)⟩
  · have HE : Hid (errMay R s x = validR R) := hid_ (if_neg he)
    have HI : Hid (isMay R s x = false) := hid_ (if_neg he)
    have hq : (validR R != 0) = true := by simpa using he
    generalize validR R = x1 at *
    clear he
    go_enter Try.func46, Try.ntmps46
    go_wp2_with (go_at_call 33; refine HV.out.mono ?_; rintro e w4 ⟨rfl, hb2⟩; obtain ⟨q0, q1, q2, q3⟩ := box4 HW1.out hb2)
    go_ret2
    exact ⟨by rw [HE.out, HI.out]; rfl, Hb1.out.trans (hb2.mono Hb1.out.size)⟩
set_option maxRecDepth 100000 in
set_option maxHeartbeats 2000000 in
theorem r2May_calls (v : Value) (R : Rl) (s x : Int) (w : World) (hr : RuleAt w v R) :
    Calls Try.prog 47 #[v, .int .i64 s, .int .i64 x] w fun e w' => e = .returned (.tuple #[.bool (isMay R s x), .int .i64 (errMay R s x)]) ∧ Below w.heap.size w w' := by
  have Hr := hid_ hr
  obtain ⟨a1, n1, c1, a2, n2, c2, a3, n3, c3, rfl, h1, h2, h3⟩ := hr
  obtain ⟨w1, hw1⟩ : ∃ w1, w.alloc (.cells #[.int .i64 R.f, .slice a1 n1 c1, .slice a2 n2 c2, .slice a3 n3 c3] 24) = w1 := ⟨_, rfl⟩
  have Hb1 : Hid (Below w.heap.size w w1) := hid_ (by rw [← hw1]; exact below_alloc _ _)
  obtain ⟨k0, k1, k2, k3⟩ := box4 hw1 (Below.refl _ _)
  have HW1 := hid_ hw1
  have HR1 := hid_ (fun W (hW : Below w1.heap.size w1 W) => (Hr.out.below Hb1.out (Nat.le_refl _)).below hW (Nat.le_refl _))
  have HV := hid_ (validate_calls _ R w1 (Hr.out.below Hb1.out (Nat.le_refl _)))
  by_cases he : validR R = 0
  · have HE : Hid (errMay R s x = if okMay s x then 0 else 1) := hid_ (if_pos he)
    have HI : Hid (isMay R s x = if okMay s x then (if s = 0 then mayL R.le x else mayL R.ri x) else false) := hid_ (if_pos he)
    obtain ⟨g1, g2, g3, g4, g5, g6⟩ := validR_ok he
    rw [he] at HV
    have HM2 := hid_ (fun W (hW : Below w1.heap.size w1 W) => may_calls a2 n2 c2 R.le x W ((h2.below Hb1.out (Nat.le_refl _)).below hW (Nat.le_refl _)))
    have HM3 := hid_ (fun W (hW : Below w1.heap.size w1 W) => may_calls a3 n3 c3 R.ri x W ((h3.below Hb1.out (Nat.le_refl _)).below hW (Nat.le_refl _)))
    have HN := hid_ (within2_calls x (-1) 5)
    have HD := hid_ (within2_calls s 0 1)
    clear h1 h2 h3 g1 g2 g3 g4 g5 g6 he
    by_cases hs : s = 0 ∨ s = 1
    · have Hs : Hid (okMay s x = Within x (-1) 5) := hid_ (by unfold okMay; rcases hs with rfl | rfl <;> simp)
      have hD : Within s 0 1 = true := by rcases hs with rfl | rfl <;> rfl
      rw [hD] at HD
      cases hx : Within x (-1) 5 with
      | false =>
        rw [hx] at HN Hs
        rw [Hs.out] at HE HI
        clear hx
        clear hs
        go_enter Try.func47, Try.ntmps47
        go_wp2_with (first
          | (go_at_call 34; refine HV.out.mono ?_; rintro e w4 ⟨rfl, hb2⟩; obtain ⟨q0, q1, q2, q3⟩ := box4 HW1.out hb2)
          | (go_at_call 117; with_reducible refine (HD.out _).mono ?_; rintro e w' ⟨rfl, rfl⟩)
          | (go_at_call 117; with_reducible refine (HN.out _).mono ?_; rintro e w' ⟨rfl, rfl⟩))
        go_ret2
        exact ⟨by rw [HE.out, HI.out]; rfl, Hb1.out.trans (hb2.mono Hb1.out.size)⟩
      | true =>
        rw [hx] at HN Hs
        rw [Hs.out] at HE HI
        clear hx
        rcases hs with rfl | rfl
        · skip
          go_enter Try.func47, Try.ntmps47
          go_wp2_with (first
            | (go_at_call 34; refine HV.out.mono ?_; rintro e w4 ⟨rfl, hb2⟩; obtain ⟨q0, q1, q2, q3⟩ := box4 HW1.out hb2)
            | (go_at_call 117; with_reducible refine (HD.out _).mono ?_; rintro e w' ⟨rfl, rfl⟩)
            | (go_at_call 117; with_reducible refine (HN.out _).mono ?_; rintro e w' ⟨rfl, rfl⟩)
            | (go_at_call 131; refine (HM2.out _ hb2).mono ?_; rintro e w' ⟨rfl, rfl⟩))
          go_ret2
          exact ⟨by rw [HE.out, HI.out]; rfl, Hb1.out.trans (hb2.mono Hb1.out.size)⟩
        · skip
          go_enter Try.func47, Try.ntmps47
          go_wp2_with (first
            | (go_at_call 34; refine HV.out.mono ?_; rintro e w4 ⟨rfl, hb2⟩; obtain ⟨q0, q1, q2, q3⟩ := box4 HW1.out hb2)
            | (go_at_call 117; with_reducible refine (HD.out _).mono ?_; rintro e w' ⟨rfl, rfl⟩)
            | (go_at_call 117; with_reducible refine (HN.out _).mono ?_; rintro e w' ⟨rfl, rfl⟩)
            | (go_at_call 131; refine (HM3.out _ hb2).mono ?_; rintro e w' ⟨rfl, rfl⟩))
          go_ret2
          exact ⟨by rw [HE.out, HI.out]; rfl, Hb1.out.trans (hb2.mono Hb1.out.size)⟩
    · have Hs : Hid (okMay s x = false) := hid_ (by unfold okMay; have : decide (s = 0) = false := decide_eq_false (fun h => hs (.inl h)); have h2 : decide (s = 1) = false := decide_eq_false (fun h => hs (.inr h)); rw [this, h2]; rfl)
      rw [Hs.out] at HE HI
      have hD : Within s 0 1 = false := by unfold Within; by_cases h0 : 0 ≤ s <;> by_cases h1 : s ≤ 1 <;> simp [h0, h1] <;> omega
      rw [hD] at HD
      clear hs
      go_enter Try.func47, Try.ntmps47
      go_wp2_with (first
        | (go_at_call 34; refine HV.out.mono ?_; rintro e w4 ⟨rfl, hb2⟩; obtain ⟨q0, q1, q2, q3⟩ := box4 HW1.out hb2)
        | (go_at_call 117; with_reducible refine (HD.out _).mono ?_; rintro e w' ⟨rfl, rfl⟩))
      go_ret2
      exact ⟨by rw [HE.out, HI.out]; rfl, Hb1.out.trans (hb2.mono Hb1.out.size)⟩
  · have HE : Hid (errMay R s x = validR R) := hid_ (if_neg he)
    have HI : Hid (isMay R s x = false) := hid_ (if_neg he)
    have hq : (validR R != 0) = true := by simpa using he
    generalize validR R = x1 at *
    clear he
    go_enter Try.func47, Try.ntmps47
    go_wp2_with (go_at_call 34; refine HV.out.mono ?_; rintro e w4 ⟨rfl, hb2⟩; obtain ⟨q0, q1, q2, q3⟩ := box4 HW1.out hb2)
    go_ret2
    exact ⟨by rw [HE.out, HI.out]; rfl, Hb1.out.trans (hb2.mono Hb1.out.size)⟩
end Go.Proofs.Ytnpdhmejnoplcaa
namespace Go.Proofs.Ytnpdhmejnoplcaa
open Go.RowKit Go.Proofs.Kv

/-! ### isWithin, inside -/
def insN (a b : List Int) (k : Nat) : Bool := (List.range k).all fun j => !mayL a ((j : Int) - 1) || mayL b ((j : Int) - 1)
def insideB (a b : List Int) : Bool := insN a b 7
theorem insN_succ (a b : List Int) (k : Nat) : insN a b (k + 1) = (insN a b k && (!mayL a ((k : Int) - 1) || mayL b ((k : Int) - 1))) := by
  simp [insN, List.range_succ, Bool.and_comm]
theorem insN_no {a b : List Int} {k : Nat} (hk : k < 7) (ha : mayL a ((k : Int) - 1) = true) (hb : mayL b ((k : Int) - 1) = false) : insideB a b = false := by
  rw [insideB, insN, List.all_eq_false]
  exact ⟨k, List.mem_range.2 hk, by simp [ha, hb]⟩
theorem insideB_iff {a b : List Int} : insideB a b = true ↔ ∀ x : Int, -1 ≤ x → x ≤ 5 → mayL a x = true → mayL b x = true := by
  rw [insideB, insN, List.all_eq_true]
  constructor
  · intro h x h0 h5 ha
    have := h (x + 1).toNat (List.mem_range.2 (by omega))
    rw [show (((x + 1).toNat : Nat) : Int) - 1 = x by omega, ha] at this
    simpa using this
  · intro h k hk
    have hk := List.mem_range.1 hk
    cases ha : mayL a ((k : Int) - 1) with
    | false => simp
    | true => simp [h ((k : Int) - 1) (by omega) (by omega) ha]
set_option maxRecDepth 100000 in
set_option maxHeartbeats 2000000 in
theorem isWithin_calls (a b : List Int) (w : World) :
    Calls Try.prog 132 #[.func (.func 182) #[.agg (nbV a)] #[], .func (.func 182) #[.agg (nbV b)] #[]] w fun e w' => e = .returned (.bool (insideB a b)) ∧ Below w.heap.size w w' := by
  go_enter Try.func132, Try.ntmps132
  go_wp2
  go_loopw [5] (fun i wr => ∃ k : Nat, k ≤ 7 ∧ i = .int .i64 ((k : Int) - 1) ∧ insN a b k = true ∧ Below w.heap.size w wr) (fun i _ => 7 - (intOf i + 1).toNat)
  case atStart => exact ⟨0, by omega, rfl, rfl, Below.refl _ _⟩
  case round =>
    obtain ⟨k, hk, rfl, hall, hbel⟩ := hrel
    have Hall := hid_ hall; clear hall
    by_cases hlt : k < 7
    · have hA := hid_ (fun W => has7_calls a ((k : Int) - 1) W (by omega) (by omega))
      have hB := hid_ (fun W => has7_calls b ((k : Int) - 1) W (by omega) (by omega))
      have h6 : (k : Int) - 1 < 6 := by omega
      have hN := hid_ (@insN_no a b k hlt)
      have hS := hid_ (insN_succ a b k)
      generalize mayL a ((k : Int) - 1) = x1 at *
      generalize mayL b ((k : Int) - 1) = x2 at *
      cases x1 with
      | false =>
        go_wp2_with (go_at_call 182; with_reducible refine (hA.out _).mono ?_; rintro e w2 ⟨rfl, hb2⟩)
        go_roundw
        case rel => exact ⟨k + 1, by omega, by go_num, by rw [hS.out, Hall.out]; rfl, hbel.trans (hb2.mono hbel.size)⟩
        case measure => simp [intOf]; omega
      | true =>
        cases x2 with
        | false =>
          have Hf := hid_ (hN.out rfl rfl)
          go_wp2_with (first
            | (go_at_call 182; with_reducible refine (hA.out _).mono ?_; rintro e w2 ⟨rfl, hb2⟩)
            | (go_at_call 182; with_reducible refine (hB.out _).mono ?_; rintro e w3 ⟨rfl, hb3⟩))
          go_ret
          exact ⟨retB Hf.out, hbel.trans ((hb2.trans (hb3.mono hb2.size)).mono hbel.size)⟩
        | true =>
          go_wp2_with (first
            | (go_at_call 182; with_reducible refine (hA.out _).mono ?_; rintro e w2 ⟨rfl, hb2⟩)
            | (go_at_call 182; with_reducible refine (hB.out _).mono ?_; rintro e w3 ⟨rfl, hb3⟩))
          go_roundw
          case rel => exact ⟨k + 1, by omega, by go_num, by rw [hS.out, Hall.out]; rfl, hbel.trans ((hb2.trans (hb3.mono hb2.size)).mono hbel.size)⟩
          case measure => simp [intOf]; omega
    · obtain rfl : k = 7 := by omega
      have Hf : Hid (insideB a b = true) := hid_ Hall.out
      go_wp2
      go_ret
      exact ⟨retB Hf.out, hbel⟩
end Go.Proofs.Ytnpdhmejnoplcaa
namespace Go.Proofs.Ytnpdhmejnoplcaa
open Go.RowKit Go.Proofs.Kv

/-! ### common, by the program and by the reference -/
def cmN (a b : List Int) (k : Nat) : List Int := ((List.range k).map fun j : Nat => (j : Int) - 1).filter fun x => mayL a x && mayL b x
def comL (a b : List Int) : List Int := cmN a b 7
theorem cm_hit {a b : List Int} {k : Nat} (h : (mayL a ((k : Int) - 1) && mayL b ((k : Int) - 1)) = true) : cmN a b (k + 1) = cmN a b k ++ [(k : Int) - 1] := by
  simp only [cmN, List.range_succ, List.map_append, List.filter_append, List.map_cons, List.map_nil, List.filter_cons, h, if_true, List.filter_nil]
theorem cm_miss {a b : List Int} {k : Nat} (h : (mayL a ((k : Int) - 1) && mayL b ((k : Int) - 1)) = false) : cmN a b (k + 1) = cmN a b k := by
  simp only [cmN, List.range_succ, List.map_append, List.filter_append, List.map_cons, List.map_nil, List.filter_cons, h, List.filter_nil]
  simp
theorem cm_le (a b : List Int) (k : Nat) : (cmN a b k).length ≤ k := by
  refine Nat.le_trans (List.length_filter_le _ _) ?_
  simp
theorem mem_com {a b : List Int} {x : Int} : x ∈ comL a b ↔ -1 ≤ x ∧ x ≤ 5 ∧ mayL a x = true ∧ mayL b x = true := by
  simp only [comL, cmN, List.mem_filter, List.mem_map, List.mem_range, Bool.and_eq_true]
  constructor
  · rintro ⟨⟨j, hj, rfl⟩, h⟩
    exact ⟨by omega, by omega, h⟩
  · rintro ⟨h0, h5, h⟩
    exact ⟨⟨(x + 1).toNat, by omega, by omega⟩, h⟩
set_option maxRecDepth 100000 in
set_option maxHeartbeats 4000000 in
theorem common_calls (a b : List Int) (w : World) :
    Calls Try.prog 135 #[.func (.func 182) #[.agg (nbV a)] #[], .func (.func 182) #[.agg (nbV b)] #[]] w fun e w' => ∃ v', e = .returned v' ∧ Made 3 w w' v' (comL a b) := by
  obtain ⟨i0, hi0, hz0, hz1, hz2⟩ := info_parts Try.infoInt
  go_enter Try.func135, Try.ntmps135
  go_wp2
  go_loopw [5, 6] (fun v i wr => ∃ k : Nat, k ≤ 7 ∧ i = .int .i64 ((k : Int) - 1) ∧ wr.ownsRow w.heap.size 3 1 v (cmN a b k).length ((cmN a b k).map (Value.int .i64)) ∧ Below w.heap.size w wr) (fun _ i _ => 7 - (intOf i + 1).toNat)
  case atStart => exact ⟨0, by omega, rfl, World.ownsRow_nil _ _ _ _, Below.refl _ _⟩
  case round =>
    obtain ⟨k, hk, rfl, hown, hbel⟩ := hrel
    have hsz := hbel.size
    by_cases hlt : k < 7
    · have hA := hid_ (fun W => has7_calls a ((k : Int) - 1) W (by omega) (by omega))
      have hB := hid_ (fun W => has7_calls b ((k : Int) - 1) W (by omega) (by omega))
      have h6 : (k : Int) - 1 < 6 := by omega
      have hH := hid_ (@cm_hit a b k)
      have hM := hid_ (@cm_miss a b k)
      have hle := cm_le a b k
      have hs1 : (cmN a b k).length + 1 ≤ 1000000 := by omega
      clear hle
      generalize mayL a ((k : Int) - 1) = x1 at *
      generalize mayL b ((k : Int) - 1) = x2 at *
      cases x1 with
      | false =>
        have Hn := hid_ (hM.out rfl)
        go_wp2_with (go_at_call 182; with_reducible refine (hA.out _).mono ?_; rintro e w2 ⟨rfl, hb2⟩)
        go_roundw
        case rel => exact ⟨k + 1, by omega, by go_num, by rw [Hn.out]; exact own_grown hown hb2, hbel.trans (hb2.mono hsz)⟩
        case measure => simp [intOf]; omega
      | true =>
        cases x2 with
        | false =>
          have Hn := hid_ (hM.out rfl)
          go_wp2_with (first
            | (go_at_call 182; with_reducible refine (hA.out _).mono ?_; rintro e w2 ⟨rfl, hb2⟩)
            | (go_at_call 182; with_reducible refine (hB.out _).mono ?_; rintro e w3 ⟨rfl, hb3⟩))
          go_roundw
          case rel => exact ⟨k + 1, by omega, by go_num, by rw [Hn.out]; exact own_grown (own_grown hown hb2) hb3, hbel.trans ((hb2.trans (hb3.mono hb2.size)).mono hsz)⟩
          case measure => simp [intOf]; omega
        | true =>
          have Hn := hid_ (hH.out rfl)
          go_wp2_with (first
            | (go_at_call 182; with_reducible refine (hA.out _).mono ?_; rintro e w2 ⟨rfl, hb2⟩)
            | (go_at_call 182; with_reducible refine (hB.out _).mono ?_; rintro e w3 ⟨rfl, hb3⟩; have hb13 := hbel.trans ((hb2.trans (hb3.mono hb2.size)).mono hsz); have hown3 := own_grown (own_grown hown hb2) hb3)
            | (at_builtin; refine wpList_append_ints _ rfl (.tmp 19) (.tmp 21) _ rfl w.heap.size 3 i0 Try.underlying22 hi0 hz0 hz1 hz2 _ _ _ rfl (hown3.alloc _) _ _ _ _ rfl (IntsAt.one _ _ _) hs1 (le_alloc hb13.size) ?_; intro v' w5 hown5 hg5 hat5))
          go_roundw
          case rel => exact ⟨k + 1, by omega, by go_num, by rw [Hn.out]; simpa using hown5, below_app hb13 hb13.size hown3 hg5⟩
          case measure => simp [intOf]; omega
    · obtain rfl : k = 7 := by omega
      go_wp2
      go_ret
      exact ⟨_, rfl, hown, hbel⟩
set_option maxRecDepth 100000 in
set_option maxHeartbeats 4000000 in
theorem refCommon_calls (a : Option Addr) (n c : Nat) (s : List Int) (a' : Option Addr) (n' c' : Nat) (t : List Int) (w : World) (h : IntsAt w a n c s) (h' : IntsAt w a' n' c' t) :
    Calls Try.prog 136 #[.slice a n c, .slice a' n' c'] w fun e w' => ∃ v', e = .returned v' ∧ Made 3 w w' v' (comL s t) := by
  obtain ⟨i0, hi0, hz0, hz1, hz2⟩ := info_parts Try.infoInt
  go_enter Try.func136, Try.ntmps136
  go_wp2
  go_loopw [5, 6] (fun v i wr => ∃ k : Nat, k ≤ 7 ∧ i = .int .i64 ((k : Int) - 1) ∧ wr.ownsRow w.heap.size 3 1 v (cmN s t k).length ((cmN s t k).map (Value.int .i64)) ∧ Below w.heap.size w wr) (fun _ i _ => 7 - (intOf i + 1).toNat)
  case atStart => exact ⟨0, by omega, rfl, World.ownsRow_nil _ _ _ _, Below.refl _ _⟩
  case round =>
    obtain ⟨k, hk, rfl, hown, hbel⟩ := hrel
    have hsz := hbel.size
    by_cases hlt : k < 7
    · have hA := hid_ (may_calls a n c s ((k : Int) - 1) wr (h.below hbel (Nat.le_refl _)))
      have hB := hid_ (may_calls a' n' c' t ((k : Int) - 1) wr (h'.below hbel (Nat.le_refl _)))
      have h6 : (k : Int) - 1 < 6 := by omega
      have hH := hid_ (@cm_hit s t k)
      have hM := hid_ (@cm_miss s t k)
      have hle := cm_le s t k
      have hs1 : (cmN s t k).length + 1 ≤ 1000000 := by omega
      clear hle
      generalize mayL s ((k : Int) - 1) = x1 at *
      generalize mayL t ((k : Int) - 1) = x2 at *
      cases x1 with
      | false =>
        have Hn := hid_ (hM.out rfl)
        go_wp2_with (go_at_call 131; with_reducible refine hA.out.mono ?_; rintro e w2 ⟨rfl, rfl⟩)
        go_roundw
        case rel => exact ⟨k + 1, by omega, by go_num, by rw [Hn.out]; exact hown, hbel⟩
        case measure => simp [intOf]; omega
      | true =>
        cases x2 with
        | false =>
          have Hn := hid_ (hM.out rfl)
          go_wp2_with (first
            | (go_at_call 131; with_reducible refine hA.out.mono ?_; rintro e w2 ⟨rfl, rfl⟩)
            | (go_at_call 131; with_reducible refine hB.out.mono ?_; rintro e w3 ⟨rfl, rfl⟩))
          go_roundw
          case rel => exact ⟨k + 1, by omega, by go_num, by rw [Hn.out]; exact hown, hbel⟩
          case measure => simp [intOf]; omega
        | true =>
          have Hn := hid_ (hH.out rfl)
          go_wp2_with (first
            | (go_at_call 131; with_reducible refine hA.out.mono ?_; rintro e w2 ⟨rfl, rfl⟩)
            | (go_at_call 131; with_reducible refine hB.out.mono ?_; rintro e w3 ⟨rfl, rfl⟩)
            | (at_builtin; refine wpList_append_ints _ rfl (.tmp 19) (.tmp 21) _ rfl w.heap.size 3 i0 Try.underlying22 hi0 hz0 hz1 hz2 _ _ _ rfl (hown.alloc _) _ _ _ _ rfl (IntsAt.one _ _ _) hs1 (le_alloc hsz) ?_; intro v' w5 hown5 hg5 hat5))
          go_roundw
          case rel => exact ⟨k + 1, by omega, by go_num, by rw [Hn.out]; simpa using hown5, below_app hbel hsz hown hg5⟩
          case measure => simp [intOf]; omega
    · obtain rfl : k = 7 := by omega
      go_wp2
      go_ret
      exact ⟨_, rfl, hown, hbel⟩
end Go.Proofs.Ytnpdhmejnoplcaa
namespace Go.Proofs.Ytnpdhmejnoplcaa
open Go.RowKit Go.Proofs.Kv

/-! ### inside, two, IsSpecial -/
set_option maxRecDepth 100000 in
set_option maxHeartbeats 2000000 in
theorem inside_calls (a : Option Addr) (n c : Nat) (s : List Int) (a' : Option Addr) (n' c' : Nat) (t : List Int) (w : World) (h : IntsAt w a n c s) (h' : IntsAt w a' n' c' t) :
    Calls Try.prog 134 #[.slice a n c, .slice a' n' c'] w fun e w' => e = .returned (.bool (insideB s t)) ∧ w = w' := by
  go_enter Try.func134, Try.ntmps134
  go_wp2
  go_loop [5] (fun i => ∃ k : Nat, k ≤ 7 ∧ i = .int .i64 ((k : Int) - 1) ∧ insN s t k = true) (fun i => 7 - (intOf i + 1).toNat)
  case atStart => exact ⟨0, by omega, rfl, rfl⟩
  case round =>
    obtain ⟨k, hk, rfl, hall⟩ := hrel
    have Hall := hid_ hall; clear hall
    by_cases hlt : k < 7
    · have hA := hid_ (may_calls a n c s ((k : Int) - 1) w h)
      have hB := hid_ (may_calls a' n' c' t ((k : Int) - 1) w h')
      have h6 : (k : Int) - 1 < 6 := by omega
      have hN := hid_ (@insN_no s t k hlt)
      have hS := hid_ (insN_succ s t k)
      generalize mayL s ((k : Int) - 1) = x1 at *
      generalize mayL t ((k : Int) - 1) = x2 at *
      cases x1 with
      | false =>
        go_wp2_with (go_at_call 131; with_reducible refine hA.out.mono ?_; rintro e w2 ⟨rfl, rfl⟩)
        go_round
        case rel => exact ⟨k + 1, by omega, by go_num, by rw [hS.out, Hall.out]; rfl⟩
        case measure => simp [intOf]; omega
      | true =>
        cases x2 with
        | false =>
          have Hf := hid_ (hN.out rfl rfl)
          go_wp2_with (first
            | (go_at_call 131; with_reducible refine hA.out.mono ?_; rintro e w2 ⟨rfl, rfl⟩)
            | (go_at_call 131; with_reducible refine hB.out.mono ?_; rintro e w3 ⟨rfl, rfl⟩))
          go_ret
          exact ⟨retB Hf.out, rfl⟩
        | true =>
          go_wp2_with (first
            | (go_at_call 131; with_reducible refine hA.out.mono ?_; rintro e w2 ⟨rfl, rfl⟩)
            | (go_at_call 131; with_reducible refine hB.out.mono ?_; rintro e w3 ⟨rfl, rfl⟩))
          go_round
          case rel => exact ⟨k + 1, by omega, by go_num, by rw [hS.out, Hall.out]; rfl⟩
          case measure => simp [intOf]; omega
    · obtain rfl : k = 7 := by omega
      have Hf : Hid (insideB s t = true) := hid_ Hall.out
      go_wp2
      go_ret
      exact ⟨retB Hf.out, rfl⟩
def errTwo (R S : Rl) : Int := if validR R = 0 then validR S else validR R
set_option maxRecDepth 100000 in
set_option maxHeartbeats 1000000 in
theorem two_calls (v u : Value) (R S : Rl) (w : World) (hr : RuleAt w v R) (hs : RuleAt w u S) :
    Calls Try.prog 133 #[v, u] w fun e w' => e = .returned (.int .i64 (errTwo R S)) ∧ Below w.heap.size w w' := by
  have Hr := hid_ hr
  have Hs := hid_ hs
  obtain ⟨a1, n1, c1, a2, n2, c2, a3, n3, c3, rfl, h1, h2, h3⟩ := hr
  obtain ⟨b1, m1, d1, b2, m2, d2, b3, m3, d3, rfl, h4, h5, h6⟩ := hs
  clear h1 h2 h3 h4 h5 h6
  obtain ⟨w0, hw0⟩ : ∃ w0, w.alloc (.cells #[.int .i64 R.f, .slice a1 n1 c1, .slice a2 n2 c2, .slice a3 n3 c3] 24) = w0 := ⟨_, rfl⟩
  have hz0 : w0.heap.size = w.heap.size + 1 := by rw [← hw0]; simp
  have Hb0 : Hid (Below w.heap.size w w0) := hid_ (by rw [← hw0]; exact below_alloc _ _)
  obtain ⟨w1, hw1⟩ : ∃ w1, w0.alloc (.cells #[.int .i64 S.f, .slice b1 m1 d1, .slice b2 m2 d2, .slice b3 m3 d3] 24) = w1 := ⟨_, rfl⟩
  have Hb01 : Hid (Below w0.heap.size w0 w1) := hid_ (by rw [← hw1]; exact below_alloc _ _)
  have Hb1 : Hid (Below w.heap.size w w1) := hid_ (Hb0.out.trans (Hb01.out.mono Hb0.out.size))
  have HW0 := hid_ hw0
  have HW1 := hid_ hw1
  have HZ0 := hid_ hz0
  have HQ : Hid (∀ W, Below w1.heap.size w1 W → (W.cell? ⟨w.heap.size, 0, none⟩ = some (.int .i64 R.f) ∧ W.cell? ⟨w.heap.size, 1, none⟩ = some (.slice a1 n1 c1) ∧ W.cell? ⟨w.heap.size, 2, none⟩ = some (.slice a2 n2 c2) ∧ W.cell? ⟨w.heap.size, 3, none⟩ = some (.slice a3 n3 c3)) ∧ W.cell? ⟨w.heap.size + 1, 0, none⟩ = some (.int .i64 S.f) ∧ W.cell? ⟨w.heap.size + 1, 1, none⟩ = some (.slice b1 m1 d1) ∧ W.cell? ⟨w.heap.size + 1, 2, none⟩ = some (.slice b2 m2 d2) ∧ W.cell? ⟨w.heap.size + 1, 3, none⟩ = some (.slice b3 m3 d3)) := hid_ (fun W hW => ⟨box4 HW0.out (Hb01.out.trans (hW.mono Hb01.out.size)), by have := box4 HW1.out hW; rwa [HZ0.out] at this⟩)
  have HR := hid_ (fun W (hW : Below w1.heap.size w1 W) => validate_calls _ R W ((Hr.out.below Hb1.out (Nat.le_refl _)).below hW (Nat.le_refl _)))
  have HS := hid_ (fun W (hW : Below w1.heap.size w1 W) => validate_calls _ S W ((Hs.out.below Hb1.out (Nat.le_refl _)).below hW (Nat.le_refl _)))
  obtain ⟨⟨q0, q1, q2, q3⟩, s0, s1, s2, s3⟩ := HQ.out w1 (Below.refl _ _)
  have hR1 := hid_ (HR.out w1 (Below.refl _ _))
  by_cases he : validR R = 0
  · have HE : Hid (errTwo R S = validR S) := hid_ (if_pos he)
    rw [he] at hR1
    clear he
    go_enter Try.func133, Try.ntmps133
    go_wp2_with (first
      | (go_at_call 34; with_reducible refine hR1.out.mono ?_; rintro e w4 ⟨rfl, hb4⟩; obtain ⟨-, t0, t1, t2, t3⟩ := HQ.out w4 hb4)
      | (go_at_call 34; with_reducible refine (HS.out _ hb4).mono ?_; rintro e w5 ⟨rfl, hb5⟩))
    go_ret
    exact ⟨retI HE.out, Hb1.out.trans ((hb4.trans (hb5.mono hb4.size)).mono Hb1.out.size)⟩
  · have HE : Hid (errTwo R S = validR R) := hid_ (if_neg he)
    have hq : (validR R != 0) = true := by simpa using he
    generalize validR R = x1 at *
    clear he
    go_enter Try.func133, Try.ntmps133
    go_wp2_with (go_at_call 34; with_reducible refine hR1.out.mono ?_; rintro e w4 ⟨rfl, hb4⟩)
    go_ret
    exact ⟨retI HE.out, Hb1.out.trans (hb4.mono Hb1.out.size)⟩
end Go.Proofs.Ytnpdhmejnoplcaa
namespace Go.Proofs.Ytnpdhmejnoplcaa
open Go.RowKit Go.Proofs.Kv

/-! ### Measure -/
def meaV (R : Rl) : Int := if validR R = 0 then (R.o.length : Int) + R.le.length + R.ri.length + tkN R else 0
set_option maxRecDepth 100000 in
set_option maxHeartbeats 2000000 in
theorem ruMeasure_calls (v : Value) (R : Rl) (w : World) (hr : RuleAt w v R) (l1 : R.o.length ≤ 100) (l2 : R.le.length ≤ 100) (l3 : R.ri.length ≤ 100) :
    Calls Try.prog 68 #[v] w fun e w' => e = .returned (.tuple #[.int .i64 (meaV R), .int .i64 (validR R)]) ∧ Below w.heap.size w w' := by
  have Hr := hid_ hr
  obtain ⟨a1, n1, c1, a2, n2, c2, a3, n3, c3, rfl, h1, h2, h3⟩ := hr
  obtain ⟨w1, hw1⟩ : ∃ w1, w.alloc (.cells #[.int .i64 R.f, .slice a1 n1 c1, .slice a2 n2 c2, .slice a3 n3 c3] 24) = w1 := ⟨_, rfl⟩
  have Hb1 : Hid (Below w.heap.size w w1) := hid_ (by rw [← hw1]; exact below_alloc _ _)
  obtain ⟨k0, k1, k2, k3⟩ := box4 hw1 (Below.refl _ _)
  have HW1 := hid_ hw1
  have HR1 := hid_ (fun W (hW : Below w1.heap.size w1 W) => (Hr.out.below Hb1.out (Nat.le_refl _)).below hW (Nat.le_refl _))
  have HV := hid_ (ruValidate_calls _ R w1 (Hr.out.below Hb1.out (Nat.le_refl _)))
  have hn1 : n1 ≤ 100 := by have := h1.len; omega
  have hn2 : n2 ≤ 100 := by have := h2.len; omega
  have hn3 : n3 ≤ 100 := by have := h3.len; omega
  by_cases he : validR R = 0
  · have HE : Hid (meaV R = (n1 : Int) + n2 + n3 + tkN R) := hid_ (by rw [meaV, if_pos he, h1.len, h2.len, h3.len])
    obtain ⟨g1, -⟩ := validR_ok he
    rw [he] at HV ⊢
    have x1 : IntKind.i64.wrap ((n1 : Int) + n2) = (n1 : Int) + n2 := IntWalk.i64_in _ (by omega)
    have x2 : IntKind.i64.wrap ((n1 : Int) + n2 + n3) = (n1 : Int) + n2 + n3 := IntWalk.i64_in _ (by omega)
    clear h1 h2 h3 he
    have htk : tkN R ≤ 1 := by unfold tkN; split <;> omega
    have x3 : IntKind.i64.wrap ((n1 : Int) + n2 + n3 + tkN R) = (n1 : Int) + n2 + n3 + tkN R := IntWalk.i64_in _ (by omega)
    have HT := hid_ (fun W hW => taken_calls _ R W (HR1.out W hW))
    rw [tk_eq] at HT
    generalize tkN R = T at *
    go_enter Try.func68, Try.ntmps68
    go_wp2_with (go_at_call 33; refine HV.out.mono ?_; rintro e w4 ⟨rfl, hb2⟩; obtain ⟨q0, q1, q2, q3⟩ := box4 HW1.out hb2)
    have e0 := cell_regrown q0
    have e1 := cell_regrown q1
    have e2 := cell_regrown q2
    have e3 := cell_regrown q3
    have HT2 := hid_ (fun d os => HT.out (Go.Sort.grow (redrawn w4 d) os) (hb2.trans ((below_regrown w4 d os).mono hb2.size)))
    clear q0 q1 q2 q3
    refine wp_region_quiet_below (by kernel_rfl) (by kernel_rfl) ?_
    repeat (first | go_big_quiet_skip | (go_big_quiet_want; go_big_quiet_op; first | go_big_quiet_on | go_big_quiet_call ((go_at_call 129; exact Calls.regrown_of (HT2.out _ _)))))
    refine wpQuiet_nil ?_
    rintro wq ⟨pq, hpq⟩
    have hbq := below_wq hpq
    clear hpq e0 e1 e2 e3
    go_wp2
    go_ret2
    exact ⟨by rw [HE.out]; rfl, Hb1.out.trans ((hb2.trans (hbq.mono hb2.size)).mono Hb1.out.size)⟩
  · have HE : Hid (meaV R = 0) := hid_ (if_neg he)
    have hq : (validR R != 0) = true := by simpa using he
    clear h1 h2 h3
    generalize validR R = x1 at *
    clear he
    go_enter Try.func68, Try.ntmps68
    go_wp2_with (go_at_call 33; refine HV.out.mono ?_; rintro e w4 ⟨rfl, hb2⟩; obtain ⟨q0, q1, q2, q3⟩ := box4 HW1.out hb2)
    go_ret2
    exact ⟨by rw [HE.out]; rfl, Hb1.out.trans (hb2.mono Hb1.out.size)⟩
set_option maxRecDepth 100000 in
set_option maxHeartbeats 2000000 in
theorem r2Measure_calls (v : Value) (R : Rl) (w : World) (hr : RuleAt w v R) (l1 : R.o.length ≤ 100) (l2 : R.le.length ≤ 100) (l3 : R.ri.length ≤ 100) :
    Calls Try.prog 69 #[v] w fun e w' => e = .returned (.tuple #[.int .i64 (meaV R), .int .i64 (validR R)]) ∧ Below w.heap.size w w' := by
  have Hr := hid_ hr
  obtain ⟨a1, n1, c1, a2, n2, c2, a3, n3, c3, rfl, h1, h2, h3⟩ := hr
  obtain ⟨w1, hw1⟩ : ∃ w1, w.alloc (.cells #[.int .i64 R.f, .slice a1 n1 c1, .slice a2 n2 c2, .slice a3 n3 c3] 24) = w1 := ⟨_, rfl⟩
  have Hb1 : Hid (Below w.heap.size w w1) := hid_ (by rw [← hw1]; exact below_alloc _ _)
  obtain ⟨k0, k1, k2, k3⟩ := box4 hw1 (Below.refl _ _)
  have HW1 := hid_ hw1
  have HR1 := hid_ (fun W (hW : Below w1.heap.size w1 W) => (Hr.out.below Hb1.out (Nat.le_refl _)).below hW (Nat.le_refl _))
  have HV := hid_ (validate_calls _ R w1 (Hr.out.below Hb1.out (Nat.le_refl _)))
  have hn1 : n1 ≤ 100 := by have := h1.len; omega
  have hn2 : n2 ≤ 100 := by have := h2.len; omega
  have hn3 : n3 ≤ 100 := by have := h3.len; omega
  by_cases he : validR R = 0
  · have HE : Hid (meaV R = (n1 : Int) + n2 + n3 + tkN R) := hid_ (by rw [meaV, if_pos he, h1.len, h2.len, h3.len])
    obtain ⟨g1, -⟩ := validR_ok he
    rw [he] at HV ⊢
    have x1 : IntKind.i64.wrap ((n1 : Int) + n2) = (n1 : Int) + n2 := IntWalk.i64_in _ (by omega)
    have x2 : IntKind.i64.wrap ((n1 : Int) + n2 + n3) = (n1 : Int) + n2 + n3 := IntWalk.i64_in _ (by omega)
    clear h1 h2 h3 he
    by_cases hf : R.f < 0
    · have HT : Hid (meaV R = (n1 : Int) + n2 + n3) := hid_ (by rw [HE.out, tkN, if_pos (by omega)]; simp)
      have hf' : ¬ (0 : Int) ≤ R.f := by omega
      go_enter Try.func69, Try.ntmps69
      go_wp2_with (go_at_call 34; refine HV.out.mono ?_; rintro e w4 ⟨rfl, hb2⟩; obtain ⟨q0, q1, q2, q3⟩ := box4 HW1.out hb2)
      go_ret2
      exact ⟨by rw [HT.out]; rfl, Hb1.out.trans (hb2.mono Hb1.out.size)⟩
    · have HT : Hid (meaV R = (n1 : Int) + n2 + n3 + 1) := hid_ (by rw [HE.out, tkN, if_neg (by omega)]; rfl)
      have x3 : IntKind.i64.wrap ((n1 : Int) + n2 + n3 + 1) = (n1 : Int) + n2 + n3 + 1 := IntWalk.i64_in _ (by omega)
      have hf' : (0 : Int) ≤ R.f := by omega
      go_enter Try.func69, Try.ntmps69
      go_wp2_with (go_at_call 34; refine HV.out.mono ?_; rintro e w4 ⟨rfl, hb2⟩; obtain ⟨q0, q1, q2, q3⟩ := box4 HW1.out hb2)
      go_ret2
      exact ⟨by rw [HT.out]; rfl, Hb1.out.trans (hb2.mono Hb1.out.size)⟩
  · have HE : Hid (meaV R = 0) := hid_ (if_neg he)
    have hq : (validR R != 0) = true := by simpa using he
    clear h1 h2 h3
    generalize validR R = x1 at *
    clear he
    go_enter Try.func69, Try.ntmps69
    go_wp2_with (go_at_call 34; refine HV.out.mono ?_; rintro e w4 ⟨rfl, hb2⟩; obtain ⟨q0, q1, q2, q3⟩ := box4 HW1.out hb2)
    go_ret2
    exact ⟨by rw [HE.out]; rfl, Hb1.out.trans (hb2.mono Hb1.out.size)⟩
end Go.Proofs.Ytnpdhmejnoplcaa
