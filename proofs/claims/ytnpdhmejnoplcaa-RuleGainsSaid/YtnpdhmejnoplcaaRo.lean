import Derived.Test.YtnpdhmejnoplcaaPm
import Derived.Test.YtnpdhmejnoplcaaRh
namespace Go.Proofs.Ytnpdhmejnoplcaa
open Go.RowKit Go.Proofs.Kv

/-! ### inside, two, IsSpecial -/
set_option maxRecDepth 100000 in
set_option maxHeartbeats 2000000 in
theorem inside_calls (a : Option Addr) (n c : Nat) (s : List Int) (a' : Option Addr) (n' c' : Nat) (t : List Int) (w : World) (h : IntsAt w a n c s) (h' : IntsAt w a' n' c' t) :
    Calls Try.prog 134 #[.slice a n c, .slice a' n' c'] w fun e w' => e = .returned (.bool (insideB s t)) ∧ w = w' := by
  go_enter Try.func134, Try.ntmps134
  go_wp2
  go_loop [5] (fun i => ∃ k : Nat, k ≤ 7 ∧ i = .int .i64 ((k : Int) - 1) ∧ insN s t k = true) (fun i => 7 - (intOf i + 1).toNat)
  case atStart => exact ⟨0, by omega, rfl, rfl⟩
  case round =>
    obtain ⟨k, hk, rfl, hall⟩ := hrel
    have Hall := hid_ hall; clear hall
    by_cases hlt : k < 7
    · have hA := hid_ (may_calls a n c s ((k : Int) - 1) w h)
      have hB := hid_ (may_calls a' n' c' t ((k : Int) - 1) w h')
      have h6 : (k : Int) - 1 < 6 := by omega
      have hN := hid_ (@insN_no s t k hlt)
      have hS := hid_ (insN_succ s t k)
      generalize mayL s ((k : Int) - 1) = x1 at *
      generalize mayL t ((k : Int) - 1) = x2 at *
      cases x1 with
      | false =>
        go_wp2_with (go_at_call 131; with_reducible refine hA.out.mono ?_; rintro e w2 ⟨rfl, rfl⟩)
        go_round
        case rel => exact ⟨k + 1, by omega, by go_num, by rw [hS.out, Hall.out]; rfl⟩
        case measure => simp [intOf]; omega
      | true =>
        cases x2 with
        | false =>
          have Hf := hid_ (hN.out rfl rfl)
          go_wp2_with (first
            | (go_at_call 131; with_reducible refine hA.out.mono ?_; rintro e w2 ⟨rfl, rfl⟩)
            | (go_at_call 131; with_reducible refine hB.out.mono ?_; rintro e w3 ⟨rfl, rfl⟩))
          go_ret
          exact ⟨retB Hf.out, rfl⟩
        | true =>
          go_wp2_with (first
            | (go_at_call 131; with_reducible refine hA.out.mono ?_; rintro e w2 ⟨rfl, rfl⟩)
            | (go_at_call 131; with_reducible refine hB.out.mono ?_; rintro e w3 ⟨rfl, rfl⟩))
          go_round
          case rel => exact ⟨k + 1, by omega, by go_num, by rw [hS.out, Hall.out]; rfl⟩
          case measure => simp [intOf]; omega
    · obtain rfl : k = 7 := by omega
      have Hf : Hid (insideB s t = true) := hid_ Hall.out
      go_wp2
      go_ret
      exact ⟨retB Hf.out, rfl⟩
def errTwo (R S : Rl) : Int := if validR R = 0 then validR S else validR R
set_option maxRecDepth 100000 in
set_option maxHeartbeats 1000000 in
theorem two_calls (v u : Value) (R S : Rl) (w : World) (hr : RuleAt w v R) (hs : RuleAt w u S) :
    Calls Try.prog 133 #[v, u] w fun e w' => e = .returned (.int .i64 (errTwo R S)) ∧ Below w.heap.size w w' := by
  have Hr := hid_ hr
  have Hs := hid_ hs
  obtain ⟨a1, n1, c1, a2, n2, c2, a3, n3, c3, rfl, h1, h2, h3⟩ := hr
  obtain ⟨b1, m1, d1, b2, m2, d2, b3, m3, d3, rfl, h4, h5, h6⟩ := hs
  clear h1 h2 h3 h4 h5 h6
  obtain ⟨w0, hw0⟩ : ∃ w0, w.alloc (.cells #[.int .i64 R.f, .slice a1 n1 c1, .slice a2 n2 c2, .slice a3 n3 c3] 24) = w0 := ⟨_, rfl⟩
  have hz0 : w0.heap.size = w.heap.size + 1 := by rw [← hw0]; simp
  have Hb0 : Hid (Below w.heap.size w w0) := hid_ (by rw [← hw0]; exact below_alloc _ _)
  obtain ⟨w1, hw1⟩ : ∃ w1, w0.alloc (.cells #[.int .i64 S.f, .slice b1 m1 d1, .slice b2 m2 d2, .slice b3 m3 d3] 24) = w1 := ⟨_, rfl⟩
  have Hb01 : Hid (Below w0.heap.size w0 w1) := hid_ (by rw [← hw1]; exact below_alloc _ _)
  have Hb1 : Hid (Below w.heap.size w w1) := hid_ (Hb0.out.trans (Hb01.out.mono Hb0.out.size))
  have HW0 := hid_ hw0
  have HW1 := hid_ hw1
  have HZ0 := hid_ hz0
  have HQ : Hid (∀ W, Below w1.heap.size w1 W → (W.cell? ⟨w.heap.size, 0, none⟩ = some (.int .i64 R.f) ∧ W.cell? ⟨w.heap.size, 1, none⟩ = some (.slice a1 n1 c1) ∧ W.cell? ⟨w.heap.size, 2, none⟩ = some (.slice a2 n2 c2) ∧ W.cell? ⟨w.heap.size, 3, none⟩ = some (.slice a3 n3 c3)) ∧ W.cell? ⟨w.heap.size + 1, 0, none⟩ = some (.int .i64 S.f) ∧ W.cell? ⟨w.heap.size + 1, 1, none⟩ = some (.slice b1 m1 d1) ∧ W.cell? ⟨w.heap.size + 1, 2, none⟩ = some (.slice b2 m2 d2) ∧ W.cell? ⟨w.heap.size + 1, 3, none⟩ = some (.slice b3 m3 d3)) := hid_ (fun W hW => ⟨box4 HW0.out (Hb01.out.trans (hW.mono Hb01.out.size)), by have := box4 HW1.out hW; rwa [HZ0.out] at this⟩)
  have HR := hid_ (fun W (hW : Below w1.heap.size w1 W) => validate_calls _ R W ((Hr.out.below Hb1.out (Nat.le_refl _)).below hW (Nat.le_refl _)))
  have HS := hid_ (fun W (hW : Below w1.heap.size w1 W) => validate_calls _ S W ((Hs.out.below Hb1.out (Nat.le_refl _)).below hW (Nat.le_refl _)))
  obtain ⟨⟨q0, q1, q2, q3⟩, s0, s1, s2, s3⟩ := HQ.out w1 (Below.refl _ _)
  have hR1 := hid_ (HR.out w1 (Below.refl _ _))
  by_cases he : validR R = 0
  · have HE : Hid (errTwo R S = validR S) := hid_ (if_pos he)
    rw [he] at hR1
    clear he
    go_enter Try.func133, Try.ntmps133
    go_wp2_with (first
      | (go_at_call 34; with_reducible refine hR1.out.mono ?_; rintro e w4 ⟨rfl, hb4⟩; obtain ⟨-, t0, t1, t2, t3⟩ := HQ.out w4 hb4)
      | (go_at_call 34; with_reducible refine (HS.out _ hb4).mono ?_; rintro e w5 ⟨rfl, hb5⟩))
    go_ret
    exact ⟨retI HE.out, Hb1.out.trans ((hb4.trans (hb5.mono hb4.size)).mono Hb1.out.size)⟩
  · have HE : Hid (errTwo R S = validR R) := hid_ (if_neg he)
    have hq : (validR R != 0) = true := by simpa using he
    generalize validR R = x1 at *
    clear he
    go_enter Try.func133, Try.ntmps133
    go_wp2_with (go_at_call 34; with_reducible refine hR1.out.mono ?_; rintro e w4 ⟨rfl, hb4⟩)
    go_ret
    exact ⟨retI HE.out, Hb1.out.trans (hb4.mono Hb1.out.size)⟩
end Go.Proofs.Ytnpdhmejnoplcaa
