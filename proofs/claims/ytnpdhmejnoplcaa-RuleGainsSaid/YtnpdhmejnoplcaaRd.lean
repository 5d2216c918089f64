import Derived.Test.YtnpdhmejnoplcaaRc
import Derived.Test.YtnpdhmejnoplcaaQt
namespace Go.Proofs.Ytnpdhmejnoplcaa
open Go.RowKit Go.Proofs.Kv

/-! ### isPlace -/
def isPl (R : Rl) (l : List Int) (i : Int) : Bool :=
  if R.f < 0 then Within i 0 (l.length : Int) && mayL R.le (atL l (i - 1)) && mayL R.ri (atL l i)
  else Within i 0 ((l.length : Int) - 1) && (l.getD i.toNat 0 == R.f) && mayL R.le (atL l (i - 1)) && mayL R.ri (atL l (i + 1))
set_option maxRecDepth 100000 in
set_option maxHeartbeats 1000000 in
theorem isPlace_calls (v : Value) (R : Rl) (a : Option Addr) (n c : Nat) (l : List Int) (i : Int) (w : World) (hr : RuleAt w v R) (h : IntsAt w a n c l) (hn : n ≤ 100) :
    Calls Try.prog 121 #[v, .slice a n c, .int .i64 i] w fun e w' => e = .returned (.bool (isPl R l i)) ∧ Below w.heap.size w w' := by
  obtain ⟨a1, n1, c1, a2, n2, c2, a3, n3, c3, rfl, h1, h2, h3⟩ := hr
  obtain ⟨f, o, le, ri⟩ := R
  dsimp only at h1 h2 h3 ⊢
  have Hn := hid_ h.len
  have Hb := hid_ (below_alloc w (.cells #[.int .i64 f, .slice a1 n1 c1, .slice a2 n2 c2, .slice a3 n3 c3] 24))
  have hS := fun i => fun q => at_calls a n c l i _ ((h.below Hb.out (Nat.le_refl _)).drewN q)
  have hM := fun x => fun q => may_calls a2 n2 c2 le x _ ((h2.below Hb.out (Nat.le_refl _)).drewN q)
  have hN := fun x => fun q => may_calls a3 n3 c3 ri x _ ((h3.below Hb.out (Nat.le_refl _)).drewN q)
  cases hneg : decide (f < 0) with
  | true =>
    have hw : Hid (isPl ⟨f, o, le, ri⟩ l i = (Within i 0 (n : Int) && mayL le (atL l (i - 1)) && mayL ri (atL l i))) := hid_ (by rw [isPl, if_pos (by simpa using hneg), Hn.out])
    have hww := fun w => within2_calls i 0 n w
    cases hi : Within i 0 (n : Int) with
    | false =>
      rw [hi] at hw hww
      have Hw := hid_ hww; clear hww hS hM hN
      go_enter Try.func121, Try.ntmps121
      go_wp2
      go_quiet ((go_at_call 117; exact quiet_left (Hw.out _)))
      go_wp2
      go_ret
      exact ⟨retB hw.out, below_drewN Hb.out _⟩
    | true =>
      rw [hi] at hw hww
      have hw1 : IntKind.i64.wrap (i - 1) = i - 1 := IntWalk.i64_in _ (by simp [Within] at hi; omega)
      have S1 := hid_ (hS (i - 1))
      have S2 := hid_ (hS i)
      generalize atL l (i - 1) = x1 at *
      generalize atL l i = x2 at *
      have G1 := hid_ (hM x1)
      have G2 := hid_ (hN x2)
      generalize mayL le x1 = b1 at *
      generalize mayL ri x2 = b2 at *
      have Hw := hid_ hww; clear hww hS hM hN hi
      cases b1
      all_goals
        go_enter Try.func121, Try.ntmps121
        go_wp2
        go_quiet ((first
          | (go_at_call 117; exact quiet_left (Hw.out _))
          | (go_at_call 178; with_reducible exact quiet_left (S1.out _))
          | (go_at_call 178; with_reducible exact quiet_left (S2.out _))
          | (go_at_call 131; with_reducible exact quiet_left (G1.out _))
          | (go_at_call 131; with_reducible exact quiet_left (G2.out _))))
        go_wp2
        go_ret
        exact ⟨retB hw.out, below_drewN Hb.out _⟩
  | false =>
    have hw : Hid (isPl ⟨f, o, le, ri⟩ l i = (Within i 0 ((n : Int) - 1) && (l.getD i.toNat 0 == f) && mayL le (atL l (i - 1)) && mayL ri (atL l (i + 1)))) := hid_ (by rw [isPl, if_neg (by simpa using hneg), Hn.out])
    have hww := fun w => within2_calls i 0 ((n : Int) - 1) w
    have hw0 : IntKind.i64.wrap ((n : Int) - 1) = (n : Int) - 1 := IntWalk.i64_in _ (by omega)
    cases hi : Within i 0 ((n : Int) - 1) with
    | false =>
      rw [hi] at hw hww
      have Hw := hid_ hww; clear hww hS hM hN
      go_enter Try.func121, Try.ntmps121
      go_wp2
      go_quiet ((go_at_call 117; exact quiet_left (Hw.out _)))
      go_wp2
      go_ret
      exact ⟨retB hw.out, below_drewN Hb.out _⟩
    | true =>
      rw [hi] at hw hww
      have hi2 : 0 ≤ i ∧ i < n := by simp [Within] at hi; omega
      obtain ⟨hi0, hi1⟩ := hi2
      have hw1 : IntKind.i64.wrap (i - 1) = i - 1 := IntWalk.i64_in _ (by omega)
      have hw2 : IntKind.i64.wrap (i + 1) = i + 1 := IntWalk.i64_in _ (by omega)
      obtain ⟨b, off, rfl, hb, hcell⟩ := (h.below Hb.out (Nat.le_refl _)).cells i.toNat (by omega)
      generalize l.getD i.toNat 0 = y at *
      have S1 := hid_ (hS (i - 1))
      have S2 := hid_ (hS (i + 1))
      generalize atL l (i - 1) = x1 at *
      generalize atL l (i + 1) = x2 at *
      have G1 := hid_ (hM x1)
      have G2 := hid_ (hN x2)
      generalize mayL le x1 = b1 at *
      generalize mayL ri x2 = b2 at *
      have Hw := hid_ hww; clear hww hS hM hN hi
      cases hy : (y == f)
      all_goals
        rw [hy] at hw
        cases b1
        all_goals
          go_enter Try.func121, Try.ntmps121
          go_wp2
          go_quiet ((first
            | (go_at_call 117; exact quiet_left (Hw.out _))
            | (go_at_call 178; with_reducible exact quiet_left (S1.out _))
            | (go_at_call 178; with_reducible exact quiet_left (S2.out _))
            | (go_at_call 131; with_reducible exact quiet_left (G1.out _))
            | (go_at_call 131; with_reducible exact quiet_left (G2.out _))))
          go_wp2
          go_ret
          exact ⟨retB hw.out, below_drewN Hb.out _⟩
end Go.Proofs.Ytnpdhmejnoplcaa
