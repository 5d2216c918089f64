import Derived.Test.YtnpdhmejnoplcaaRd
import Derived.Test.YtnpdhmejnoplcaaKs
import Derived.Test.YtnpdhmejnoplcaaKc
namespace Go.Proofs.Ytnpdhmejnoplcaa
open Go.RowKit Go.Proofs.Kv

set_option maxRecDepth 100000 in
set_option maxHeartbeats 1000000 in
theorem placesOf_calls (v : Value) (R : Rl) (a : Option Addr) (n c : Nat) (l : List Int) (w : World) (hr : RuleAt w v R) (h : IntsAt w a n c l) (hn : n ≤ 100) :
    Calls Try.prog 112 #[v, .slice a n c] w fun e w' => ∃ v', e = .returned v' ∧ Made 3 w w' v' (pl (isPl R l) (n + 1)) := by
  obtain ⟨i0, hi0, hz0, hz1, hz2⟩ := info_parts Try.infoInt
  have Hr := hid_ hr
  obtain ⟨a1, n1, c1, a2, n2, c2, a3, n3, c3, rfl, h1, h2, h3⟩ := hr
  clear h1 h2 h3
  go_enter Try.func112, Try.ntmps112
  go_wp2
  obtain ⟨w1, hw1⟩ : ∃ w1, w.alloc (.cells #[.int .i64 R.f, .slice a1 n1 c1, .slice a2 n2 c2, .slice a3 n3 c3] 24) = w1 := ⟨_, rfl⟩
  have Hb1 : Hid (Below w.heap.size w w1) := hid_ (by rw [← hw1]; exact below_alloc _ _)
  rw [hw1]
  have Hw1 := hid_ hw1; clear hw1
  go_loopw [5, 6] (fun v i wr => ∃ k : Nat, k ≤ n + 1 ∧ i = .int .i64 k ∧ wr.ownsRow w1.heap.size 3 1 v (pl (isPl R l) k).length ((pl (isPl R l) k).map (Value.int .i64)) ∧ Below w1.heap.size w1 wr) (fun _ i _ => n + 1 - (intOf i).toNat)
  case atStart => exact ⟨0, by omega, rfl, World.ownsRow_nil _ _ _ _, Below.refl _ _⟩
  case round =>
    obtain ⟨k, hk, rfl, hown, hbel⟩ := hrel
    have hsz := hbel.size
    by_cases hlt : k < n + 1
    · have Hbw := hid_ (Hb1.out.trans (hbel.mono Hb1.out.size))
      have Hc := hid_ (isPlace_calls _ R a n c l k wr (Hr.out.below Hbw.out (Nat.le_refl _)) (h.below Hbw.out (Nat.le_refl _)) hn)
      obtain ⟨k0, k1, k2, k3⟩ := box4 Hw1.out hbel
      have hle := pl_le (isPl R l) k
      have hs1 : (pl (isPl R l) k).length + 1 ≤ 1000000 := by omega
      have hkn : (k : Int) ≤ (n : Int) := by omega
      cases hh : isPl R l k with
      | true =>
        rw [hh] at Hc
        have Hn := hid_ (pl_hit hh)
        clear hh
        go_wp2_with (first
          | (go_at_call 121; refine (Hc.out).mono ?_; rintro e w' ⟨rfl, hbc⟩)
          | (at_builtin; refine wpList_append_ints _ rfl (.tmp 17) (.tmp 19) _ rfl w1.heap.size 3 i0 Try.underlying22 hi0 hz0 hz1 hz2 _ _ _ rfl ((own_grown hown hbc).alloc _) _ _ _ _ rfl (IntsAt.one _ _ _) hs1 (le_alloc (Nat.le_trans hsz hbc.size)) ?_; intro v' w2 hown1 hg1 hat1))
        go_roundw
        case rel => exact ⟨k + 1, by omega, by go_num, by rw [Hn.out]; simpa using hown1, below_app (hbel.trans (hbc.mono hsz)) (Nat.le_trans hsz hbc.size) (own_grown hown hbc) hg1⟩
        case measure => simp [intOf]; omega
      | false =>
        rw [hh] at Hc
        have Hn := hid_ (pl_miss hh)
        clear hh
        go_wp2_with (go_at_call 121; refine (Hc.out).mono ?_; rintro e w' ⟨rfl, hbc⟩)
        go_roundw
        case rel => exact ⟨k + 1, by omega, by go_num, by rw [Hn.out]; exact own_grown hown hbc, hbel.trans (hbc.mono hsz)⟩
        case measure => simp [intOf]; omega
    · obtain rfl : k = n + 1 := by omega
      have hgt : ¬ ((n + 1 : Nat) : Int) ≤ (n : Int) := by omega
      go_wp2
      go_ret
      exact ⟨_, rfl, own_base hown Hb1.out.size, Hb1.out.trans (hbel.mono Hb1.out.size)⟩
end Go.Proofs.Ytnpdhmejnoplcaa
