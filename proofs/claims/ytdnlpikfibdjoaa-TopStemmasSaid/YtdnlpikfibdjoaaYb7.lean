import Derived.Test.YtdnlpikfibdjoaaYmh
import Derived.Test.YtdnlpikfibdjoaaYR
namespace Go.Proofs.Ytdnlpikfibdjoaa
open Go.RowKit Go.Proofs.Kv Go

/-! ### home of the program -/
set_option maxRecDepth 100000 in
set_option maxHeartbeats 4000000 in
theorem home_calls (a : Option Addr) (n c : Nat) (S : List (List Int)) (x : Int) (w : World) (h : ListsAt w a n c S) :
    Calls Try.prog 114 #[.slice a n c, .int .i64 x] w fun e w' => e = .returned (.int .i64 (homK S x n : Nat)) ∧ ∃ q, w' = w.drewN q := by
  have hn : n ≤ 9223372036854775807 := Nat.le_trans h.le h.small
  have HC := hid_ (fun q k (hk : k < n) => show ∃ b off a1 n1 c1, a = some ⟨b, off, none⟩ ∧ (w.drewN q).cell? ⟨b, off + k, none⟩ = some (.slice a1 n1 c1) ∧ IntsAt (w.drewN q) a1 n1 c1 (S.getD k []) from by
    obtain ⟨b, off, a1, n1, c1, ha, hb, hc, hr⟩ := h.cells k hk
    exact ⟨b, off, a1, n1, c1, ha, hc, hr.drewN q⟩)
  have hwn : IntKind.i64.wrap ((n : Int) - 1) = (n : Int) - 1 := IntWalk.i64_in _ (by omega)
  clear h
  go_enter Try.func114, Try.ntmps114
  go_wp2
  go_loopw [5] (fun iv wr => ∃ k q : Nat, iv = .int .i64 ((k : Int) - 1) ∧ k ≤ n ∧ homK S x n = homK S x k ∧ wr = w.drewN q) (fun iv _ => (intOf iv + 1).toNat)
  case atStart => exact ⟨n, 0, rfl, Nat.le_refl _, rfl, rfl⟩
  case round =>
    obtain ⟨k, q, rfl, hk, hh, rfl⟩ := hrel
    have Hh := hid_ hh
    clear hh
    cases k with
    | zero =>
      obtain ⟨i, hi⟩ : ∃ i : Int, i = ((0 : Nat) : Int) - 1 := ⟨_, rfl⟩
      rw [← hi]
      have hge : decide (i ≥ 0) = false := by rw [hi]; decide
      clear hi
      go_wp2
      go_ret
      exact ⟨by rw [Hh.out]; rfl, q, rfl⟩
    | succ k =>
      rw [show (((k + 1 : Nat) : Int) - 1) = (k : Int) by omega]
      have hwk : IntKind.i64.wrap ((k : Int) - 1) = (k : Int) - 1 := IntWalk.i64_in _ (by omega)
      have hwk1 : IntKind.i64.wrap ((k : Int) + 1) = ((k + 1 : Nat) : Int) := by rw [IntWalk.i64_in _ (by omega)]; omega
      have hge : decide ((k : Int) ≥ 0) = true := by simp
      obtain ⟨b, off, a1, n1, c1, rfl, hcell, hr⟩ := HC.out q k (by omega)
      have HK := hid_ (contains7_calls a1 n1 c1 _ x (w.drewN q) hr)
      clear hr
      by_cases hm : x ∈ S.getD k []
      · rw [decide_eq_true hm] at HK
        have He : Hid (homK S x (k + 1) = k + 1) := hid_ (by rw [homK, if_pos hm])
        clear hm
        go_wp2_with (go_at_call 134; (with_reducible refine HK.out.mono ?_); rintro e w2 ⟨rfl, q2, rfl⟩)
        go_ret
        exact ⟨by rw [Hh.out, He.out]; rfl, q + q2, by simp⟩
      · rw [decide_eq_false hm] at HK
        have He : Hid (homK S x (k + 1) = homK S x k) := hid_ (by rw [homK, if_neg hm])
        clear hm
        go_wp2_with (go_at_call 134; (with_reducible refine HK.out.mono ?_); rintro e w2 ⟨rfl, q2, rfl⟩)
        go_roundw
        case rel => exact ⟨k, q + q2, by go_num, by omega, by rw [Hh.out, He.out], by simp⟩
        case measure => (simp [intOf]; try omega)
end Go.Proofs.Ytdnlpikfibdjoaa
