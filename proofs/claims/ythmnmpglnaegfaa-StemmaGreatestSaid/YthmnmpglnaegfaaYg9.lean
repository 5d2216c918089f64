import Derived.Test.YthmnmpglnaegfaaYg8
import Derived.Test.YthmnmpglnaegfaaYy
import Derived.Test.YthmnmpglnaegfaaYl
namespace Go.Proofs.Ythmnmpglnaegfaa
open Go.RowKit Go.Proofs.Kv

/-! ### the law StemmaGreatest -/
set_option maxRecDepth 100000 in
set_option maxHeartbeats 4000000 in
theorem stemmaGreatest_calls (a : Option Addr) (n c : Nat) (T : List (List Int)) (w : World) (h : ListsAt w a n c T) :
    Calls Try.prog 3 #[.slice a n c] w fun e w' => e = .returned (.bool true) ∧ Below w.heap.size w w' := by
  have HG := hid_ (long_calls a n c T w h)
  have HK := hid_ sane_calls
  have HA := hid_ (fun W (hW : Below w.heap.size w W) => stGreatest_calls a n c T W (h.below hW (Nat.le_refl _)))
  have HB := hid_ (fun W (hW : Below w.heap.size w W) => r7Greatest_calls a n c T W (h.below hW (Nat.le_refl _)))
  cases hg : longT T with
  | true =>
    rw [hg] at HG
    go_enter Try.func3, Try.ntmps3
    go_wp2_with (first
      | (go_at_call 6; refine (HG.out).mono ?_; rintro e w' ⟨rfl, rfl⟩)
      | (go_at_call 7; (with_reducible refine (HK.out _).mono ?_); rintro e w3 ⟨rfl, hb3⟩))
    go_ret
    exact ⟨rfl, hb3⟩
  | false =>
    rw [hg] at HG
    clear hg h
    generalize resGreat T = L at *
    generalize validT T = z at *
    obtain ⟨m, hm⟩ : ∃ m, L.length = m := ⟨_, rfl⟩
    rw [hm] at HA HB
    clear hm
    have hb : Below w.heap.size w w := Below.refl _ _
    go_enter Try.func3, Try.ntmps3
    go_wp2_with (first
      | (go_at_call 6; refine (HG.out).mono ?_; rintro e w' ⟨rfl, rfl⟩)
      | (go_at_call 8; (with_reducible refine (HA.out _ hb).mono ?_); rintro e w4 ⟨a4, c4, rfl, hi4, hc4⟩; have hb4 := hb.trans (hc4.mono hb.size); have Hi4 := hid_ hi4; clear hi4)
      | (go_at_call 9; (with_reducible refine (HB.out _ hb4).mono ?_); rintro e w5 ⟨a5, c5, rfl, hi5, hc5⟩; have hb5 := hb4.trans (hc5.mono hb4.size); have Hi5 := hid_ (Hi4.out.below hc5 (Nat.le_refl _)); have HSg := hid_ (same7_calls a4 m c4 L a5 m c5 w5 Hi5.out hi5); clear hi5)
      | (go_at_call 10; (with_reducible refine HSg.out.mono ?_); rintro e w8 ⟨rfl, q8, rfl⟩)
      | (go_at_call 7; (with_reducible refine (HK.out _).mono ?_); rintro e w9 ⟨rfl, hb9⟩))
    go_ret
    exact ⟨rfl, hb5.trans (((below_drewN (Below.refl _ _) _).trans hb9).mono hb5.size)⟩
end Go.Proofs.Ythmnmpglnaegfaa
