import Derived.Test.YtdhmcmkpeaoigaaYy
namespace Go.Proofs.Ytdhmcmkpeaoigaa
open Go.RowKit Go.Proofs.Kv

/-! ### the law StemmaConflicts -/
set_option maxRecDepth 100000 in
set_option maxHeartbeats 4000000 in
theorem stemmaConflicts_calls (a : Option Addr) (n c : Nat) (T : List (List Int)) (p q : Int) (w : World) (h : ListsAt w a n c T) :
    Calls Try.prog 4 #[.slice a n c, .int .i64 p, .int .i64 q] w fun e w' => e = .returned (.bool true) ∧ Below w.heap.size w w' := by
  have HG := hid_ (long_calls a n c T w h)
  have HK := hid_ sane_calls
  have HA := hid_ (fun W (hW : Below w.heap.size w W) => stConflict_calls a n c T p q W (h.below hW (Nat.le_refl _)))
  have HB := hid_ (fun W (hW : Below w.heap.size w W) => r7Conflict_calls a n c T p q W (h.below hW (Nat.le_refl _)))
  have HC := hid_ (fun W (hW : Below w.heap.size w W) => stConflicts_calls a n c T W (h.below hW (Nat.le_refl _)))
  have HD := hid_ (fun W (hW : Below w.heap.size w W) => r7Conflicts_calls a n c T W (h.below hW (Nat.le_refl _)))
  have HE := hid_ (fun W (hW : Below w.heap.size w W) => stCanTree_calls a n c T W (h.below hW (Nat.le_refl _)))
  have HF := hid_ (fun W (hW : Below w.heap.size w W) => r7CanTree_calls a n c T W (h.below hW (Nat.le_refl _)))
  cases hg : longT T with
  | true =>
    rw [hg] at HG
    go_enter Try.func4, Try.ntmps4
    go_wp2_with (first
      | (go_at_call 18; refine (HG.out).mono ?_; rintro e w' ⟨rfl, rfl⟩)
      | (go_at_call 19; (with_reducible refine (HK.out _).mono ?_); rintro e w3 ⟨rfl, hb3⟩))
    go_ret
    exact ⟨rfl, hb3⟩
  | false =>
    rw [hg] at HG
    clear hg h
    generalize resConf T p q = x at *
    generalize placesE T [p, q] = y at *
    generalize resConfs T = L at *
    generalize resCan T = o at *
    generalize validT T = z at *
    obtain ⟨m, hm⟩ : ∃ m, L.length = m := ⟨_, rfl⟩
    have HLm := hid_ hm
    clear hm
    have hb : Below w.heap.size w w := Below.refl _ _
    go_enter Try.func4, Try.ntmps4
    go_wp2_with (first
      | (go_at_call 18; refine (HG.out).mono ?_; rintro e w' ⟨rfl, rfl⟩)
      | (go_at_call 27; (with_reducible refine (HA.out _ hb).mono ?_); rintro e w2 ⟨rfl, hb2⟩)
      | (go_at_call 28; (with_reducible refine (HB.out _ hb2).mono ?_); rintro e w3 ⟨rfl, hc3⟩; have hb3 := hb2.trans (hc3.mono hb2.size))
      | (go_at_call 29; (with_reducible refine (HC.out _ hb3).mono ?_); rintro e w4 ⟨v4, rfl, hm4⟩; have hb4 := hb3.trans (hm4.bel.mono hb3.size); obtain ⟨a4, c4, rfl, hi4⟩ := hm4.at_; have Hi4 := hid_ hi4; rw [HLm.out] at Hi4 ⊢; clear hi4 hm4)
      | (go_at_call 30; (with_reducible refine (HD.out _ hb4).mono ?_); rintro e w5 ⟨v5, rfl, hm5⟩; have hb5 := hb4.trans (hm5.bel.mono hb4.size); obtain ⟨a5, c5, rfl, hi5⟩ := hm5.at_; have Hj5 := hid_ hi5; rw [HLm.out] at Hj5 ⊢; have Hi5 := hid_ (Hi4.out.below hm5.bel (Nat.le_refl _)); clear hi5 hm5)
      | (go_at_call 31; (with_reducible refine (HE.out _ hb5).mono ?_); rintro e w6 ⟨rfl, hc6⟩; have hb6 := hb5.trans (hc6.mono hb5.size); have Hi6 := hid_ (Hi5.out.below hc6 (Nat.le_refl _)); have Hj6 := hid_ (Hj5.out.below hc6 (Nat.le_refl _)))
      | (go_at_call 32; (with_reducible refine (HF.out _ hb6).mono ?_); rintro e w7 ⟨rfl, hc7⟩; have hb7 := hb6.trans (hc7.mono hb6.size); have Hi7 := hid_ (Hi6.out.below hc7 (Nat.le_refl _)); have Hj7 := hid_ (Hj6.out.below hc7 (Nat.le_refl _)); have HSg := hid_ (sameP7_calls a4 m c4 L a5 m c5 w7 Hi7.out Hj7.out))
      | (go_at_call 33; (with_reducible refine HSg.out.mono ?_); rintro e w8 ⟨rfl, q8, rfl⟩)
      | (go_at_call 19; (with_reducible refine (HK.out _).mono ?_); rintro e w9 ⟨rfl, hb9⟩))
    go_ret
    exact ⟨rfl, hb7.trans (((below_drewN (Below.refl _ _) _).trans hb9).mono hb7.size)⟩
end Go.Proofs.Ytdhmcmkpeaoigaa
