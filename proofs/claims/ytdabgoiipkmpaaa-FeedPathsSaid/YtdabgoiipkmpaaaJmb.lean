import Derived.Test.YtdabgoiipkmpaaaJl
import Derived.Test.YtdabgoiipkmpaaaJo
import Derived.Test.YtdabgoiipkmpaaaJo2
namespace Go.Proofs.Ytdabgoiipkmpaaa
open Go.RowKit Go.Proofs.Kv

set_option maxRecDepth 100000 in
set_option maxHeartbeats 4000000 in
theorem feedPaths_calls (A : Option Addr) (N C : Nat) (L : List Rl) (a : Option Addr) (n c : Nat) (l : List Int) (a' : Option Addr) (n' c' : Nat) (P : List (Int × Int)) (w : World) (h : RulesAt w A N C L) (hI : IntsAt w a n c l) (hP : PairsAt w a' n' c' P) :
    Calls Try.prog 6 #[.slice A N C, .slice a n c, .slice a' n' c'] w fun e w' => e = .returned (.bool true) ∧ Below w.heap.size w w' := by
  have HK := hid_ known3_calls
  have HG := hid_ (long3_calls A N C L w h)
  have HB := hid_ (fun W (hW : Below w.heap.size w W) => large3_calls a n c l W (hI.below hW (Nat.le_refl _)))
  have HS := hid_ (fun a n c l a' n' c' W (h1 : IntsAt W a n c l) (h2 : IntsAt W a' n' c' l) => show Calls Try.prog 31 #[.slice a n c, .slice a' n' c'] W fun e w' => e = .returned (.bool true) ∧ Below W.heap.size W w' from
    (same_calls a n c l a' n' c' l W h1 h2).mono fun e w' ⟨he, hq⟩ => ⟨by rw [he]; simp [Same], below_drew hq⟩)
  have HP := hid_ (fun W (hW : Below w.heap.size w W) => fePath_calls A N C L a n c l a' n' c' P W (h.below hW (Nat.le_refl _)) (hI.below hW (Nat.le_refl _)) (hP.below hW (Nat.le_refl _)))
  have HF := hid_ (fun W (hW : Below w.heap.size w W) => r3Path_calls A N C L a n c l a' n' c' P W (h.below hW (Nat.le_refl _)) (hI.below hW (Nat.le_refl _)) (hP.below hW (Nat.le_refl _)))
  have hn' : n' ≤ 9223372036854775807 := Nat.le_trans hP.le hP.small
  clear h hI hP
  cases hg : bigS L with
  | true =>
    rw [hg] at HG
    go_enter Try.func6, Try.ntmps6
    go_wp2_with (first
      | (go_at_call 13; (with_reducible refine HG.out.mono ?_); rintro e w2 ⟨rfl, hb2⟩)
      | (go_at_call 15; (with_reducible refine (HK.out _).mono ?_); rintro e w3 ⟨rfl, hb3⟩))
    go_ret
    exact ⟨rfl, hb2.trans (hb3.mono hb2.size)⟩
  | false =>
    rw [hg] at HG
    cases hl : bigOne3 l with
    | true =>
      rw [hl] at HB
      go_enter Try.func6, Try.ntmps6
      go_wp2_with (first
        | (go_at_call 13; (with_reducible refine HG.out.mono ?_); rintro e w2 ⟨rfl, hb2⟩)
        | (go_at_call 14; (with_reducible refine (HB.out w2 hb2).mono ?_); rintro e w3 ⟨rfl, rfl⟩)
        | (go_at_call 15; (with_reducible refine (HK.out _).mono ?_); rintro e w3 ⟨rfl, hb3⟩))
      go_ret
      exact ⟨rfl, hb2.trans (hb3.mono hb2.size)⟩
    | false =>
      rw [hl] at HB
      by_cases h2 : 200 < n'
      · have h2i : (200 : Int) < (n' : Int) := by omega
        go_enter Try.func6, Try.ntmps6
        go_wp2_with (first
          | (go_at_call 13; (with_reducible refine HG.out.mono ?_); rintro e w2 ⟨rfl, hb2⟩)
          | (go_at_call 14; (with_reducible refine (HB.out w2 hb2).mono ?_); rintro e w3 ⟨rfl, rfl⟩)
          | (go_at_call 15; (with_reducible refine (HK.out _).mono ?_); rintro e w3 ⟨rfl, hb3⟩))
        go_ret
        exact ⟨rfl, hb2.trans (hb3.mono hb2.size)⟩
      · have h2i : ¬ (200 : Int) < (n' : Int) := by omega
        generalize pathR L l P = R at *
        obtain ⟨v, i, x⟩ := R
        simp only at HP HF
        clear hg hl
        go_enter Try.func6, Try.ntmps6
        go_wp2_with (first
          | (go_at_call 13; (with_reducible refine HG.out.mono ?_); rintro e w2 ⟨rfl, hb2⟩)
          | (go_at_call 14; (with_reducible refine (HB.out w2 hb2).mono ?_); rintro e w3 ⟨rfl, rfl⟩)
          | (go_at_call 29; (with_reducible refine (HP.out w2 hb2).mono ?_); rintro e w3 ⟨v3, rfl, hm3⟩; have hb3 := hb2.trans (hm3.bel.mono hb2.size); obtain ⟨a3, c3, rfl, hi3⟩ := hm3.at_; have Hi3 := hid_ hi3; clear hi3 hm3)
          | (go_at_call 30; (with_reducible refine (HF.out w3 hb3).mono ?_); rintro e w4 ⟨v4, rfl, hm4⟩; have hb4 := hb3.trans (hm4.bel.mono hb3.size); obtain ⟨a4, c4, rfl, hi4⟩ := hm4.at_; have Hi4 := hid_ hi4; have Hi34 := hid_ (Hi3.out.below hm4.bel (Nat.le_refl _)); clear hi4 hm4)
          | (go_at_call 31; (with_reducible refine (HS.out _ _ _ v _ _ _ w4 Hi34.out Hi4.out).mono ?_); rintro e w5 ⟨rfl, hc5⟩; have hb5 := hb4.trans (hc5.mono hb4.size))
          | (go_at_call 15; (with_reducible refine (HK.out _).mono ?_); rintro e w6 ⟨rfl, hb6⟩))
        go_ret
        exact ⟨rfl, hb5.trans (hb6.mono hb5.size)⟩
end Go.Proofs.Ytdabgoiipkmpaaa
