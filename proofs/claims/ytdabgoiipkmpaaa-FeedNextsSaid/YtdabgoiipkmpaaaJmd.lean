import Derived.Test.YtdabgoiipkmpaaaJl
import Derived.Test.YtdabgoiipkmpaaaJ9
namespace Go.Proofs.Ytdabgoiipkmpaaa
open Go.RowKit Go.Proofs.Kv

set_option maxRecDepth 100000 in
set_option maxHeartbeats 8000000 in
theorem feedNexts_calls (A : Option Addr) (N C : Nat) (L : List Rl) (a : Option Addr) (n c : Nat) (l : List Int) (w : World) (h : RulesAt w A N C L) (hI : IntsAt w a n c l) :
    Calls Try.prog 4 #[.slice A N C, .slice a n c] w fun e w' => e = .returned (.bool true) ∧ Below w.heap.size w w' := by
  have HK := hid_ known3_calls
  have HG := hid_ (long3_calls A N C L w h)
  have HB := hid_ (fun W (hW : Below w.heap.size w W) => large3_calls a n c l W (hI.below hW (Nat.le_refl _)))
  have HS := hid_ (fun a n c (P : List (List Int)) a' n' c' W (h1 : ListsAt W a n c P) (h2 : ListsAt W a' n' c' P) => show Calls Try.prog 25 #[.slice a n c, .slice a' n' c'] W fun e w' => e = .returned (.bool true) ∧ Below W.heap.size W w' from
    (sameL_calls a n c P a' n' c' P W h1 h2).mono fun e w' ⟨he, hq⟩ => ⟨by rw [he]; simp [SameL], below_drew hq⟩)
  have HP := hid_ (fun W (hW : Below w.heap.size w W) => feNext_calls A N C L a n c l W (h.below hW (Nat.le_refl _)) (hI.below hW (Nat.le_refl _)))
  have HF := hid_ (fun W (hW : Below w.heap.size w W) => r3Next_calls A N C L a n c l W (h.below hW (Nat.le_refl _)) (hI.below hW (Nat.le_refl _)))
  clear h hI
  cases hg : bigS L with
  | true =>
    rw [hg] at HG
    go_enter Try.func4, Try.ntmps4
    go_wp2_with (first
      | (go_at_call 13; (with_reducible refine HG.out.mono ?_); rintro e w2 ⟨rfl, hb2⟩)
      | (go_at_call 15; (with_reducible refine (HK.out _).mono ?_); rintro e w3 ⟨rfl, hb3⟩))
    go_ret
    exact ⟨rfl, hb2.trans (hb3.mono hb2.size)⟩
  | false =>
    rw [hg] at HG
    cases hl : bigOne3 l with
    | true =>
      rw [hl] at HB
      go_enter Try.func4, Try.ntmps4
      go_wp2_with (first
        | (go_at_call 13; (with_reducible refine HG.out.mono ?_); rintro e w2 ⟨rfl, hb2⟩)
        | (go_at_call 14; (with_reducible refine (HB.out w2 hb2).mono ?_); rintro e w3 ⟨rfl, rfl⟩)
        | (go_at_call 15; (with_reducible refine (HK.out _).mono ?_); rintro e w3 ⟨rfl, hb3⟩))
      go_ret
      exact ⟨rfl, hb2.trans (hb3.mono hb2.size)⟩
    | false =>
      rw [hl] at HB
      clear hg hl
      generalize resNext L l = S at *
      obtain ⟨m, hm⟩ : ∃ m, S.length = m := ⟨_, rfl⟩
      have HL := hid_ hm
      clear hm
      generalize errSW L [l] = x at *
      go_enter Try.func4, Try.ntmps4
      go_wp2_with (first
        | (go_at_call 13; (with_reducible refine HG.out.mono ?_); rintro e w2 ⟨rfl, hb2⟩)
        | (go_at_call 14; (with_reducible refine (HB.out w2 hb2).mono ?_); rintro e w3 ⟨rfl, rfl⟩)
        | (go_at_call 23; (with_reducible refine (HP.out w2 hb2).mono ?_); rintro e w3 ⟨v3, rfl, hm3⟩; have hb3 := hb2.trans (hm3.bel.mono hb2.size); obtain ⟨a3, c3, rfl, hi3⟩ := hm3.own.at_; have Hi3 := hid_ hi3; rw [HL.out] at Hi3 ⊢; clear hi3 hm3)
        | (go_at_call 24; (with_reducible refine (HF.out w3 hb3).mono ?_); rintro e w4 ⟨v4, rfl, hO4, hc4⟩; have hb4 := hb3.trans (hc4.mono hb3.size); obtain ⟨a4, c4, rfl, hi4⟩ := hO4.at_; have Hi4 := hid_ hi4; have Hi34 := hid_ (Hi3.out.below hc4 (Nat.le_refl _)); rw [HL.out] at Hi4 ⊢; clear hi4 hO4)
        | (go_at_call 25; (with_reducible refine (HS.out _ _ _ S _ _ _ w4 Hi34.out Hi4.out).mono ?_); rintro e w9 ⟨rfl, hc9⟩; have hb9 := hb4.trans (hc9.mono hb4.size))
        | (go_at_call 15; (with_reducible refine (HK.out _).mono ?_); rintro e wk ⟨rfl, hbk⟩))
      go_ret
      exact ⟨rfl, hb9.trans (hbk.mono hb9.size)⟩
end Go.Proofs.Ytdabgoiipkmpaaa
