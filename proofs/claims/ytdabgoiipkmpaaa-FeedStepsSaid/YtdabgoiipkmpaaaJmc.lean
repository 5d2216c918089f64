import Derived.Test.YtdabgoiipkmpaaaJl
import Derived.Test.YtdabgoiipkmpaaaJ5
namespace Go.Proofs.Ytdabgoiipkmpaaa
open Go.RowKit Go.Proofs.Kv

theorem isEnd_len {L : List Rl} {l : List Int} (h : errSW L [l] = 0) : isEndB L l = decide ((resSteps L l).length = 0) := by
  rw [isEndB, decide_eq_true h, resSteps, if_pos h, List.length_map]; rfl
set_option maxRecDepth 100000 in
set_option maxHeartbeats 8000000 in
theorem feedSteps_calls (A : Option Addr) (N C : Nat) (L : List Rl) (a : Option Addr) (n c : Nat) (l : List Int) (w : World) (h : RulesAt w A N C L) (hI : IntsAt w a n c l) :
    Calls Try.prog 3 #[.slice A N C, .slice a n c] w fun e w' => e = .returned (.bool true) ∧ Below w.heap.size w w' := by
  have HK := hid_ known3_calls
  have HG := hid_ (long3_calls A N C L w h)
  have HB := hid_ (fun W (hW : Below w.heap.size w W) => large3_calls a n c l W (hI.below hW (Nat.le_refl _)))
  have HS := hid_ (fun a n c (P : List (Int × Int)) a' n' c' W (h1 : PairsAt W a n c P) (h2 : PairsAt W a' n' c' P) => show Calls Try.prog 22 #[.slice a n c, .slice a' n' c'] W fun e w' => e = .returned (.bool true) ∧ Below W.heap.size W w' from
    (sameSt_calls a n c P a' n' c' P W h1 h2).mono fun e w' ⟨he, hq⟩ => ⟨by rw [he]; simp [SameSt], below_drew hq⟩)
  have HP := hid_ (fun W (hW : Below w.heap.size w W) => feSteps_calls A N C L a n c l W (h.below hW (Nat.le_refl _)) (hI.below hW (Nat.le_refl _)))
  have HF := hid_ (fun W (hW : Below w.heap.size w W) => r3Steps_calls A N C L a n c l W (h.below hW (Nat.le_refl _)) (hI.below hW (Nat.le_refl _)))
  have HE := hid_ (fun W (hW : Below w.heap.size w W) => feIsEnd_calls A N C L a n c l W (h.below hW (Nat.le_refl _)) (hI.below hW (Nat.le_refl _)))
  have HE2 := hid_ (fun W (hW : Below w.heap.size w W) => r3IsEnd_calls A N C L a n c l W (h.below hW (Nat.le_refl _)) (hI.below hW (Nat.le_refl _)))
  have HV := hid_ (fun W (hW : Below w.heap.size w W) => feValidate_calls A N C L W (h.below hW (Nat.le_refl _)))
  have HV2 := hid_ (fun W (hW : Below w.heap.size w W) => r3Validate_calls A N C L W (h.below hW (Nat.le_refl _)))
  clear h hI
  cases hg : bigS L with
  | true =>
    rw [hg] at HG
    go_enter Try.func3, Try.ntmps3
    go_wp2_with (first
      | (go_at_call 13; (with_reducible refine HG.out.mono ?_); rintro e w2 ⟨rfl, hb2⟩)
      | (go_at_call 15; (with_reducible refine (HK.out _).mono ?_); rintro e w3 ⟨rfl, hb3⟩))
    go_ret
    exact ⟨rfl, hb2.trans (hb3.mono hb2.size)⟩
  | false =>
    rw [hg] at HG
    cases hl : bigOne3 l with
    | true =>
      rw [hl] at HB
      go_enter Try.func3, Try.ntmps3
      go_wp2_with (first
        | (go_at_call 13; (with_reducible refine HG.out.mono ?_); rintro e w2 ⟨rfl, hb2⟩)
        | (go_at_call 14; (with_reducible refine (HB.out w2 hb2).mono ?_); rintro e w3 ⟨rfl, rfl⟩)
        | (go_at_call 15; (with_reducible refine (HK.out _).mono ?_); rintro e w3 ⟨rfl, hb3⟩))
      go_ret
      exact ⟨rfl, hb2.trans (hb3.mono hb2.size)⟩
    | false =>
      rw [hl] at HB
      clear hg hl
      by_cases he : errSW L [l] = 0
      · have hie := isEnd_len he
        rw [he] at HP HF HE HE2
        generalize validS L = xv at *
        generalize resSteps L l = S at *
        obtain ⟨m, hm⟩ : ∃ m, S.length = m := ⟨_, rfl⟩
        rw [hm] at hie
        have HL := hid_ hm
        clear hm he
        by_cases h0 : m = 0
        · subst h0
          rw [show isEndB L l = true from hie] at HE HE2
          clear hie
          go_enter Try.func3, Try.ntmps3
          go_wp2_with (first
            | (go_at_call 13; (with_reducible refine HG.out.mono ?_); rintro e w2 ⟨rfl, hb2⟩)
            | (go_at_call 14; (with_reducible refine (HB.out w2 hb2).mono ?_); rintro e w3 ⟨rfl, rfl⟩)
            | (go_at_call 16; (with_reducible refine (HP.out w2 hb2).mono ?_); rintro e w3 ⟨v3, rfl, hm3⟩; have hb3 := hb2.trans (hm3.bel.mono hb2.size); obtain ⟨a3, c3, rfl, hi3⟩ := hm3.at_; have Hi3 := hid_ hi3; rw [HL.out] at Hi3 ⊢; clear hi3 hm3)
            | (go_at_call 17; (with_reducible refine (HF.out w3 hb3).mono ?_); rintro e w4 ⟨v4, rfl, hm4⟩; have hb4 := hb3.trans (hm4.bel.mono hb3.size); obtain ⟨a4, c4, rfl, hi4⟩ := hm4.at_; have Hi4 := hid_ hi4; have Hi34 := hid_ (Hi3.out.below hm4.bel (Nat.le_refl _)); rw [HL.out] at Hi4 ⊢; clear hi4 hm4)
            | (go_at_call 18; (with_reducible refine (HE.out w4 hb4).mono ?_); rintro e w5 ⟨rfl, hc5⟩; have hb5 := hb4.trans (hc5.mono hb4.size))
            | (go_at_call 19; (with_reducible refine (HE2.out w5 hb5).mono ?_); rintro e w6 ⟨rfl, hc6⟩; have hb6 := hb5.trans (hc6.mono hb5.size); have hc46 := hid_ (hc5.trans (hc6.mono hc5.size)))
            | (go_at_call 20; (with_reducible refine (HV.out w6 hb6).mono ?_); rintro e w7 ⟨rfl, hc7⟩; have hb7 := hb6.trans (hc7.mono hb6.size))
            | (go_at_call 21; (with_reducible refine (HV2.out w7 hb7).mono ?_); rintro e w8 ⟨rfl, hc8⟩; have hb8 := hb7.trans (hc8.mono hb7.size); have hc48 := hid_ (hc46.out.trans ((hc7.trans (hc8.mono hc7.size)).mono hc46.out.size)))
            | (go_at_call 22; (with_reducible refine (HS.out _ _ _ S _ _ _ w8 (Hi34.out.below hc48.out (Nat.le_refl _)) (Hi4.out.below hc48.out (Nat.le_refl _))).mono ?_); rintro e w9 ⟨rfl, hc9⟩; have hb9 := hb8.trans (hc9.mono hb8.size))
            | (go_at_call 15; (with_reducible refine (HK.out _).mono ?_); rintro e wk ⟨rfl, hbk⟩))
          go_ret
          exact ⟨rfl, hb9.trans (hbk.mono hb9.size)⟩
        · have hmi : ¬ (m : Int) = 0 := by omega
          have hmb : ((m : Int) == 0) = false := by simpa using h0
          rw [show isEndB L l = false by rw [hie, decide_eq_false h0]] at HE HE2
          clear hie
          go_enter Try.func3, Try.ntmps3
          go_wp2_with (first
            | (go_at_call 13; (with_reducible refine HG.out.mono ?_); rintro e w2 ⟨rfl, hb2⟩)
            | (go_at_call 14; (with_reducible refine (HB.out w2 hb2).mono ?_); rintro e w3 ⟨rfl, rfl⟩)
            | (go_at_call 16; (with_reducible refine (HP.out w2 hb2).mono ?_); rintro e w3 ⟨v3, rfl, hm3⟩; have hb3 := hb2.trans (hm3.bel.mono hb2.size); obtain ⟨a3, c3, rfl, hi3⟩ := hm3.at_; have Hi3 := hid_ hi3; rw [HL.out] at Hi3 ⊢; clear hi3 hm3)
            | (go_at_call 17; (with_reducible refine (HF.out w3 hb3).mono ?_); rintro e w4 ⟨v4, rfl, hm4⟩; have hb4 := hb3.trans (hm4.bel.mono hb3.size); obtain ⟨a4, c4, rfl, hi4⟩ := hm4.at_; have Hi4 := hid_ hi4; have Hi34 := hid_ (Hi3.out.below hm4.bel (Nat.le_refl _)); rw [HL.out] at Hi4 ⊢; clear hi4 hm4)
            | (go_at_call 18; (with_reducible refine (HE.out w4 hb4).mono ?_); rintro e w5 ⟨rfl, hc5⟩; have hb5 := hb4.trans (hc5.mono hb4.size))
            | (go_at_call 19; (with_reducible refine (HE2.out w5 hb5).mono ?_); rintro e w6 ⟨rfl, hc6⟩; have hb6 := hb5.trans (hc6.mono hb5.size); have hc46 := hid_ (hc5.trans (hc6.mono hc5.size)))
            | (go_at_call 20; (with_reducible refine (HV.out w6 hb6).mono ?_); rintro e w7 ⟨rfl, hc7⟩; have hb7 := hb6.trans (hc7.mono hb6.size))
            | (go_at_call 21; (with_reducible refine (HV2.out w7 hb7).mono ?_); rintro e w8 ⟨rfl, hc8⟩; have hb8 := hb7.trans (hc8.mono hb7.size); have hc48 := hid_ (hc46.out.trans ((hc7.trans (hc8.mono hc7.size)).mono hc46.out.size)))
            | (go_at_call 22; (with_reducible refine (HS.out _ _ _ S _ _ _ w8 (Hi34.out.below hc48.out (Nat.le_refl _)) (Hi4.out.below hc48.out (Nat.le_refl _))).mono ?_); rintro e w9 ⟨rfl, hc9⟩; have hb9 := hb8.trans (hc9.mono hb8.size))
            | (go_at_call 15; (with_reducible refine (HK.out _).mono ?_); rintro e wk ⟨rfl, hbk⟩))
          go_ret
          exact ⟨rfl, hb9.trans (hbk.mono hb9.size)⟩
      · have hr0 : resSteps L l = [] := if_neg he
        have hie : isEndB L l = false := by rw [isEndB, decide_eq_false he]; rfl
        have HL : Hid ((resSteps L l).length = 0) := hid_ (by rw [hr0]; rfl)
        clear hr0
        generalize resSteps L l = S at *
        rw [hie] at HE HE2
        have hq : (errSW L [l] != 0) = true := by simpa using he
        generalize errSW L [l] = x at *
        generalize validS L = xv at *
        clear he hie
        go_enter Try.func3, Try.ntmps3
        go_wp2_with (first
          | (go_at_call 13; (with_reducible refine HG.out.mono ?_); rintro e w2 ⟨rfl, hb2⟩)
          | (go_at_call 14; (with_reducible refine (HB.out w2 hb2).mono ?_); rintro e w3 ⟨rfl, rfl⟩)
          | (go_at_call 16; (with_reducible refine (HP.out w2 hb2).mono ?_); rintro e w3 ⟨v3, rfl, hm3⟩; have hb3 := hb2.trans (hm3.bel.mono hb2.size); obtain ⟨a3, c3, rfl, hi3⟩ := hm3.at_; have Hi3 := hid_ hi3; rw [HL.out] at Hi3 ⊢; clear hi3 hm3)
          | (go_at_call 17; (with_reducible refine (HF.out w3 hb3).mono ?_); rintro e w4 ⟨v4, rfl, hm4⟩; have hb4 := hb3.trans (hm4.bel.mono hb3.size); obtain ⟨a4, c4, rfl, hi4⟩ := hm4.at_; have Hi4 := hid_ hi4; have Hi34 := hid_ (Hi3.out.below hm4.bel (Nat.le_refl _)); rw [HL.out] at Hi4 ⊢; clear hi4 hm4)
          | (go_at_call 18; (with_reducible refine (HE.out w4 hb4).mono ?_); rintro e w5 ⟨rfl, hc5⟩; have hb5 := hb4.trans (hc5.mono hb4.size))
          | (go_at_call 19; (with_reducible refine (HE2.out w5 hb5).mono ?_); rintro e w6 ⟨rfl, hc6⟩; have hb6 := hb5.trans (hc6.mono hb5.size); have hc46 := hid_ (hc5.trans (hc6.mono hc5.size)))
          | (go_at_call 20; (with_reducible refine (HV.out w6 hb6).mono ?_); rintro e w7 ⟨rfl, hc7⟩; have hb7 := hb6.trans (hc7.mono hb6.size))
          | (go_at_call 21; (with_reducible refine (HV2.out w7 hb7).mono ?_); rintro e w8 ⟨rfl, hc8⟩; have hb8 := hb7.trans (hc8.mono hb7.size); have hc48 := hid_ (hc46.out.trans ((hc7.trans (hc8.mono hc7.size)).mono hc46.out.size)))
          | (go_at_call 22; (with_reducible refine (HS.out _ _ _ S _ _ _ w8 (Hi34.out.below hc48.out (Nat.le_refl _)) (Hi4.out.below hc48.out (Nat.le_refl _))).mono ?_); rintro e w9 ⟨rfl, hc9⟩; have hb9 := hb8.trans (hc9.mono hb8.size))
          | (go_at_call 15; (with_reducible refine (HK.out _).mono ?_); rintro e wk ⟨rfl, hbk⟩))
        go_ret
        exact ⟨rfl, hb9.trans (hbk.mono hb9.size)⟩
end Go.Proofs.Ytdabgoiipkmpaaa
