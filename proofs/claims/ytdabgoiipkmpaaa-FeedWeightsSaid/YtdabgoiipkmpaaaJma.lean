import Derived.Test.YtdabgoiipkmpaaaJl
import Derived.Test.YtdabgoiipkmpaaaJwb
import Derived.Test.YtdabgoiipkmpaaaJwc
namespace Go.Proofs.Ytdabgoiipkmpaaa
open Go.RowKit Go.Proofs.Kv

theorem Runs.holds {L : List Rl} (hL : ∀ R ∈ L, R.f ≤ 5) {ws : List Int} {r : Option (List Int)} (h : Runs L ws r) (hw : WtL ws) : ∀ v, r = some v → WtL v ∧ holdB L v = true := by
  induction h with
  | stop hh => intro v hv; injection hv with hv; subst hv; exact ⟨hw, hh⟩
  | fail _ _ => intro v hv; cases hv
  | more _ hr _ ih => exact ih (roundR_ok hw hL hr).1
set_option maxRecDepth 100000 in
set_option maxHeartbeats 4000000 in
theorem feedWeights_calls (A : Option Addr) (N C : Nat) (L : List Rl) (w : World) (h : RulesAt w A N C L) :
    Calls Try.prog 8 #[.slice A N C] w fun e w' => e = .returned (.bool true) ∧ Below w.heap.size w w' := by
  have HK := hid_ known3_calls
  have HG := hid_ (long3_calls A N C L w h)
  have HS := hid_ (fun a n c l a' n' c' W (h1 : IntsAt W a n c l) (h2 : IntsAt W a' n' c' l) => show Calls Try.prog 31 #[.slice a n c, .slice a' n' c'] W fun e w' => e = .returned (.bool true) ∧ Below W.heap.size W w' from
    (same_calls a n c l a' n' c' l W h1 h2).mono fun e w' ⟨he, hq⟩ => ⟨by rw [he]; simp [Same], below_drew hq⟩)
  cases hg : bigS L with
  | true =>
    rw [hg] at HG
    go_enter Try.func8, Try.ntmps8
    go_wp2_with (first
      | (go_at_call 13; (with_reducible refine HG.out.mono ?_); rintro e w2 ⟨rfl, hb2⟩)
      | (go_at_call 15; (with_reducible refine (HK.out _).mono ?_); rintro e w3 ⟨rfl, hb3⟩))
    go_ret
    exact ⟨rfl, hb2.trans (hb3.mono hb2.size)⟩
  | false =>
    rw [hg] at HG
    have HR := hid_ (fun W (hW : Below w.heap.size w W) => h.below hW (Nat.le_refl _))
    by_cases hs : validS L = 0
    · have HP := hid_ (fun W hW => feWeights_calls A N C L W (HR.out W hW) hs)
      have HF := hid_ (fun W hW => r3Weights_calls A N C L W (HR.out W hW) hs)
      have HC := hid_ (fun W hW a n c ws hi => feCheckW_calls A N C L a n c ws W (HR.out W hW) hi)
      have HH : Hid (∀ r ws, Runs L (List.replicate 6 0) r → r = some ws → errCW L ws = 0) := hid_ (fun r ws hr e => by
        obtain ⟨h1, h2⟩ := hr.holds (fun R hR => (validR_ok ((validS_ok hs).2 R hR)).2.1) WtL.zero ws e
        rw [errCW, if_pos hs, wtB_ok.2 h1, h2]; rfl)
      clear hs hg
      go_enter Try.func8, Try.ntmps8
      go_wp2_with (first
        | (go_at_call 13; (with_reducible refine HG.out.mono ?_); rintro e w2 ⟨rfl, hb2⟩)
        | (go_at_call 34; (with_reducible refine (HP.out w2 hb2).mono ?_); rintro e w3 ⟨r, v3, hr3, rfl, hm3⟩; have hb3 := hb2.trans (hm3.bel.mono hb2.size); have HI3 := hid_ hm3.at_; have Hr3 := hid_ hr3; clear hr3)
        | (go_at_call 35; (with_reducible refine (HF.out w3 hb3).mono ?_); rintro e w4 ⟨r', v4, hr4, rfl, hm4⟩; obtain rfl := hr4.det Hr3.out; have hb4 := hb3.trans (hm4.bel.mono hb3.size); obtain ⟨a3, c3, rfl, hi3⟩ := HI3.out; obtain ⟨a4, c4, rfl, hi4⟩ := hm4.at_; have Hi3 := hid_ (hi3.below hm4.bel (Nat.le_refl _)); have Hi4 := hid_ hi4; clear hi3 hi4 hm4 hm3 hr4))
      cases r' with
      | none =>
        simp only [Option.getD_none, Option.isSome_none, List.length_nil] at Hi3 Hi4 ⊢
        refine (HS.out _ _ _ [] _ _ _ w4 Hi3.out Hi4.out).mono ?_
        rintro e w5 ⟨rfl, hc5⟩
        have hb5 := hb4.trans (hc5.mono hb4.size)
        go_wp2_with (go_at_call 15; (with_reducible refine (HK.out _).mono ?_); rintro e w6 ⟨rfl, hc6⟩)
        go_ret
        exact ⟨rfl, hb5.trans (hc6.mono hb5.size)⟩
      | some ws =>
        simp only [Option.getD_some, Option.isSome_some] at Hi3 Hi4 ⊢
        refine (HS.out _ _ _ ws _ _ _ w4 Hi3.out Hi4.out).mono ?_
        rintro e w5 ⟨rfl, hc5⟩
        have hb5 := hb4.trans (hc5.mono hb4.size)
        have HC5 := hid_ (HC.out w5 hb5 _ _ _ ws (Hi3.out.below hc5 (Nat.le_refl _)))
        rw [HH.out _ ws Hr3.out rfl] at HC5
        clear hc5
        go_wp2_with (first
          | (go_at_call 36; (with_reducible refine HC5.out.mono ?_); rintro e w6 ⟨rfl, hc6⟩; have hb6 := hb5.trans (hc6.mono hb5.size))
          | (go_at_call 15; (with_reducible refine (HK.out _).mono ?_); rintro e w7 ⟨rfl, hc7⟩))
        go_ret
        exact ⟨rfl, hb6.trans (hc7.mono hb6.size)⟩
    · have HP := hid_ (fun W hW => feWeightsE_calls A N C L W (HR.out W hW) hs)
      have HF := hid_ (fun W hW => r3WeightsE_calls A N C L W (HR.out W hW) hs)
      have HN := hid_ (fun W => IntsAt.nil W none 0 (by omega))
      generalize validS L = x at *
      clear hs hg
      go_enter Try.func8, Try.ntmps8
      go_wp2_with (first
        | (go_at_call 13; (with_reducible refine HG.out.mono ?_); rintro e w2 ⟨rfl, hb2⟩)
        | (go_at_call 34; (with_reducible refine (HP.out w2 hb2).mono ?_); rintro e w3 ⟨rfl, hc3⟩; have hb3 := hb2.trans (hc3.mono hb2.size))
        | (go_at_call 35; (with_reducible refine (HF.out w3 hb3).mono ?_); rintro e w4 ⟨rfl, hc4⟩; have hb4 := hb3.trans (hc4.mono hb3.size))
        | (go_at_call 31; (with_reducible refine (HS.out none 0 0 [] none 0 0 w4 (HN.out _) (HN.out _)).mono ?_); rintro e w5 ⟨rfl, hc5⟩; have hb5 := hb4.trans (hc5.mono hb4.size))
        | (go_at_call 15; (with_reducible refine (HK.out _).mono ?_); rintro e w6 ⟨rfl, hc6⟩))
      go_ret
      exact ⟨rfl, hb5.trans (hc6.mono hb5.size)⟩
end Go.Proofs.Ytdabgoiipkmpaaa
