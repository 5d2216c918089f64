import Derived.Test.YtebbmhlkdfmmcaaGreatJk7
import Derived.Test.YtebbmhlkdfmmcaaGreatJl
namespace Go.Proofs.YtebbmhlkdfmmcaaGreat
open Go.RowKit Go.Proofs.Kv Go

/-! ### the law FeedEnds -/
theorem ends_eq (L : List Rl) (l : List Int) : resEndsR L l = resEnds L l := by
  unfold resEndsR resEnds
  cases hx : webR L l with
  | none =>
    cases hy : graphR L l with
    | none => rfl
    | some y => exact absurd (graphR_some hy).1 (webR_none hx)
  | some x =>
    obtain ⟨w0, he, hx⟩ := webR_some hx
    obtain ⟨hs, hl⟩ := errSW_ok' he
    cases hy : graphR L l with
    | none => exact absurd w0 (graphR_none hy)
    | some y => exact (ends_same hs hl hx (graphR_some hy).2.2).symm
theorem ends_ok {L : List Rl} {l : List Int} (h : errWeb L l = 0) : partL (resEnds L l) (resReach L l) = true ∧ ((resLongest L l).2 = true → 0 < (resEnds L l).length) := by
  cases hx : webR L l with
  | none => exact absurd h (webR_none hx)
  | some x =>
    have hE : resEnds L l = endsL x := by rw [resEnds, hx]
    have hR : resReach L l = x.words.mergeSort leL := by rw [resReach, hx]
    have hLo : resLongest L l = longR x.arcs := by rw [resLongest, hx]
    obtain ⟨w0, he, hx⟩ := webR_some hx
    obtain ⟨hs, hl⟩ := errSW_ok' he
    rw [hE, hR, hLo]
    refine ⟨decide_eq_true fun u hu => ?_, some_end hs hl hx⟩
    obtain ⟨k, hk, e, -⟩ := mem_ends.1 hu
    rw [(List.mergeSort_perm _ _).mem_iff]
    exact mem_getW.2 ⟨k, hk, e⟩
set_option maxRecDepth 100000 in
set_option maxHeartbeats 8000000 in
theorem feedEnds_calls (A : Option Addr) (N C : Nat) (L : List Rl) (a : Option Addr) (n c : Nat) (l : List Int) (w : World) (h : RulesAt w A N C L) (hI : IntsAt w a n c l) :
    Calls Tryz.prog 3 #[.slice A N C, .slice a n c] w fun e w' => e = .returned (.bool true) ∧ Below w.heap.size w w' := by
  have HK := hid_ known3_calls
  have HG := hid_ (long3_calls A N C L w h)
  have HB := hid_ (fun W (hW : Below w.heap.size w W) => large3_calls a n c l W (hI.below hW (Nat.le_refl _)))
  have HS := hid_ (fun a n c (P : List (List Int)) a' n' c' W (h1 : ListsAt W a n c P) (h2 : ListsAt W a' n' c' P) => show Calls Tryz.prog 12 #[.slice a n c, .slice a' n' c'] W fun e w' => e = .returned (.bool true) ∧ Below W.heap.size W w' from
    (sameL_calls a n c P a' n' c' P W h1 h2).mono fun e w' ⟨he, hq⟩ => ⟨by rw [he]; simp [SameL], below_drew hq⟩)
  have HP := hid_ (fun W (hW : Below w.heap.size w W) => feReach_calls A N C L a n c l W (h.below hW (Nat.le_refl _)) (hI.below hW (Nat.le_refl _)))
  have HE := hid_ (fun W (hW : Below w.heap.size w W) => feEnds_calls A N C L a n c l W (h.below hW (Nat.le_refl _)) (hI.below hW (Nat.le_refl _)))
  have HF := hid_ (fun W (hW : Below w.heap.size w W) => ends_eq L l ▸ r3Ends_calls A N C L a n c l W (h.below hW (Nat.le_refl _)) (hI.below hW (Nat.le_refl _)))
  have HV := hid_ (fun W (hW : Below w.heap.size w W) => feForever_calls A N C L a n c l W (h.below hW (Nat.le_refl _)) (hI.below hW (Nat.le_refl _)))
  clear h hI
  cases hg : bigS L with
  | true =>
    rw [hg] at HG
    go_enter Tryz.func3, Tryz.ntmps3
    go_wp2_with (first
      | (go_at_call 7; (with_reducible refine HG.out.mono ?_); rintro e w2 ⟨rfl, hb2⟩)
      | (go_at_call 9; (with_reducible refine (HK.out _).mono ?_); rintro e w3 ⟨rfl, hb3⟩))
    go_ret
    exact ⟨rfl, hb2.trans (hb3.mono hb2.size)⟩
  | false =>
    rw [hg] at HG
    cases hl : bigOne3 l with
    | true =>
      rw [hl] at HB
      go_enter Tryz.func3, Tryz.ntmps3
      go_wp2_with (first
        | (go_at_call 7; (with_reducible refine HG.out.mono ?_); rintro e w2 ⟨rfl, hb2⟩)
        | (go_at_call 8; (with_reducible refine (HB.out w2 hb2).mono ?_); rintro e w3 ⟨rfl, rfl⟩)
        | (go_at_call 9; (with_reducible refine (HK.out _).mono ?_); rintro e w3 ⟨rfl, hb3⟩))
      go_ret
      exact ⟨rfl, hb2.trans (hb3.mono hb2.size)⟩
    | false =>
      rw [hl] at HB
      clear hg hl
      by_cases hx : errWeb L l = 0
      · obtain ⟨hp, hlo⟩ := ends_ok hx
        rw [hx] at HP HE HF HV
        rw [decide_eq_true rfl, Bool.true_and] at HV
        generalize resReach L l = S at *
        generalize resEnds L l = Z at *
        generalize (resLongest L l).2 = lo at *
        obtain ⟨m, hm⟩ : ∃ m, S.length = m := ⟨_, rfl⟩
        have HLS := hid_ hm
        obtain ⟨z, hz⟩ : ∃ z, Z.length = z := ⟨_, rfl⟩
        have HLZ := hid_ hz
        rw [hz] at hlo
        have Hlo := hid_ hlo
        have HPt := hid_ (fun a n c a' n' c' W (h1 : ListsAt W a n c Z) (h2 : ListsAt W a' n' c' S) => show Calls Tryz.prog 15 #[.slice a n c, .slice a' n' c'] W fun e w' => e = .returned (.bool true) ∧ Below W.heap.size W w' from
          (partL_calls a n c Z a' n' c' S W h1 h2).mono fun e w' ⟨he, hq⟩ => ⟨by rw [he, hp], below_drew hq⟩)
        clear hm hz hlo hp hx
        cases lo with
        | true =>
          have hz0 := Hlo.out rfl
          have hz1 : 0 < (z : Int) := by omega
          go_enter Tryz.func3, Tryz.ntmps3
          go_wp2_with (first
            | (go_at_call 7; (with_reducible refine HG.out.mono ?_); rintro e w2 ⟨rfl, hb2⟩)
            | (go_at_call 8; (with_reducible refine (HB.out w2 hb2).mono ?_); rintro e w3 ⟨rfl, rfl⟩)
            | (go_at_call 10; (with_reducible refine (HE.out _ hb2).mono ?_); rintro e w4 ⟨v4, rfl, hO4, hc4⟩; have hb4 := hb2.trans (hc4.mono hb2.size); obtain ⟨a4, c4, rfl, hi4⟩ := hO4.at_; rw [HLZ.out] at hi4 ⊢; have Hi4 := hid_ hi4; clear hi4 hO4)
            | (go_at_call 11; (with_reducible refine (HF.out _ hb4).mono ?_); rintro e w5 ⟨v5, rfl, hO5, hc5⟩; have hb5 := hb4.trans (hc5.mono hb4.size); obtain ⟨a5, c5, rfl, hi5⟩ := hO5.at_; rw [HLZ.out] at hi5 ⊢; have Hi5 := hid_ hi5; have Hi45 := hid_ (Hi4.out.below hc5 (Nat.le_refl _)); clear hi5 hO5)
            | (go_at_call 12; (with_reducible refine (HS.out _ _ _ Z _ _ _ w5 Hi45.out Hi5.out).mono ?_); rintro e w6 ⟨rfl, hc6⟩; have hb6 := hb5.trans (hc6.mono hb5.size); have Hi46 := hid_ (Hi45.out.below hc6 (Nat.le_refl _)))
            | (go_at_call 13; (with_reducible refine (HP.out _ hb6).mono ?_); rintro e w7 ⟨v7, rfl, hO7, hc7⟩; have hb7 := hb6.trans (hc7.mono hb6.size); obtain ⟨a7, c7, rfl, hi7⟩ := hO7.at_; rw [HLS.out] at hi7 ⊢; have Hi7 := hid_ hi7; have Hi47 := hid_ (Hi46.out.below hc7 (Nat.le_refl _)); clear hi7 hO7)
            | (go_at_call 14; (with_reducible refine (HV.out _ hb7).mono ?_); rintro e w8 ⟨rfl, hc8⟩; have hb8 := hb7.trans (hc8.mono hb7.size); have Hi48 := hid_ (Hi47.out.below hc8 (Nat.le_refl _)); have Hi78 := hid_ (Hi7.out.below hc8 (Nat.le_refl _)))
            | (go_at_call 15; (with_reducible refine (HPt.out _ _ _ _ _ _ _ Hi48.out Hi78.out).mono ?_); rintro e w9 ⟨rfl, hc9⟩; have hb9 := hb8.trans (hc9.mono hb8.size))
            | (go_at_call 9; (with_reducible refine (HK.out _).mono ?_); rintro e wk ⟨rfl, hbk⟩))
          go_ret
          exact ⟨rfl, hb9.trans (hbk.mono hb9.size)⟩
        | false =>
          go_enter Tryz.func3, Tryz.ntmps3
          go_wp2_with (first
            | (go_at_call 7; (with_reducible refine HG.out.mono ?_); rintro e w2 ⟨rfl, hb2⟩)
            | (go_at_call 8; (with_reducible refine (HB.out w2 hb2).mono ?_); rintro e w3 ⟨rfl, rfl⟩)
            | (go_at_call 10; (with_reducible refine (HE.out _ hb2).mono ?_); rintro e w4 ⟨v4, rfl, hO4, hc4⟩; have hb4 := hb2.trans (hc4.mono hb2.size); obtain ⟨a4, c4, rfl, hi4⟩ := hO4.at_; rw [HLZ.out] at hi4 ⊢; have Hi4 := hid_ hi4; clear hi4 hO4)
            | (go_at_call 11; (with_reducible refine (HF.out _ hb4).mono ?_); rintro e w5 ⟨v5, rfl, hO5, hc5⟩; have hb5 := hb4.trans (hc5.mono hb4.size); obtain ⟨a5, c5, rfl, hi5⟩ := hO5.at_; rw [HLZ.out] at hi5 ⊢; have Hi5 := hid_ hi5; have Hi45 := hid_ (Hi4.out.below hc5 (Nat.le_refl _)); clear hi5 hO5)
            | (go_at_call 12; (with_reducible refine (HS.out _ _ _ Z _ _ _ w5 Hi45.out Hi5.out).mono ?_); rintro e w6 ⟨rfl, hc6⟩; have hb6 := hb5.trans (hc6.mono hb5.size); have Hi46 := hid_ (Hi45.out.below hc6 (Nat.le_refl _)))
            | (go_at_call 13; (with_reducible refine (HP.out _ hb6).mono ?_); rintro e w7 ⟨v7, rfl, hO7, hc7⟩; have hb7 := hb6.trans (hc7.mono hb6.size); obtain ⟨a7, c7, rfl, hi7⟩ := hO7.at_; rw [HLS.out] at hi7 ⊢; have Hi7 := hid_ hi7; have Hi47 := hid_ (Hi46.out.below hc7 (Nat.le_refl _)); clear hi7 hO7)
            | (go_at_call 14; (with_reducible refine (HV.out _ hb7).mono ?_); rintro e w8 ⟨rfl, hc8⟩; have hb8 := hb7.trans (hc8.mono hb7.size); have Hi48 := hid_ (Hi47.out.below hc8 (Nat.le_refl _)); have Hi78 := hid_ (Hi7.out.below hc8 (Nat.le_refl _)))
            | (go_at_call 15; (with_reducible refine (HPt.out _ _ _ _ _ _ _ Hi48.out Hi78.out).mono ?_); rintro e w9 ⟨rfl, hc9⟩; have hb9 := hb8.trans (hc9.mono hb8.size))
            | (go_at_call 9; (with_reducible refine (HK.out _).mono ?_); rintro e wk ⟨rfl, hbk⟩))
          go_ret
          exact ⟨rfl, hb9.trans (hbk.mono hb9.size)⟩
      · have hq : (errWeb L l != 0) = true := by simpa using hx
        rw [decide_eq_false hx] at HV
        generalize resReach L l = S at *
        generalize resEnds L l = Z at *
        generalize errWeb L l = x at *
        obtain ⟨m, hm⟩ : ∃ m, S.length = m := ⟨_, rfl⟩
        have HLS := hid_ hm
        obtain ⟨z, hz⟩ : ∃ z, Z.length = z := ⟨_, rfl⟩
        have HLZ := hid_ hz
        clear hm hz hx
        go_enter Tryz.func3, Tryz.ntmps3
        go_wp2_with (first
          | (go_at_call 7; (with_reducible refine HG.out.mono ?_); rintro e w2 ⟨rfl, hb2⟩)
          | (go_at_call 8; (with_reducible refine (HB.out w2 hb2).mono ?_); rintro e w3 ⟨rfl, rfl⟩)
          | (go_at_call 10; (with_reducible refine (HE.out _ hb2).mono ?_); rintro e w4 ⟨v4, rfl, hO4, hc4⟩; have hb4 := hb2.trans (hc4.mono hb2.size); obtain ⟨a4, c4, rfl, hi4⟩ := hO4.at_; rw [HLZ.out] at hi4 ⊢; have Hi4 := hid_ hi4; clear hi4 hO4)
          | (go_at_call 11; (with_reducible refine (HF.out _ hb4).mono ?_); rintro e w5 ⟨v5, rfl, hO5, hc5⟩; have hb5 := hb4.trans (hc5.mono hb4.size); obtain ⟨a5, c5, rfl, hi5⟩ := hO5.at_; rw [HLZ.out] at hi5 ⊢; have Hi5 := hid_ hi5; have Hi45 := hid_ (Hi4.out.below hc5 (Nat.le_refl _)); clear hi5 hO5)
          | (go_at_call 12; (with_reducible refine (HS.out _ _ _ Z _ _ _ w5 Hi45.out Hi5.out).mono ?_); rintro e w6 ⟨rfl, hc6⟩; have hb6 := hb5.trans (hc6.mono hb5.size); have Hi46 := hid_ (Hi45.out.below hc6 (Nat.le_refl _)))
          | (go_at_call 13; (with_reducible refine (HP.out _ hb6).mono ?_); rintro e w7 ⟨v7, rfl, hO7, hc7⟩; have hb7 := hb6.trans (hc7.mono hb6.size); obtain ⟨a7, c7, rfl, hi7⟩ := hO7.at_; rw [HLS.out] at hi7 ⊢; have Hi7 := hid_ hi7; have Hi47 := hid_ (Hi46.out.below hc7 (Nat.le_refl _)); clear hi7 hO7)
          | (go_at_call 14; (with_reducible refine (HV.out _ hb7).mono ?_); rintro e w8 ⟨rfl, hc8⟩; have hb8 := hb7.trans (hc8.mono hb7.size); have Hi48 := hid_ (Hi47.out.below hc8 (Nat.le_refl _)); have Hi78 := hid_ (Hi7.out.below hc8 (Nat.le_refl _)))
          | (go_at_call 9; (with_reducible refine (HK.out _).mono ?_); rintro e wk ⟨rfl, hbk⟩))
        go_ret
        exact ⟨rfl, hb8.trans (hbk.mono hb8.size)⟩
end Go.Proofs.YtebbmhlkdfmmcaaGreat
