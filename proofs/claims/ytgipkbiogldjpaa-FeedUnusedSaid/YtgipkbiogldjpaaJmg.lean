import Derived.Test.YtgipkbiogldjpaaJl
import Derived.Test.YtgipkbiogldjpaaJub
namespace Go.Proofs.Ytgipkbiogldjpaa
open Go.RowKit Go.Proofs.Kv

set_option maxRecDepth 100000 in
set_option maxHeartbeats 8000000 in
theorem feedUnused_calls (A : Option Addr) (N C : Nat) (L : List Rl) (a : Option Addr) (n c : Nat) (l : List Int) (x : Int) (w : World) (h : RulesAt w A N C L) (hI : IntsAt w a n c l) :
    Calls Try.prog 7 #[.slice A N C, .slice a n c, .int .i64 x] w fun e w' => e = .returned (.bool true) ∧ Below w.heap.size w w' := by
  obtain rfl := h.len
  have HK := hid_ known3_calls
  have HG := hid_ (long3_calls A _ C L w h)
  have HB := hid_ (fun W (hW : Below w.heap.size w W) => large3_calls a n c l W (hI.below hW (Nat.le_refl _)))
  have HR := hid_ (fun W (hW : Below w.heap.size w W) => h.below hW (Nat.le_refl _))
  have HI := hid_ (fun W (hW : Below w.heap.size w W) => hI.below hW (Nat.le_refl _))
  have HS := hid_ (fun a n c (P : List (List Int)) a' n' c' W (h1 : ListsAt W a n c P) (h2 : ListsAt W a' n' c' P) => show Calls Try.prog 13 #[.slice a n c, .slice a' n' c'] W fun e w' => e = .returned (.bool true) ∧ Below W.heap.size W w' from
    (sameL_calls a n c P a' n' c' P W h1 h2).mono fun e w' ⟨he, hq⟩ => ⟨by rw [he]; simp [SameL], below_drew hq⟩)
  have HSI := hid_ (fun a n c (P : List Int) a' n' c' W (h1 : IntsAt W a n c P) (h2 : IntsAt W a' n' c' P) => show Calls Try.prog 18 #[.slice a n c, .slice a' n' c'] W fun e w' => e = .returned (.bool true) ∧ Below W.heap.size W w' from
    (same_calls a n c P a' n' c' P W h1 h2).mono fun e w' ⟨he, hq⟩ => ⟨by rw [he]; simp [Same], below_drew hq⟩)
  have HU1 := hid_ (fun W (hW : Below w.heap.size w W) => feUnused_calls A _ C L a n c l W (HR.out W hW) (HI.out W hW))
  have HU2 := hid_ (fun W (hW : Below w.heap.size w W) => r3Unused_calls A _ C L a n c l W (HR.out W hW) (HI.out W hW))
  clear h hI
  cases hg : bigS L with
  | true =>
    rw [hg] at HG
    go_enter Try.func7, Try.ntmps7
    go_wp2_with (first
      | (go_at_call 8; (with_reducible refine HG.out.mono ?_); rintro e w2 ⟨rfl, hb2⟩)
      | (go_at_call 10; (with_reducible refine (HK.out _).mono ?_); rintro e w3 ⟨rfl, hb3⟩))
    go_ret
    exact ⟨rfl, hb2.trans (hb3.mono hb2.size)⟩
  | false =>
    rw [hg] at HG
    cases hl : bigOne3 l with
    | true =>
      rw [hl] at HB
      go_enter Try.func7, Try.ntmps7
      go_wp2_with (first
        | (go_at_call 8; (with_reducible refine HG.out.mono ?_); rintro e w2 ⟨rfl, hb2⟩)
        | (go_at_call 9; (with_reducible refine (HB.out w2 hb2).mono ?_); rintro e w3 ⟨rfl, rfl⟩)
        | (go_at_call 10; (with_reducible refine (HK.out _).mono ?_); rintro e w3 ⟨rfl, hb3⟩))
      go_ret
      exact ⟨rfl, hb2.trans (hb3.mono hb2.size)⟩
    | false =>
      rw [hl] at HB
      clear hg hl
      by_cases hx : errWeb L l = 0
      · cases hh : Has (resUnused L l) x with
        | false =>
          have HHs := hid_ (fun a n c W (h1 : IntsAt W a n c (resUnused L l)) => has_as (x := x) h1 hh)
          rw [hx] at HU1 HU2
          generalize resUnused L l = S at *
          obtain ⟨m, hm⟩ : ∃ m, S.length = m := ⟨_, rfl⟩
          have HL := hid_ hm
          clear hm hx hh
          go_enter Try.func7, Try.ntmps7
          go_wp2_with (first
            | (go_at_call 8; (with_reducible refine HG.out.mono ?_); rintro e w2 ⟨rfl, hb2⟩)
            | (go_at_call 9; (with_reducible refine (HB.out w2 hb2).mono ?_); rintro e w3 ⟨rfl, rfl⟩)
            | (go_at_call 29; (with_reducible refine (HU1.out w2 hb2).mono ?_); rintro e w3 ⟨v3, rfl, hO3, hc3⟩; have hb3 := hb2.trans (hc3.mono hb2.size); obtain ⟨a3, c3, rfl, hi3⟩ := IntsAt.own hO3; have Hi3 := hid_ hi3; rw [HL.out] at Hi3 ⊢; clear hi3 hO3)
            | (go_at_call 30; (with_reducible refine (HU2.out w3 hb3).mono ?_); rintro e w4 ⟨v4, rfl, hO4, hc4⟩; have hb4 := hb3.trans (hc4.mono hb3.size); obtain ⟨a4, c4, rfl, hi4⟩ := IntsAt.own hO4; have Hi4 := hid_ hi4; have Hi34 := hid_ (Hi3.out.below hc4 (Nat.le_refl _)); rw [HL.out] at Hi4 ⊢; clear hi4 hO4)
            | (go_at_call 18; (with_reducible refine (HSI.out _ _ _ S _ _ _ w4 Hi34.out Hi4.out).mono ?_); rintro e w5 ⟨rfl, hc5⟩; have hb5 := hb4.trans (hc5.mono hb4.size); have Hi35 := hid_ (Hi34.out.below hc5 (Nat.le_refl _)))
            | (go_at_call 31; (with_reducible refine (HHs.out _ _ _ w5 Hi35.out).mono ?_); rintro e w6 ⟨rfl, rfl⟩)
            | (go_at_call 10; (with_reducible refine (HK.out _).mono ?_); rintro e wk ⟨rfl, hbk⟩))
          go_ret
          exact ⟨rfl, hb5.trans (hbk.mono hb5.size)⟩
        | true =>
          have HHs := hid_ (fun a n c W (h1 : IntsAt W a n c (resUnused L l)) => has_as (x := x) h1 hh)
          have hmem : x ∈ resUnused L l := by simpa [Has] using hh
          obtain ⟨k, rfl⟩ : ∃ k : Nat, x = k := by
            have h2 := hmem
            rw [resUnused, if_pos hx] at h2
            have := (mem_pl.1 h2).1
            exact ⟨x.toNat, by omega⟩
          obtain ⟨u1, u2, u3⟩ := unused_same hx hmem
          have HFw := hid_ (fun W (hW : Below w.heap.size w W) => feWithout_calls A _ C L (k : Int) W (HR.out W hW))
          have HF1 := hid_ (fun W (hW : Below w.heap.size w W) => feReach_calls A _ C L a n c l W (HR.out W hW) (HI.out W hW))
          have HF2 := hid_ (fun A C W (h1 : RulesAt W A (resWithout L (k : Int)).length C (resWithout L (k : Int))) (h2 : IntsAt W a n c l) => feReach_calls A _ C (resWithout L (k : Int)) a n c l W h1 h2)
          rw [hx] at HU1 HU2 HF1
          rw [u1] at HFw
          rw [u2, u3] at HF2
          generalize resUnused L l = S at *
          generalize resReach L l = T at *
          generalize resWithout L (k : Int) = L2 at *
          obtain ⟨m, hm⟩ : ∃ m, S.length = m := ⟨_, rfl⟩
          have HL := hid_ hm
          obtain ⟨m2, hm2⟩ : ∃ m2, T.length = m2 := ⟨_, rfl⟩
          have HL2 := hid_ hm2
          clear hm hm2 hx hh hmem u1 u2 u3
          go_enter Try.func7, Try.ntmps7
          go_wp2_with (first
            | (go_at_call 8; (with_reducible refine HG.out.mono ?_); rintro e w2 ⟨rfl, hb2⟩)
            | (go_at_call 9; (with_reducible refine (HB.out w2 hb2).mono ?_); rintro e w3 ⟨rfl, rfl⟩)
            | (go_at_call 29; (with_reducible refine (HU1.out w2 hb2).mono ?_); rintro e w3 ⟨v3, rfl, hO3, hc3⟩; have hb3 := hb2.trans (hc3.mono hb2.size); obtain ⟨a3, c3, rfl, hi3⟩ := IntsAt.own hO3; have Hi3 := hid_ hi3; rw [HL.out] at Hi3 ⊢; clear hi3 hO3)
            | (go_at_call 30; (with_reducible refine (HU2.out w3 hb3).mono ?_); rintro e w4 ⟨v4, rfl, hO4, hc4⟩; have hb4 := hb3.trans (hc4.mono hb3.size); obtain ⟨a4, c4, rfl, hi4⟩ := IntsAt.own hO4; have Hi4 := hid_ hi4; have Hi34 := hid_ (Hi3.out.below hc4 (Nat.le_refl _)); rw [HL.out] at Hi4 ⊢; clear hi4 hO4)
            | (go_at_call 18; (with_reducible refine (HSI.out _ _ _ S _ _ _ w4 Hi34.out Hi4.out).mono ?_); rintro e w5 ⟨rfl, hc5⟩; have hb5 := hb4.trans (hc5.mono hb4.size); have Hi35 := hid_ (Hi34.out.below hc5 (Nat.le_refl _)))
            | (go_at_call 31; (with_reducible refine (HHs.out _ _ _ w5 Hi35.out).mono ?_); rintro e w6 ⟨rfl, rfl⟩)
            | (go_at_call 26; (with_reducible refine (HFw.out w5 hb5).mono ?_); rintro e w6 ⟨v6, rfl, hO6, hc6⟩; have hb6 := hb5.trans (hc6.mono hb5.size); obtain ⟨a6, c6, rfl, hR6⟩ := hO6.at_; have HR6 := hid_ hR6; clear hR6 hO6)
            | (go_at_call 11; (with_reducible refine (HF1.out w6 hb6).mono ?_); rintro e w7 ⟨v7, rfl, hO7, hc7⟩; have hb7 := hb6.trans (hc7.mono hb6.size); obtain ⟨a7, c7, rfl, hi7⟩ := hO7.at_; have Hi7 := hid_ hi7; have HR67 := hid_ (HR6.out.below hc7 (Nat.le_refl _)); rw [HL2.out] at Hi7 ⊢; clear hi7 hO7)
            | (go_at_call 11; (with_reducible refine (HF2.out a6 c6 w7 HR67.out (HI.out w7 hb7)).mono ?_); rintro e w8 ⟨v8, rfl, hO8, hc8⟩; have hb8 := hb7.trans (hc8.mono hb7.size); obtain ⟨a8, c8, rfl, hi8⟩ := hO8.at_; have Hi8 := hid_ hi8; have Hi78 := hid_ (Hi7.out.below hc8 (Nat.le_refl _)); rw [HL2.out] at Hi8 ⊢; clear hi8 hO8)
            | (go_at_call 13; (with_reducible refine (HS.out _ _ _ T _ _ _ w8 Hi78.out Hi8.out).mono ?_); rintro e w9 ⟨rfl, hc9⟩; have hb9 := hb8.trans (hc9.mono hb8.size))
            | (go_at_call 10; (with_reducible refine (HK.out _).mono ?_); rintro e wk ⟨rfl, hbk⟩))
          go_ret
          exact ⟨rfl, hb9.trans (hbk.mono hb9.size)⟩
      · have hq : (errWeb L l != 0) = true := by simpa using hx
        generalize resUnused L l = S at *
        obtain ⟨m, hm⟩ : ∃ m, S.length = m := ⟨_, rfl⟩
        have HL := hid_ hm
        clear hm hx
        generalize errWeb L l = z at *
        go_enter Try.func7, Try.ntmps7
        go_wp2_with (first
          | (go_at_call 8; (with_reducible refine HG.out.mono ?_); rintro e w2 ⟨rfl, hb2⟩)
          | (go_at_call 9; (with_reducible refine (HB.out w2 hb2).mono ?_); rintro e w3 ⟨rfl, rfl⟩)
          | (go_at_call 29; (with_reducible refine (HU1.out w2 hb2).mono ?_); rintro e w3 ⟨v3, rfl, hO3, hc3⟩; have hb3 := hb2.trans (hc3.mono hb2.size); obtain ⟨a3, c3, rfl, hi3⟩ := IntsAt.own hO3; have Hi3 := hid_ hi3; rw [HL.out] at Hi3 ⊢; clear hi3 hO3)
          | (go_at_call 30; (with_reducible refine (HU2.out w3 hb3).mono ?_); rintro e w4 ⟨v4, rfl, hO4, hc4⟩; have hb4 := hb3.trans (hc4.mono hb3.size); obtain ⟨a4, c4, rfl, hi4⟩ := IntsAt.own hO4; have Hi4 := hid_ hi4; have Hi34 := hid_ (Hi3.out.below hc4 (Nat.le_refl _)); rw [HL.out] at Hi4 ⊢; clear hi4 hO4)
          | (go_at_call 18; (with_reducible refine (HSI.out _ _ _ S _ _ _ w4 Hi34.out Hi4.out).mono ?_); rintro e w5 ⟨rfl, hc5⟩; have hb5 := hb4.trans (hc5.mono hb4.size))
          | (go_at_call 10; (with_reducible refine (HK.out _).mono ?_); rintro e wk ⟨rfl, hbk⟩))
        go_ret
        exact ⟨rfl, hb5.trans (hbk.mono hb5.size)⟩
end Go.Proofs.Ytgipkbiogldjpaa
