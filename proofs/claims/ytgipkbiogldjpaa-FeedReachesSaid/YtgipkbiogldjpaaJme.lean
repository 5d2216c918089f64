import Derived.Test.YtgipkbiogldjpaaJl
import Derived.Test.YtgipkbiogldjpaaJxd
namespace Go.Proofs.Ytgipkbiogldjpaa
open Go.RowKit Go.Proofs.Kv

theorem reach_self {L : List Rl} {l : List Int} (h : errWeb L l = 0) : l ∈ resReach L l := by
  rw [resReach_eq]
  cases hy : graphR L l with
  | none => exact absurd h (graphR_none hy)
  | some y =>
    obtain ⟨_, he, hx⟩ := graphR_some hy
    obtain ⟨g1, g2⟩ := reachedF_some (errSW_ok' he).1 (errSW_ok' he).2 hx
    have := (fold_ins y.words (acc := []) List.Pairwise.nil).2 l
    show l ∈ foldI y.words
    unfold foldI
    rw [this]; exact .inr ((g2 l).2 (.refl _))
theorem partL_one {S : List (List Int)} {l : List Int} (h : l ∈ S) : partL [l] S = true := decide_eq_true fun x hx => by
  rw [List.mem_singleton] at hx; subst hx; exact h
set_option maxRecDepth 100000 in
set_option maxHeartbeats 8000000 in
theorem feedReaches_calls (A : Option Addr) (N C : Nat) (L : List Rl) (a : Option Addr) (n c : Nat) (l : List Int) (w : World) (h : RulesAt w A N C L) (hI : IntsAt w a n c l) :
    Calls Try.prog 3 #[.slice A N C, .slice a n c] w fun e w' => e = .returned (.bool true) ∧ Below w.heap.size w w' := by
  have HK := hid_ known3_calls
  have HG := hid_ (long3_calls A N C L w h)
  have HB := hid_ (fun W (hW : Below w.heap.size w W) => large3_calls a n c l W (hI.below hW (Nat.le_refl _)))
  have HS := hid_ (fun a n c (P : List (List Int)) a' n' c' W (h1 : ListsAt W a n c P) (h2 : ListsAt W a' n' c' P) => show Calls Try.prog 13 #[.slice a n c, .slice a' n' c'] W fun e w' => e = .returned (.bool true) ∧ Below W.heap.size W w' from
    (sameL_calls a n c P a' n' c' P W h1 h2).mono fun e w' ⟨he, hq⟩ => ⟨by rw [he]; simp [SameL], below_drew hq⟩)
  have HP := hid_ (fun W (hW : Below w.heap.size w W) => feReach_calls A N C L a n c l W (h.below hW (Nat.le_refl _)) (hI.below hW (Nat.le_refl _)))
  have HF := hid_ (fun W (hW : Below w.heap.size w W) => r3Reach_calls A N C L a n c l W (h.below hW (Nat.le_refl _)) (hI.below hW (Nat.le_refl _)))
  have HI := hid_ (fun W (hW : Below w.heap.size w W) => hI.below hW (Nat.le_refl _))
  clear h hI
  cases hg : bigS L with
  | true =>
    rw [hg] at HG
    go_enter Try.func3, Try.ntmps3
    go_wp2_with (first
      | (go_at_call 8; (with_reducible refine HG.out.mono ?_); rintro e w2 ⟨rfl, hb2⟩)
      | (go_at_call 10; (with_reducible refine (HK.out _).mono ?_); rintro e w3 ⟨rfl, hb3⟩))
    go_ret
    exact ⟨rfl, hb2.trans (hb3.mono hb2.size)⟩
  | false =>
    rw [hg] at HG
    cases hl : bigOne3 l with
    | true =>
      rw [hl] at HB
      go_enter Try.func3, Try.ntmps3
      go_wp2_with (first
        | (go_at_call 8; (with_reducible refine HG.out.mono ?_); rintro e w2 ⟨rfl, hb2⟩)
        | (go_at_call 9; (with_reducible refine (HB.out w2 hb2).mono ?_); rintro e w3 ⟨rfl, rfl⟩)
        | (go_at_call 10; (with_reducible refine (HK.out _).mono ?_); rintro e w3 ⟨rfl, hb3⟩))
      go_ret
      exact ⟨rfl, hb2.trans (hb3.mono hb2.size)⟩
    | false =>
      rw [hl] at HB
      clear hg hl
      by_cases hx : errWeb L l = 0
      · have HPa := hid_ (partL_one (reach_self hx))
        generalize resReach L l = S at *
        have HPt := hid_ (fun a n c (P : List (List Int)) a' n' c' W (h1 : ListsAt W a n c [l]) (h2 : ListsAt W a' n' c' S) => show Calls Try.prog 14 #[.slice a n c, .slice a' n' c'] W fun e w' => e = .returned (.bool true) ∧ Below W.heap.size W w' from
          (partL_calls a n c [l] a' n' c' S W h1 h2).mono fun e w' ⟨he, hq⟩ => ⟨by rw [he, HPa.out], below_drew hq⟩)
        obtain ⟨m, hm⟩ : ∃ m, S.length = m := ⟨_, rfl⟩
        have HL := hid_ hm
        rw [hx] at HP HF
        clear hm hx
        go_enter Try.func3, Try.ntmps3
        go_wp2_with (first
          | (go_at_call 8; (with_reducible refine HG.out.mono ?_); rintro e w2 ⟨rfl, hb2⟩)
          | (go_at_call 9; (with_reducible refine (HB.out w2 hb2).mono ?_); rintro e w3 ⟨rfl, rfl⟩)
          | (go_at_call 11; (with_reducible refine (HP.out w2 hb2).mono ?_); rintro e w3 ⟨v3, rfl, hO3, hc3⟩; have hb3 := hb2.trans (hc3.mono hb2.size); obtain ⟨a3, c3, rfl, hi3⟩ := hO3.at_; have Hi3 := hid_ hi3; rw [HL.out] at Hi3 ⊢; clear hi3 hO3)
          | (go_at_call 12; (with_reducible refine (HF.out w3 hb3).mono ?_); rintro e w4 ⟨v4, rfl, hO4, hc4⟩; have hb4 := hb3.trans (hc4.mono hb3.size); obtain ⟨a4, c4, rfl, hi4⟩ := hO4.at_; have Hi4 := hid_ hi4; have Hi34 := hid_ (Hi3.out.below hc4 (Nat.le_refl _)); rw [HL.out] at Hi4 ⊢; clear hi4 hO4)
          | (go_at_call 13; (with_reducible refine (HS.out _ _ _ S _ _ _ w4 Hi34.out Hi4.out).mono ?_); rintro e w9 ⟨rfl, hc9⟩; have hb9 := hb4.trans (hc9.mono hb4.size); have Hi39 := hid_ (Hi34.out.below hc9 (Nat.le_refl _)))
          | (go_at_call 14; (with_reducible refine (HPt.out _ _ _ S _ _ _ _ (ListsAt.one rfl (HI.out w9 hb9)) (Hi39.out.below (below_alloc w9 _) (Nat.le_refl _))).mono ?_); rintro e w10 ⟨rfl, hc10⟩; have hb10 := hb9.trans (((below_alloc w9 _).trans (hc10.mono (by simp))).mono hb9.size))
          | (go_at_call 10; (with_reducible refine (HK.out _).mono ?_); rintro e wk ⟨rfl, hbk⟩))
        go_ret
        exact ⟨rfl, hb10.trans (hbk.mono hb10.size)⟩
      · have hq : (errWeb L l != 0) = true := by simpa using hx
        generalize resReach L l = S at *
        obtain ⟨m, hm⟩ : ∃ m, S.length = m := ⟨_, rfl⟩
        have HL := hid_ hm
        clear hm hx
        generalize errWeb L l = x at *
        go_enter Try.func3, Try.ntmps3
        go_wp2_with (first
          | (go_at_call 8; (with_reducible refine HG.out.mono ?_); rintro e w2 ⟨rfl, hb2⟩)
          | (go_at_call 9; (with_reducible refine (HB.out w2 hb2).mono ?_); rintro e w3 ⟨rfl, rfl⟩)
          | (go_at_call 11; (with_reducible refine (HP.out w2 hb2).mono ?_); rintro e w3 ⟨v3, rfl, hO3, hc3⟩; have hb3 := hb2.trans (hc3.mono hb2.size); obtain ⟨a3, c3, rfl, hi3⟩ := hO3.at_; have Hi3 := hid_ hi3; rw [HL.out] at Hi3 ⊢; clear hi3 hO3)
          | (go_at_call 12; (with_reducible refine (HF.out w3 hb3).mono ?_); rintro e w4 ⟨v4, rfl, hO4, hc4⟩; have hb4 := hb3.trans (hc4.mono hb3.size); obtain ⟨a4, c4, rfl, hi4⟩ := hO4.at_; have Hi4 := hid_ hi4; have Hi34 := hid_ (Hi3.out.below hc4 (Nat.le_refl _)); rw [HL.out] at Hi4 ⊢; clear hi4 hO4)
          | (go_at_call 13; (with_reducible refine (HS.out _ _ _ S _ _ _ w4 Hi34.out Hi4.out).mono ?_); rintro e w9 ⟨rfl, hc9⟩; have hb9 := hb4.trans (hc9.mono hb4.size))
          | (go_at_call 10; (with_reducible refine (HK.out _).mono ?_); rintro e wk ⟨rfl, hbk⟩))
        go_ret
        exact ⟨rfl, hb9.trans (hbk.mono hb9.size)⟩
end Go.Proofs.Ytgipkbiogldjpaa
