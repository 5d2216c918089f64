import Derived.Test.YtebbmhlkdfmmcaaGreatJy
namespace Go.Proofs.YtebbmhlkdfmmcaaGreat
open Go.RowKit Go.Proofs.Kv

/-! ### what a word reaches, and the error of it -/
def webR (L : List Rl) (l : List Int) : Option Web := if errSW L [l] = 0 then exploreF L l else none
def errWeb (L : List Rl) (l : List Int) : Int := if errSW L [l] = 0 then (if (exploreF L l).isSome then 0 else 3) else errSW L [l]
theorem webR_some {L : List Rl} {l : List Int} {y : Web} (h : webR L l = some y) : errWeb L l = 0 ∧ errSW L [l] = 0 ∧ exploreF L l = some y := by
  unfold webR at h
  by_cases he : errSW L [l] = 0
  · rw [if_pos he] at h
    exact ⟨by rw [errWeb, if_pos he, h]; rfl, he, h⟩
  · rw [if_neg he] at h; cases h
theorem webR_none {L : List Rl} {l : List Int} (h : webR L l = none) : errWeb L l ≠ 0 := by
  unfold webR at h
  by_cases he : errSW L [l] = 0
  · rw [if_pos he] at h
    rw [errWeb, if_pos he, h]; simp
  · rw [errWeb, if_neg he]; exact he
theorem webOf_good {A : Option Addr} {N C : Nat} {L : List Rl} {a : Option Addr} {n c : Nat} {l : List Int} {w : World} (h : RulesAt w A N C L) (hI : IntsAt w a n c l) {y : Web} (hy : webR L l = some y) :
    Calls Tryz.prog 28 #[.slice A N C, .slice a n c] w fun e w' => ∃ F Bx Bm aw cw aa ca, e = .returned (.tuple #[.agg #[.slice aw y.words.length cw, .map (some Bm), .slice aa y.arcs.length ca], .int .i64 0]) ∧
      WebAt F w' Bx Bm w.heap.size (.slice aw y.words.length cw) (.slice aa y.arcs.length ca) y.words y.words y.arcs ∧ WebOk y ∧ Below w.heap.size w w' := by
  obtain ⟨_, he, hx⟩ := webR_some hy
  refine (webOf_calls A N C L a n c l w h hI).mono fun e w' hp => ?_
  rw [WebPost, if_pos he, ExplorePost, hx] at hp
  obtain ⟨F, Bx, Bm, vw, va, he, hw, hy, hb⟩ := hp
  obtain ⟨vs, v1, _⟩ := hw.words
  obtain ⟨us, u1, _⟩ := hw.arcs
  obtain ⟨aw, cw, rfl⟩ := own_any v1
  obtain ⟨aa, ca, rfl⟩ := own_any u1
  exact ⟨F, Bx, Bm, aw, cw, aa, ca, he, hw, hy, hb⟩
theorem webOf_bad {A : Option Addr} {N C : Nat} {L : List Rl} {a : Option Addr} {n c : Nat} {l : List Int} {w : World} (h : RulesAt w A N C L) (hI : IntsAt w a n c l) (hy : webR L l = none) :
    Calls Tryz.prog 28 #[.slice A N C, .slice a n c] w fun e w' => e = .returned (.tuple #[.agg #[.slice none 0 0, .map none, .slice none 0 0], .int .i64 (errWeb L l)]) ∧ Below w.heap.size w w' := by
  refine (webOf_calls A N C L a n c l w h hI).mono fun e w' hp => ?_
  unfold webR at hy
  unfold errWeb
  by_cases he : errSW L [l] = 0
  · rw [if_pos he] at hy
    rw [WebPost, if_pos he, ExplorePost, hy] at hp
    rw [if_pos he, hy]
    exact hp
  · rw [WebPost, if_neg he] at hp
    rw [if_neg he]
    exact hp
def resEnds (L : List Rl) (l : List Int) : List (List Int) := match webR L l with | some y => endsL y | none => []
set_option maxRecDepth 100000 in
set_option maxHeartbeats 4000000 in
theorem feEnds_calls (A : Option Addr) (N C : Nat) (L : List Rl) (a : Option Addr) (n c : Nat) (l : List Int) (w : World) (h : RulesAt w A N C L) (hI : IntsAt w a n c l) :
    Calls Tryz.prog 10 #[.slice A N C, .slice a n c] w fun e w' => ∃ v, e = .returned (.tuple #[v, .int .i64 (errWeb L l)]) ∧ OwnL 23 w' w.heap.size v (resEnds L l) ∧ Below w.heap.size w w' := by
  cases hy : webR L l with
  | none =>
    have HW := hid_ (webOf_bad h hI hy)
    have hne := webR_none hy
    have Hr : Hid (resEnds L l = []) := hid_ (by rw [resEnds, hy])
    generalize errWeb L l = x at *
    have hq : (x != 0) = true := by simpa using hne
    clear hy hne
    go_enter Tryz.func10, Tryz.ntmps10
    go_wp2_with (go_at_call 28; (with_reducible refine HW.out.mono ?_); rintro e w3 ⟨rfl, hb3⟩)
    go_ret2
    exact ⟨_, rfl, by rw [Hr.out]; exact OwnL.nil _ _ _, hb3.trans ((below_alloc w3 _).mono hb3.size)⟩
  | some y =>
    have HW := hid_ (webOf_good h hI hy)
    have Hr : Hid (resEnds L l = endsL y) := hid_ (by rw [resEnds, hy])
    rw [(webR_some hy).1]
    have HEn := hid_ ends_calls
    clear hy
    go_enter Tryz.func10, Tryz.ntmps10
    go_wp2_with (first
      | (go_at_call 28; (with_reducible refine HW.out.mono ?_); rintro e w3 ⟨F, Bx, Bm, aw, cw, aa, ca, rfl, hW3, hY3, hb3⟩; have hWa := hid_ (fun o => hW3.next (below_alloc w3 o)); have HY := hid_ hY3; have Hb3 := hid_ hb3; clear hW3 hY3)
      | (go_at_call 29; (with_reducible refine (HEn.out F _ Bx Bm _ aw cw aa ca _ y (hWa.out _) HY.out).mono ?_); rintro e w5 ⟨v5, rfl, hO5, hb5⟩))
    go_ret2
    exact ⟨_, rfl, by rw [Hr.out]; exact hO5.base (by have := Hb3.out.size; simp; omega), Hb3.out.trans (((below_alloc w3 _).trans (hb5.mono (by simp))).mono Hb3.out.size)⟩
end Go.Proofs.YtebbmhlkdfmmcaaGreat
