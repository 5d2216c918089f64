import Derived.Test.YtebbmhlkdfmmcaaGreatJk2
namespace Go.Proofs.YtebbmhlkdfmmcaaGreat
open Go.RowKit Go.Proofs.Kv Go

/-! ### Join of the program -/
theorem lists2_3 (u : World) (F : TypeId) {a0 a1 : Option Addr} {n0 c0 n1 c1 : Nat} {l0 l1 : List Int} (h0 : IntsAt u a0 n0 c0 l0) (h1 : IntsAt u a1 n1 c1 l1) :
    ListsAt (u.alloc (.cells #[.slice a0 n0 c0, .slice a1 n1 c1] F)) (some ⟨u.heap.size, 0, none⟩) 2 2 [l0, l1] := by
  have hb := below_alloc u (.cells #[.slice a0 n0 c0, .slice a1 n1 c1] F)
  refine ⟨rfl, Nat.le_refl _, by omega, fun i hi => ?_⟩
  rcases (show i = 0 ∨ i = 1 by omega) with rfl | rfl
  · exact ⟨u.heap.size, 0, _, _, _, rfl, by simp, cells_alloc _ _ _ 0, h0.below hb (Nat.le_refl _)⟩
  · exact ⟨u.heap.size, 0, _, _, _, rfl, by simp, cells_alloc _ _ _ 1, h1.below hb (Nat.le_refl _)⟩
theorem errWeb_val {L : List Rl} {l : List Int} (h : errSW L [l] = 0) : errWeb L l = if (exploreF L l).isSome then 0 else 3 := by unfold errWeb; rw [if_pos h]
theorem explore_good {A : Option Addr} {N C : Nat} {L : List Rl} {a : Option Addr} {n c : Nat} {l : List Int} {w : World} (h : RulesAt w A N C L) (hI : IntsAt w a n c l) (hs : validS L = 0) (hl : validW l = 0) {y : Web} (hy : exploreF L l = some y) :
    Calls Tryz.prog 37 #[.slice A N C, .slice a n c] w fun e w' => ∃ Bm aw cw aa na ca, e = .returned (.tuple #[.agg #[.slice aw y.words.length cw, .map (some Bm), .slice aa na ca], .int .i64 0]) ∧ ListsAt w' aw y.words.length cw y.words ∧ NumsAt w' Bm y.words ∧ Below w.heap.size w w' := by
  have hN : N ≤ 6 := by have := (validS_ok hs).1; have := h.len; omega
  refine (explore_calls A N C L a n c l w h hI (validS_ok hs).2 hN hl).mono fun e w' hp => ?_
  unfold ExplorePost at hp
  rw [hy] at hp
  obtain ⟨F, Bx, Bm, vw, va, he, hw, -, hb⟩ := hp
  obtain ⟨us, u1, -⟩ := hw.arcs
  obtain ⟨aa, ca, rfl⟩ := own_any u1
  obtain ⟨aw, cw, rfl, hL⟩ := hw.ownL.at_
  exact ⟨Bm, aw, cw, aa, _, ca, he, hL, hw.nums, hb⟩
theorem explore_bad {A : Option Addr} {N C : Nat} {L : List Rl} {a : Option Addr} {n c : Nat} {l : List Int} {w : World} (h : RulesAt w A N C L) (hI : IntsAt w a n c l) (hs : validS L = 0) (hl : validW l = 0) (hy : exploreF L l = none) :
    Calls Tryz.prog 37 #[.slice A N C, .slice a n c] w fun e w' => e = .returned (.tuple #[.agg #[.slice none 0 0, .map none, .slice none 0 0], .int .i64 3]) ∧ Below w.heap.size w w' := by
  have hN : N ≤ 6 := by have := (validS_ok hs).1; have := h.len; omega
  refine (explore_calls A N C L a n c l w h hI (validS_ok hs).2 hN hl).mono fun e w' hp => ?_
  unfold ExplorePost at hp
  rw [hy] at hp
  exact hp
theorem join_web {L : List Rl} {u v : List Int} (he : errSW L [u, v] = 0) {x y : Web} (hx : exploreF L u = some x) (hy : exploreF L v = some y) : errJn L u v = 0 ∧ joinB L u v = meetB y.words x.words ∧ ∀ l ∈ y.words, validW l = 0 := by
  obtain ⟨hs, hu, hv, e1, e2⟩ := errSW2_ok he
  have w1 : errWeb L u = 0 := by rw [errWeb_val e1, hx]; rfl
  have w2 : errWeb L v = 0 := by rw [errWeb_val e2, hy]; rfl
  have hj : errJn L u v = 0 := by unfold errJn; rw [if_pos he, if_pos w1, w2]
  obtain ⟨-, g1⟩ := exploreF_some (validS_ok hs).2 hu hx
  obtain ⟨k1, g2⟩ := exploreF_some (validS_ok hs).2 hv hy
  refine ⟨hj, ?_, k1.ok⟩
  unfold joinB
  rw [decide_eq_true hj, Bool.true_and]
  exact meetB_eq ⟨fun ⟨z, h1, h2⟩ => ⟨z, (g2 z).2 ((mem_reach w2).1 h1), (g1 z).2 ((mem_reach w1).1 h2)⟩, fun ⟨z, h1, h2⟩ => ⟨z, (mem_reach w2).2 ((g2 z).1 h1), (mem_reach w1).2 ((g1 z).1 h2)⟩⟩
theorem joinB_no {L : List Rl} {u v : List Int} (h : errJn L u v ≠ 0) : joinB L u v = false := by unfold joinB; rw [decide_eq_false h]; rfl
set_option maxRecDepth 100000 in
set_option maxHeartbeats 4000000 in
theorem feJoin_calls (A : Option Addr) (N C : Nat) (L : List Rl) (a : Option Addr) (n c : Nat) (u : List Int) (a' : Option Addr) (n' c' : Nat) (v : List Int) (w : World) (h : RulesAt w A N C L) (hu : IntsAt w a n c u) (hv : IntsAt w a' n' c' v) :
    Calls Tryz.prog 19 #[.slice A N C, .slice a n c, .slice a' n' c'] w fun e w' => e = .returned (.tuple #[.bool (joinB L u v), .int .i64 (errJn L u v)]) ∧ Below w.heap.size w w' := by
  obtain ⟨w1, hw1⟩ : ∃ w1, w.alloc (.cells #[.slice a n c, .slice a' n' c'] 23) = w1 := ⟨_, rfl⟩
  have b1 : Below w.heap.size w w1 := by rw [← hw1]; exact below_alloc _ _
  have HV := hid_ (feValid_calls A N C L _ 2 2 [u, v] w1 (h.below b1 (Nat.le_refl _)) (by rw [← hw1]; exact lists2_3 _ _ hu hv))
  have HJ : Hid (errJn L u v = if errSW L [u, v] = 0 then (if errWeb L u = 0 then errWeb L v else errWeb L u) else errSW L [u, v]) := hid_ rfl
  have Hb1 := hid_ b1
  by_cases he : errSW L [u, v] = 0
  · obtain ⟨hs, hvu, hvv, e1, e2⟩ := errSW2_ok he
    have HR := hid_ (fun W (hW : Below w.heap.size w W) => h.below hW (Nat.le_refl _))
    have HU := hid_ (fun W (hW : Below w.heap.size w W) => hu.below hW (Nat.le_refl _))
    have HVv := hid_ (fun W (hW : Below w.heap.size w W) => hv.below hW (Nat.le_refl _))
    rw [he] at HV
    cases hx : exploreF L u with
    | none =>
      have hj : errJn L u v = 3 := by rw [HJ.out, if_pos he, if_neg (by rw [errWeb_val e1, hx]; decide), errWeb_val e1, hx]; rfl
      rw [joinB_no (by rw [hj]; decide), hj]
      have HE := hid_ (fun W (hW : Below w.heap.size w W) => explore_bad (HR.out W hW) (HU.out W hW) hs hvu hx)
      clear h hu hv b1 hj he hs hvu hvv e1 e2 HJ hx
      go_enter Tryz.func19, Tryz.ntmps19
      go_wp2_with (first
        | (go_at_call 36; (with_reducible refine HV.out.mono ?_); rintro e w2 ⟨rfl, hb2⟩; have bb2 := Hb1.out.trans (hb2.mono Hb1.out.size))
        | (go_at_call 37; (with_reducible refine (HE.out w2 bb2).mono ?_); rintro e w3 ⟨rfl, hb3⟩; have bb3 := bb2.trans (hb3.mono bb2.size)))
      go_ret2
      exact ⟨rfl, bb3.trans ((below_alloc _ _).mono bb3.size)⟩
    | some x =>
      cases hy : exploreF L v with
      | none =>
        have hj : errJn L u v = 3 := by rw [HJ.out, if_pos he, if_pos (by rw [errWeb_val e1, hx]; rfl), errWeb_val e2, hy]; rfl
        rw [joinB_no (by rw [hj]; decide), hj]
        have HE := hid_ (fun W (hW : Below w.heap.size w W) => explore_good (HR.out W hW) (HU.out W hW) hs hvu hx)
        have HE2 := hid_ (fun W (hW : Below w.heap.size w W) => explore_bad (HR.out W hW) (HVv.out W hW) hs hvv hy)
        obtain ⟨xl, hxl⟩ : ∃ xl, x.words.length = xl := ⟨_, rfl⟩
        rw [hxl] at HE
        clear h hu hv b1 hj he hs hvu hvv e1 e2 HJ hx hy hxl
        go_enter Tryz.func19, Tryz.ntmps19
        go_wp2_with (first
          | (go_at_call 36; (with_reducible refine HV.out.mono ?_); rintro e w2 ⟨rfl, hb2⟩; have bb2 := Hb1.out.trans (hb2.mono Hb1.out.size))
          | (go_at_call 37; (with_reducible refine (HE.out w2 bb2).mono ?_); rintro e w3 ⟨Bm, aw, cw, aa, na, ca, rfl, -, -, hb3⟩; have bb3 := bb2.trans (hb3.mono bb2.size); have bb4 := bb3.trans ((below_alloc w3 (.cells #[.slice aw xl cw, .map (some Bm), .slice aa na ca] 49)).mono bb3.size); have HE4 := hid_ (HE2.out _ bb4))
          | (go_at_call 37; (with_reducible refine HE4.out.mono ?_); rintro e w5 ⟨rfl, hb5⟩; have bb5 := bb4.trans (hb5.mono bb4.size)))
        go_ret2
        exact ⟨rfl, bb5.trans ((below_alloc _ _).mono bb5.size)⟩
      | some y =>
        obtain ⟨hj, hjb, hok⟩ := join_web he hx hy
        rw [hjb, hj]
        have HE := hid_ (fun W (hW : Below w.heap.size w W) => explore_good (HR.out W hW) (HU.out W hW) hs hvu hx)
        have HE2 := hid_ (fun W (hW : Below w.heap.size w W) => explore_good (HR.out W hW) (HVv.out W hW) hs hvv hy)
        have HCt := hid_ (fun D Bm a k ca W (hG : ListsAt W a k ca y.words) (hD : W.cell? ⟨D, 1, none⟩ = some (.map (some Bm))) (hN : NumsAt W Bm x.words) (hDl : D < W.heap.size) => joinHas_calls D Bm x.words a k ca y.words W hG hok hD hN hDl)
        obtain ⟨xl, hxl⟩ : ∃ xl, x.words.length = xl := ⟨_, rfl⟩
        obtain ⟨yl, hyl⟩ : ∃ yl, y.words.length = yl := ⟨_, rfl⟩
        rw [hxl] at HE
        rw [hyl] at HE2
        clear h hu hv b1 hj hjb hok he hs hvu hvv e1 e2 HJ hx hy hxl hyl
        go_enter Tryz.func19, Tryz.ntmps19
        go_wp2_with (first
          | (go_at_call 36; (with_reducible refine HV.out.mono ?_); rintro e w2 ⟨rfl, hb2⟩; have bb2 := Hb1.out.trans (hb2.mono Hb1.out.size))
          | (go_at_call 37; (with_reducible refine (HE.out w2 bb2).mono ?_); rintro e w3 ⟨Bm, aw, cw, aa, na, ca, rfl, -, hN3, hb3⟩; have bb3 := bb2.trans (hb3.mono bb2.size); obtain ⟨W3, hW3⟩ : ∃ W3, w3.alloc (.cells #[.slice aw xl cw, .map (some Bm), .slice aa na ca] 49) = W3 := ⟨_, rfl⟩; have bW3 : Below w3.heap.size w3 W3 := (by rw [← hW3]; exact below_alloc _ _); have bb4 := bb3.trans (bW3.mono bb3.size); have hBm3 : Bm < w3.heap.size := (by (obtain ⟨es, clock, hb9⟩ := hN3.obj; exact (Array.getElem?_eq_some_iff.1 hb9).1)); have hD3 : w3.heap.size < W3.heap.size := (by rw [← hW3]; simp); have m3 : W3.cell? ⟨w3.heap.size, 1, none⟩ = some (.map (some Bm)) := (by rw [← hW3]; exact cells_alloc _ _ _ 1); have hN4 := hN3.block (bW3.block Bm hBm3); have HE4 := hid_ (HE2.out _ bb4); have hBm4 : Bm < W3.heap.size := (Nat.lt_trans hBm3 hD3); clear hN3)
          | (go_at_call 37; (with_reducible refine HE4.out.mono ?_); rintro e w5 ⟨Bm5, aw5, cw5, aa5, na5, ca5, rfl, hL5, -, hb5⟩; have bb5 := bb4.trans (hb5.mono bb4.size); obtain ⟨W5, hW5⟩ : ∃ W5, w5.alloc (.cells #[.slice aw5 yl cw5, .map (some Bm5), .slice aa5 na5 ca5] 49) = W5 := ⟨_, rfl⟩; have bW5 : Below w5.heap.size w5 W5 := (by rw [← hW5]; exact below_alloc _ _); have bb6 := bb5.trans (bW5.mono bb5.size); have s0 : W5.cell? ⟨w5.heap.size, 0, none⟩ = some (.slice aw5 yl cw5) := (by rw [← hW5]; exact cells_alloc _ _ _ 0); have hc5 := hb5.trans (bW5.mono hb5.size); have m5 := (hc5.cell (p := ⟨w3.heap.size, 1, none⟩) hD3).trans m3; have HC5 := hid_ (HCt.out _ _ _ _ _ W5 (hL5.below bW5 (Nat.le_refl _)) m5 (hN4.block (hc5.block Bm hBm4)) (Nat.lt_of_lt_of_le hD3 hc5.size)); clear hL5 hN4)
          | (go_at_call 38; (with_reducible refine HC5.out.mono ?_); rintro e w7 ⟨rfl, hb7⟩; have bb7 := bb6.trans (hb7.mono bb6.size)))
        go_ret2
        exact ⟨rfl, bb7⟩
  · have hq : (errSW L [u, v] != 0) = true := by simpa using he
    have hj : errJn L u v = errSW L [u, v] := by rw [HJ.out, if_neg he]
    rw [joinB_no (by rw [hj]; exact he), hj]
    generalize errSW L [u, v] = x at *
    clear h hu hv b1 hj he HJ
    go_enter Tryz.func19, Tryz.ntmps19
    go_wp2_with (go_at_call 36; (with_reducible refine HV.out.mono ?_); rintro e w2 ⟨rfl, hb2⟩)
    go_ret2
    exact ⟨rfl, Hb1.out.trans (hb2.mono Hb1.out.size)⟩
end Go.Proofs.YtebbmhlkdfmmcaaGreat
