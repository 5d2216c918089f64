import Derived.Test.YtebbmhlkdfmmcaaGreatJk3
import Derived.Test.YtebbmhlkdfmmcaaGreatJn
namespace Go.Proofs.YtebbmhlkdfmmcaaGreat
open Go.RowKit Go.Proofs.Kv Go

/-! ### Join of the document -/
theorem join_graph {L : List Rl} {u v : List Int} (he : errSW L [u, v] = 0) {x y : Fd} (hx : graphR L u = some x) (hy : graphR L v = some y) : errJn L u v = 0 ∧ joinB L u v = meetB x.words y.words := by
  obtain ⟨hs, hu, hv, e1, e2⟩ := errSW2_ok he
  obtain ⟨w1, -, hx⟩ := graphR_some hx
  obtain ⟨w2, -, hy⟩ := graphR_some hy
  have hj : errJn L u v = 0 := by unfold errJn; rw [if_pos he, if_pos w1, w2]
  obtain ⟨-, g1⟩ := reachedF_some hs hu hx
  obtain ⟨-, g2⟩ := reachedF_some hs hv hy
  refine ⟨hj, ?_⟩
  unfold joinB
  rw [decide_eq_true hj, Bool.true_and]
  exact meetB_eq ⟨fun ⟨z, h1, h2⟩ => ⟨z, (g1 z).2 ((mem_reach w1).1 h2), (g2 z).2 ((mem_reach w2).1 h1)⟩, fun ⟨z, h1, h2⟩ => ⟨z, (mem_reach w2).2 ((g2 z).1 h2), (mem_reach w1).2 ((g1 z).1 h1)⟩⟩
theorem graph_words {F : Nat → Prop} {w : World} {Bx B : Nat} {aw an af : Option Addr} {xl nl fl cw cn cf : Nat} {W N : List (List Int)} {D : List Int} (h : GrAt F w Bx B (.slice aw xl cw) (.slice an nl cn) (.slice af fl cf) W N D) : ListsAt w aw xl cw W := by
  obtain ⟨a', c', e, hL⟩ := h.ownL.at_
  injection e with e1 e2 e3
  subst e1; subst e2; subst e3; exact hL
set_option maxRecDepth 100000 in
set_option maxHeartbeats 4000000 in
theorem r3Join_calls (A : Option Addr) (N C : Nat) (L : List Rl) (a : Option Addr) (n c : Nat) (u : List Int) (a' : Option Addr) (n' c' : Nat) (v : List Int) (w : World) (h : RulesAt w A N C L) (hu : IntsAt w a n c u) (hv : IntsAt w a' n' c' v) :
    Calls Tryz.prog 20 #[.slice A N C, .slice a n c, .slice a' n' c'] w fun e w' => e = .returned (.tuple #[.bool (joinB L u v), .int .i64 (errJn L u v)]) ∧ Below w.heap.size w w' := by
  have HV := hid_ (worded_calls A N C L a n c u a' n' c' v w h hu hv)
  have HJ : Hid (errJn L u v = if errSW L [u, v] = 0 then (if errWeb L u = 0 then errWeb L v else errWeb L u) else errSW L [u, v]) := hid_ rfl
  by_cases he : errSW L [u, v] = 0
  · have HR := hid_ (fun W (hW : Below w.heap.size w W) => h.below hW (Nat.le_refl _))
    have HU := hid_ (fun W (hW : Below w.heap.size w W) => hu.below hW (Nat.le_refl _))
    have HVv := hid_ (fun W (hW : Below w.heap.size w W) => hv.below hW (Nat.le_refl _))
    rw [he] at HV
    cases hx : graphR L u with
    | none =>
      have h0 := graphR_none hx
      have hj : errJn L u v = errWeb L u := by rw [HJ.out, if_pos he, if_neg h0]
      rw [joinB_no (by rw [hj]; exact h0), hj]
      have HE := hid_ (fun W (hW : Below w.heap.size w W) => graphed_bad (HR.out W hW) (HU.out W hW) hx)
      have hq : (errWeb L u != 0) = true := by simpa using h0
      generalize errWeb L u = x at *
      clear h hu hv hj he HJ hx h0
      go_enter Tryz.func20, Tryz.ntmps20
      go_wp2_with (first
        | (go_at_call 41; (with_reducible refine HV.out.mono ?_); rintro e w2 ⟨rfl, hb2⟩)
        | (go_at_call 30; (with_reducible refine (HE.out w2 hb2).mono ?_); rintro e w3 ⟨rfl, hb3⟩; have bb3 := hb2.trans (hb3.mono hb2.size)))
      go_ret2
      exact ⟨rfl, bb3.trans ((below_alloc _ _).mono bb3.size)⟩
    | some x =>
      cases hy : graphR L v with
      | none =>
        have h0 := graphR_none hy
        have hj : errJn L u v = errWeb L v := by rw [HJ.out, if_pos he, if_pos (graphR_some hx).1]
        rw [joinB_no (by rw [hj]; exact h0), hj]
        have HE := hid_ (fun W (hW : Below w.heap.size w W) => graphed_good (HR.out W hW) (HU.out W hW) hx)
        have HE2 := hid_ (fun W (hW : Below w.heap.size w W) => graphed_bad (HR.out W hW) (HVv.out W hW) hy)
        have hq : (errWeb L v != 0) = true := by simpa using h0
        generalize errWeb L v = xe at *
        obtain ⟨xl, hxl⟩ : ∃ xl, x.words.length = xl := ⟨_, rfl⟩
        obtain ⟨nl, hnl⟩ : ∃ nl, x.next.length = nl := ⟨_, rfl⟩
        obtain ⟨fl, hfl⟩ : ∃ fl, x.far.length = fl := ⟨_, rfl⟩
        rw [hxl, hnl, hfl] at HE
        clear h hu hv hj he HJ hx hy h0 hxl hnl hfl
        go_enter Tryz.func20, Tryz.ntmps20
        go_wp2_with (first
          | (go_at_call 41; (with_reducible refine HV.out.mono ?_); rintro e w2 ⟨rfl, hb2⟩)
          | (go_at_call 30; (with_reducible refine (HE.out w2 hb2).mono ?_); rintro e w3 ⟨F, Bx, aw, cw, an, cn, af, cf, rfl, -, hb3⟩; have bb3 := hb2.trans (hb3.mono hb2.size); have bb4 := bb3.trans ((below_alloc w3 (.cells #[.slice aw xl cw, .slice an nl cn, .slice af fl cf] 54)).mono bb3.size); have HE4 := hid_ (HE2.out _ bb4))
          | (go_at_call 30; (with_reducible refine HE4.out.mono ?_); rintro e w5 ⟨rfl, hb5⟩; have bb5 := bb4.trans (hb5.mono bb4.size)))
        go_ret2
        exact ⟨rfl, bb5.trans ((below_alloc _ _).mono bb5.size)⟩
      | some y =>
        obtain ⟨hj, hjb⟩ := join_graph he hx hy
        rw [hjb, hj]
        have HE := hid_ (fun W (hW : Below w.heap.size w W) => graphed_good (HR.out W hW) (HU.out W hW) hx)
        have HE2 := hid_ (fun W (hW : Below w.heap.size w W) => graphed_good (HR.out W hW) (HVv.out W hW) hy)
        obtain ⟨xl, hxl⟩ : ∃ xl, x.words.length = xl := ⟨_, rfl⟩
        obtain ⟨nl, hnl⟩ : ∃ nl, x.next.length = nl := ⟨_, rfl⟩
        obtain ⟨fl, hfl⟩ : ∃ fl, x.far.length = fl := ⟨_, rfl⟩
        obtain ⟨yl, hyl⟩ : ∃ yl, y.words.length = yl := ⟨_, rfl⟩
        obtain ⟨ml, hml⟩ : ∃ ml, y.next.length = ml := ⟨_, rfl⟩
        obtain ⟨gl, hgl⟩ : ∃ gl, y.far.length = gl := ⟨_, rfl⟩
        rw [hxl, hnl, hfl] at HE
        rw [hyl, hml, hgl] at HE2
        clear h hu hv hj hjb he HJ hx hy hxl hnl hfl hyl hml hgl
        go_enter Tryz.func20, Tryz.ntmps20
        go_wp2_with (first
          | (go_at_call 41; (with_reducible refine HV.out.mono ?_); rintro e w2 ⟨rfl, hb2⟩)
          | (go_at_call 30; (with_reducible refine (HE.out w2 hb2).mono ?_); rintro e w3 ⟨F, Bx, aw, cw, an, cn, af, cf, rfl, hG3, hb3⟩; have hL3 := graph_words hG3; have bb3 := hb2.trans (hb3.mono hb2.size); obtain ⟨W3, hW3⟩ : ∃ W3, w3.alloc (.cells #[.slice aw xl cw, .slice an nl cn, .slice af fl cf] 54) = W3 := ⟨_, rfl⟩; have bW3 : Below w3.heap.size w3 W3 := (by rw [← hW3]; exact below_alloc _ _); have bb4 := bb3.trans (bW3.mono bb3.size); have s3 : W3.cell? ⟨w3.heap.size, 0, none⟩ = some (.slice aw xl cw) := (by rw [← hW3]; exact cells_alloc _ _ _ 0); have hL4 := hL3.below bW3 (Nat.le_refl _); have HE4 := hid_ (HE2.out _ bb4); clear hG3 hL3)
          | (go_at_call 30; (with_reducible refine HE4.out.mono ?_); rintro e w5 ⟨F5, Bx5, aw5, cw5, an5, cn5, af5, cf5, rfl, hG5, hb5⟩; have hL5 := graph_words hG5; have bb5 := bb4.trans (hb5.mono bb4.size); obtain ⟨W5, hW5⟩ : ∃ W5, w5.alloc (.cells #[.slice aw5 yl cw5, .slice an5 ml cn5, .slice af5 gl cf5] 54) = W5 := ⟨_, rfl⟩; have bW5 : Below w5.heap.size w5 W5 := (by rw [← hW5]; exact below_alloc _ _); have bb6 := bb5.trans (bW5.mono bb5.size); have s5 : W5.cell? ⟨w5.heap.size, 0, none⟩ = some (.slice aw5 yl cw5) := (by rw [← hW5]; exact cells_alloc _ _ _ 0); have hc5 := hb5.trans (bW5.mono hb5.size); have s35 := cell_below s3 hc5; have HM5 := hid_ (meet_calls aw5 yl cw5 y.words aw xl cw x.words W5 (hL5.below bW5 (Nat.le_refl _)) (hL4.below hc5 (Nat.le_refl _))); clear hG5 hL5 hL4)
          | (go_at_call 42; (with_reducible refine HM5.out.mono ?_); rintro e w7 ⟨rfl, q7, rfl⟩))
        go_ret2
        exact ⟨rfl, below_drewN bb6 _⟩
  · have hq : (errSW L [u, v] != 0) = true := by simpa using he
    have hj : errJn L u v = errSW L [u, v] := by rw [HJ.out, if_neg he]
    rw [joinB_no (by rw [hj]; exact he), hj]
    generalize errSW L [u, v] = x at *
    clear h hu hv hj he HJ
    go_enter Tryz.func20, Tryz.ntmps20
    go_wp2_with (go_at_call 41; (with_reducible refine HV.out.mono ?_); rintro e w2 ⟨rfl, hb2⟩)
    go_ret2
    exact ⟨rfl, hb2⟩
end Go.Proofs.YtebbmhlkdfmmcaaGreat
