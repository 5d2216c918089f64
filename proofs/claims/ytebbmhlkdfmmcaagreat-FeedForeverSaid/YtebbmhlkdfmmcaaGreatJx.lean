import Derived.Test.YtebbmhlkdfmmcaaGreatJu
namespace Go.Proofs.YtebbmhlkdfmmcaaGreat
open Go.RowKit Go.Proofs.Kv

/-! ### webOf -/
theorem WebAt.base {F : Nat → Prop} {w : World} {Bx Bm B B' : Nat} {vw va : Value} {Wn W : List (List Int)} {A : List (List ((Int × Int) × Nat))} (h : WebAt F w Bx Bm B' vw va Wn W A) (hB : B ≤ B') : WebAt F w Bx Bm B vw va Wn W A := by
  obtain ⟨vs, v1, v2⟩ := h.words
  obtain ⟨us, u1, u2, u3⟩ := h.arcs
  exact ⟨h.box, h.nums, ⟨vs, own_base v1 hB, v2⟩, ⟨us, own_base u1 hB, fun i u hu => ⟨own_base (u2 i u hu).1 hB, (u2 i u hu).2⟩, u3⟩, h.fx, h.fm, h.fw, h.fa, fun b hb => ⟨Nat.le_trans hB (h.lim b hb).1, (h.lim b hb).2⟩⟩
theorem ListsAt.one {w w1 : World} {a : Option Addr} {n c : Nat} {l : List Int} {E : TypeId} (hw : w.alloc (.cells #[.slice a n c] E) = w1) (h : IntsAt w a n c l) : ListsAt w1 (some ⟨w.heap.size, 0, none⟩) 1 1 [l] := by
  subst hw
  exact ⟨rfl, Nat.le_refl _, by omega, fun i hi => ⟨w.heap.size, 0, a, n, c, rfl, by simp, by
    obtain rfl : i = 0 := by omega
    exact cells_alloc _ _ _ 0, by
    obtain rfl : i = 0 := by omega
    exact h.below (below_alloc _ _) (Nat.le_refl _)⟩⟩
theorem own_any {w : World} {B E size n : Nat} {v : Value} {xs : List Value} (h : w.ownsRow B E size v n xs) : ∃ a c, v = .slice a n c := by
  rcases h.2 with ⟨rfl, h0⟩ | ⟨g, cap, cur, rfl, _⟩
  · exact ⟨none, 0, by rw [h0]⟩
  · exact ⟨_, cap, rfl⟩
def WebPost (L : List Rl) (l : List Int) (w : World) (e : Ending) (w' : World) : Prop :=
  if errSW L [l] = 0 then ExplorePost L l w e w' else e = .returned (.tuple #[.agg #[.slice none 0 0, .map none, .slice none 0 0], .int .i64 (errSW L [l])]) ∧ Below w.heap.size w w'
theorem errSW_ok {L : List Rl} {l : List Int} (h : errSW L [l] = 0) : validS L = 0 ∧ validW l = 0 := by
  unfold errSW firstW firstW at h
  by_cases h1 : validS L = 0
  · rw [if_pos h1] at h
    by_cases h2 : validW l = 0
    · exact ⟨h1, h2⟩
    · rw [if_neg h2] at h; exact absurd h h2
  · rw [if_neg h1] at h; exact absurd h h1
set_option maxRecDepth 100000 in
set_option maxHeartbeats 4000000 in
theorem webOf_calls (A : Option Addr) (N C : Nat) (L : List Rl) (a : Option Addr) (n c : Nat) (l : List Int) (w : World) (h : RulesAt w A N C L) (hI : IntsAt w a n c l) :
    Calls Tryz.prog 28 #[.slice A N C, .slice a n c] w (WebPost L l w) := by
  obtain ⟨w1, hw1⟩ : ∃ w1, w.alloc (.cells #[.slice none 0 0, .map none, .slice none 0 0] 49) = w1 := ⟨_, rfl⟩
  obtain ⟨w2, hw2⟩ : ∃ w2, w1.alloc (.cells #[.slice a n c] 23) = w2 := ⟨_, rfl⟩
  have c01 : Below w.heap.size w w1 := by rw [← hw1]; exact below_alloc _ _
  have c12 : Below w1.heap.size w1 w2 := by rw [← hw2]; exact below_alloc _ _
  have z1 : w1.heap.size = w.heap.size + 1 := by rw [← hw1]; simp
  have c02 : Below w.heap.size w w2 := c01.trans (c12.mono c01.size)
  have br1 : w1.heap[w.heap.size]? = some (.cells #[.slice none 0 0, .map none, .slice none 0 0] 49 (0, 0)) := by rw [← hw1]; exact heap_alloc_at _ _
  have hls := ListsAt.one hw2 (hI.below c01 (Nat.le_refl _))
  have HV := hid_ (feValid_calls A N C L _ 1 1 [l] w2 (h.below c02 (Nat.le_refl _)) hls)
  have Hbr := hid_ (fun W (hW : Below w2.heap.size w2 W) => ((hW.block w.heap.size (by have := c12.size; omega)).trans ((c12.block w.heap.size (by omega)).trans br1)))
  have Hc02 := hid_ c02
  have Hs2 : Hid (w.heap.size < w2.heap.size) := hid_ (by have := c12.size; omega)
  have HPost : Hid (∀ e w', WebPost L l w e w' = if errSW L [l] = 0 then ExplorePost L l w e w' else e = .returned (.tuple #[.agg #[.slice none 0 0, .map none, .slice none 0 0], .int .i64 (errSW L [l])]) ∧ Below w.heap.size w w') := hid_ (fun e w' => rfl)
  have HE : Hid (∀ W e w', ExplorePost L l W e w' = (match exploreF L l with
    | some y => ∃ F Bx Bm vw va, e = .returned (.tuple #[.agg #[vw, .map (some Bm), va], .int .i64 0]) ∧ WebAt F w' Bx Bm W.heap.size vw va y.words y.words y.arcs ∧ WebOk y ∧ Below W.heap.size W w'
    | none => e = .returned (.tuple #[.agg #[.slice none 0 0, .map none, .slice none 0 0], .int .i64 3]) ∧ Below W.heap.size W w')) := hid_ (fun W e w' => rfl)
  by_cases he : errSW L [l] = 0
  · obtain ⟨g1, g2⟩ := errSW_ok he
    have hN := (validS_ok g1).1
    have HX := hid_ (fun W (hW : Below w2.heap.size w2 W) => explore_calls A N C L a n c l W ((h.below Hc02.out (Nat.le_refl _)).below hW (Nat.le_refl _)) ((hI.below Hc02.out (Nat.le_refl _)).below hW (Nat.le_refl _)) (validS_ok g1).2 (by rw [← h.len]; exact hN) g2)
    rw [he] at HV
    have Hp2 : Hid (∀ e w', WebPost L l w e w' = ExplorePost L l w e w') := hid_ (fun e w' => by rw [HPost.out, if_pos he])
    clear g1 g2 hN he HPost h hI hls c01 c12 c02 z1 br1
    cases hx : exploreF L l with
    | some y =>
      have HX2 : Hid (∀ W, Below w2.heap.size w2 W → Calls Tryz.prog 37 #[.slice A N C, .slice a n c] W fun e w' => ∃ F Bx Bm aw cw aa ca, e = .returned (.tuple #[.agg #[.slice aw y.words.length cw, .map (some Bm), .slice aa y.arcs.length ca], .int .i64 0]) ∧ WebAt F w' Bx Bm W.heap.size (.slice aw y.words.length cw) (.slice aa y.arcs.length ca) y.words y.words y.arcs ∧ WebOk y ∧ Below W.heap.size W w') :=
        hid_ (fun W hW => (HX.out W hW).mono fun e w' hp => by
          rw [HE.out, hx] at hp
          obtain ⟨F, Bx, Bm, vw, va, he, hw, hy, hb⟩ := hp
          obtain ⟨vs, v1, _⟩ := hw.words
          obtain ⟨us, u1, _⟩ := hw.arcs
          obtain ⟨aw, cw, rfl⟩ := own_any v1
          obtain ⟨aa, ca, rfl⟩ := own_any u1
          exact ⟨F, Bx, Bm, aw, cw, aa, ca, he, hw, hy, hb⟩)
      have Hr : Hid (∀ e w', ExplorePost L l w e w' = ∃ F Bx Bm vw va, e = .returned (.tuple #[.agg #[vw, .map (some Bm), va], .int .i64 0]) ∧ WebAt F w' Bx Bm w.heap.size vw va y.words y.words y.arcs ∧ WebOk y ∧ Below w.heap.size w w') := hid_ (fun e w' => by rw [HE.out, hx])
      clear hx HX HE
      go_enter Tryz.func28, Tryz.ntmps28
      go_wp2_with (first
        | (go_at_call 36; (with_reducible refine HV.out.mono ?_); rintro e w3 ⟨rfl, hb3⟩; have hbr3 := Hbr.out w3 hb3)
        | (go_at_call 37; (with_reducible refine (HX2.out w3 hb3).mono ?_); rintro e w4 ⟨F, Bx, Bm, aw, cw, aa, ca, rfl, hW4, hY4, hb4⟩; have hbr4 := (hb4.block _ (Go.lt_of_block hbr3)).trans hbr3; have o0 := Go.Joins.cell_of_block hbr4 (i := 0); have o1 := Go.Joins.cell_of_block hbr4 (i := 1); have o2 := Go.Joins.cell_of_block hbr4 (i := 2); have of_ := fun i => Go.Joins.unfrozen_of_block hbr4 i))
      have hF4 : ¬ F w.heap.size := fun hh => by have := (hW4.lim _ hh).1; have := hb3.size; have := Hs2.out; omega
      have hfin : Below w.heap.size w w4 := Hc02.out.trans ((hb3.mono Hc02.out.size).trans (hb4.mono (Nat.le_trans Hc02.out.size hb3.size)))
      refine bodyPost_ret (v := .tuple #[.agg #[.slice aw y.words.length cw, .map (some Bm), .slice aa y.arcs.length ca], .int .i64 0]) (by simp [results, Tryz.results28, go_sem, o0, o1, o2]) rfl ?_
      rw [Hp2.out, Hr.out]
      exact ⟨F, _, _, _, _, rfl, (hW4.base (Nat.le_trans Hc02.out.size hb3.size)).other hbr4 (noInts3 _ _ _ _ _ _ _) hF4 (keep3 _ _ _ _ _), hY4, below3 hfin _ (Nat.le_refl _) _ _ _⟩
    | none =>
      have HX2 : Hid (∀ W, Below w2.heap.size w2 W → Calls Tryz.prog 37 #[.slice A N C, .slice a n c] W fun e w' => e = .returned (.tuple #[.agg #[.slice none 0 0, .map none, .slice none 0 0], .int .i64 3]) ∧ Below W.heap.size W w') :=
        hid_ (fun W hW => (HX.out W hW).mono fun e w' hp => by rw [HE.out, hx] at hp; exact hp)
      have Hr : Hid (∀ e w', ExplorePost L l w e w' = (e = .returned (.tuple #[.agg #[.slice none 0 0, .map none, .slice none 0 0], .int .i64 3]) ∧ Below w.heap.size w w')) := hid_ (fun e w' => by rw [HE.out, hx])
      clear hx HX HE
      go_enter Tryz.func28, Tryz.ntmps28
      go_wp2_with (first
        | (go_at_call 36; (with_reducible refine HV.out.mono ?_); rintro e w3 ⟨rfl, hb3⟩; have hbr3 := Hbr.out w3 hb3)
        | (go_at_call 37; (with_reducible refine (HX2.out w3 hb3).mono ?_); rintro e w4 ⟨rfl, hb4⟩; have hbr4 := (hb4.block _ (Go.lt_of_block hbr3)).trans hbr3; have o0 := Go.Joins.cell_of_block hbr4 (i := 0); have o1 := Go.Joins.cell_of_block hbr4 (i := 1); have o2 := Go.Joins.cell_of_block hbr4 (i := 2); have of_ := fun i => Go.Joins.unfrozen_of_block hbr4 i))
      have hfin : Below w.heap.size w w4 := Hc02.out.trans ((hb3.mono Hc02.out.size).trans (hb4.mono (Nat.le_trans Hc02.out.size hb3.size)))
      refine bodyPost_ret (v := .tuple #[.agg #[.slice none 0 0, .map none, .slice none 0 0], .int .i64 3]) (by simp [results, Tryz.results28, go_sem, o0, o1, o2]) rfl ?_
      rw [Hp2.out, Hr.out]
      exact ⟨rfl, below3 hfin _ (Nat.le_refl _) _ _ _⟩
  · have Hp2 : Hid (∀ e w', WebPost L l w e w' = (e = .returned (.tuple #[.agg #[.slice none 0 0, .map none, .slice none 0 0], .int .i64 (errSW L [l])]) ∧ Below w.heap.size w w')) := hid_ (fun e w' => by rw [HPost.out, if_neg he])
    have hq : (errSW L [l] != 0) = true := by simpa using he
    generalize errSW L [l] = x at *
    clear he HPost h hI hls c01 c12 c02 z1 br1 HE
    go_enter Tryz.func28, Tryz.ntmps28
    go_wp2_with (go_at_call 36; (with_reducible refine HV.out.mono ?_); rintro e w3 ⟨rfl, hb3⟩; have hbr3 := Hbr.out w3 hb3; have o0 := Go.Joins.cell_of_block hbr3 (i := 0); have o1 := Go.Joins.cell_of_block hbr3 (i := 1); have o2 := Go.Joins.cell_of_block hbr3 (i := 2); have of_ := fun i => Go.Joins.unfrozen_of_block hbr3 i)
    have hfin : Below w.heap.size w w3 := Hc02.out.trans (hb3.mono Hc02.out.size)
    refine bodyPost_ret (v := .tuple #[.agg #[.slice none 0 0, .map none, .slice none 0 0], .int .i64 x]) (by simp [results, Tryz.results28, go_sem, o0, o1, o2]) rfl ?_
    rw [Hp2.out]
    exact ⟨rfl, below3 hfin _ (Nat.le_refl _) _ _ _⟩
end Go.Proofs.YtebbmhlkdfmmcaaGreat
