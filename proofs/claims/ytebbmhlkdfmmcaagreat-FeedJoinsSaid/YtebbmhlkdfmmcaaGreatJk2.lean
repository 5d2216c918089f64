import Derived.Test.YtebbmhlkdfmmcaaGreatJk1
namespace Go.Proofs.YtebbmhlkdfmmcaaGreat
open Go.RowKit Go.Proofs.Kv Go Go.Maps Go.WideMaps

/-! ### Join of the program: the closure, and the search -/
theorem findW_mem (W : List (List Int)) (v : List Int) : (findW W v).isSome = decide (v ∈ W) := by
  cases h : findW W v with
  | some i =>
    obtain ⟨h1, h2⟩ := findW_some h
    have hm : v ∈ W := by rw [← h2]; simp [List.getD, List.getElem?_eq_getElem h1]
    rw [decide_eq_true hm]; rfl
  | none =>
    have hm : v ∉ W := by
      intro hm
      unfold findW at h
      rw [List.findIdx?_eq_none_iff] at h
      have := h v hm
      simp at this
    rw [decide_eq_false hm]; rfl
set_option maxRecDepth 100000 in
set_option maxHeartbeats 4000000 in
theorem joinF_calls (a : Option Addr) (n c : Nat) (l : List Int) (D Bm : Nat) (W : List (List Int)) (w : World) (h : IntsAt w a n c l) (hl : validW l = 0) (hD : w.cell? ⟨D, 1, none⟩ = some (.map (some Bm))) (hN : NumsAt w Bm W) (hDl : D < w.heap.size) :
    Calls Tryz.prog 39 #[.slice a n c, .pointer (some ⟨D, 0, none⟩)] w fun e w' => e = .returned (.bool (decide (l ∈ W))) ∧ Below w.heap.size w w' := by
  obtain ⟨hlen, hw⟩ := validW_ok hl
  have hBm : Bm < w.heap.size := by
    obtain ⟨es, clock, hb⟩ := hN.obj
    exact (Array.getElem?_eq_some_iff.1 hb).1
  have bd : Below w.heap.size w w.drew := Below.drew (Below.refl _ _)
  have HK := hid_ (key_calls a n c l w.drew (h.below bd (Nat.le_refl _)) (by have := h.len; omega) hw)
  have Hl := hid_ hl
  have HS := hid_ (fun V (hV : Below w.heap.size w V) => (⟨(hV.cell (p := ⟨D, 1, none⟩) hDl).trans hD, hN.block (hV.block Bm hBm)⟩ : V.cell? ⟨D, 1, none⟩ = some (.map (some Bm)) ∧ NumsAt V Bm W))
  have Hm := hid_ (findW_mem W l)
  clear h hl hD hN hlen hw hDl hBm
  go_enter Tryz.func39, Tryz.ntmps39
  go_wp2
  refine wp_region_held_drew (S := fun V => V.cell? ⟨D, 1, none⟩ = some (.map (some Bm)) ∧ NumsAt V Bm W) (by kernel_rfl) (HS.out _ bd) (fun hHeld => ?_)
  refine wpAnyH_take (i := 0) (oi := ?oi0h1) (v := ?v0h1) ?hi0h1 (by kernel_rfl) ?hf0h1 (by kernel_rfl) ?hQ0h1 ?hy0h1 (by assumption) ?rest0h1
  case hi0h1 => (simp only [List.getElem?_toArray, List.getElem?_cons_zero]; rfl)
  case hf0h1 => kernel_rfl
  case hQ0h1 => exact fun _ _ _ h => h
  case hy0h1 => (refine Or.inl ⟨by rfl, ?_⟩; intro W hSw; (try dsimp only at hSw); go_simp; try with_reducible rfl)
  try simp only [Act.put, List.setIfInBounds_toArray, List.set_cons_zero, List.set_cons_succ]
  refine wpAnyH_take (i := 1) (oi := ?oi1h2) (v := ?v1h2) ?hi1h2 (by kernel_rfl) ?hf1h2 (by kernel_rfl) ?hQ1h2 ?hy1h2 (by assumption) ?rest1h2
  case hi1h2 => (simp only [List.getElem?_toArray, List.getElem?_cons_succ, List.getElem?_cons_zero]; rfl)
  case hf1h2 => kernel_rfl
  case hQ1h2 => exact fun _ _ _ h => h
  case hy1h2 => (refine Or.inl ⟨by rfl, ?_⟩; intro W hSw; (try dsimp only at hSw); obtain ⟨g0, g1⟩ := hSw; go_simp; try with_reducible rfl)
  try simp only [Act.put, List.setIfInBounds_toArray, List.set_cons_zero, List.set_cons_succ]
  refine wpAnyH_take (i := 2) (oi := ?oi2h3) (v := ?v2h3) ?hi2h3 (by kernel_rfl) ?hf2h3 (by kernel_rfl) ?hQ2h3 ?hy2h3 (by assumption) ?rest2h3
  case hi2h3 => (simp only [List.getElem?_toArray, List.getElem?_cons_succ, List.getElem?_cons_zero]; rfl)
  case hf2h3 => kernel_rfl
  case hQ2h3 => exact fun _ _ _ h => h
  case hy2h3 => (refine Or.inl ⟨by rfl, ?_⟩; intro W hSw; (try dsimp only at hSw); go_simp; try with_reducible rfl)
  try simp only [Act.put, List.setIfInBounds_toArray, List.set_cons_zero, List.set_cons_succ]
  refine wpAnyH_ready (rs := [3]) (by kernel_rfl) (by simp) ?_
  refine AllReadyH.cons (o := _) (by (simp only [List.getElem?_toArray, List.getElem?_cons_succ, List.getElem?_cons_zero]; rfl)) (fun K hK => ?_) AllReadyH.nil
  go_simp
  (with_reducible refine HK.out.mono ?_); rintro e w3 ⟨rfl, hb3⟩; have bb3 := bd.trans (hb3.mono bd.size)
  refine hK.out _ _ ?_ (fun hHeld => ?_)
  · exact HS.out _ bb3
  clear hK K
  try simp only [Act.put, List.setIfInBounds_toArray, List.set_cons_zero, List.set_cons_succ]
  refine wpAnyH_take (i := 4) (oi := ?oi4h4) (v := ?v4h4) ?hi4h4 (by kernel_rfl) ?hf4h4 (by kernel_rfl) ?hQ4h4 ?hy4h4 (by assumption) ?rest4h4
  case hi4h4 => (simp only [List.getElem?_toArray, List.getElem?_cons_succ, List.getElem?_cons_zero]; rfl)
  case hf4h4 => kernel_rfl
  case hQ4h4 => exact fun _ _ _ h => h
  case hy4h4 => (refine Or.inl ⟨by rfl, ?_⟩; intro W hSw; (try dsimp only at hSw); obtain ⟨g0, g1⟩ := hSw; have hlk := g1.look Hl.out; go_simp; try with_reducible rfl)
  try simp only [Act.put, List.setIfInBounds_toArray, List.set_cons_zero, List.set_cons_succ]
  refine wpAnyH_take (i := 5) (oi := ?oi5h5) (v := ?v5h5) ?hi5h5 (by kernel_rfl) ?hf5h5 (by kernel_rfl) ?hQ5h5 ?hy5h5 (by assumption) ?rest5h5
  case hi5h5 => (simp only [List.getElem?_toArray, List.getElem?_cons_succ, List.getElem?_cons_zero]; rfl)
  case hf5h5 => kernel_rfl
  case hQ5h5 => exact fun _ _ _ h => h
  case hy5h5 => (refine Or.inl ⟨by rfl, ?_⟩; intro W hSw; (try dsimp only at hSw); go_simp; try with_reducible rfl)
  try simp only [Act.put, List.setIfInBounds_toArray, List.set_cons_zero, List.set_cons_succ]
  refine wpAnyH_take (i := 6) (oi := ?oi6h6) (v := ?v6h6) ?hi6h6 (by kernel_rfl) ?hf6h6 (by kernel_rfl) ?hQ6h6 ?hy6h6 (by assumption) ?rest6h6
  case hi6h6 => (simp only [List.getElem?_toArray, List.getElem?_cons_succ, List.getElem?_cons_zero]; rfl)
  case hf6h6 => kernel_rfl
  case hQ6h6 => exact fun _ _ _ h => h
  case hy6h6 => (refine Or.inl ⟨by rfl, ?_⟩; intro W hSw; (try dsimp only at hSw); go_simp; try with_reducible rfl)
  try simp only [Act.put, List.setIfInBounds_toArray, List.set_cons_zero, List.set_cons_succ]
  refine wpAnyH_take (i := 7) (oi := ?oi7h7) (v := ?v7h7) ?hi7h7 (by kernel_rfl) ?hf7h7 (by kernel_rfl) ?hQ7h7 ?hy7h7 (by assumption) ?rest7h7
  case hi7h7 => (simp only [List.getElem?_toArray, List.getElem?_cons_succ, List.getElem?_cons_zero]; rfl)
  case hf7h7 => kernel_rfl
  case hQ7h7 => exact fun _ _ _ h => h
  case hy7h7 => (refine Or.inl ⟨by rfl, ?_⟩; intro W hSw; (try dsimp only at hSw); go_simp; try with_reducible rfl)
  try simp only [Act.put, List.setIfInBounds_toArray, List.set_cons_zero, List.set_cons_succ]
  refine wpAnyH_take (i := 8) (oi := ?oi8h8) (v := ?v8h8) ?hi8h8 (by kernel_rfl) ?hf8h8 (by kernel_rfl) ?hQ8h8 ?hy8h8 (by assumption) ?rest8h8
  case hi8h8 => (simp only [List.getElem?_toArray, List.getElem?_cons_succ, List.getElem?_cons_zero]; rfl)
  case hf8h8 => kernel_rfl
  case hQ8h8 => exact fun _ _ _ h => h
  case hy8h8 => (refine Or.inl ⟨by rfl, ?_⟩; intro W hSw; (try dsimp only at hSw); go_simp; try with_reducible rfl)
  try simp only [Act.put, List.setIfInBounds_toArray, List.set_cons_zero, List.set_cons_succ]
  refine wpAnyH_take (i := 9) (oi := ?oi9h9) (v := ?v9h9) ?hi9h9 (by kernel_rfl) ?hf9h9 (by kernel_rfl) ?hQ9h9 ?hy9h9 (by assumption) ?rest9h9
  case hi9h9 => (simp only [List.getElem?_toArray, List.getElem?_cons_succ, List.getElem?_cons_zero]; rfl)
  case hf9h9 => kernel_rfl
  case hQ9h9 => exact fun _ _ _ h => h
  case hy9h9 => (refine Or.inl ⟨by rfl, ?_⟩; intro W hSw; (try dsimp only at hSw); go_simp; try with_reducible rfl)
  try simp only [Act.put, List.setIfInBounds_toArray, List.set_cons_zero, List.set_cons_succ]
  refine wpAnyH_done (by kernel_rfl) ?_ _
  clear hHeld
  go_wp2
  go_ret
  exact ⟨retB Hm.out.symm, bb3⟩
set_option maxRecDepth 100000 in
set_option maxHeartbeats 4000000 in
theorem joinIx_calls (D Bm : Nat) (W : List (List Int)) (a : Option Addr) (k ca : Nat) (G : List (List Int)) (w : World) (hG : ListsAt w a k ca G) (g : ∀ x ∈ G, validW x = 0) (hD : w.cell? ⟨D, 1, none⟩ = some (.map (some Bm))) (hN : NumsAt w Bm W) (hDl : D < w.heap.size) :
    Calls Tryz.prog 60 #[.slice a k ca, .func (.func 39) #[] #[.pointer (some ⟨D, 0, none⟩)]] w fun e w' => ∃ i : Int, e = .returned (.int .i64 i) ∧ decide (i ≥ 0) = meetB G W ∧ Below w.heap.size w w' := by
  have hn : k ≤ 9223372036854775807 := Nat.le_trans hG.le hG.small
  have hent : ∀ args V, (callFunc 39 args).run Tryz.prog V = .ok (.enter 39 args) V := enters_of Tryz.func39 (by kernel_rfl) rfl
  have hBm : Bm < w.heap.size := by
    obtain ⟨es, clock, hb⟩ := hN.obj
    exact (Array.getElem?_eq_some_iff.1 hb).1
  have Hl := hid_ hG.len
  have HJ := hid_ (fun V (hV : Below w.heap.size w V) a n c l (h : IntsAt V a n c l) (hl : validW l = 0) => joinF_calls a n c l D Bm W V h hl ((hV.cell (p := ⟨D, 1, none⟩) hDl).trans hD) (hN.block (hV.block Bm hBm)) (Nat.lt_of_lt_of_le hDl hV.size))
  have HL := hid_ (fun V (hV : Below w.heap.size w V) => hG.below hV (Nat.le_refl _))
  have Hg := hid_ (fun i (hi : i < k) => g (G.getD i []) (by have h9 := hG.len; simp [List.getD, List.getElem?_eq_getElem (show i < G.length by omega)]))
  have Hno := hid_ (@meetB_no G W)
  have Hhit := hid_ (fun i hi hh => @meetB_hit G W i hi hh)
  clear hG g hD hN hDl hBm
  go_enter Tryz.func60, Tryz.ntmps60
  go_wp2
  go_loopw [8] (fun iv wr => ∃ j : Nat, j ≤ k ∧ iv = .int .i64 (j : Int) ∧ Below w.heap.size w wr ∧ ∀ i, i < j → G.getD i [] ∉ W) (fun iv _ => k - (intOf iv).toNat)
  case atStart => exact ⟨0, Nat.zero_le _, rfl, Below.refl _ _, fun _ h => absurd h (by omega)⟩
  case round =>
    obtain ⟨j, hj, rfl, hb, hall⟩ := hrel
    have Hall := hid_ hall; have Hb := hid_ hb
    clear hall
    by_cases hlt : j < k
    · obtain ⟨b, off, a3, n3, c3, rfl, -, hcell, hrow⟩ := (HL.out wr hb).cells j hlt
      have HC := hid_ (HJ.out wr hb a3 n3 c3 _ hrow (Hg.out j hlt))
      clear hrow hb
      by_cases hm : G.getD j [] ∈ W
      · rw [decide_eq_true hm] at HC
        have Hr : Hid (meetB G W = true) := hid_ (Hhit.out j (by rw [Hl.out]; exact hlt) hm)
        clear hm
        go_wp2_with (go_at_call 39; (with_reducible refine HC.out.mono ?_); rintro e w4 ⟨rfl, hb4⟩)
        go_ret
        exact ⟨(j : Int), rfl, by rw [Hr.out]; exact decide_eq_true (by omega), Hb.out.trans (hb4.mono Hb.out.size)⟩
      · rw [decide_eq_false hm] at HC
        have Hm := hid_ hm
        clear hm
        go_wp2_with (go_at_call 39; (with_reducible refine HC.out.mono ?_); rintro e w4 ⟨rfl, hb4⟩)
        go_roundw
        case rel => exact ⟨j + 1, by omega, by go_num, Hb.out.trans (hb4.mono Hb.out.size), fun i hi => by
          by_cases e : i = j
          · rw [e]; exact Hm.out
          · exact Hall.out i (by omega)⟩
        case measure => (simp [intOf]; try omega)
    · have Hr : Hid (meetB G W = false) := hid_ (Hno.out fun i hi => Hall.out i (by rw [Hl.out] at hi; omega))
      clear hb
      go_wp2
      go_ret
      exact ⟨-1, rfl, by rw [Hr.out]; rfl, Hb.out⟩
set_option maxRecDepth 100000 in
theorem joinHas_calls (D Bm : Nat) (W : List (List Int)) (a : Option Addr) (k ca : Nat) (G : List (List Int)) (w : World) (hG : ListsAt w a k ca G) (g : ∀ x ∈ G, validW x = 0) (hD : w.cell? ⟨D, 1, none⟩ = some (.map (some Bm))) (hN : NumsAt w Bm W) (hDl : D < w.heap.size) :
    Calls Tryz.prog 38 #[.slice a k ca, .func (.func 39) #[] #[.pointer (some ⟨D, 0, none⟩)]] w fun e w' => e = .returned (.bool (meetB G W)) ∧ Below w.heap.size w w' := by
  have HI := hid_ (joinIx_calls D Bm W a k ca G w hG g hD hN hDl)
  clear hG g hD hN hDl
  go_enter Tryz.func38, Tryz.ntmps38
  go_wp2_with (go_at_call 60; (with_reducible refine HI.out.mono ?_); rintro e w3 ⟨i, rfl, hi, hb3⟩; have Hi := hid_ hi)
  go_ret
  exact ⟨by first | rfl | exact retB Hi.out, hb3⟩
end Go.Proofs.YtebbmhlkdfmmcaaGreat
