import Derived.Test.YtahknodnjjmagaaZg
namespace Go.Proofs.Ytahknodnjjmagaa
open Go.RowKit Go.Proofs.Kv

/-! ### Matches -/
theorem lists_one {w : World} {a : Option Addr} {n c : Nat} {l : List Int} (h : IntsAt w a n c l) (E : TypeId) : ListsAt (w.alloc (.cells #[.slice a n c] E)) (some ⟨w.heap.size, 0, none⟩) 1 1 [l] :=
  ⟨rfl, Nat.le_refl _, by omega, fun i hi => by
    obtain rfl : i = 0 := by omega
    exact ⟨w.heap.size, 0, a, n, c, rfl, by simp, cells_alloc _ _ _ 0, h.below (below_alloc _ _) (Nat.le_refl _)⟩⟩
theorem errC_ok {P : Par} {l : List Int} (h : errC P [l] = 0) : validP P = 0 ∧ specB P.sizes l 0 = true := by
  unfold errC at h
  split at h
  · rename_i hv
    refine ⟨hv, ?_⟩
    simp only [List.any_cons, List.any_nil, Bool.or_false] at h
    cases hs : specB P.sizes l 0 with
    | true => rfl
    | false => rw [hs] at h; exact absurd h (by decide)
  · rename_i hv; exact absurd h hv
def resMatches (P : Par) (l : List Int) : List Int := if errC P [l] = 0 then matL P l else []
set_option maxRecDepth 100000 in
set_option maxHeartbeats 4000000 in
theorem ceMatches_calls (v : Value) (P : Par) (a : Option Addr) (n c : Nat) (l : List Int) (w : World) (h : ParAt w v P) (hl : IntsAt w a n c l) :
    Calls Try.prog 25 #[v, .slice a n c] w fun e w' => ∃ v', e = .returned (.tuple #[v', .int .i64 (errC P [l])]) ∧ Made 3 w w' v' (resMatches P l) := by
  have HP := hid_ h
  obtain ⟨a1, n1, c1, a2, n2, c2, rfl, h1, h2⟩ := h
  obtain ⟨w1, hw1⟩ : ∃ w1, w.alloc (.cells #[.slice a1 n1 c1, .slice a2 n2 c2] 25) = w1 := ⟨_, rfl⟩
  have cb : Below w.heap.size w w1 := by rw [← hw1]; exact below_alloc _ _
  have q0 : w1.cell? ⟨w.heap.size, 0, none⟩ = some (.slice a1 n1 c1) := by rw [← hw1]; exact cells_alloc _ _ _ 0
  have q1 : w1.cell? ⟨w.heap.size, 1, none⟩ = some (.slice a2 n2 c2) := by rw [← hw1]; exact cells_alloc _ _ _ 1
  have HP1 := hid_ (HP.out.below cb (Nat.le_refl _))
  have HL := hid_ (hl.below cb (Nat.le_refl _)); have Hc1 := hid_ cb
  have HE := hid_ (fun T => validateCells_calls _ P _ 1 1 [l] (w1.alloc (.cells #[.slice a n c] T)) (HP1.out.below (below_alloc _ _) (Nat.le_refl _)) (lists_one HL.out T))
  have Hlen := hid_ hl.len
  clear h1 h2 hl cb
  by_cases he : errC P [l] = 0
  · have Hf : Hid (resMatches P l = matL P l) := hid_ (if_pos he)
    obtain ⟨hv, hs⟩ := errC_ok he
    have HM := hid_ (fun W (hW : Below w1.heap.size w1 W) => cematches_calls _ P a n c l W (HP1.out.below hW (Nat.le_refl _)) (HL.out.below hW (Nat.le_refl _)) hv (by rw [← (specB_ok hs).1, Hlen.out]))
    rw [he] at HE ⊢
    clear he hv hs
    go_enter Try.func25, Try.ntmps25
    go_wp2_with (first
      | (go_at_call 75; (with_reducible refine (HE.out _).mono ?_); rintro e w2 ⟨rfl, hb2⟩; have hb3 := (below_alloc w1 (.cells #[.slice a n c] 22)).trans (hb2.mono (below_alloc w1 (.cells #[.slice a n c] 22)).size); have q0b := cell_below q0 hb3; have q1b := cell_below q1 hb3)
      | (go_at_call 76; (with_reducible refine (HM.out _ hb3).mono ?_); rintro e w4 ⟨v4, rfl, hm⟩))
    go_ret2
    exact ⟨_, rfl, by rw [Hf.out]; exact hm.after (Hc1.out.trans (hb3.mono Hc1.out.size))⟩
  · have Hf : Hid (resMatches P l = []) := hid_ (if_neg he)
    have hq : (errC P [l] != 0) = true := by simpa using he
    generalize errC P [l] = x at *
    clear he
    go_enter Try.func25, Try.ntmps25
    go_wp2_with (go_at_call 75; (with_reducible refine (HE.out _).mono ?_); rintro e w2 ⟨rfl, hb2⟩; have hb3 := (below_alloc w1 (.cells #[.slice a n c] 22)).trans (hb2.mono (below_alloc w1 (.cells #[.slice a n c] 22)).size))
    go_ret2
    exact ⟨_, rfl, by rw [Hf.out]; exact Made.none_ _ (Hc1.out.trans (hb3.mono Hc1.out.size))⟩
set_option maxRecDepth 100000 in
set_option maxHeartbeats 4000000 in
theorem r6Matches_calls (v : Value) (P : Par) (a : Option Addr) (n c : Nat) (l : List Int) (w : World) (h : ParAt w v P) (hl : IntsAt w a n c l) :
    Calls Try.prog 26 #[v, .slice a n c] w fun e w' => ∃ v', e = .returned (.tuple #[v', .int .i64 (errC P [l])]) ∧ Made 3 w w' v' (resMatches P l) := by
  have HP := hid_ h
  obtain ⟨a1, n1, c1, a2, n2, c2, rfl, h1, h2⟩ := h
  obtain ⟨w1, hw1⟩ : ∃ w1, w.alloc (.cells #[.slice a1 n1 c1, .slice a2 n2 c2] 25) = w1 := ⟨_, rfl⟩
  have cb : Below w.heap.size w w1 := by rw [← hw1]; exact below_alloc _ _
  have q0 : w1.cell? ⟨w.heap.size, 0, none⟩ = some (.slice a1 n1 c1) := by rw [← hw1]; exact cells_alloc _ _ _ 0
  have q1 : w1.cell? ⟨w.heap.size, 1, none⟩ = some (.slice a2 n2 c2) := by rw [← hw1]; exact cells_alloc _ _ _ 1
  have HP1 := hid_ (HP.out.below cb (Nat.le_refl _))
  have HL := hid_ (hl.below cb (Nat.le_refl _)); have Hc1 := hid_ cb
  have HE := hid_ (celled_calls _ P a n c l w1 HP1.out HL.out)
  have Hlen := hid_ hl.len
  clear h1 h2 hl cb
  by_cases he : errC P [l] = 0
  · have Hf : Hid (resMatches P l = matL P l) := hid_ (if_pos he)
    obtain ⟨hv, hs⟩ := errC_ok he
    have HM := hid_ (fun W (hW : Below w1.heap.size w1 W) => r6matches_calls _ P a n c l W (HP1.out.below hW (Nat.le_refl _)) (HL.out.below hW (Nat.le_refl _)) hv (by rw [← (specB_ok hs).1, Hlen.out]))
    rw [he] at HE ⊢
    clear he hv hs
    go_enter Try.func26, Try.ntmps26
    go_wp2_with (first
      | (go_at_call 77; (with_reducible refine HE.out.mono ?_); rintro e w2 ⟨rfl, hb3⟩; have q0b := cell_below q0 hb3; have q1b := cell_below q1 hb3)
      | (go_at_call 78; (with_reducible refine (HM.out _ hb3).mono ?_); rintro e w4 ⟨v4, rfl, hm⟩))
    go_ret2
    exact ⟨_, rfl, by rw [Hf.out]; exact hm.after (Hc1.out.trans (hb3.mono Hc1.out.size))⟩
  · have Hf : Hid (resMatches P l = []) := hid_ (if_neg he)
    have hq : (errC P [l] != 0) = true := by simpa using he
    generalize errC P [l] = x at *
    clear he
    go_enter Try.func26, Try.ntmps26
    go_wp2_with (go_at_call 77; (with_reducible refine HE.out.mono ?_); rintro e w2 ⟨rfl, hb3⟩)
    go_ret2
    exact ⟨_, rfl, by rw [Hf.out]; exact Made.none_ _ (Hc1.out.trans (hb3.mono Hc1.out.size))⟩
end Go.Proofs.Ytahknodnjjmagaa
