import Derived.Test.YtahknodnjjmagaaZs
import Derived.Test.YtahknodnjjmagaaZh
namespace Go.Proofs.Ytahknodnjjmagaa
open Go.RowKit Go.Proofs.Kv

/-! ### Decides, Form -/
def formR (P : Par) (l : List Int) : Int := match (matL P l).find? (goodB P (matL P l)) with | some x => (P.ents.getD x.toNat E0).form | none => -1
theorem dec_cases (P : Par) (l : List Int) :
    (∃ k : Nat, k < P.ents.length ∧ (k : Int) ∈ matL P l ∧ goodB P (matL P l) (k : Int) = true ∧ decI P (matL P l) = (k : Int) ∧ decP P (matL P l) = ((k : Int), true) ∧ formR P l = (P.ents.getD k E0).form) ∨
    ((matL P l).find? (goodB P (matL P l)) = none ∧ decI P (matL P l) = -1 ∧ decP P (matL P l) = (0, false) ∧ formR P l = -1) := by
  unfold decI decP formR
  cases h : (matL P l).find? (goodB P (matL P l)) with
  | none => exact .inr ⟨rfl, rfl, rfl, rfl⟩
  | some x =>
    have hm := List.mem_of_find?_eq_some h
    obtain ⟨i, hi, rfl⟩ := List.mem_iff_getElem.1 hm
    obtain ⟨k, hk, hkl⟩ := mat_at hi
    rw [show (matL P l).getD i 0 = (matL P l)[i] by simp [List.getD, List.getElem?_eq_getElem hi]] at hk
    rw [hk] at h hm ⊢
    have hg := List.find?_some h
    exact .inl ⟨k, hkl, hm, hg, rfl, rfl, by dsimp only; rw [Int.toNat_natCast]⟩
theorem form_ok {P : Par} (hv : validP P = 0) {k : Nat} (hk : k < P.ents.length) : 0 ≤ (P.ents.getD k E0).form ∧ (P.ents.getD k E0).form ≤ 9 := by
  have := ((validP_ok hv).2.2.2 k hk).2
  simpa [Within] using this
set_option maxRecDepth 100000 in
set_option maxHeartbeats 4000000 in
theorem r6form_calls (v : Value) (P : Par) (a : Option Addr) (n c : Nat) (l : List Int) (w : World) (h : ParAt w v P) (hl : IntsAt w a n c l) (hv : validP P = 0) (hs : P.sizes.length = n) :
    Calls Try.prog 81 #[v, .slice a n c] w fun e w' => e = .returned (.int .i64 (formR P l)) ∧ Below w.heap.size w w' := by
  have hd := dec_cases P l
  have HP := hid_ h
  obtain ⟨a1, n1, c1, a2, n2, c2, rfl, h1, h2⟩ := h
  obtain ⟨w1, hw1⟩ : ∃ w1, w.alloc (.cells #[.slice a1 n1 c1, .slice a2 n2 c2] 25) = w1 := ⟨_, rfl⟩
  have cb : Below w.heap.size w w1 := by rw [← hw1]; exact below_alloc _ _
  have q0 : w1.cell? ⟨w.heap.size, 0, none⟩ = some (.slice a1 n1 c1) := by rw [← hw1]; exact cells_alloc _ _ _ 0
  have q1 : w1.cell? ⟨w.heap.size, 1, none⟩ = some (.slice a2 n2 c2) := by rw [← hw1]; exact cells_alloc _ _ _ 1
  have HP1 := hid_ (HP.out.below cb (Nat.le_refl _)); have Hc1 := hid_ cb
  have HM := hid_ (r6decides_calls _ P a n c l w1 HP1.out (hl.below cb (Nat.le_refl _)) hv hs)
  have H2 := hid_ (h2.below cb (Nat.le_refl _))
  rcases hd with ⟨k, hk, -, -, h3, -, h4⟩ | ⟨-, h3, -, h4⟩
  · rw [h3] at HM
    have Hf := hid_ h4
    have hk2 : k < n2 := by rw [← h2.len]; exact hk
    have hn2 : n2 ≤ 9223372036854775807 := Nat.le_trans h2.le h2.small
    clear h1 h2 hl cb hv hs h3 h4 hk
    go_enter Try.func81, Try.ntmps81
    go_wp2_with (go_at_call 80; (with_reducible refine HM.out.mono ?_); rintro e w2 ⟨rfl, hb2⟩; have q0b := cell_below q0 hb2; have q1b := cell_below q1 hb2; obtain ⟨b, off, a3, n3, c3, rfl, -, k0, k1, hri⟩ := (H2.out.below hb2 (Nat.le_refl _)).cells k hk2)
    go_ret
    exact ⟨retI Hf.out, Hc1.out.trans (hb2.mono Hc1.out.size)⟩
  · rw [h3] at HM
    have Hf := hid_ h4
    clear h1 h2 hl cb hv hs h3 h4
    go_enter Try.func81, Try.ntmps81
    go_wp2_with (go_at_call 80; (with_reducible refine HM.out.mono ?_); rintro e w2 ⟨rfl, hb2⟩)
    go_ret
    exact ⟨retI Hf.out, Hc1.out.trans (hb2.mono Hc1.out.size)⟩
set_option maxRecDepth 100000 in
set_option maxHeartbeats 4000000 in
theorem ceformOf_calls (v : Value) (P : Par) (a : Option Addr) (n c : Nat) (l : List Int) (w : World) (h : ParAt w v P) (hl : IntsAt w a n c l) (hv : validP P = 0) (hs : P.sizes.length = n) :
    Calls Try.prog 92 #[v, .slice a n c] w fun e w' => e = .returned (.int .i64 (formR P l)) ∧ Below w.heap.size w w' := by
  have hd := dec_cases P l
  have HP := hid_ h
  obtain ⟨a1, n1, c1, a2, n2, c2, rfl, h1, h2⟩ := h
  obtain ⟨w1, hw1⟩ : ∃ w1, w.alloc (.cells #[.slice a1 n1 c1, .slice a2 n2 c2] 25) = w1 := ⟨_, rfl⟩
  have cb : Below w.heap.size w w1 := by rw [← hw1]; exact below_alloc _ _
  have q0 : w1.cell? ⟨w.heap.size, 0, none⟩ = some (.slice a1 n1 c1) := by rw [← hw1]; exact cells_alloc _ _ _ 0
  have q1 : w1.cell? ⟨w.heap.size, 1, none⟩ = some (.slice a2 n2 c2) := by rw [← hw1]; exact cells_alloc _ _ _ 1
  have HP1 := hid_ (HP.out.below cb (Nat.le_refl _)); have Hc1 := hid_ cb
  have HM := hid_ (cedecides_calls _ P a n c l w1 HP1.out (hl.below cb (Nat.le_refl _)) hv hs)
  have H2 := hid_ (h2.below cb (Nat.le_refl _))
  rcases hd with ⟨k, hk, -, -, -, h3, h4⟩ | ⟨-, -, h3, h4⟩
  · rw [h3] at HM
    have Hf := hid_ h4
    have hk2 : k < n2 := by rw [← h2.len]; exact hk
    have hn2 : n2 ≤ 9223372036854775807 := Nat.le_trans h2.le h2.small
    clear h1 h2 hl cb hv hs h3 h4 hk
    go_enter Try.func92, Try.ntmps92
    go_wp2_with (go_at_call 79; (with_reducible refine HM.out.mono ?_); rintro e w2 ⟨rfl, hb2⟩; have q0b := cell_below q0 hb2; have q1b := cell_below q1 hb2; obtain ⟨b, off, a3, n3, c3, rfl, -, k0, k1, hri⟩ := (H2.out.below hb2 (Nat.le_refl _)).cells k hk2)
    go_ret
    exact ⟨retI Hf.out, Hc1.out.trans (hb2.mono Hc1.out.size)⟩
  · rw [h3] at HM
    have Hf := hid_ h4
    clear h1 h2 hl cb hv hs h3 h4
    go_enter Try.func92, Try.ntmps92
    go_wp2_with (go_at_call 79; (with_reducible refine HM.out.mono ?_); rintro e w2 ⟨rfl, hb2⟩)
    go_ret
    exact ⟨retI Hf.out, Hc1.out.trans (hb2.mono Hc1.out.size)⟩
def resDec (P : Par) (l : List Int) : Int × Bool := if errC P [l] = 0 then decP P (matL P l) else (0, false)
def resForm (P : Par) (l : List Int) : Int × Bool := if errC P [l] = 0 then (if 0 ≤ formR P l then (formR P l, true) else (0, false)) else (0, false)
theorem errC_len {P : Par} {l : List Int} (h : errC P [l] = 0) : P.sizes.length = l.length := (specB_ok (errC_ok h).2).1.symm
set_option maxRecDepth 100000 in
set_option maxHeartbeats 4000000 in
theorem r6Decides_calls (v : Value) (P : Par) (a : Option Addr) (n c : Nat) (l : List Int) (w : World) (h : ParAt w v P) (hl : IntsAt w a n c l) :
    Calls Try.prog 28 #[v, .slice a n c] w fun e w' => e = .returned (.tuple #[.int .i64 (resDec P l).1, .bool (resDec P l).2, .int .i64 (errC P [l])]) ∧ Below w.heap.size w w' := by
  have hd := dec_cases P l
  have hls := hl.len
  have HP := hid_ h
  obtain ⟨a1, n1, c1, a2, n2, c2, rfl, h1, h2⟩ := h
  obtain ⟨w1, hw1⟩ : ∃ w1, w.alloc (.cells #[.slice a1 n1 c1, .slice a2 n2 c2] 25) = w1 := ⟨_, rfl⟩
  have cb : Below w.heap.size w w1 := by rw [← hw1]; exact below_alloc _ _
  have q0 : w1.cell? ⟨w.heap.size, 0, none⟩ = some (.slice a1 n1 c1) := by rw [← hw1]; exact cells_alloc _ _ _ 0
  have q1 : w1.cell? ⟨w.heap.size, 1, none⟩ = some (.slice a2 n2 c2) := by rw [← hw1]; exact cells_alloc _ _ _ 1
  have HP1 := hid_ (HP.out.below cb (Nat.le_refl _)); have Hc1 := hid_ cb
  have HL := hid_ (hl.below cb (Nat.le_refl _))
  have HE := hid_ (celled_calls _ P a n c l w1 HP1.out HL.out)
  by_cases he : errC P [l] = 0
  · have Hf : Hid (resDec P l = decP P (matL P l)) := hid_ (if_pos he)
    have HM := hid_ (fun W (hW : Below w1.heap.size w1 W) => r6decides_calls _ P a n c l W (HP1.out.below hW (Nat.le_refl _)) (HL.out.below hW (Nat.le_refl _)) (errC_ok he).1 (by rw [errC_len he, hls]))
    rw [Hf.out]
    rw [he] at HE ⊢
    clear he h1 h2 hl cb hls
    rcases hd with ⟨k, hk, -, -, h3, h4, -⟩ | ⟨-, h3, h4, -⟩
    · rw [h3] at HM
      rw [h4]
      clear h3 h4 hk Hf
      go_enter Try.func28, Try.ntmps28
      go_wp2_with (first
        | (go_at_call 77; (with_reducible refine HE.out.mono ?_); rintro e w2 ⟨rfl, hb3⟩; have q0b := cell_below q0 hb3; have q1b := cell_below q1 hb3)
        | (go_at_call 80; (with_reducible refine (HM.out _ hb3).mono ?_); rintro e w4 ⟨rfl, hb4⟩))
      go_ret3
      exact ⟨rfl, Hc1.out.trans ((hb3.trans (hb4.mono hb3.size)).mono Hc1.out.size)⟩
    · rw [h3] at HM
      rw [h4]
      clear h3 h4 Hf
      go_enter Try.func28, Try.ntmps28
      go_wp2_with (first
        | (go_at_call 77; (with_reducible refine HE.out.mono ?_); rintro e w2 ⟨rfl, hb3⟩; have q0b := cell_below q0 hb3; have q1b := cell_below q1 hb3)
        | (go_at_call 80; (with_reducible refine (HM.out _ hb3).mono ?_); rintro e w4 ⟨rfl, hb4⟩))
      go_ret3
      exact ⟨rfl, Hc1.out.trans ((hb3.trans (hb4.mono hb3.size)).mono Hc1.out.size)⟩
  · have Hf : Hid (resDec P l = (0, false)) := hid_ (if_neg he)
    rw [Hf.out]
    have hq : (errC P [l] != 0) = true := by simpa using he
    generalize errC P [l] = x at *
    clear he h1 h2 hl cb hd Hf
    go_enter Try.func28, Try.ntmps28
    go_wp2_with (go_at_call 77; (with_reducible refine HE.out.mono ?_); rintro e w2 ⟨rfl, hb3⟩)
    go_ret3
    exact ⟨rfl, Hc1.out.trans (hb3.mono Hc1.out.size)⟩
set_option maxRecDepth 100000 in
set_option maxHeartbeats 4000000 in
theorem r6Form_calls (v : Value) (P : Par) (a : Option Addr) (n c : Nat) (l : List Int) (w : World) (h : ParAt w v P) (hl : IntsAt w a n c l) :
    Calls Try.prog 30 #[v, .slice a n c] w fun e w' => e = .returned (.tuple #[.int .i64 (resForm P l).1, .bool (resForm P l).2, .int .i64 (errC P [l])]) ∧ Below w.heap.size w w' := by
  have hls := hl.len
  have HP := hid_ h
  obtain ⟨a1, n1, c1, a2, n2, c2, rfl, h1, h2⟩ := h
  obtain ⟨w1, hw1⟩ : ∃ w1, w.alloc (.cells #[.slice a1 n1 c1, .slice a2 n2 c2] 25) = w1 := ⟨_, rfl⟩
  have cb : Below w.heap.size w w1 := by rw [← hw1]; exact below_alloc _ _
  have q0 : w1.cell? ⟨w.heap.size, 0, none⟩ = some (.slice a1 n1 c1) := by rw [← hw1]; exact cells_alloc _ _ _ 0
  have q1 : w1.cell? ⟨w.heap.size, 1, none⟩ = some (.slice a2 n2 c2) := by rw [← hw1]; exact cells_alloc _ _ _ 1
  have HP1 := hid_ (HP.out.below cb (Nat.le_refl _)); have Hc1 := hid_ cb
  have HL := hid_ (hl.below cb (Nat.le_refl _))
  have HE := hid_ (celled_calls _ P a n c l w1 HP1.out HL.out)
  by_cases he : errC P [l] = 0
  · have HM := hid_ (fun W (hW : Below w1.heap.size w1 W) => r6form_calls _ P a n c l W (HP1.out.below hW (Nat.le_refl _)) (HL.out.below hW (Nat.le_refl _)) (errC_ok he).1 (by rw [errC_len he, hls]))
    have Hf : Hid (resForm P l = if 0 ≤ formR P l then (formR P l, true) else (0, false)) := hid_ (if_pos he)
    rw [Hf.out]
    rw [he] at HE ⊢
    clear he h1 h2 hl cb hls Hf
    generalize formR P l = y at *
    by_cases hy : 0 ≤ y
    · rw [if_pos hy]
      go_enter Try.func30, Try.ntmps30
      go_wp2_with (first
        | (go_at_call 77; (with_reducible refine HE.out.mono ?_); rintro e w2 ⟨rfl, hb3⟩; have q0b := cell_below q0 hb3; have q1b := cell_below q1 hb3)
        | (go_at_call 81; (with_reducible refine (HM.out _ hb3).mono ?_); rintro e w4 ⟨rfl, hb4⟩))
      go_ret3
      exact ⟨rfl, Hc1.out.trans ((hb3.trans (hb4.mono hb3.size)).mono Hc1.out.size)⟩
    · rw [if_neg hy]
      go_enter Try.func30, Try.ntmps30
      go_wp2_with (first
        | (go_at_call 77; (with_reducible refine HE.out.mono ?_); rintro e w2 ⟨rfl, hb3⟩; have q0b := cell_below q0 hb3; have q1b := cell_below q1 hb3)
        | (go_at_call 81; (with_reducible refine (HM.out _ hb3).mono ?_); rintro e w4 ⟨rfl, hb4⟩))
      go_ret3
      exact ⟨rfl, Hc1.out.trans ((hb3.trans (hb4.mono hb3.size)).mono Hc1.out.size)⟩
  · have Hf : Hid (resForm P l = (0, false)) := hid_ (if_neg he)
    rw [Hf.out]
    have hq : (errC P [l] != 0) = true := by simpa using he
    generalize errC P [l] = x at *
    clear he h1 h2 hl cb Hf
    go_enter Try.func30, Try.ntmps30
    go_wp2_with (go_at_call 77; (with_reducible refine HE.out.mono ?_); rintro e w2 ⟨rfl, hb3⟩)
    go_ret3
    exact ⟨rfl, Hc1.out.trans (hb3.mono Hc1.out.size)⟩
set_option maxRecDepth 100000 in
set_option maxHeartbeats 4000000 in
theorem ceDecides_calls (v : Value) (P : Par) (a : Option Addr) (n c : Nat) (l : List Int) (w : World) (h : ParAt w v P) (hl : IntsAt w a n c l) :
    Calls Try.prog 27 #[v, .slice a n c] w fun e w' => e = .returned (.tuple #[.int .i64 (resDec P l).1, .bool (resDec P l).2, .int .i64 (errC P [l])]) ∧ Below w.heap.size w w' := by
  have hls := hl.len
  have HP := hid_ h
  obtain ⟨a1, n1, c1, a2, n2, c2, rfl, h1, h2⟩ := h
  obtain ⟨w1, hw1⟩ : ∃ w1, w.alloc (.cells #[.slice a1 n1 c1, .slice a2 n2 c2] 25) = w1 := ⟨_, rfl⟩
  have cb : Below w.heap.size w w1 := by rw [← hw1]; exact below_alloc _ _
  have q0 : w1.cell? ⟨w.heap.size, 0, none⟩ = some (.slice a1 n1 c1) := by rw [← hw1]; exact cells_alloc _ _ _ 0
  have q1 : w1.cell? ⟨w.heap.size, 1, none⟩ = some (.slice a2 n2 c2) := by rw [← hw1]; exact cells_alloc _ _ _ 1
  have HP1 := hid_ (HP.out.below cb (Nat.le_refl _)); have Hc1 := hid_ cb
  have HL := hid_ (hl.below cb (Nat.le_refl _))
  have HE := hid_ (fun T => validateCells_calls _ P _ 1 1 [l] (w1.alloc (.cells #[.slice a n c] T)) (HP1.out.below (below_alloc _ _) (Nat.le_refl _)) (lists_one HL.out T))
  by_cases he : errC P [l] = 0
  · have Hf : Hid (resDec P l = decP P (matL P l)) := hid_ (if_pos he)
    have HM := hid_ (fun W (hW : Below w1.heap.size w1 W) => cedecides_calls _ P a n c l W (HP1.out.below hW (Nat.le_refl _)) (HL.out.below hW (Nat.le_refl _)) (errC_ok he).1 (by rw [errC_len he, hls]))
    rw [Hf.out]
    rw [he] at HE ⊢
    clear he h1 h2 hl cb hls Hf
    generalize decP P (matL P l) = d at *
    obtain ⟨d1, d2⟩ := d
    go_enter Try.func27, Try.ntmps27
    go_wp2_with (first
      | (go_at_call 75; (with_reducible refine (HE.out _).mono ?_); rintro e w2 ⟨rfl, hb2⟩; have hb3 := (below_alloc w1 (.cells #[.slice a n c] 22)).trans (hb2.mono (below_alloc w1 (.cells #[.slice a n c] 22)).size); have q0b := cell_below q0 hb3; have q1b := cell_below q1 hb3)
      | (go_at_call 79; (with_reducible refine (HM.out _ hb3).mono ?_); rintro e w4 ⟨rfl, hb4⟩))
    go_ret3
    exact ⟨rfl, Hc1.out.trans ((hb3.trans (hb4.mono hb3.size)).mono Hc1.out.size)⟩
  · have Hf : Hid (resDec P l = (0, false)) := hid_ (if_neg he)
    rw [Hf.out]
    have hq : (errC P [l] != 0) = true := by simpa using he
    generalize errC P [l] = x at *
    clear he h1 h2 hl cb Hf
    go_enter Try.func27, Try.ntmps27
    go_wp2_with (go_at_call 75; (with_reducible refine (HE.out _).mono ?_); rintro e w2 ⟨rfl, hb2⟩; have hb3 := (below_alloc w1 (.cells #[.slice a n c] 22)).trans (hb2.mono (below_alloc w1 (.cells #[.slice a n c] 22)).size))
    go_ret3
    exact ⟨rfl, Hc1.out.trans (hb3.mono Hc1.out.size)⟩
set_option maxRecDepth 100000 in
set_option maxHeartbeats 4000000 in
theorem ceForm_calls (v : Value) (P : Par) (a : Option Addr) (n c : Nat) (l : List Int) (w : World) (h : ParAt w v P) (hl : IntsAt w a n c l) :
    Calls Try.prog 29 #[v, .slice a n c] w fun e w' => e = .returned (.tuple #[.int .i64 (resForm P l).1, .bool (resForm P l).2, .int .i64 (errC P [l])]) ∧ Below w.heap.size w w' := by
  have hd := dec_cases P l
  have HP := hid_ h
  obtain ⟨a1, n1, c1, a2, n2, c2, rfl, h1, h2⟩ := h
  obtain ⟨w1, hw1⟩ : ∃ w1, w.alloc (.cells #[.slice a1 n1 c1, .slice a2 n2 c2] 25) = w1 := ⟨_, rfl⟩
  have cb : Below w.heap.size w w1 := by rw [← hw1]; exact below_alloc _ _
  have q0 : w1.cell? ⟨w.heap.size, 0, none⟩ = some (.slice a1 n1 c1) := by rw [← hw1]; exact cells_alloc _ _ _ 0
  have q1 : w1.cell? ⟨w.heap.size, 1, none⟩ = some (.slice a2 n2 c2) := by rw [← hw1]; exact cells_alloc _ _ _ 1
  have HP1 := hid_ (HP.out.below cb (Nat.le_refl _)); have Hc1 := hid_ cb
  have HE := hid_ (ceDecides_calls _ P a n c l w1 HP1.out (hl.below cb (Nat.le_refl _)))
  have H2 := hid_ (h2.below cb (Nat.le_refl _))
  by_cases he : errC P [l] = 0
  · have Hf : Hid (resForm P l = if 0 ≤ formR P l then (formR P l, true) else (0, false)) := hid_ (if_pos he)
    have Hd : resDec P l = decP P (matL P l) := if_pos he
    rw [Hf.out]
    rw [he, Hd] at HE
    rw [he]
    rcases hd with ⟨k, hk, -, -, -, h3, h4⟩ | ⟨-, -, h3, h4⟩
    · rw [h3] at HE
      have hfo := form_ok (errC_ok he).1 hk
      rw [h4, if_pos hfo.1]
      have hk2 : k < n2 := by rw [← h2.len]; exact hk
      have hn2 : n2 ≤ 9223372036854775807 := Nat.le_trans h2.le h2.small
      clear he h1 h2 hl cb h3 h4 hk Hf Hd hfo
      go_enter Try.func29, Try.ntmps29
      go_wp2_with (go_at_call 27; (with_reducible refine HE.out.mono ?_); rintro e w2 ⟨rfl, hb2⟩; have q0b := cell_below q0 hb2; have q1b := cell_below q1 hb2; obtain ⟨b, off, a3, n3, c3, rfl, -, k0, k1, hri⟩ := (H2.out.below hb2 (Nat.le_refl _)).cells k hk2)
      go_ret3
      exact ⟨rfl, Hc1.out.trans (hb2.mono Hc1.out.size)⟩
    · rw [h3] at HE
      rw [h4, if_neg (by decide)]
      clear he h1 h2 hl cb h3 h4 Hf Hd
      go_enter Try.func29, Try.ntmps29
      go_wp2_with (go_at_call 27; (with_reducible refine HE.out.mono ?_); rintro e w2 ⟨rfl, hb2⟩)
      go_ret3
      exact ⟨rfl, Hc1.out.trans (hb2.mono Hc1.out.size)⟩
  · have Hf : Hid (resForm P l = (0, false)) := hid_ (if_neg he)
    have Hd : resDec P l = (0, false) := if_neg he
    rw [Hf.out]
    rw [Hd] at HE
    clear he h1 h2 hl cb Hf Hd hd
    go_enter Try.func29, Try.ntmps29
    go_wp2_with (go_at_call 27; (with_reducible refine HE.out.mono ?_); rintro e w2 ⟨rfl, hb2⟩)
    go_ret3
    exact ⟨rfl, Hc1.out.trans (hb2.mono Hc1.out.size)⟩
end Go.Proofs.Ytahknodnjjmagaa
