import Derived.Test.YtpcpmdokgdbonaaVQ
import Derived.Test.YtpcpmdokgdbonaaVlt
namespace Go.Proofs.Kv
open Go.RowKit Go
theorem take_set8 {α : Type} (l : List α) (j : Nat) (y : α) (hj : j < l.length) : (l.set j y).take (j + 1) = l.take j ++ [y] := by
  apply List.ext_getElem?
  intro i
  by_cases h : i < j
  · rw [List.getElem?_take_of_lt (by omega), List.getElem?_set_ne (by omega), List.getElem?_append_left (by simp; omega), List.getElem?_take_of_lt h]
  · by_cases e : i = j
    · subst e
      rw [List.getElem?_take_of_lt (by omega), List.getElem?_set_self hj, List.getElem?_append_right (by simp; omega)]
      simp [Nat.min_eq_left (Nat.le_of_lt hj)]
    · rw [List.getElem?_eq_none (by simp; omega), List.getElem?_eq_none (by simp; omega)]
/-- items whose words behind the first j still lie in old memory -/
structure NewJ (EI E1 : TypeId) (w0 w : World) (B : Nat) (iv : Value) (xs : List Ic) (I : List It) (j : Nat) : Prop where
  ne : EI ≠ E1
  items : w.ownsRow B EI 3 iv I.length (xs.flatMap encI)
  len : xs.length = I.length
  old : ∀ i x, xs[i]? = some x → x.2 = ((I.getD i I0).kind, (I.getD i I0).cost) ∧ (j ≤ i → ∃ a n c, x.1 = .slice a n c ∧ IntsAt w0 a n c (I.getD i I0).word)
  rows : RowsIn E1 w B ((xs.take j).map (·.1)) ((I.take j).map (·.word))
theorem NewJ.below {EI E1 : TypeId} {w0 w w' : World} {B B' j : Nat} {iv : Value} {xs : List Ic} {I : List It} (h : NewJ EI E1 w0 w B iv xs I j) (hb : Below B' w w') (hB : w.heap.size ≤ B') : NewJ EI E1 w0 w' B iv xs I j :=
  ⟨h.ne, own_below h.items hb hB, h.len, h.old, h.rows.below hb hB⟩
theorem NewJ.step {EI E1 : TypeId} {w0 w w1 : World} {B j g n c : Nat} {u : Value} {xs : List Ic} {I : List It} {x : Ic} (h : NewJ EI E1 w0 w B (.slice (some ⟨g, 0, none⟩) n c) xs I j) (hn : n = I.length) (hj : j < I.length) (hx : xs[j]? = some x) (hB : B ≤ w.heap.size)
    (hb : Below w.heap.size w w1) (hu : w1.ownsRow w.heap.size E1 1 u (I.getD j I0).word.length ((I.getD j I0).word.map (Value.int .i64))) :
    NewJ EI E1 w0 (w1.setCell ⟨g, j * 3, none⟩ u) B (.slice (some ⟨g, 0, none⟩) n c) (xs.set j (u, x.2)) I (j + 1) := by
  have h1 := h.below hb (Nat.le_refl _)
  have hl := h.len
  have hi1 := h1.items
  rw [← hn] at hi1
  obtain ⟨s1, s2⟩ := hi1.stored (j * 3) u
  have s2' : w1.grownBy (w1.setCell ⟨g, j * 3, none⟩ u) (Value.slice (some ⟨g, 0, none⟩) n c).ownBlock := s2
  have hR := (h.rows.push hb hu hB).other h1.items h.ne s2'
  refine ⟨h.ne, ?_, by simp [hl], fun i y hy => ?_, ?_⟩
  · rw [← hn, ← encI_word xs j x u hx]; exact s1
  · by_cases e : i = j
    · subst e
      rw [List.getElem?_set_self (by omega)] at hy
      injection hy with hy; subst hy
      exact ⟨(h.old i x hx).1, fun h9 => absurd h9 (by omega)⟩
    · rw [List.getElem?_set_ne (Ne.symm e)] at hy
      exact ⟨(h.old i y hy).1, fun h9 => (h.old i y hy).2 (by omega)⟩
  · rw [take_set8 xs j _ (by omega), List.map_append, Kv.take_snoc I I0 j hj, List.map_append]
    exact hR
theorem NewJ.done {EI EL E1 : TypeId} {w0 w : World} {B : Nat} {iv : Value} {xs : List Ic} {I : List It} (h : NewJ EI E1 w0 w B iv xs I I.length) (h2 : EL ≠ E1) (h3 : EI ≠ EL) : NewI EI EL E1 w B iv (.slice none 0 0) xs [] ⟨I, []⟩ := by
  have hl := h.len
  refine ⟨h.ne, h2, h3, h.items, h.len, fun i x hx => (h.old i x hx).1, World.ownsRow_nil _ _ _ _, ?_⟩
  have := h.rows
  rw [List.take_of_length_le (by omega), List.take_of_length_le (by omega)] at this
  simpa using this
theorem NewI.other {EI EL E1 E n size : Nat} {w w' : World} {B B' : Nat} {iv fv v : Value} {xs : List Ic} {fs vs : List Value} {L : Lx} (h : NewI EI EL E1 w B iv fv xs fs L) (ho : w.ownsRow B' E size v n vs) (h1 : E ≠ EI) (h2 : E ≠ EL) (h3 : E ≠ E1) (hg : w.grownBy w' v.ownBlock) : NewI EI EL E1 w' B iv fv xs fs L :=
  ⟨h.ne1, h.ne2, h.ne3, own_kept_ne h.items hg (fun b hb => own_apart h.items ho (Ne.symm h1) b hb), h.len, h.kc, own_kept_ne h.fol hg (fun b hb => own_apart h.fol ho (Ne.symm h2) b hb), h.rows.other ho h3 hg⟩
end Go.Proofs.Kv
namespace Go.Proofs.Ytpcpmdokgdbonaa
open Go.RowKit Go.Proofs.Kv Go

/-! ### copied -/
set_option maxRecDepth 100000 in
set_option maxHeartbeats 8000000 in
theorem copied8_calls (v : Value) (L : Lx) (w : World) (h : LexAt w v L) (g : GoodL L) :
    Calls Try.prog 59 #[v] w fun e w' => ∃ iv fv xs fs, e = .returned (.agg #[iv, fv]) ∧ NewL w' w.heap.size iv fv xs fs L ∧ Below w.heap.size w w' := by
  have HP := hid_ h
  obtain ⟨a1, n1, c1, a2, n2, c2, rfl, h1, h2⟩ := h
  obtain ⟨w1, hw1⟩ : ∃ w1, w.alloc (.cells #[.slice a1 n1 c1, .slice a2 n2 c2] 25) = w1 := ⟨_, rfl⟩
  have cb : Below w.heap.size w w1 := by rw [← hw1]; exact below_alloc _ _
  have q0 : w1.cell? ⟨w.heap.size, 0, none⟩ = some (.slice a1 n1 c1) := by rw [← hw1]; exact cells_alloc _ _ _ 0
  have q1 : w1.cell? ⟨w.heap.size, 1, none⟩ = some (.slice a2 n2 c2) := by rw [← hw1]; exact cells_alloc _ _ _ 1
  have HP1 := hid_ (HP.out.below cb (Nat.le_refl _)); have Hc1 := hid_ cb
  obtain ⟨w2, hw2⟩ : ∃ w2, w1.alloc (.cells #[.slice none 0 0, .slice none 0 0] 25) = w2 := ⟨_, rfl⟩
  have z1 : w1.heap.size = w.heap.size + 1 := by rw [← hw1]; simp
  have z2 : w2.heap.size = w.heap.size + 2 := by rw [← hw2]; simp [z1]
  have b2 : Below w1.heap.size w1 w2 := by rw [← hw2]; exact below_alloc _ _
  have r0 : w2.cell? ⟨w.heap.size + 1, 0, none⟩ = some (.slice none 0 0) := by rw [← z1, ← hw2]; exact cells_alloc _ _ _ 0
  have r1 : w2.cell? ⟨w.heap.size + 1, 1, none⟩ = some (.slice none 0 0) := by rw [← z1, ← hw2]; exact cells_alloc _ _ _ 1
  have f0 : ∀ j, w2.frozen? ⟨w.heap.size + 1, j, none⟩ = false := fun j => by rw [← z1, ← hw2]; exact World.frozen?_alloc_at _ _ _ _ (by simp)
  have q02 := cell_below q0 b2; have q12 := cell_below q1 b2
  have hl1 := h1.len; have hl2 := h2.len
  have hn8 := g.le; have hn1 := g.ge; have hr4 := g.rows
  rw [hl1] at hn8 hn1
  rw [hl2] at hr4
  have hw6 : ∀ j, j < n1 → (L.items.getD j I0).word.length ≤ 6 := fun j hj => (g.word j (by omega)).2.1
  have hf4 : ∀ k, k < n2 → (L.follow.getD k []).length = 4 := fun k hk => (g.row k (by omega)).1
  have H2 := hid_ ((h2.below cb (Nat.le_refl _)).below b2 (Nat.le_refl _))
  have HC := hid_ (cloneI_calls a1 n1 c1 L.items w2 ((h1.below cb (Nat.le_refl _)).below b2 (Nat.le_refl _)) hn1 (by omega))
  have Hb2 : Hid (Below w.heap.size w w2) := hid_ (Hc1.out.trans (b2.mono Hc1.out.size))
  have Hw6 := hid_ hw6; have Hf4 := hid_ hf4
  have Hl1 := hid_ hl1; have Hl2 := hid_ hl2
  obtain ⟨i0, hi0, hz0, hz1, hz2⟩ := info_parts Try.infoInts
  have hr4' : n2 ≤ 4 := by omega
  clear h1 h2 cb b2 q0 q1 g hw6 hf4 hl1 hl2 HP HP1 hr4
  go_enter Try.func59, Try.ntmps59
  go_wp2_with (go_at_call 83; (with_reducible refine HC.out.mono ?_); rintro e w3 ⟨gi, ci, xs, rfl, ho3, hxl3, hx3, hb3⟩; have hglt := ho3.lt gi rfl; have q13 := cell_below q12 hb3; have Ho3 := hid_ ho3; have Hx3 := hid_ hx3; have Hxl3 := hid_ hxl3; have Hb3 := hid_ hb3; clear ho3 hx3 hxl3 hb3)
  clear hw1 hw2
  have E4 : ∀ j, (w3.alloc (.cells #[.slice (some ⟨gi, 0, none⟩) n1 ci, .slice none 0 0] 25)).frozen? ⟨w3.heap.size, j, none⟩ = false := fun j => World.frozen?_alloc_at _ _ _ _ (by simp)
  obtain ⟨w4, hw4⟩ : ∃ w4, w3.alloc (.cells #[.slice (some ⟨gi, 0, none⟩) n1 ci, .slice none 0 0] 25) = w4 := ⟨_, rfl⟩
  rw [hw4] at E4 ⊢
  have b4 : Below w3.heap.size w3 w4 := by rw [← hw4]; exact below_alloc _ _
  have z4 : w4.heap.size = w3.heap.size + 1 := by rw [← hw4]; simp
  have HOc : Hid (w4.ownsRow w3.heap.size 25 2 (.slice (some ⟨w3.heap.size, 0, none⟩) 1 1) 1 [.slice (some ⟨gi, 0, none⟩) n1 ci, .slice none 0 0]) := hid_ (by rw [← hw4]; exact World.ownsRow_lit (base := w3.heap.size) (e := 25) (size := 2) w3 #[.slice (some ⟨gi, 0, none⟩) n1 ci, .slice none 0 0] 1 (Nat.le_refl _) (by unfold maxLen; omega) rfl)
  have e40 : w4.cell? ⟨w3.heap.size, 0, none⟩ = some (.slice (some ⟨gi, 0, none⟩) n1 ci) := HOc.out.cellAt 0 (by omega)
  have hz3 : w2.heap.size ≤ w3.heap.size := Hb3.out.size
  have Hb4 := hid_ (Hb3.out.trans (b4.mono hz3))
  have HJ : Hid (NewJ 50 3 w2 w4 w2.heap.size (.slice (some ⟨gi, 0, none⟩) n1 ci) xs L.items 0) := hid_ ⟨by decide, by rw [Hl1.out]; exact own_below Ho3.out b4 (Nat.le_refl _), by rw [Hxl3.out, Hl1.out], fun i x hx => ⟨(Hx3.out i x hx).kc, fun _ => (Hx3.out i x hx).word⟩, RowsIn.nil _ _ _⟩
  clear E4 hw4 b4
  go_loopw [14] (fun iv wr => ∃ (j : Nat) (xs : List Ic), j ≤ n1 ∧ iv = .int .i64 j ∧ Below w2.heap.size w2 wr ∧ w3.heap.size < wr.heap.size ∧ wr.ownsRow w3.heap.size 25 2 (.slice (some ⟨w3.heap.size, 0, none⟩) 1 1) 1 [.slice (some ⟨gi, 0, none⟩) n1 ci, .slice none 0 0] ∧ NewJ 50 3 w2 wr w2.heap.size (.slice (some ⟨gi, 0, none⟩) n1 ci) xs L.items j) (fun iv _ => n1 - (intOf iv).toNat)
  case atStart => exact ⟨0, xs, Nat.zero_le _, rfl, Hb4.out, by omega, HOc.out, HJ.out⟩
  case round =>
    clear e40 HJ xs Ho3 Hx3 Hxl3 HOc
    obtain ⟨j, xs, hj, rfl, hb, hsz, hoc, hJ⟩ := hrel
    have e40 : wr.cell? ⟨w3.heap.size, 0, none⟩ = some (.slice (some ⟨gi, 0, none⟩) n1 ci) := hoc.cellAt 0 (by omega)
    have HOc := hid_ hoc
    clear hoc
    have hsr := hb.size
    by_cases hlt : j < n1
    · have hxj : j < xs.length := by rw [hJ.len, Hl1.out]; exact hlt
      have hx : xs[j]? = some xs[j] := List.getElem?_eq_getElem hxj
      obtain ⟨a5, n5, c5, hx1, hi5⟩ := (hJ.old j _ hx).2 (Nat.le_refl _)
      have hn5 := Hw6.out j hlt
      rw [hi5.len] at hn5
      obtain ⟨x0, x1⟩ := encI_at xs j _ hx
      rw [hx1] at x0
      have hit := hJ.items
      rw [Hl1.out] at hit
      have hc5 : wr.cell? ⟨gi, j * 3, none⟩ = some (.slice a5 n5 c5) := (hit.cellAt (j * 3) (by omega)).trans x0
      have HCl := hid_ (clone_calls a5 n5 c5 _ wr.drew ((hi5.below hb (Nat.le_refl _)).drewN 1) (by omega))
      have HJ := hid_ hJ
      have Hxj := hid_ hx
      have HS := hid_ (fun W (hW : Below wr.heap.size wr W) => (⟨cell_below e40 hW, cell_below hc5 hW⟩ : W.cell? ⟨w3.heap.size, 0, none⟩ = some (.slice (some ⟨gi, 0, none⟩) n1 ci) ∧ W.cell? ⟨gi, j * 3, none⟩ = some (.slice a5 n5 c5)))
      have bd : Below wr.heap.size wr wr.drew := Below.drew (Below.refl _ _)
      have Hb := hid_ hb
      clear hJ hx hx1 hit x0 x1 hi5 hb hc5
      go_wp2
      refine wp_region_last2 (n := 12) (S := fun W' => W'.cell? ⟨w3.heap.size, 0, none⟩ = some (.slice (some ⟨gi, 0, none⟩) n1 ci) ∧ W'.cell? ⟨gi, j * 3, none⟩ = some (.slice a5 n5 c5)) (by kernel_rfl) (by kernel_rfl) (HS.out _ bd) (fun hHeld => ?_)
      refine wpAnyH_take (i := 0) (oi := ?oi0h1) (v := ?v0h1) ?hi0h1 (by kernel_rfl) ?hf0h1 (by kernel_rfl) ?hQ0h1 ?hy0h1 (by assumption) ?rest0h1
      case hi0h1 => (simp only [List.getElem?_toArray, List.getElem?_cons_zero]; rfl)
      case hf0h1 => kernel_rfl
      case hQ0h1 => exact fun _ _ _ h => h
      case hy0h1 => (refine Or.inl ⟨by rfl, ?_⟩; intro W hSw; (try dsimp only at hSw); go_simp; try with_reducible rfl)
      try simp only [Act.put, List.setIfInBounds_toArray, List.set_cons_zero, List.set_cons_succ]
      refine wpAnyH_take (i := 1) (oi := ?oi1h2) (v := ?v1h2) ?hi1h2 (by kernel_rfl) ?hf1h2 (by kernel_rfl) ?hQ1h2 ?hy1h2 (by assumption) ?rest1h2
      case hi1h2 => (simp only [List.getElem?_toArray, List.getElem?_cons_succ, List.getElem?_cons_zero]; rfl)
      case hf1h2 => kernel_rfl
      case hQ1h2 => exact fun _ _ _ h => h
      case hy1h2 => (refine Or.inl ⟨by rfl, ?_⟩; intro W hSw; (try dsimp only at hSw); obtain ⟨g0, g1⟩ := hSw; go_simp; try with_reducible rfl)
      try simp only [Act.put, List.setIfInBounds_toArray, List.set_cons_zero, List.set_cons_succ]
      refine wpAnyH_take (i := 2) (oi := ?oi2h3) (v := ?v2h3) ?hi2h3 (by kernel_rfl) ?hf2h3 (by kernel_rfl) ?hQ2h3 ?hy2h3 (by assumption) ?rest2h3
      case hi2h3 => (simp only [List.getElem?_toArray, List.getElem?_cons_succ, List.getElem?_cons_zero]; rfl)
      case hf2h3 => kernel_rfl
      case hQ2h3 => exact fun _ _ _ h => h
      case hy2h3 => (refine Or.inl ⟨by rfl, ?_⟩; intro W hSw; (try dsimp only at hSw); go_simp; try with_reducible rfl)
      try simp only [Act.put, List.setIfInBounds_toArray, List.set_cons_zero, List.set_cons_succ]
      refine wpAnyH_take (i := 3) (oi := ?oi3h4) (v := ?v3h4) ?hi3h4 (by kernel_rfl) ?hf3h4 (by kernel_rfl) ?hQ3h4 ?hy3h4 (by assumption) ?rest3h4
      case hi3h4 => (simp only [List.getElem?_toArray, List.getElem?_cons_succ, List.getElem?_cons_zero]; rfl)
      case hf3h4 => kernel_rfl
      case hQ3h4 => exact fun _ _ _ h => h
      case hy3h4 => (refine Or.inl ⟨by rfl, ?_⟩; intro W hSw; (try dsimp only at hSw); go_simp; try with_reducible rfl)
      try simp only [Act.put, List.setIfInBounds_toArray, List.set_cons_zero, List.set_cons_succ]
      refine wpAnyH_take (i := 4) (oi := ?oi4h5) (v := ?v4h5) ?hi4h5 (by kernel_rfl) ?hf4h5 (by kernel_rfl) ?hQ4h5 ?hy4h5 (by assumption) ?rest4h5
      case hi4h5 => (simp only [List.getElem?_toArray, List.getElem?_cons_succ, List.getElem?_cons_zero]; rfl)
      case hf4h5 => kernel_rfl
      case hQ4h5 => exact fun _ _ _ h => h
      case hy4h5 => (refine Or.inl ⟨by rfl, ?_⟩; intro W hSw; (try dsimp only at hSw); obtain ⟨g0, g1⟩ := hSw; go_simp; try with_reducible rfl)
      try simp only [Act.put, List.setIfInBounds_toArray, List.set_cons_zero, List.set_cons_succ]
      refine wpAnyH_take (i := 5) (oi := ?oi5h6) (v := ?v5h6) ?hi5h6 (by kernel_rfl) ?hf5h6 (by kernel_rfl) ?hQ5h6 ?hy5h6 (by assumption) ?rest5h6
      case hi5h6 => (simp only [List.getElem?_toArray, List.getElem?_cons_succ, List.getElem?_cons_zero]; rfl)
      case hf5h6 => kernel_rfl
      case hQ5h6 => exact fun _ _ _ h => h
      case hy5h6 => (refine Or.inl ⟨by rfl, ?_⟩; intro W hSw; (try dsimp only at hSw); go_simp; try with_reducible rfl)
      try simp only [Act.put, List.setIfInBounds_toArray, List.set_cons_zero, List.set_cons_succ]
      refine wpAnyH_take (i := 6) (oi := ?oi6h7) (v := ?v6h7) ?hi6h7 (by kernel_rfl) ?hf6h7 (by kernel_rfl) ?hQ6h7 ?hy6h7 (by assumption) ?rest6h7
      case hi6h7 => (simp only [List.getElem?_toArray, List.getElem?_cons_succ, List.getElem?_cons_zero]; rfl)
      case hf6h7 => kernel_rfl
      case hQ6h7 => exact fun _ _ _ h => h
      case hy6h7 => (refine Or.inl ⟨by rfl, ?_⟩; intro W hSw; (try dsimp only at hSw); go_simp; try with_reducible rfl)
      try simp only [Act.put, List.setIfInBounds_toArray, List.set_cons_zero, List.set_cons_succ]
      refine wpAnyH_take (i := 7) (oi := ?oi7h8) (v := ?v7h8) ?hi7h8 (by kernel_rfl) ?hf7h8 (by kernel_rfl) ?hQ7h8 ?hy7h8 (by assumption) ?rest7h8
      case hi7h8 => (simp only [List.getElem?_toArray, List.getElem?_cons_succ, List.getElem?_cons_zero]; rfl)
      case hf7h8 => kernel_rfl
      case hQ7h8 => exact fun _ _ _ h => h
      case hy7h8 => (refine Or.inl ⟨by rfl, ?_⟩; intro W hSw; (try dsimp only at hSw); go_simp; try with_reducible rfl)
      try simp only [Act.put, List.setIfInBounds_toArray, List.set_cons_zero, List.set_cons_succ]
      refine wpAnyH_take (i := 8) (oi := ?oi8h9) (v := ?v8h9) ?hi8h9 (by kernel_rfl) ?hf8h9 (by kernel_rfl) ?hQ8h9 ?hy8h9 (by assumption) ?rest8h9
      case hi8h9 => (simp only [List.getElem?_toArray, List.getElem?_cons_succ, List.getElem?_cons_zero]; rfl)
      case hf8h9 => kernel_rfl
      case hQ8h9 => exact fun _ _ _ h => h
      case hy8h9 => (refine Or.inl ⟨by rfl, ?_⟩; intro W hSw; (try dsimp only at hSw); obtain ⟨g0, g1⟩ := hSw; go_simp; try with_reducible rfl)
      try simp only [Act.put, List.setIfInBounds_toArray, List.set_cons_zero, List.set_cons_succ]
      refine wpAnyH_ready (rs := [9]) (by kernel_rfl) (by simp) ?_
      refine AllReadyH.cons (o := _) (by (simp only [List.getElem?_toArray, List.getElem?_cons_succ, List.getElem?_cons_zero]; rfl)) (fun K hK => ?_) AllReadyH.nil
      go_simp
      (with_reducible refine HCl.out.mono ?_); rintro e w5 ⟨v5, rfl, hm5⟩; obtain ⟨a6, c6, rfl, -⟩ := hm5.at_; have bw5 : Below wr.heap.size wr w5 := (Below.drew (Below.refl _ _)).trans hm5.bel
      refine hK.out _ _ ?_ (fun hHeld => ?_)
      · exact HS.out _ bw5
      clear hK K
      try simp only [Act.put, List.setIfInBounds_toArray, List.set_cons_zero, List.set_cons_succ]
      refine wpAnyH_take (i := 10) (oi := ?oi10h10) (v := ?v10h10) ?hi10h10 (by kernel_rfl) ?hf10h10 (by kernel_rfl) ?hQ10h10 ?hy10h10 (by assumption) ?rest10h10
      case hi10h10 => (simp only [List.getElem?_toArray, List.getElem?_cons_succ, List.getElem?_cons_zero]; rfl)
      case hf10h10 => kernel_rfl
      case hQ10h10 => exact fun _ _ _ h => h
      case hy10h10 => (refine Or.inl ⟨by rfl, ?_⟩; intro W hSw; (try dsimp only at hSw); go_simp; try with_reducible rfl)
      try simp only [Act.put, List.setIfInBounds_toArray, List.set_cons_zero, List.set_cons_succ]
      refine wpAnyH_take (i := 11) (oi := ?oi11h11) (v := ?v11h11) ?hi11h11 (by kernel_rfl) ?hf11h11 (by kernel_rfl) ?hQ11h11 ?hy11h11 (by assumption) ?rest11h11
      case hi11h11 => (simp only [List.getElem?_toArray, List.getElem?_cons_succ, List.getElem?_cons_zero]; rfl)
      case hf11h11 => kernel_rfl
      case hQ11h11 => exact fun _ _ _ h => h
      case hy11h11 => (refine Or.inl ⟨by rfl, ?_⟩; intro W hSw; (try dsimp only at hSw); go_simp; try with_reducible rfl)
      try simp only [Act.put, List.setIfInBounds_toArray, List.set_cons_zero, List.set_cons_succ]
      have hgi5 : w5.frozen? ⟨gi, j * 3, none⟩ = false := by
        have h9 := (HJ.out.below bw5 (Nat.le_refl _)).items
        rw [Hl1.out] at h9
        exact h9.frozenAt _
      have hcc : w5.cell? ⟨gi, j * 3, none⟩ = some (.slice a5 n5 c5) := (HS.out _ bw5).2
      have HJ' := hid_ (HJ.out.step Hl1.out.symm (by rw [Hl1.out]; exact hlt) Hxj.out hsr bw5 hm5.own)
      have Hb5 := hid_ (Below.setCell (p := ⟨gi, j * 3, none⟩) (Hb.out.trans (bw5.mono hsr)) hglt.1 (.slice a6 (L.items.getD j I0).word.length c6))
      have hne : w3.heap.size ≠ gi := by omega
      have hoc5 := own_below HOc.out bw5 (Nat.le_refl _)
      have hit5 := (HJ.out.below bw5 (Nat.le_refl _)).items
      rw [Hl1.out] at hit5
      have X := hid_ (own_kept_ne hoc5 (hit5.stored (j * 3) (.slice a6 (L.items.getD j I0).word.length c6)).2 (fun b hb => by injection hb with hb; subst hb; intro e; injection e with e; exact hne e.symm))
      have hs5 : w3.heap.size < w5.heap.size := Nat.lt_of_lt_of_le hsz bw5.size
      generalize hwl : (L.items.getD j I0).word.length = wl at *
      clear hwl hm5 bw5 e40 hoc5 hit5
      refine wpAnyH_done (by kernel_rfl) ?_ _
      clear hHeld
      refine last_of ?_
      refine wpOp_step (o := _) (by (simp only [List.getElem?_toArray, List.getElem?_cons_succ, List.getElem?_cons_zero]; rfl)) (fun K hK => ?_)
      go_simp
      refine hK _ _ ?_
      clear hK K
      try simp only [Act.put, List.setIfInBounds_toArray, List.set_cons_zero, List.set_cons_succ]
      go_wp2
      go_roundw
      case rel => exact ⟨j + 1, _, by omega, by go_num, Hb5.out, by simpa using hs5, X.out, HJ'.out⟩
      case measure => simp [intOf]; omega
    · obtain rfl : n1 = j := by omega
      have q1r := cell_below q12 hb
      rw [← Hl1.out] at hJ
      have hN : NewL wr w2.heap.size (.slice (some ⟨gi, 0, none⟩) n1 ci) (.slice none 0 0) xs [] ⟨L.items, []⟩ := by
        have h9 := hJ.done (EL := 26) (by decide) (by decide)
        rw [Hl1.out] at h9; exact h9
      have HN := hid_ hN
      have Hb := hid_ hb
      have Hq1r := hid_ q1r
      clear hJ hN q13
      obtain ⟨wx, rfl⟩ : ∃ wx, wx = wr := ⟨_, rfl⟩
      clear HC e40
      go_wp2
      go_loopw [33] (fun iv wr => ∃ (k : Nat) (fv : Value) (fs : List Value), k ≤ n2 ∧ iv = .int .i64 k ∧ Below w2.heap.size w2 wr ∧ wr.ownsRow w3.heap.size 25 2 (.slice (some ⟨w3.heap.size, 0, none⟩) 1 1) 1 [.slice (some ⟨gi, 0, none⟩) n1 ci, fv] ∧ NewL wr w2.heap.size (.slice (some ⟨gi, 0, none⟩) n1 ci) fv xs fs ⟨L.items, L.follow.take k⟩) (fun iv _ => n2 - (intOf iv).toNat)
      case atStart => exact ⟨0, _, [], Nat.zero_le _, rfl, Hb.out, HOc.out, HN.out⟩
      case round =>
        clear HOc HN
        obtain ⟨k, fv, fs, hk, rfl, hbr, hoc, hN⟩ := hrel
        have HOc := hid_ hoc; have HN := hid_ hN
        have e40 : wr.cell? ⟨w3.heap.size, 0, none⟩ = some (.slice (some ⟨gi, 0, none⟩) n1 ci) := hoc.cellAt 0 (by omega)
        have e41 : wr.cell? ⟨w3.heap.size, 1, none⟩ = some fv := hoc.cellAt 1 (by omega)
        have hszr := hbr.size
        have hcl := (hoc.lt w3.heap.size rfl).2
        clear hoc hN
        by_cases hltk : k < n2
        · obtain ⟨b, off, a7, n7, c7, rfl, -, hcell, hrow⟩ := (H2.out.below hbr (Nat.le_refl _)).cells k hltk
          have hn7 := Hf4.out k hltk
          rw [hrow.len] at hn7
          have Hn7 := hid_ hn7
          have hn7' : n7 ≤ 4 := by omega
          have Htk : Hid (L.follow.take (k + 1) = L.follow.take k ++ [L.follow.getD k []]) := hid_ (Kv.take_snoc _ [] k (by rw [Hl2.out]; exact hltk))
          have Htl : Hid ((L.follow.take k).length = k) := hid_ (by rw [List.length_take, Hl2.out]; omega)
          have HCl := hid_ (clone_calls _ n7 c7 _ wr.drew (hrow.drewN 1) (by omega))
          have Hr := hid_ hrow
          have bd : Below wr.heap.size wr wr.drew := Below.drew (Below.refl _ _)
          generalize L.follow.getD k [] = r at *
          have Hbr := hid_ hbr
          clear hrow hbr hn7
          go_wp2
          refine wp_region_last2 (n := 7) (S := fun W' => W'.cell? ⟨w3.heap.size, 1, none⟩ = some fv) (by kernel_rfl) (by kernel_rfl) (cell_below e41 bd) (fun hHeld => ?_)
          refine wpAnyH_take (i := 0) (oi := ?oi0h12) (v := ?v0h12) ?hi0h12 (by kernel_rfl) ?hf0h12 (by kernel_rfl) ?hQ0h12 ?hy0h12 (by assumption) ?rest0h12
          case hi0h12 => (simp only [List.getElem?_toArray, List.getElem?_cons_zero]; rfl)
          case hf0h12 => kernel_rfl
          case hQ0h12 => exact fun _ _ _ h => h
          case hy0h12 => (refine Or.inl ⟨by rfl, ?_⟩; intro W hSw; (try dsimp only at hSw); go_simp; try with_reducible rfl)
          try simp only [Act.put, List.setIfInBounds_toArray, List.set_cons_zero, List.set_cons_succ]
          refine wpAnyH_take (i := 1) (oi := ?oi1h13) (v := ?v1h13) ?hi1h13 (by kernel_rfl) ?hf1h13 (by kernel_rfl) ?hQ1h13 ?hy1h13 (by assumption) ?rest1h13
          case hi1h13 => (simp only [List.getElem?_toArray, List.getElem?_cons_succ, List.getElem?_cons_zero]; rfl)
          case hf1h13 => kernel_rfl
          case hQ1h13 => exact fun _ _ _ h => h
          case hy1h13 => (refine Or.inl ⟨by rfl, ?_⟩; intro W hSw; (try dsimp only at hSw); go_simp; try with_reducible rfl)
          try simp only [Act.put, List.setIfInBounds_toArray, List.set_cons_zero, List.set_cons_succ]
          refine wpAnyH_take (i := 2) (oi := ?oi2h14) (v := ?v2h14) ?hi2h14 (by kernel_rfl) ?hf2h14 (by kernel_rfl) ?hQ2h14 ?hy2h14 (by assumption) ?rest2h14
          case hi2h14 => (simp only [List.getElem?_toArray, List.getElem?_cons_succ, List.getElem?_cons_zero]; rfl)
          case hf2h14 => kernel_rfl
          case hQ2h14 => exact fun _ _ _ h => h
          case hy2h14 => (refine Or.inl ⟨by rfl, ?_⟩; intro W hSw; (try dsimp only at hSw); go_simp; try with_reducible rfl)
          try simp only [Act.put, List.setIfInBounds_toArray, List.set_cons_zero, List.set_cons_succ]
          refine wpAnyH_ready (rs := [3]) (by kernel_rfl) (by simp) ?_
          refine AllReadyH.cons (o := _) (by (simp only [List.getElem?_toArray, List.getElem?_cons_succ, List.getElem?_cons_zero]; rfl)) (fun K hK => ?_) AllReadyH.nil
          go_simp
          (with_reducible refine HCl.out.mono ?_); rintro e w5 ⟨v5, rfl, hm5⟩; obtain ⟨a6, c6, rfl, -⟩ := hm5.at_; have bw5 : Below wr.heap.size wr w5 := (Below.drew (Below.refl _ _)).trans hm5.bel
          refine hK.out _ _ ?_ (fun hHeld => ?_)
          · exact cell_below e41 bw5
          clear hK K
          try simp only [Act.put, List.setIfInBounds_toArray, List.set_cons_zero, List.set_cons_succ]
          have bw6 : Below wr.heap.size wr (w5.alloc (.cells #[.slice a6 r.length c6] 26)) := bw5.alloc bw5.size _
          refine wpAnyH_ready (rs := [4]) (by kernel_rfl) (by simp) ?_
          refine AllReadyH.cons (o := _) (by (simp only [List.getElem?_toArray, List.getElem?_cons_succ, List.getElem?_cons_zero]; rfl)) (fun K hK => ?_) AllReadyH.nil
          go_simp
          refine hK.out _ _ ?_ (fun hHeld => ?_)
          · exact cell_below e41 bw6
          clear hK K
          try simp only [Act.put, List.setIfInBounds_toArray, List.set_cons_zero, List.set_cons_succ]
          have hf6 := own_below HN.out.fol bw6 (Nat.le_refl _)
          simp only [Htl.out] at hf6
          have hz6 : w2.heap.size ≤ (w5.alloc (.cells #[.slice a6 r.length c6] 26)).heap.size := Nat.le_trans hszr bw6.size
          refine wpAnyH_ready (rs := [5]) (by kernel_rfl) (by simp) ?_
          refine AllReadyH.cons (o := _) (by (simp only [List.getElem?_toArray, List.getElem?_cons_succ, List.getElem?_cons_zero]; rfl)) (fun K hK => ?_) AllReadyH.nil
          refine step_push_val2 rfl (.tmp 38) (.tmp 41) _ rfl w2.heap.size 26 i0 Try.underlying23 hi0 hz0 rfl hz1 hz2 (by omega) fv k fs (by rfl) hf6 (.slice a6 r.length c6) rfl w5.heap.size (by rfl) (cells_alloc _ _ _ 0) (by omega) hz6 ?_; intro v7 w7 hown7 hg7
          refine hK.out _ _ ?_ (fun hHeld => ?_)
          · exact hg7.cell (cell_below e41 bw6) (fun e => own_apart (own_below HOc.out bw6 (Nat.le_refl _)) hf6 (by decide) w3.heap.size rfl e.symm)
          clear hK K
          try simp only [Act.put, List.setIfInBounds_toArray, List.set_cons_zero, List.set_cons_succ]
          refine wpAnyH_take (i := 6) (oi := ?oi6h15) (v := ?v6h15) ?hi6h15 (by kernel_rfl) ?hf6h15 (by kernel_rfl) ?hQ6h15 ?hy6h15 (by assumption) ?rest6h15
          case hi6h15 => (simp only [List.getElem?_toArray, List.getElem?_cons_succ, List.getElem?_cons_zero]; rfl)
          case hf6h15 => kernel_rfl
          case hQ6h15 => exact fun _ _ _ h => h
          case hy6h15 => (refine Or.inl ⟨by rfl, ?_⟩; intro W hSw; (try dsimp only at hSw); go_simp; try with_reducible rfl)
          try simp only [Act.put, List.setIfInBounds_toArray, List.set_cons_zero, List.set_cons_succ]
          have hN7 := NewI.push (r := r) HN.out hszr bw5 (show w5.ownsRow wr.heap.size 3 1 (.slice a6 r.length c6) r.length _ from hm5.own) (by rw [Htl.out]; exact hown7) hg7
          have hoc7 := own_kept_ne (own_below HOc.out bw6 (Nat.le_refl _)) hg7 (fun b hb => own_apart (own_below HOc.out bw6 (Nat.le_refl _)) hf6 (by decide) b hb)
          have h71 : w7.cell? ⟨w3.heap.size, 1, none⟩ = some fv := hoc7.cellAt 1 (by omega)
          have h7f : w7.frozen? ⟨w3.heap.size, 1, none⟩ = false := hoc7.frozenAt 1
          have hst := hoc7.stored 1 v7
          have HN8 := hid_ (hN7.other hoc7 (by decide) (by decide) (by decide) hst.2)
          have HOc8 := hid_ hst.1
          have Hb8 : Hid (Below w2.heap.size w2 (w7.setCell ⟨w3.heap.size, 1, none⟩ v7)) := hid_ (Below.setCell (p := ⟨w3.heap.size, 1, none⟩) ((Hbr.out.trans (bw6.mono hszr)).grown hg7 hz6 (fun q e => (hf6.lt q e).1)) hz3 _)
          obtain ⟨a9, c9, hv9, -⟩ := HN8.out.listsAt
          have e9 : (L.follow.take k ++ [r]).length = k + 1 := by rw [List.length_append, Htl.out]; rfl
          replace hv9 : v7 = .slice a9 (k + 1) c9 := by rw [← e9]; exact hv9
          rw [← Htk.out] at HN8
          clear e9
          clear hN7 hoc7 hst hf6 hg7 hown7 bw5 bw6 hm5 e40 e41
          subst hv9
          refine wpAnyH_done (by kernel_rfl) ?_ _
          clear hHeld
          refine last_of ?_
          refine wpOp_step (o := _) (by (simp only [List.getElem?_toArray, List.getElem?_cons_succ, List.getElem?_cons_zero]; rfl)) (fun K hK => ?_)
          go_simp
          refine hK _ _ ?_
          clear hK K
          try simp only [Act.put, List.setIfInBounds_toArray, List.set_cons_zero, List.set_cons_succ]
          go_wp2
          go_roundw
          case rel => exact ⟨k + 1, _, _, by omega, by go_num, Hb8.out, HOc8.out, HN8.out⟩
          case measure => simp [intOf]; omega
        · obtain rfl : n2 = k := by omega
          rw [← Hl2.out, List.take_length] at HN
          obtain ⟨a9, c9, hv9, -⟩ := HN.out.listsAt
          subst hv9
          have q0r := (hbr.cell (p := ⟨w.heap.size + 1, 0, none⟩) (by show w.heap.size + 1 < w2.heap.size; omega)).trans r0
          have q1r := (hbr.cell (p := ⟨w.heap.size + 1, 1, none⟩) (by show w.heap.size + 1 < w2.heap.size; omega)).trans r1
          have g0 := (hbr.frozen (p := ⟨w.heap.size + 1, 0, none⟩) (by show w.heap.size + 1 < w2.heap.size; omega)).trans (f0 0)
          have g1 := (hbr.frozen (p := ⟨w.heap.size + 1, 1, none⟩) (by show w.heap.size + 1 < w2.heap.size; omega)).trans (f0 1)
          have Hbr := hid_ hbr
          clear hbr
          generalize hfl : L.follow.length = m at *
          obtain ⟨t0, t1⟩ : (((wr.setCell ⟨w.heap.size + 1, 0, none⟩ (.slice (some ⟨gi, 0, none⟩) n1 ci)).setCell ⟨w.heap.size + 1, 1, none⟩ (.slice a9 m c9)).cell? ⟨w.heap.size + 1, 0, none⟩ = some (.slice (some ⟨gi, 0, none⟩) n1 ci)) ∧ (((wr.setCell ⟨w.heap.size + 1, 0, none⟩ (.slice (some ⟨gi, 0, none⟩) n1 ci)).setCell ⟨w.heap.size + 1, 1, none⟩ (.slice a9 m c9)).cell? ⟨w.heap.size + 1, 1, none⟩ = some (.slice a9 m c9)) := by
            refine ⟨?_, ?_⟩
            · rw [World.cell?_setCell_other _ _ _ _ (by simp), World.cell?_setCell_same _ _ _ q0r]
            · rw [World.cell?_setCell_same _ _ _ (by rw [World.cell?_setCell_other _ _ _ _ (by simp)]; exact q1r)]
          go_wp2
          refine bodyPost_ret (v := .agg #[.slice (some ⟨gi, 0, none⟩) n1 ci, .slice a9 m c9]) ?_ rfl ⟨_, _, xs, fs, rfl, ?_, ?_⟩
          · simp [results, Try.results59, go_sem, t0, t1]
          · have hp : w.heap.size + 1 < w2.heap.size := by omega
            exact ((HN.out.store (p := ⟨w.heap.size + 1, 0, none⟩) hp _).store (p := ⟨w.heap.size + 1, 1, none⟩) hp _).base (by omega)
          · have hf := Hb2.out.trans (Hbr.out.mono Hb2.out.size)
            exact (hf.setCell (p := ⟨w.heap.size + 1, 0, none⟩) (by show _ ≤ _ + 1; omega) _).setCell (p := ⟨w.heap.size + 1, 1, none⟩) (by show _ ≤ _ + 1; omega) _
end Go.Proofs.Ytpcpmdokgdbonaa
