import Derived.Test.YtdnlpikfibdjoaaZde
import Derived.Test.YtdnlpikfibdjoaaZvc
namespace Go.Proofs.Ytdnlpikfibdjoaa
open Go.RowKit Go.Proofs.Kv Go

theorem SpecV.own {w : World} {B E n : Nat} {v : Value} {l : List Int} (h : w.ownsRow B E 1 v n (l.map (Value.int .i64))) : SpecV w B none v l := by
  obtain ⟨a, c, e, hi⟩ := IntsAt.own h
  refine ⟨a, n, c, e, ⟨hi, own_soft (e ▸ h)⟩, fun b off hn ha => ⟨?_, by simp⟩⟩
  exact (h.lt b (by rw [e, ha]; rfl)).1
set_option maxRecDepth 100000 in
set_option maxHeartbeats 8000000 in
theorem r6Copy_calls (v : Value) (P : Par) (w : World) (h : ParAt w v P) (hs3 : P.sizes.length ≤ 1000) (h50 : P.ents.length ≤ 1000) (hsp : ∀ k, k < P.ents.length → (P.ents.getD k E0).spec.length ≤ 1000) :
    Calls Try.prog 12 #[v] w fun e w' => ∃ v', e = .returned v' ∧ MadeP6 w w' v' P := by
  obtain ⟨i0, hi0, hz0, hz1, hz2⟩ := info_parts Try.infoInt
  have HP := hid_ h
  obtain ⟨a1, n1, c1, a2, n2, c2, rfl, h1, h2⟩ := h
  obtain ⟨w1, hw1⟩ : ∃ w1, w.alloc (.cells #[.slice a1 n1 c1, .slice a2 n2 c2] 25) = w1 := ⟨_, rfl⟩
  have cb : Below w.heap.size w w1 := by rw [← hw1]; exact below_alloc _ _
  have q0 : w1.cell? ⟨w.heap.size, 0, none⟩ = some (.slice a1 n1 c1) := by rw [← hw1]; exact cells_alloc _ _ _ 0
  have q1 : w1.cell? ⟨w.heap.size, 1, none⟩ = some (.slice a2 n2 c2) := by rw [← hw1]; exact cells_alloc _ _ _ 1
  have HP1 := hid_ (HP.out.below cb (Nat.le_refl _)); have Hc1 := hid_ cb
  obtain ⟨w2, hw2⟩ : ∃ w2, w1.alloc (.cells #[.slice none 0 0, .slice none 0 0] 25) = w2 := ⟨_, rfl⟩
  have z1 : w1.heap.size = w.heap.size + 1 := by rw [← hw1]; simp
  have z2 : w2.heap.size = w.heap.size + 2 := by rw [← hw2]; simp [z1]
  have b2 : Below w1.heap.size w1 w2 := by rw [← hw2]; exact below_alloc _ _
  have r0 : w2.cell? ⟨w.heap.size + 1, 0, none⟩ = some (.slice none 0 0) := by rw [← z1, ← hw2]; exact cells_alloc _ _ _ 0
  have r1 : w2.cell? ⟨w.heap.size + 1, 1, none⟩ = some (.slice none 0 0) := by rw [← z1, ← hw2]; exact cells_alloc _ _ _ 1
  have f0 : ∀ j, w2.frozen? ⟨w.heap.size + 1, j, none⟩ = false := fun j => by rw [← z1, ← hw2]; exact World.frozen?_alloc_at _ _ _ _ (by simp)
  have q02 := cell_below q0 b2; have q12 := cell_below q1 b2
  have hn := h1.len
  have hn2 : n2 ≤ 9223372036854775807 := Nat.le_trans h2.le h2.small
  have hln := h2.len
  have H1 := hid_ ((h1.below cb (Nat.le_refl _)).below b2 (Nat.le_refl _))
  have H2 := hid_ ((h2.below cb (Nat.le_refl _)).below b2 (Nat.le_refl _))
  have Hb2 : Hid (Below w.heap.size w w2) := hid_ (Hc1.out.trans (b2.mono Hc1.out.size))
  have Hn1 := hid_ hn
  have hn3 : 0 + n1 ≤ 1000000 := by omega
  have Z2 := hid_ z2
  have qe := cell_below q02 (below_alloc w2 (.cells #[] 3))
  clear h1 h2 cb hn b2 q0 q1 z2
  go_enter Try.func12, Try.ntmps12
  go_wp2_with (at_builtin; refine wpList_append_ints _ rfl (.tmp 5) (.tmp 7) _ rfl w2.heap.size 3 i0 Try.underlying22 hi0 hz0 hz1 hz2 _ 0 [] rfl (World.ownsRow_lit (base := w2.heap.size) (e := 3) (size := 1) w2 #[] 0 (Nat.le_refl _) (by unfold maxLen; omega) rfl) a1 n1 c1 _ rfl (H1.out.below ((Below.refl w2.heap.size w2).alloc (Nat.le_refl _) _) (Nat.le_refl _)) hn3 (by simp) ?_; intro v3 w3 ho3 hg3 hat3; simp only [Nat.zero_add, List.nil_append] at ho3; have hb3 : Below w2.heap.size w2 w3 := ((Below.refl w2.heap.size w2).alloc (Nat.le_refl _) _).grown hg3 (by simp) (fun r e => by cases e; exact Nat.le_refl _); obtain ⟨a3, c3, rfl, -⟩ := IntsAt.own ho3; have hm3 : Made 3 w2 w3 (.slice a3 n1 c3) P.sizes := ⟨by rw [Hn1.out]; exact ho3, hb3⟩; have q03 := cell_below q02 hb3; have q13 := cell_below q12 hb3; have hz3 : w.heap.size < w3.heap.size := (by have := hb3.size; have := Z2.out; omega); have q14 := cell_below q13 (below_alloc w3 (.cells #[.slice a3 n1 c3, .slice none 0 0] 25)); clear ho3 hg3 hat3)
  have z2 := Z2.out
  have Hm3 := hid_ hm3
  have Hb3 := hid_ hb3
  have E4 : ∀ j, (w3.alloc (.cells #[.slice a3 n1 c3, .slice none 0 0] 25)).frozen? ⟨w3.heap.size, j, none⟩ = false := fun j => World.frozen?_alloc_at _ _ _ _ (by simp)
  have Hr0 := hid_ (cell_below r0 hb3); have Hr1 := hid_ (cell_below r1 hb3)
  have Hf := hid_ (fun j => (hb3.frozen (p := ⟨w.heap.size + 1, j, none⟩) (by show w.heap.size + 1 < w2.heap.size; omega)).trans (f0 j))
  have Hln := hid_ hln
  have hn50 : n2 ≤ 1000 := by omega
  have Hsp := hid_ hsp
  have hz5 : w.heap.size + 2 ≤ w3.heap.size := by have := hb3.size; omega
  clear hm3 hb3 r0 r1 f0 q02 q12 hw1 hw2 hsp hn3 qe z2 hln h50
  go_loopw [4] (fun i wr => ∃ k : Nat, ∃ x : Value, k ≤ n2 ∧ i = .int .i64 k ∧ (Below w3.heap.size w3 wr ∧ w3.heap.size + 1 ≤ wr.heap.size) ∧ (wr.cell? ⟨w3.heap.size, 0, none⟩ = some (.slice a3 n1 c3) ∧ CF ⟨w3.heap.size, 1, none⟩ x wr) ∧ OwnE wr (w3.heap.size + 1) x (P.ents.take k)) (fun i _ => n2 - (intOf i).toNat)
  case atStart => exact ⟨0, .slice none 0 0, Nat.zero_le _, rfl, ⟨below_alloc _ _, by simp⟩, ⟨cells_alloc _ _ _ 0, cells_alloc _ _ _ 1, E4 1⟩, OwnE.nil _ _⟩
  case round =>
    clear E4
    obtain ⟨k, x, hk, rfl, ⟨hb, hsz⟩, ⟨hc0, hc1, hc1f⟩, hown⟩ := hrel
    have p1 := cell_below q13 hb
    by_cases hlt : k < n2
    · obtain ⟨b, off, a5, n5, c5, rfl, hbl, k0, k1, hi⟩ := (H2.out.below Hb3.out (Nat.le_refl _)).cells k hlt
      have k0 := cell_below k0 hb; have k1 := cell_below k1 hb; have hi := hi.below hb (Nat.le_refl _)
      have hl5 : 0 + n5 ≤ 1000000 := by have := Hsp.out k (by rw [Hln.out]; exact hlt); have := hi.len; omega
      have Hsn : Hid (P.ents.take (k + 1) = P.ents.take k ++ [P.ents.getD k E0]) := hid_ (take_snoc _ E0 k (by rw [Hln.out]; exact hlt))
      have Hl1 : Hid ((P.ents.take k ++ [P.ents.getD k E0]).length = k + 1) := hid_ (by rw [← Hsn.out, List.length_take, Hln.out]; omega)
      have Hlk : Hid ((P.ents.take k).length + 1 ≤ 100000) := hid_ (by rw [List.length_take]; omega)
      generalize hen : P.ents.getD k E0 = en at *
      clear hen
      obtain ⟨l, fm⟩ := en
      dsimp only at hi k1
      have HOw := hid_ hown
      have Hc0 := hid_ hc0
      have Hb := hid_ hb
      have Hi := hid_ hi
      have d1f := hc1f
      have x8 : wr.heap.size < (wr.drew.alloc (.cells #[] 3)).heap.size := by simp
      have S8 : ∀ W, Below wr.heap.size wr W → W.cell? ⟨w3.heap.size, 1, none⟩ = some x ∧ W.cell? ⟨w.heap.size, 1, none⟩ = some (.slice (some ⟨b, off, none⟩) n2 c2) ∧ W.cell? ⟨b, off + k * 2, none⟩ = some (.slice a5 n5 c5) ∧ W.cell? ⟨b, off + k * 2 + 1, none⟩ = some (.int .i64 fm) := fun W hW => ⟨cell_below hc1 hW, cell_below p1 hW, cell_below k0 hW, cell_below k1 hW⟩
      have HS8 := hid_ S8
      have bd : Below wr.heap.size wr wr.drew := Below.drew (Below.refl _ _)
      have b8 := bd.alloc (Nat.le_refl _) (.cells #[] 3)
      have HI8 := hid_ (hi.below b8 (Nat.le_refl _))
      clear hi hown hc1f hb S8 hc0
      go_wp2_with fail
      refine wp_region_last (n := 20) (S := fun W' => W'.cell? ⟨w3.heap.size, 1, none⟩ = some x ∧ W'.cell? ⟨w.heap.size, 1, none⟩ = some (.slice (some ⟨b, off, none⟩) n2 c2) ∧ W'.cell? ⟨b, off + k * 2, none⟩ = some (.slice a5 n5 c5) ∧ W'.cell? ⟨b, off + k * 2 + 1, none⟩ = some (.int .i64 fm)) (by kernel_rfl) (by kernel_rfl) (HS8.out _ bd) (fun hHeld => ?_)
      refine wpAnyH_take (i := 0) (oi := ?oi0h1) (v := ?v0h1) ?hi0h1 (by kernel_rfl) ?hf0h1 (by kernel_rfl) ?hQ0h1 ?hy0h1 (by assumption) ?rest0h1
      case hi0h1 => (simp only [List.getElem?_toArray, List.getElem?_cons_zero]; rfl)
      case hf0h1 => kernel_rfl
      case hQ0h1 => exact fun _ _ _ h => h
      case hy0h1 => (refine Or.inl ⟨by rfl, ?_⟩; intro W hSw; (try dsimp only at hSw); go_simp; try with_reducible rfl)
      try simp only [Act.put, List.setIfInBounds_toArray, List.set_cons_zero, List.set_cons_succ]
      refine wpAnyH_take (i := 1) (oi := ?oi1h2) (v := ?v1h2) ?hi1h2 (by kernel_rfl) ?hf1h2 (by kernel_rfl) ?hQ1h2 ?hy1h2 (by assumption) ?rest1h2
      case hi1h2 => (simp only [List.getElem?_toArray, List.getElem?_cons_succ, List.getElem?_cons_zero]; rfl)
      case hf1h2 => kernel_rfl
      case hQ1h2 => exact fun _ _ _ h => h
      case hy1h2 => (refine Or.inl ⟨by rfl, ?_⟩; intro W hSw; (try dsimp only at hSw); obtain ⟨g0, g1, g2, g3⟩ := hSw; go_simp; try with_reducible rfl)
      try simp only [Act.put, List.setIfInBounds_toArray, List.set_cons_zero, List.set_cons_succ]
      refine wpAnyH_take (i := 3) (oi := ?oi3h3) (v := ?v3h3) ?hi3h3 (by kernel_rfl) ?hf3h3 (by kernel_rfl) ?hQ3h3 ?hy3h3 (by assumption) ?rest3h3
      case hi3h3 => (simp only [List.getElem?_toArray, List.getElem?_cons_succ, List.getElem?_cons_zero]; rfl)
      case hf3h3 => kernel_rfl
      case hQ3h3 => exact fun _ _ _ h => h
      case hy3h3 => (refine Or.inl ⟨by rfl, ?_⟩; intro W hSw; (try dsimp only at hSw); go_simp; try with_reducible rfl)
      try simp only [Act.put, List.setIfInBounds_toArray, List.set_cons_zero, List.set_cons_succ]
      refine wpAnyH_take (i := 4) (oi := ?oi4h4) (v := ?v4h4) ?hi4h4 (by kernel_rfl) ?hf4h4 (by kernel_rfl) ?hQ4h4 ?hy4h4 (by assumption) ?rest4h4
      case hi4h4 => (simp only [List.getElem?_toArray, List.getElem?_cons_succ, List.getElem?_cons_zero]; rfl)
      case hf4h4 => kernel_rfl
      case hQ4h4 => exact fun _ _ _ h => h
      case hy4h4 => (refine Or.inl ⟨by rfl, ?_⟩; intro W hSw; (try dsimp only at hSw); obtain ⟨g0, g1, g2, g3⟩ := hSw; go_simp; try with_reducible rfl)
      try simp only [Act.put, List.setIfInBounds_toArray, List.set_cons_zero, List.set_cons_succ]
      refine wpAnyH_take (i := 5) (oi := ?oi5h5) (v := ?v5h5) ?hi5h5 (by kernel_rfl) ?hf5h5 (by kernel_rfl) ?hQ5h5 ?hy5h5 (by assumption) ?rest5h5
      case hi5h5 => (simp only [List.getElem?_toArray, List.getElem?_cons_succ, List.getElem?_cons_zero]; rfl)
      case hf5h5 => kernel_rfl
      case hQ5h5 => exact fun _ _ _ h => h
      case hy5h5 => (refine Or.inl ⟨by rfl, ?_⟩; intro W hSw; (try dsimp only at hSw); go_simp; try with_reducible rfl)
      try simp only [Act.put, List.setIfInBounds_toArray, List.set_cons_zero, List.set_cons_succ]
      refine wpAnyH_take (i := 6) (oi := ?oi6h6) (v := ?v6h6) ?hi6h6 (by kernel_rfl) ?hf6h6 (by kernel_rfl) ?hQ6h6 ?hy6h6 (by assumption) ?rest6h6
      case hi6h6 => (simp only [List.getElem?_toArray, List.getElem?_cons_succ, List.getElem?_cons_zero]; rfl)
      case hf6h6 => kernel_rfl
      case hQ6h6 => exact fun _ _ _ h => h
      case hy6h6 => (refine Or.inl ⟨by rfl, ?_⟩; intro W hSw; (try dsimp only at hSw); go_simp; try with_reducible rfl)
      try simp only [Act.put, List.setIfInBounds_toArray, List.set_cons_zero, List.set_cons_succ]
      refine wpAnyH_take (i := 7) (oi := ?oi7h7) (v := ?v7h7) ?hi7h7 (by kernel_rfl) ?hf7h7 (by kernel_rfl) ?hQ7h7 ?hy7h7 (by assumption) ?rest7h7
      case hi7h7 => (simp only [List.getElem?_toArray, List.getElem?_cons_succ, List.getElem?_cons_zero]; rfl)
      case hf7h7 => kernel_rfl
      case hQ7h7 => exact fun _ _ _ h => h
      case hy7h7 => (refine Or.inl ⟨by rfl, ?_⟩; intro W hSw; (try dsimp only at hSw); go_simp; try with_reducible rfl)
      try simp only [Act.put, List.setIfInBounds_toArray, List.set_cons_zero, List.set_cons_succ]
      refine wpAnyH_take (i := 8) (oi := ?oi8h8) (v := ?v8h8) ?hi8h8 (by kernel_rfl) ?hf8h8 (by kernel_rfl) ?hQ8h8 ?hy8h8 (by assumption) ?rest8h8
      case hi8h8 => (simp only [List.getElem?_toArray, List.getElem?_cons_succ, List.getElem?_cons_zero]; rfl)
      case hf8h8 => kernel_rfl
      case hQ8h8 => exact fun _ _ _ h => h
      case hy8h8 => (refine Or.inl ⟨by rfl, ?_⟩; intro W hSw; (try dsimp only at hSw); obtain ⟨g0, g1, g2, g3⟩ := hSw; go_simp; try with_reducible rfl)
      try simp only [Act.put, List.setIfInBounds_toArray, List.set_cons_zero, List.set_cons_succ]
      refine wpAnyH_take (i := 10) (oi := ?oi10h9) (v := ?v10h9) ?hi10h9 (by kernel_rfl) ?hf10h9 (by kernel_rfl) ?hQ10h9 ?hy10h9 (by assumption) ?rest10h9
      case hi10h9 => (simp only [List.getElem?_toArray, List.getElem?_cons_succ, List.getElem?_cons_zero]; rfl)
      case hf10h9 => kernel_rfl
      case hQ10h9 => exact fun _ _ _ h => h
      case hy10h9 => (refine Or.inl ⟨by rfl, ?_⟩; intro W hSw; (try dsimp only at hSw); go_simp; try with_reducible rfl)
      try simp only [Act.put, List.setIfInBounds_toArray, List.set_cons_zero, List.set_cons_succ]
      refine wpAnyH_take (i := 11) (oi := ?oi11h10) (v := ?v11h10) ?hi11h10 (by kernel_rfl) ?hf11h10 (by kernel_rfl) ?hQ11h10 ?hy11h10 (by assumption) ?rest11h10
      case hi11h10 => (simp only [List.getElem?_toArray, List.getElem?_cons_succ, List.getElem?_cons_zero]; rfl)
      case hf11h10 => kernel_rfl
      case hQ11h10 => exact fun _ _ _ h => h
      case hy11h10 => (refine Or.inl ⟨by rfl, ?_⟩; intro W hSw; (try dsimp only at hSw); obtain ⟨g0, g1, g2, g3⟩ := hSw; go_simp; try with_reducible rfl)
      try simp only [Act.put, List.setIfInBounds_toArray, List.set_cons_zero, List.set_cons_succ]
      refine wpAnyH_take (i := 12) (oi := ?oi12h11) (v := ?v12h11) ?hi12h11 (by kernel_rfl) ?hf12h11 (by kernel_rfl) ?hQ12h11 ?hy12h11 (by assumption) ?rest12h11
      case hi12h11 => (simp only [List.getElem?_toArray, List.getElem?_cons_succ, List.getElem?_cons_zero]; rfl)
      case hf12h11 => kernel_rfl
      case hQ12h11 => exact fun _ _ _ h => h
      case hy12h11 => (refine Or.inl ⟨by rfl, ?_⟩; intro W hSw; (try dsimp only at hSw); go_simp; try with_reducible rfl)
      try simp only [Act.put, List.setIfInBounds_toArray, List.set_cons_zero, List.set_cons_succ]
      refine wpAnyH_take (i := 13) (oi := ?oi13h12) (v := ?v13h12) ?hi13h12 (by kernel_rfl) ?hf13h12 (by kernel_rfl) ?hQ13h12 ?hy13h12 (by assumption) ?rest13h12
      case hi13h12 => (simp only [List.getElem?_toArray, List.getElem?_cons_succ, List.getElem?_cons_zero]; rfl)
      case hf13h12 => kernel_rfl
      case hQ13h12 => exact fun _ _ _ h => h
      case hy13h12 => (refine Or.inl ⟨by rfl, ?_⟩; intro W hSw; (try dsimp only at hSw); go_simp; try with_reducible rfl)
      try simp only [Act.put, List.setIfInBounds_toArray, List.set_cons_zero, List.set_cons_succ]
      refine wpAnyH_take (i := 14) (oi := ?oi14h13) (v := ?v14h13) ?hi14h13 (by kernel_rfl) ?hf14h13 (by kernel_rfl) ?hQ14h13 ?hy14h13 (by assumption) ?rest14h13
      case hi14h13 => (simp only [List.getElem?_toArray, List.getElem?_cons_succ, List.getElem?_cons_zero]; rfl)
      case hf14h13 => kernel_rfl
      case hQ14h13 => exact fun _ _ _ h => h
      case hy14h13 => (refine Or.inl ⟨by rfl, ?_⟩; intro W hSw; (try dsimp only at hSw); go_simp; try with_reducible rfl)
      try simp only [Act.put, List.setIfInBounds_toArray, List.set_cons_zero, List.set_cons_succ]
      refine wpAnyH_take (i := 15) (oi := ?oi15h14) (v := ?v15h14) ?hi15h14 (by kernel_rfl) ?hf15h14 (by kernel_rfl) ?hQ15h14 ?hy15h14 (by assumption) ?rest15h14
      case hi15h14 => (simp only [List.getElem?_toArray, List.getElem?_cons_succ, List.getElem?_cons_zero]; rfl)
      case hf15h14 => kernel_rfl
      case hQ15h14 => exact fun _ _ _ h => h
      case hy15h14 => (refine Or.inl ⟨by rfl, ?_⟩; intro W hSw; (try dsimp only at hSw); obtain ⟨g0, g1, g2, g3⟩ := hSw; go_simp; try with_reducible rfl)
      try simp only [Act.put, List.setIfInBounds_toArray, List.set_cons_zero, List.set_cons_succ]
      refine wpAnyH_ready (rs := [2]) (by kernel_rfl) (by simp) ?_
      refine AllReadyH.cons (o := _) (by (simp only [List.getElem?_toArray, List.getElem?_cons_succ, List.getElem?_cons_zero]; rfl)) (fun K hK => ?_) AllReadyH.nil
      go_simp
      refine hK.out _ _ ?_ (fun hHeld => ?_)
      · exact HS8.out _ b8
      clear hK K
      try simp only [Act.put, List.setIfInBounds_toArray, List.set_cons_zero, List.set_cons_succ]
      refine wpAnyH_ready (rs := [9]) (by kernel_rfl) (by simp) ?_
      refine AllReadyH.cons (o := _) (by (simp only [List.getElem?_toArray, List.getElem?_cons_succ, List.getElem?_cons_zero]; rfl)) (fun K hK => ?_) AllReadyH.nil
      refine step_append_row rfl (.tmp 19) (.tmp 25) rfl wr.heap.size _ 0 [] (by rfl) (World.ownsRow_lit (base := wr.heap.size) (e := 3) (size := 1) wr.drew #[] 0 (Nat.le_refl _) (by unfold maxLen; omega) rfl) a5 n5 c5 l (by rfl) HI8.out hl5 (by simp) ?_; intro v5 w5 ho5 hg5 hat5; simp only [Nat.zero_add, List.nil_append] at ho5; have bw5 : Below wr.heap.size wr w5 := b8.grown hg5 (by simp) (fun r e => by cases e; exact Nat.le_refl _); obtain ⟨a6, c6, rfl, -⟩ := IntsAt.own ho5; have bw6 := bw5.alloc bw5.size (.cells #[.slice a6 n5 c6, .int .i64 fm] 39)
      refine hK.out _ _ ?_ (fun hHeld => ?_)
      · exact HS8.out _ bw5
      clear hK K
      try simp only [Act.put, List.setIfInBounds_toArray, List.set_cons_zero, List.set_cons_succ]
      refine wpAnyH_take (i := 16) (oi := ?oi16h15) (v := ?v16h15) ?hi16h15 (by kernel_rfl) ?hf16h15 (by kernel_rfl) ?hQ16h15 ?hy16h15 (by assumption) ?rest16h15
      case hi16h15 => (simp only [List.getElem?_toArray, List.getElem?_cons_succ, List.getElem?_cons_zero]; rfl)
      case hf16h15 => kernel_rfl
      case hQ16h15 => exact fun _ _ _ h => h
      case hy16h15 => (refine Or.inl ⟨by rfl, ?_⟩; intro W hSw; (try dsimp only at hSw); go_simp; try with_reducible rfl)
      try simp only [Act.put, List.setIfInBounds_toArray, List.set_cons_zero, List.set_cons_succ]
      refine wpAnyH_ready (rs := [17]) (by kernel_rfl) (by simp) ?_
      refine AllReadyH.cons (o := _) (by (simp only [List.getElem?_toArray, List.getElem?_cons_succ, List.getElem?_cons_zero]; rfl)) (fun K hK => ?_) AllReadyH.nil
      go_simp
      refine hK.out _ _ ?_ (fun hHeld => ?_)
      · exact HS8.out _ bw6
      clear hK K
      try simp only [Act.put, List.setIfInBounds_toArray, List.set_cons_zero, List.set_cons_succ]
      have hs5 : wr.heap.size ≤ w5.heap.size := bw5.size
      have hO6 : OwnE (w5.alloc (.cells #[.slice a6 n5 c6, .int .i64 fm] 39)) (w3.heap.size + 1) x (P.ents.take k) := HOw.out.next bw6
      have hSp : SpecV (w5.alloc (.cells #[.slice a6 n5 c6, .int .i64 fm] 39)) (w3.heap.size + 1) x.ownBlock (.slice a6 n5 c6) l := (((SpecV.own ho5).next (below_alloc _ _)).lo x.ownBlock (fun q hq => (HOw.out.lt q hq).2)).base hsz
      have hne : ∀ q, x.ownBlock = some q → w3.heap.size + 1 ≤ q := fun q hq => (HOw.out.lt q hq).1
      refine wpAnyH_ready (rs := [18]) (by kernel_rfl) (by simp) ?_
      refine AllReadyH.cons (o := _) (by (simp only [List.getElem?_toArray, List.getElem?_cons_succ, List.getElem?_cons_zero]; rfl)) (fun K hK => ?_) AllReadyH.nil
      refine step_append_ent rfl (.tmp 18) (.tmp 34) rfl (w3.heap.size + 1) x (P.ents.take k) (by rfl) hO6 ⟨w5.heap.size, 0, none⟩ 1 (.slice a6 n5 c6, fm) ⟨l, fm⟩ (by rfl) (cells_new2 _ _ _ _) hSp rfl Hlk.out (by simp; omega) ?_; intro v6 w6 hown6 hg6 hat6; have B6 : Below (w3.heap.size + 1) wr w6 := Below.grown (bw6.mono hsz) hg6 (by simp; omega) (fun r e => hne r e)
      refine hK.out _ _ ?_ (fun hHeld => ?_)
      · exact ⟨hg6.cell (HS8.out _ bw6).1 (fun e => by have : w3.heap.size + 1 ≤ w3.heap.size := hne _ e.symm; omega), hg6.cell (HS8.out _ bw6).2.1 (fun e => by have : w3.heap.size + 1 ≤ w.heap.size := hne _ e.symm; omega), hg6.cell (HS8.out _ bw6).2.2.1 (fun e => by have : w3.heap.size + 1 ≤ b := hne _ e.symm; omega), hg6.cell (HS8.out _ bw6).2.2.2 (fun e => by have : w3.heap.size + 1 ≤ b := hne _ e.symm; omega)⟩
      clear hK K
      try simp only [Act.put, List.setIfInBounds_toArray, List.set_cons_zero, List.set_cons_succ]
      refine wpAnyH_take (i := 19) (oi := ?oi19h16) (v := ?v19h16) ?hi19h16 (by kernel_rfl) ?hf19h16 (by kernel_rfl) ?hQ19h16 ?hy19h16 (by assumption) ?rest19h16
      case hi19h16 => (simp only [List.getElem?_toArray, List.getElem?_cons_succ, List.getElem?_cons_zero]; rfl)
      case hf19h16 => kernel_rfl
      case hQ19h16 => exact fun _ _ _ h => h
      case hy19h16 => (refine Or.inl ⟨by rfl, ?_⟩; intro W hSw; (try dsimp only at hSw); go_simp; try with_reducible rfl)
      try simp only [Act.put, List.setIfInBounds_toArray, List.set_cons_zero, List.set_cons_succ]
      have c0 : w6.cell? ⟨w3.heap.size, 0, none⟩ = some (.slice a3 n1 c3) := (B6.cell (p := ⟨w3.heap.size, 0, none⟩) (by show w3.heap.size < _; omega)).trans Hc0.out
      have c1 : w6.cell? ⟨w3.heap.size, 1, none⟩ = some x := (B6.cell (p := ⟨w3.heap.size, 1, none⟩) (by show w3.heap.size < _; omega)).trans hc1
      have c1f : w6.frozen? ⟨w3.heap.size, 1, none⟩ = false := (B6.frozen (p := ⟨w3.heap.size, 1, none⟩) (by show w3.heap.size < _; omega)).trans d1f
      have hs6 : w3.heap.size + 1 ≤ w6.heap.size := Nat.le_trans hsz B6.size
      have Hb6 := hid_ (Hb.out.trans (B6.mono (by omega)))
      clear bw5 bw6 hO6 hSp ho5 hg6 hat6
      obtain ⟨a7, c7, hv6, -⟩ := hown6.at_
      rw [Hl1.out] at hv6
      subst hv6
      have Hown6 := hid_ hown6
      clear hown6
      refine wpAnyH_done (by kernel_rfl) ?_ _
      clear hHeld
      refine last_of ?_
      refine wpOp_step (o := _) (by (simp only [List.getElem?_toArray, List.getElem?_cons_succ, List.getElem?_cons_zero]; rfl)) (fun K hK => ?_)
      go_simp
      refine hK _ _ ?_
      clear hK K
      try simp only [Act.put, List.setIfInBounds_toArray, List.set_cons_zero, List.set_cons_succ]
      go_wp2
      go_roundw
      case rel =>
        refine ⟨k + 1, .slice a7 (k + 1) c7, by omega, by go_num, ⟨Hb6.out.setCell (p := ⟨w3.heap.size, 1, none⟩) (by show _ ≤ w3.heap.size; omega) _, by simpa using hs6⟩, ⟨?_, ?_, ?_⟩, ?_⟩
        rotate_left
        · rw [World.cell?_setCell_same _ _ _ c1]
        · rw [World.frozen?_setCell]; exact c1f
        · rw [Hsn.out]; exact Hown6.out.store (by show w3.heap.size < _; omega) _
        · rw [World.cell?_setCell_other _ _ _ _ (by simp)]; exact c0
      case measure => simp [intOf]; omega
    · obtain rfl : n2 = k := by omega
      have hta : P.ents.take n2 = P.ents := by rw [← Hln.out, List.take_length]
      rw [hta] at hown
      obtain ⟨a8, c8, hx8, -⟩ := hown.at_
      rw [Hln.out] at hx8
      subst hx8
      have y0 : wr.cell? ⟨w.heap.size + 1, 0, none⟩ = some (.slice none 0 0) := cell_below Hr0.out hb
      have y1 : wr.cell? ⟨w.heap.size + 1, 1, none⟩ = some (.slice none 0 0) := cell_below Hr1.out hb
      have x0 : wr.frozen? ⟨w.heap.size + 1, 0, none⟩ = false := (hb.frozen (p := ⟨w.heap.size + 1, 0, none⟩) (by show w.heap.size + 1 < w3.heap.size; omega)).trans (Hf.out 0)
      have x1 : wr.frozen? ⟨w.heap.size + 1, 1, none⟩ = false := (hb.frozen (p := ⟨w.heap.size + 1, 1, none⟩) (by show w.heap.size + 1 < w3.heap.size; omega)).trans (Hf.out 1)
      obtain ⟨t0, t1⟩ : (((wr.setCell ⟨w.heap.size + 1, 0, none⟩ (.slice a3 n1 c3)).setCell ⟨w.heap.size + 1, 1, none⟩ (.slice a8 n2 c8)).cell? ⟨w.heap.size + 1, 0, none⟩ = some (.slice a3 n1 c3)) ∧ (((wr.setCell ⟨w.heap.size + 1, 0, none⟩ (.slice a3 n1 c3)).setCell ⟨w.heap.size + 1, 1, none⟩ (.slice a8 n2 c8)).cell? ⟨w.heap.size + 1, 1, none⟩ = some (.slice a8 n2 c8)) := by
        refine ⟨?_, ?_⟩
        · rw [World.cell?_setCell_other _ _ _ _ (by simp), World.cell?_setCell_same _ _ _ y0]
        · rw [World.cell?_setCell_same _ _ _ (by rw [World.cell?_setCell_other _ _ _ _ (by simp)]; exact y1)]
      have Hown := hid_ hown
      have Hb := hid_ hb
      clear hown hb hta
      go_wp2
      refine bodyPost_ret (v := .agg #[.slice a3 n1 c3, .slice a8 n2 c8]) ?_ rfl ⟨_, rfl, ⟨_, _, rfl, ?_, ?_, ?_⟩⟩
      · simp [results, Try.results12, go_sem, t0, t1]
      · have z2 := Z2.out
        have hp : w.heap.size + 1 < w2.heap.size := by omega
        exact (((((SpecV.made Hm3.out).hi (Value.slice a8 n2 c8).ownBlock (fun q hq => by have := (Hown.out.lt q hq).1; omega)).next Hb.out).store (p := ⟨w.heap.size + 1, 0, none⟩) hp _).store (p := ⟨w.heap.size + 1, 1, none⟩) hp _).base (by omega)
      · have hp : w.heap.size + 1 < w3.heap.size + 1 := by omega
        exact ((Hown.out.store (p := ⟨w.heap.size + 1, 0, none⟩) hp _).store (p := ⟨w.heap.size + 1, 1, none⟩) hp _).base (by omega)
      · have hf : Below w.heap.size w wr := Hb2.out.trans ((Hb3.out.trans (Hb.out.mono Hb3.out.size)).mono Hb2.out.size)
        exact (hf.setCell (p := ⟨w.heap.size + 1, 0, none⟩) (by show _ ≤ _ + 1; omega) _).setCell (p := ⟨w.heap.size + 1, 1, none⟩) (by show _ ≤ _ + 1; omega) _
end Go.Proofs.Ytdnlpikfibdjoaa
