import Derived.Test.YtdnlpikfibdjoaaYb8
namespace Go.Proofs.Ytdnlpikfibdjoaa
open Go.RowKit Go.Proofs.Kv Go

set_option maxRecDepth 100000 in
set_option maxHeartbeats 4000000 in
theorem build_calls (a : Option Addr) (n c : Nat) (T : List (List Int)) (w : World) (h : ListsAt w a n c T) (g : GoodT T) :
    Calls Try.prog 65 #[.slice a n c] w fun e w' => ∃ v, e = .returned v ∧ TreeAt w' v (buildX (sidesR T) n) ∧ Below w.heap.size w w' := by
  obtain ⟨i0, hi0, hz0, hz1, hz2⟩ := info_parts Try.infoInt
  obtain ⟨w1, hw1⟩ : ∃ w1, w.alloc (.cells #[.slice none 0 0, .slice none 0 0] 46) = w1 := ⟨_, rfl⟩
  have z1 : w1.heap.size = w.heap.size + 1 := by rw [← hw1]; simp
  have b1 : Below w.heap.size w w1 := by rw [← hw1]; exact below_alloc _ _
  have r0 : w1.cell? ⟨w.heap.size, 0, none⟩ = some (.slice none 0 0) := by rw [← hw1]; exact cells_alloc _ _ _ 0
  have r1 : w1.cell? ⟨w.heap.size, 1, none⟩ = some (.slice none 0 0) := by rw [← hw1]; exact cells_alloc _ _ _ 1
  have f0 : ∀ j, w1.frozen? ⟨w.heap.size, j, none⟩ = false := fun j => by rw [← hw1]; exact World.frozen?_alloc_at _ _ _ _ (by simp)
  have Qf := hid_ (fun W (hW : Below w1.heap.size w1 W) => (⟨cell_below r0 hW, cell_below r1 hW, (hW.frozen (p := ⟨w.heap.size, 0, none⟩) (by show w.heap.size < w1.heap.size; omega)).trans (f0 0), (hW.frozen (p := ⟨w.heap.size, 1, none⟩) (by show w.heap.size < w1.heap.size; omega)).trans (f0 1)⟩ : W.cell? ⟨w.heap.size, 0, none⟩ = some (.slice none 0 0) ∧ W.cell? ⟨w.heap.size, 1, none⟩ = some (.slice none 0 0) ∧ W.frozen? ⟨w.heap.size, 0, none⟩ = false ∧ W.frozen? ⟨w.heap.size, 1, none⟩ = false))
  have HS := hid_ (sides_calls a n c T w1 (h.below b1 (Nat.le_refl _)) g)
  have gS := sides_good T
  have hr6 := good_le g gS
  have hne := hid_ (fun i (hi : i < (sidesR T).length) => show (sidesR T).getD i [] ≠ [] from by
    obtain ⟨p, -, hs, e⟩ := (gS.mem _).1 (getD_memL hi)
    rw [e]; exact side_ne g hs)
  have hn6 : n ≤ 6 := by have := g.le; have := h.len; omega
  have Hb1 := hid_ b1
  have Z1 := hid_ z1
  clear r0 r1 f0 h gS b1
  generalize sidesR T = S at *
  obtain ⟨r, hr⟩ : ∃ r, S.length = r := ⟨_, rfl⟩
  rw [hr] at hr6 hne
  have Hr := hid_ hr
  clear hr g
  go_enter Try.func65, Try.ntmps65
  go_wp2_with (go_at_call 113; (with_reducible refine HS.out.mono ?_); rintro e w2 ⟨v2, rfl, hO2, hb2⟩; obtain ⟨a2, c2, rfl, hl2⟩ := hO2.at_; rw [Hr.out] at hl2 ⊢; have HL2 := hid_ hl2; have Hb2 := hid_ hb2; clear hO2 hl2 hb2)
  obtain ⟨u3, hu3⟩ : ∃ u3, w2.alloc (.cells #[.int .i64 (-1)] 3) = u3 := ⟨_, rfl⟩
  have z3 : u3.heap.size = w2.heap.size + 1 := by rw [← hu3]; simp
  obtain ⟨W, hW⟩ : ∃ W, u3.alloc (.cells #[.slice (some ⟨w2.heap.size, 0, none⟩) 1 1, .slice none 0 0] 46) = W := ⟨_, rfl⟩
  have b3 : Below w2.heap.size w2 u3 := by rw [← hu3]; exact below_alloc _ _
  have bW : Below u3.heap.size u3 W := by rw [← hW]; exact below_alloc _ _
  obtain ⟨D, hD⟩ : ∃ D, w2.heap.size + 1 = D := ⟨_, rfl⟩
  have hI0 : TreeI w2 W D (.slice (some ⟨w2.heap.size, 0, none⟩) 1 1) (.slice none 0 0) (parS S 0) [] := by
    have o3 : u3.ownsRow w2.heap.size 3 1 (.slice (some ⟨w2.heap.size, 0, none⟩) 1 1) 1 ([(-1 : Int)].map (Value.int .i64)) := by
      rw [← hu3]; exact World.ownsRow_lit (base := w2.heap.size) (e := 3) (size := 1) w2 #[.int .i64 (-1)] 1 (Nat.le_refl _) (by unfold maxLen; omega) rfl
    have zD : u3.heap.size = D := by omega
    refine ⟨?_, ?_, ?_, ?_, own_below o3 bW (Nat.le_refl _), World.ownsRow_nil _ _ _ _, ?_, by simp [Value.ownBlock], fun b _ => by simp [Value.ownBlock], by omega, by rw [← hW]; simp; omega, b3.trans (bW.mono b3.size)⟩
    · rw [← zD, ← hW]; exact cells_alloc _ _ _ 0
    · rw [← zD, ← hW]; exact cells_alloc _ _ _ 1
    · rw [← zD, ← hW]; exact World.frozen?_alloc_at _ _ _ _ (by simp)
    · rw [← zD, ← hW]; exact World.frozen?_alloc_at _ _ _ _ (by simp)
    · intro e
      have e : some w2.heap.size = some D := e
      injection e with e; omega
  rw [hu3, hD, hW]
  have HI0 := hid_ hI0
  have HLW := hid_ (fun W (hW : Below w2.heap.size w2 W) => HL2.out.below hW (Nat.le_refl _))
  clear hI0 b3 bW hD hW hu3 z3
  go_loopw [14] (fun iv wr => ∃ (k : Nat) (pv : Value), k ≤ r ∧ iv = .int .i64 (k : Int) ∧ TreeI w2 wr D pv (.slice none 0 0) (parS S k) []) (fun iv _ => r - (intOf iv).toNat)
  case atStart => exact ⟨0, _, Nat.zero_le _, rfl, HI0.out⟩
  case round =>
    obtain ⟨k, pv, hk, rfl, hI⟩ := hrel
    have HI := hid_ hI
    obtain ⟨ap, cp, e, -⟩ := IntsAt.own hI.p
    rw [parS_len] at e
    subst e
    by_cases hlt : k < r
    · obtain ⟨b2, o2, a5, n5, c5, rfl, hbs, hcell, hrow⟩ := HL2.out.cells k hlt
      have hcell := cell_below hcell hI.b
      have hn5 : 0 < n5 := by
        rcases Nat.eq_zero_or_pos n5 with h0 | h0
        · exact absurd (List.eq_nil_of_length_eq_zero (hrow.len.trans h0)) (hne.out k hlt)
        · exact h0
      obtain ⟨b5, o5, rfl, hb5, hc5⟩ := hrow.cells 0 hn5
      rw [Nat.add_zero] at hc5
      have hc5 := cell_below hc5 hI.b
      have hkc : k ≤ c2 := by have := HL2.out.le; omega
      have hkr : k ≤ r := hk
      obtain ⟨x, hx⟩ : ∃ x, (S.getD k []).getD 0 0 = x := ⟨_, rfl⟩
      rw [hx] at hc5
      have Hps : Hid (parS S (k + 1) = parS S k ++ [((homK S x k : Nat) : Int)]) := hid_ (by rw [parS_succ, hx])
      have bd : Below wr.heap.size wr wr.drew := Below.drew (Below.refl _ _)
      have HH := hid_ (homK_take S x (Nat.le_refl k) ▸ home_calls (some ⟨b2, o2, none⟩) k c2 (S.take k) x wr.drew (lists_take7 (HLW.out _ (hI.b.trans (bd.mono hI.b.size))) hk))
      have HQ := hid_ (fun V (hV : Below wr.heap.size wr V) => (⟨(hV.cell (p := ⟨D, 0, none⟩) hI.hi).trans hI.c0, cell_below hc5 hV⟩ : V.cell? ⟨D, 0, none⟩ = some (.slice ap (1 + k) cp) ∧ V.cell? ⟨b5, o5, none⟩ = some (.int .i64 x)))
      have hcd := hI.c0
      have Hlen := hid_ (parS_len S k)
      obtain ⟨hm, hhm⟩ : ∃ hm, homK S x k = hm := ⟨_, rfl⟩
      rw [hhm] at HH Hps
      clear hrow hbs hx hhm
      go_wp2
      refine wp_region_last (n := 12) (S := fun V => V.cell? ⟨D, 0, none⟩ = some (.slice ap (1 + k) cp) ∧ V.cell? ⟨b5, o5, none⟩ = some (.int .i64 x)) (by kernel_rfl) (by kernel_rfl) (HQ.out _ bd) (fun hHeld => ?_)
      refine wpAnyH_take (i := 0) (oi := ?oi0h1) (v := ?v0h1) ?hi0h1 (by kernel_rfl) ?hf0h1 (by kernel_rfl) ?hQ0h1 ?hy0h1 (by assumption) ?rest0h1
      case hi0h1 => (simp only [List.getElem?_toArray, List.getElem?_cons_zero]; rfl)
      case hf0h1 => kernel_rfl
      case hQ0h1 => exact fun _ _ _ h => h
      case hy0h1 => (refine Or.inl ⟨by rfl, ?_⟩; intro W hSw; (try dsimp only at hSw); go_simp; try with_reducible rfl)
      try simp only [Act.put, List.setIfInBounds_toArray, List.set_cons_zero, List.set_cons_succ]
      refine wpAnyH_take (i := 1) (oi := ?oi1h2) (v := ?v1h2) ?hi1h2 (by kernel_rfl) ?hf1h2 (by kernel_rfl) ?hQ1h2 ?hy1h2 (by assumption) ?rest1h2
      case hi1h2 => (simp only [List.getElem?_toArray, List.getElem?_cons_succ, List.getElem?_cons_zero]; rfl)
      case hf1h2 => kernel_rfl
      case hQ1h2 => exact fun _ _ _ h => h
      case hy1h2 => (refine Or.inl ⟨by rfl, ?_⟩; intro W hSw; (try dsimp only at hSw); obtain ⟨g0, g1⟩ := hSw; go_simp; try with_reducible rfl)
      try simp only [Act.put, List.setIfInBounds_toArray, List.set_cons_zero, List.set_cons_succ]
      refine wpAnyH_take (i := 2) (oi := ?oi2h3) (v := ?v2h3) ?hi2h3 (by kernel_rfl) ?hf2h3 (by kernel_rfl) ?hQ2h3 ?hy2h3 (by assumption) ?rest2h3
      case hi2h3 => (simp only [List.getElem?_toArray, List.getElem?_cons_succ, List.getElem?_cons_zero]; rfl)
      case hf2h3 => kernel_rfl
      case hQ2h3 => exact fun _ _ _ h => h
      case hy2h3 => (refine Or.inl ⟨by rfl, ?_⟩; intro W hSw; (try dsimp only at hSw); go_simp; try with_reducible rfl)
      try simp only [Act.put, List.setIfInBounds_toArray, List.set_cons_zero, List.set_cons_succ]
      refine wpAnyH_take (i := 3) (oi := ?oi3h4) (v := ?v3h4) ?hi3h4 (by kernel_rfl) ?hf3h4 (by kernel_rfl) ?hQ3h4 ?hy3h4 (by assumption) ?rest3h4
      case hi3h4 => (simp only [List.getElem?_toArray, List.getElem?_cons_succ, List.getElem?_cons_zero]; rfl)
      case hf3h4 => kernel_rfl
      case hQ3h4 => exact fun _ _ _ h => h
      case hy3h4 => (refine Or.inl ⟨by rfl, ?_⟩; intro W hSw; (try dsimp only at hSw); go_simp; try with_reducible rfl)
      try simp only [Act.put, List.setIfInBounds_toArray, List.set_cons_zero, List.set_cons_succ]
      refine wpAnyH_take (i := 4) (oi := ?oi4h5) (v := ?v4h5) ?hi4h5 (by kernel_rfl) ?hf4h5 (by kernel_rfl) ?hQ4h5 ?hy4h5 (by assumption) ?rest4h5
      case hi4h5 => (simp only [List.getElem?_toArray, List.getElem?_cons_succ, List.getElem?_cons_zero]; rfl)
      case hf4h5 => kernel_rfl
      case hQ4h5 => exact fun _ _ _ h => h
      case hy4h5 => (refine Or.inl ⟨by rfl, ?_⟩; intro W hSw; (try dsimp only at hSw); go_simp; try with_reducible rfl)
      try simp only [Act.put, List.setIfInBounds_toArray, List.set_cons_zero, List.set_cons_succ]
      refine wpAnyH_take (i := 5) (oi := ?oi5h6) (v := ?v5h6) ?hi5h6 (by kernel_rfl) ?hf5h6 (by kernel_rfl) ?hQ5h6 ?hy5h6 (by assumption) ?rest5h6
      case hi5h6 => (simp only [List.getElem?_toArray, List.getElem?_cons_succ, List.getElem?_cons_zero]; rfl)
      case hf5h6 => kernel_rfl
      case hQ5h6 => exact fun _ _ _ h => h
      case hy5h6 => (refine Or.inl ⟨by rfl, ?_⟩; intro W hSw; (try dsimp only at hSw); go_simp; try with_reducible rfl)
      try simp only [Act.put, List.setIfInBounds_toArray, List.set_cons_zero, List.set_cons_succ]
      refine wpAnyH_take (i := 6) (oi := ?oi6h7) (v := ?v6h7) ?hi6h7 (by kernel_rfl) ?hf6h7 (by kernel_rfl) ?hQ6h7 ?hy6h7 (by assumption) ?rest6h7
      case hi6h7 => (simp only [List.getElem?_toArray, List.getElem?_cons_succ, List.getElem?_cons_zero]; rfl)
      case hf6h7 => kernel_rfl
      case hQ6h7 => exact fun _ _ _ h => h
      case hy6h7 => (refine Or.inl ⟨by rfl, ?_⟩; intro W hSw; (try dsimp only at hSw); go_simp; try with_reducible rfl)
      try simp only [Act.put, List.setIfInBounds_toArray, List.set_cons_zero, List.set_cons_succ]
      refine wpAnyH_take (i := 7) (oi := ?oi7h8) (v := ?v7h8) ?hi7h8 (by kernel_rfl) ?hf7h8 (by kernel_rfl) ?hQ7h8 ?hy7h8 (by assumption) ?rest7h8
      case hi7h8 => (simp only [List.getElem?_toArray, List.getElem?_cons_succ, List.getElem?_cons_zero]; rfl)
      case hf7h8 => kernel_rfl
      case hQ7h8 => exact fun _ _ _ h => h
      case hy7h8 => (refine Or.inl ⟨by rfl, ?_⟩; intro W hSw; (try dsimp only at hSw); obtain ⟨g0, g1⟩ := hSw; go_simp; try with_reducible rfl)
      try simp only [Act.put, List.setIfInBounds_toArray, List.set_cons_zero, List.set_cons_succ]
      refine wpAnyH_ready (rs := [8]) (by kernel_rfl) (by simp) ?_
      refine AllReadyH.cons (o := _) (by (simp only [List.getElem?_toArray, List.getElem?_cons_succ, List.getElem?_cons_zero]; rfl)) (fun K hK => ?_) AllReadyH.nil
      go_simp
      (with_reducible refine HH.out.mono ?_); rintro e w5 ⟨rfl, q5, rfl⟩
      refine hK.out _ _ ?_ (fun hHeld => ?_)
      · exact HQ.out _ (below_drewN bd q5)
      clear hK K
      try simp only [Act.put, List.setIfInBounds_toArray, List.set_cons_zero, List.set_cons_succ]
      have bb5 : Below wr.heap.size wr (wr.drewN (1 + q5)) := below_drewN (Below.refl _ wr) (1 + q5)
      have bb6 := bb5.trans ((below_alloc (wr.drewN (1 + q5)) (.cells #[.int .i64 (hm : Nat)] 3)).mono bb5.size)
      refine wpAnyH_ready (rs := [9]) (by kernel_rfl) (by simp) ?_
      refine AllReadyH.cons (o := _) (by (simp only [List.getElem?_toArray, List.getElem?_cons_succ, List.getElem?_cons_zero]; rfl)) (fun K hK => ?_) AllReadyH.nil
      go_simp
      refine hK.out _ _ ?_ (fun hHeld => ?_)
      · exact HQ.out _ bb6
      clear hK K
      try simp only [Act.put, List.setIfInBounds_toArray, List.set_cons_zero, List.set_cons_succ]
      refine wpAnyH_ready (rs := [10]) (by kernel_rfl) (by simp) ?_
      refine AllReadyH.cons (o := _) (by (simp only [List.getElem?_toArray, List.getElem?_cons_succ, List.getElem?_cons_zero]; rfl)) (fun K hK => ?_) AllReadyH.nil
      refine step_append_row rfl (.tmp 20) (.tmp 28) rfl w2.heap.size _ (1 + k) (parS S k) (by rfl) (by have h9 := (HI.out.next bb6).p; rw [Hlen.out] at h9; exact h9) _ 1 1 [(hm : Int)] (by rfl) (IntsAt.one _ _ _) (by omega) (by have := HI.out.b.size; have := bb6.size; omega) ?_; intro v7 w7 ho7 hg7 hat7; obtain ⟨hI7, y0, y1⟩ := (HI.out.next bb6).pushP (by rw [Hlen.out]; exact ho7) hg7 hat7; have HI7 := hid_ hI7; obtain ⟨a7, c7, rfl, -⟩ := IntsAt.own ho7
      refine hK.out _ _ ?_ (fun hHeld => ?_)
      · exact ⟨y0, hg7.cell (HQ.out _ bb6).2 (fun e => by have h9 : w2.heap.size ≤ b5 := (HI.out.p.lt _ e.symm).1; omega)⟩
      clear hK K
      try simp only [Act.put, List.setIfInBounds_toArray, List.set_cons_zero, List.set_cons_succ]
      refine wpAnyH_take (i := 11) (oi := ?oi11h9) (v := ?v11h9) ?hi11h9 (by kernel_rfl) ?hf11h9 (by kernel_rfl) ?hQ11h9 ?hy11h9 (by assumption) ?rest11h9
      case hi11h9 => (simp only [List.getElem?_toArray, List.getElem?_cons_succ, List.getElem?_cons_zero]; rfl)
      case hf11h9 => kernel_rfl
      case hQ11h9 => exact fun _ _ _ h => h
      case hy11h9 => (refine Or.inl ⟨by rfl, ?_⟩; intro W hSw; (try dsimp only at hSw); go_simp; try with_reducible rfl)
      try simp only [Act.put, List.setIfInBounds_toArray, List.set_cons_zero, List.set_cons_succ]
      clear hI7 ho7 hg7 hat7 bb5 bb6 bd
      refine wpAnyH_done (by kernel_rfl) ?_ _
      clear hHeld
      refine last_of ?_
      refine wpOp_step (o := _) (by (simp only [List.getElem?_toArray, List.getElem?_cons_succ, List.getElem?_cons_zero]; rfl)) (fun K hK => ?_)
      go_simp
      refine hK _ _ ?_
      clear hK K
      try simp only [Act.put, List.setIfInBounds_toArray, List.set_cons_zero, List.set_cons_succ]
      go_wp2
      go_roundw
      case rel => exact ⟨k + 1, _, by omega, by go_num, by rw [Hps.out]; exact HI7.out⟩
      case measure => (simp [intOf]; try omega)
    · obtain rfl : k = r := by omega
      have HIr := hid_ (show TreeI w2 wr D (.slice ap (1 + k) cp) (.slice none 0 0) (parC S 0) (atC S 0) from by rw [parC_zero, Hr.out]; exact HI.out)
      have hR6 : k ≤ 6 := hr6
      clear hI HI
      go_wp2
      go_loopw [34] (fun iv wr => ∃ (m : Nat) (pv av : Value), m ≤ n ∧ iv = .int .i64 (m : Int) ∧ TreeI w2 wr D pv av (parC S m) (atC S m)) (fun iv _ => n - (intOf iv).toNat)
      case atStart => exact ⟨0, _, _, Nat.zero_le _, rfl, HIr.out⟩
      case round =>
        obtain ⟨m, pv, av, hm, rfl, hI⟩ := hrel
        have HI := hid_ hI
        obtain ⟨ap, cp, e, hpt⟩ := IntsAt.own hI.p
        rw [parC_len, Hr.out] at e hpt
        subst e
        obtain ⟨aa, ca, e, hat⟩ := IntsAt.own hI.a
        rw [atC_len] at e hat
        subst e
        by_cases hlt : m < n
        · obtain ⟨ln, hln⟩ : ∃ ln, 1 + k + m = ln := ⟨_, rfl⟩
          rw [hln] at hI
          have HI := hid_ hI
          have hc0 := hI.c0; have hc1 := hI.c1; have hf1 := hI.f1
          have hDr := hI.hi
          have HlenP := hid_ (show (parC S m).length = ln by rw [parC_len, Hr.out]; exact hln)
          have HlenA := hid_ (atC_len S m)
          have HAs : Hid (atC S (m + 1) = atC S m ++ [(ln : Int)]) := hid_ (by rw [atC_succ, Hr.out, hln])
          have HPs : Hid (parC S (m + 1) = parC S m ++ [((homK S (m : Int) k : Nat) : Int)]) := hid_ (by rw [parC_succ, Hr.out])
          have HlenA1 := hid_ (show (atC S (m + 1)).length = m + 1 from atC_len S (m + 1))
          have hl13 : ln ≤ 13 := by omega
          have HIa := hid_ (HI.out.next (below_alloc wr (.cells #[.int .i64 (ln : Int)] 3)))
          have hoa := HIa.out.a
          rw [HlenA.out] at hoa
          have hB2 : w2.heap.size ≤ (wr.alloc (.cells #[.int .i64 (ln : Int)] 3)).heap.size := by have := HI.out.b.size; simp; omega
          clear hI hpt hat hln
          go_wp2_with (at_builtin; refine wpList_append_ints _ rfl (.tmp 38) (.tmp 42) _ rfl w2.heap.size 3 i0 Try.underlying22 hi0 hz0 hz1 hz2 _ _ _ rfl hoa _ _ _ _ rfl (IntsAt.one wr (ln : Int) 3) (by omega) hB2 ?_; intro v5 w5 hown5 hg5 hat5; obtain ⟨hI5, y0, y1⟩ := HIa.out.pushA (x := (ln : Int)) (by rw [HlenA.out]; exact hown5) hg5 hat5; rw [← HAs.out] at hI5; have HI5 := hid_ hI5; obtain ⟨a5, c5, rfl, -⟩ := IntsAt.own hown5; clear hown5 hg5 hat5 hI5)
          have hz6 : w5.heap.size = (w5.setCell ⟨D, 1, none⟩ (.slice a5 (m + 1) c5)).heap.size := by simp [World.setCell]
          obtain ⟨V, hV⟩ : ∃ V, w5.setCell ⟨D, 1, none⟩ (.slice a5 (m + 1) c5) = V := ⟨_, rfl⟩
          rw [hV] at HI5 ⊢
          clear hz6 hV y0 y1 hc0 hc1 hf1 hoa hB2
          have bd : Below V.heap.size V V.drew := Below.drew (Below.refl _ _)
          have HH := hid_ (home_calls a2 k c2 S (m : Int) V.drew (HLW.out _ (HI5.out.b.trans (bd.mono HI5.out.b.size))))
          have hc0 := HI5.out.c0
          have HQ := hid_ (fun W (hW : Below V.heap.size V W) => ((hW.cell (p := ⟨D, 0, none⟩) HI5.out.hi).trans HI5.out.c0 : W.cell? ⟨D, 0, none⟩ = some (.slice ap ln cp)))
          obtain ⟨hm', hhm⟩ : ∃ hm', homK S (m : Int) k = hm' := ⟨_, rfl⟩
          rw [hhm] at HH HPs
          clear hhm
          refine wp_region_last (n := 8) (S := fun W => W.cell? ⟨D, 0, none⟩ = some (.slice ap ln cp)) (by kernel_rfl) (by kernel_rfl) (HQ.out _ bd) (fun hHeld => ?_)
          refine wpAnyH_take (i := 0) (oi := ?oi0h10) (v := ?v0h10) ?hi0h10 (by kernel_rfl) ?hf0h10 (by kernel_rfl) ?hQ0h10 ?hy0h10 (by assumption) ?rest0h10
          case hi0h10 => (simp only [List.getElem?_toArray, List.getElem?_cons_zero]; rfl)
          case hf0h10 => kernel_rfl
          case hQ0h10 => exact fun _ _ _ h => h
          case hy0h10 => (refine Or.inl ⟨by rfl, ?_⟩; intro W hSw; (try dsimp only at hSw); go_simp; try with_reducible rfl)
          try simp only [Act.put, List.setIfInBounds_toArray, List.set_cons_zero, List.set_cons_succ]
          refine wpAnyH_take (i := 1) (oi := ?oi1h11) (v := ?v1h11) ?hi1h11 (by kernel_rfl) ?hf1h11 (by kernel_rfl) ?hQ1h11 ?hy1h11 (by assumption) ?rest1h11
          case hi1h11 => (simp only [List.getElem?_toArray, List.getElem?_cons_succ, List.getElem?_cons_zero]; rfl)
          case hf1h11 => kernel_rfl
          case hQ1h11 => exact fun _ _ _ h => h
          case hy1h11 => (refine Or.inl ⟨by rfl, ?_⟩; intro W hSw; (try dsimp only at hSw); go_simp; try with_reducible rfl)
          try simp only [Act.put, List.setIfInBounds_toArray, List.set_cons_zero, List.set_cons_succ]
          refine wpAnyH_take (i := 2) (oi := ?oi2h12) (v := ?v2h12) ?hi2h12 (by kernel_rfl) ?hf2h12 (by kernel_rfl) ?hQ2h12 ?hy2h12 (by assumption) ?rest2h12
          case hi2h12 => (simp only [List.getElem?_toArray, List.getElem?_cons_succ, List.getElem?_cons_zero]; rfl)
          case hf2h12 => kernel_rfl
          case hQ2h12 => exact fun _ _ _ h => h
          case hy2h12 => (refine Or.inl ⟨by rfl, ?_⟩; intro W hSw; (try dsimp only at hSw); go_simp; try with_reducible rfl)
          try simp only [Act.put, List.setIfInBounds_toArray, List.set_cons_zero, List.set_cons_succ]
          refine wpAnyH_take (i := 3) (oi := ?oi3h13) (v := ?v3h13) ?hi3h13 (by kernel_rfl) ?hf3h13 (by kernel_rfl) ?hQ3h13 ?hy3h13 (by assumption) ?rest3h13
          case hi3h13 => (simp only [List.getElem?_toArray, List.getElem?_cons_succ, List.getElem?_cons_zero]; rfl)
          case hf3h13 => kernel_rfl
          case hQ3h13 => exact fun _ _ _ h => h
          case hy3h13 => (refine Or.inl ⟨by rfl, ?_⟩; intro W hSw; (try dsimp only at hSw); go_simp; try with_reducible rfl)
          try simp only [Act.put, List.setIfInBounds_toArray, List.set_cons_zero, List.set_cons_succ]
          refine wpAnyH_ready (rs := [4]) (by kernel_rfl) (by simp) ?_
          refine AllReadyH.cons (o := _) (by (simp only [List.getElem?_toArray, List.getElem?_cons_succ, List.getElem?_cons_zero]; rfl)) (fun K hK => ?_) AllReadyH.nil
          go_simp
          (with_reducible refine HH.out.mono ?_); rintro e w6 ⟨rfl, q6, rfl⟩
          refine hK.out _ _ ?_ (fun hHeld => ?_)
          · exact HQ.out _ (below_drewN bd q6)
          clear hK K
          try simp only [Act.put, List.setIfInBounds_toArray, List.set_cons_zero, List.set_cons_succ]
          have bb6 : Below V.heap.size V (V.drewN (1 + q6)) := below_drewN (Below.refl _ V) (1 + q6)
          have bb7 := bb6.trans ((below_alloc (V.drewN (1 + q6)) (.cells #[.int .i64 (hm' : Nat)] 3)).mono bb6.size)
          refine wpAnyH_ready (rs := [5]) (by kernel_rfl) (by simp) ?_
          refine AllReadyH.cons (o := _) (by (simp only [List.getElem?_toArray, List.getElem?_cons_succ, List.getElem?_cons_zero]; rfl)) (fun K hK => ?_) AllReadyH.nil
          go_simp
          refine hK.out _ _ ?_ (fun hHeld => ?_)
          · exact HQ.out _ bb7
          clear hK K
          try simp only [Act.put, List.setIfInBounds_toArray, List.set_cons_zero, List.set_cons_succ]
          refine wpAnyH_ready (rs := [6]) (by kernel_rfl) (by simp) ?_
          refine AllReadyH.cons (o := _) (by (simp only [List.getElem?_toArray, List.getElem?_cons_succ, List.getElem?_cons_zero]; rfl)) (fun K hK => ?_) AllReadyH.nil
          refine step_append_row rfl (.tmp 46) (.tmp 50) rfl w2.heap.size _ ln (parC S m) (by rfl) (by have h9 := (HI5.out.next bb7).p; rw [HlenP.out] at h9; exact h9) _ 1 1 [(hm' : Int)] (by rfl) (IntsAt.one _ _ _) (by omega) (by have := HI5.out.b.size; have := bb7.size; omega) ?_; intro v8 w8 ho8 hg8 hat8; obtain ⟨hI8, y0, y1⟩ := (HI5.out.next bb7).pushP (by rw [HlenP.out]; exact ho8) hg8 hat8; rw [← HPs.out] at hI8; have HI8 := hid_ hI8; obtain ⟨a8, c8, rfl, -⟩ := IntsAt.own ho8
          refine hK.out _ _ ?_ (fun hHeld => ?_)
          · exact y0
          clear hK K
          try simp only [Act.put, List.setIfInBounds_toArray, List.set_cons_zero, List.set_cons_succ]
          refine wpAnyH_take (i := 7) (oi := ?oi7h14) (v := ?v7h14) ?hi7h14 (by kernel_rfl) ?hf7h14 (by kernel_rfl) ?hQ7h14 ?hy7h14 (by assumption) ?rest7h14
          case hi7h14 => (simp only [List.getElem?_toArray, List.getElem?_cons_succ, List.getElem?_cons_zero]; rfl)
          case hf7h14 => kernel_rfl
          case hQ7h14 => exact fun _ _ _ h => h
          case hy7h14 => (refine Or.inl ⟨by rfl, ?_⟩; intro W hSw; (try dsimp only at hSw); go_simp; try with_reducible rfl)
          try simp only [Act.put, List.setIfInBounds_toArray, List.set_cons_zero, List.set_cons_succ]
          clear hI8 ho8 hg8 hat8 bb6 bb7 bd hc0
          refine wpAnyH_done (by kernel_rfl) ?_ _
          clear hHeld
          refine last_of ?_
          refine wpOp_step (o := _) (by (simp only [List.getElem?_toArray, List.getElem?_cons_succ, List.getElem?_cons_zero]; rfl)) (fun K hK => ?_)
          go_simp
          refine hK _ _ ?_
          clear hK K
          try simp only [Act.put, List.setIfInBounds_toArray, List.set_cons_zero, List.set_cons_succ]
          go_wp2
          go_roundw
          case rel => exact ⟨m + 1, _, _, by omega, by go_num, HI8.out⟩
          case measure => (simp [intOf]; try omega)
        · obtain rfl : m = n := by omega
          have hX : Hid (buildX S m = ⟨parC S m, atC S m⟩) := hid_ (build_of S m)
          have hc0 := hI.c0; have hc1 := hI.c1
          have hb := hI.b
          obtain ⟨y0, y1, y2, y3⟩ := Qf.out _ (Hb2.out.trans (hb.mono Hb2.out.size))
          obtain ⟨ln, hln⟩ : ∃ ln, 1 + k + m = ln := ⟨_, rfl⟩
          rw [hln] at hc0 hpt
          have Hln := hid_ hln
          have Hpt := hid_ hpt; have Hat := hid_ hat
          have Hb := hid_ (Hb1.out.trans ((Hb2.out.trans (hb.mono Hb2.out.size)).mono Hb1.out.size))
          clear hI hpt hat hb hln
          go_wp2
          have t0 : ((wr.setCell ⟨w.heap.size, 0, none⟩ (.slice ap ln cp)).setCell ⟨w.heap.size, 1, none⟩ (.slice aa m ca)).cell? ⟨w.heap.size, 0, none⟩ = some (.slice ap ln cp) := by rw [World.cell?_setCell_other _ _ _ _ (by simp), World.cell?_setCell_same _ _ _ y0]
          have t1 : ((wr.setCell ⟨w.heap.size, 0, none⟩ (.slice ap ln cp)).setCell ⟨w.heap.size, 1, none⟩ (.slice aa m ca)).cell? ⟨w.heap.size, 1, none⟩ = some (.slice aa m ca) := by rw [World.cell?_setCell_same _ _ _ (by rw [World.cell?_setCell_other _ _ _ _ (by simp)]; exact y1)]
          have hz : w.heap.size < w2.heap.size := by have := Z1.out; have := Hb2.out.size; omega
          have hnp : ∀ v x xs, wr.ownsRow w2.heap.size 3 1 v x xs → v.ownBlock ≠ some w.heap.size := fun v x xs ho e => by have := (ho.lt _ e).1; omega
          have hp := HI.out.p; have ha := HI.out.a
          rw [parC_len, Hr.out, Hln.out] at hp
          rw [atC_len] at ha
          have hp2 := row_other (p := ⟨w.heap.size, 1, none⟩) (row_other (p := ⟨w.heap.size, 0, none⟩) hp (hnp _ _ _ hp) (.slice ap ln cp)) (hnp _ _ _ hp) (.slice aa m ca)
          have ha2 := row_other (p := ⟨w.heap.size, 1, none⟩) (row_other (p := ⟨w.heap.size, 0, none⟩) ha (hnp _ _ _ ha) (.slice ap ln cp)) (hnp _ _ _ ha) (.slice aa m ca)
          obtain ⟨ap', cp', e, hip⟩ := IntsAt.own hp2
          injection e with e1 e2 e3; subst e1; subst e3
          obtain ⟨aa', ca', e, hia⟩ := IntsAt.own ha2
          injection e with e1 e2 e3; subst e1; subst e3
          refine bodyPost_ret (v := .agg #[.slice ap ln cp, .slice aa m ca]) ?_ rfl ⟨_, rfl, ?_, (Hb.out.setCell (p := ⟨w.heap.size, 0, none⟩) (Nat.le_refl _) _).setCell (p := ⟨w.heap.size, 1, none⟩) (Nat.le_refl _) _⟩
          · simp [results, Try.results65, go_sem, t0, t1]
          · rw [hX.out]
            exact ⟨_, _, _, _, _, _, rfl, hip, hia⟩
end Go.Proofs.Ytdnlpikfibdjoaa
