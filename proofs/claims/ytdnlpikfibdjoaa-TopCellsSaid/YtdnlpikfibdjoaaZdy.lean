import Derived.Test.YtdnlpikfibdjoaaZdx
namespace Go.Proofs.Ytdnlpikfibdjoaa
open Go.RowKit Go.Proofs.Kv Go

/-! ### Reduce of the document -/
theorem ParAt.zero (w : World) : ParAt w (.agg #[.slice none 0 0, .slice none 0 0]) ⟨[], []⟩ := ⟨_, _, _, _, _, _, rfl, IntsAt.nil _ _ _ (by omega), EntsAt.nil _ _ _ (by omega)⟩
theorem ents_setSlice {w : World} {a b : Option Addr} {n c m k : Nat} {L : List Ent} {p : Addr} {v : Value} (h : EntsAt w a n c L) (hq : w.cell? p = some (.slice b m k)) (hne : ∀ q off, a = some ⟨q, off, none⟩ → ¬ q = p.block) : EntsAt (w.setCell p v) a n c L :=
  ⟨h.len, h.le, h.small, fun i hi => by
    obtain ⟨q, off, a1, n1, c1, ha, hlt, h0, h1, hr⟩ := h.cells i hi
    refine ⟨q, off, a1, n1, c1, ha, by simpa using hlt, ?_, ?_, ints_setSlice hr hq⟩
    · rw [World.cell?_setCell_other _ _ _ _ (by intro e; exact hne q off ha (by first | rw [e] | rw [← e]))]; exact h0
    · rw [World.cell?_setCell_other _ _ _ _ (by intro e; exact hne q off ha (by first | rw [e] | rw [← e]))]; exact h1⟩
/-- a paradigm whose row of entries lies from B on, and not in the box D -/
structure RedN (w : World) (B D : Nat) (u x : Value) (Q : Par) : Prop where
  p : ParAt w (.agg #[u, x]) Q
  d : ∀ k, x.ownBlock = some k → B ≤ k ∧ ¬ k = D
theorem RedN.next {w w' : World} {B D : Nat} {u x : Value} {Q : Par} (h : RedN w B D u x Q) (hb : Below w.heap.size w w') : RedN w' B D u x Q := ⟨h.p.below hb (Nat.le_refl _), h.d⟩
theorem RedN.lits {w : World} {B D : Nat} {u x : Value} {Q : Par} (h : RedN w B D u x Q) : (∃ a n c, u = .slice a n c) ∧ ∃ a c, x = .slice a Q.ents.length c := by
  obtain ⟨a, n, c, a', n', c', e, hi, he⟩ := h.p
  injection e with e; injection e with e; injection e with e1 e2; injection e2 with e2
  exact ⟨⟨_, _, _, e1⟩, _, _, by rw [he.len]; exact e2⟩
theorem RedN.set {w : World} {B D : Nat} {u x : Value} {Q : Par} (h : RedN w B D u x Q) {p : Addr} {b : Option Addr} {m k : Nat} (hq : w.cell? p = some (.slice b m k)) (hp : p.block < B ∨ p.block = D) (y : Value) : RedN (w.setCell p y) B D u x Q := by
  obtain ⟨⟨a, n, c, a', n', c', e, hi, he⟩, hd⟩ := h
  injection e with e; injection e with e; injection e with e1 e2; injection e2 with e2
  subst e1; subst e2
  refine ⟨⟨a, n, c, a', n', c', rfl, ints_setSlice hi hq, ents_setSlice he hq fun q off ha e => ?_⟩, hd⟩
  have := hd q (by rw [ha]; rfl)
  omega
theorem RedN.store {w : World} {B D : Nat} {u x : Value} {Q : Par} (h : RedN w B D u x Q) {p : Addr} {b : Option Addr} {m k : Nat} (hq : w.cell? p = some (.slice b m k)) (hp : p.block < B) (y : Value) : RedN (w.setCell p y) B D u x Q := h.set hq (.inl hp) y
theorem RedN.of {w w' : World} {v : Value} {Q : Par} {B D : Nat} (h : MadeP6 w w' v Q) (hB : B ≤ w.heap.size) (hD : ¬ (w.heap.size ≤ D ∧ D < w'.heap.size)) : ∃ u x, v = .agg #[u, x] ∧ RedN w' B D u x Q ∧ Below w.heap.size w w' := by
  have hp := h.par
  obtain ⟨u, x, rfl, hs, he, hb⟩ := h
  exact ⟨u, x, rfl, ⟨hp, fun k hk => by have := he.lt k hk; exact ⟨by omega, fun e => hD (by omega)⟩⟩, hb⟩
set_option maxRecDepth 100000 in
set_option maxHeartbeats 8000000 in
theorem r6Reduce_calls (v : Value) (P : Par) (w : World) (h : ParAt w v P) :
    Calls Try.prog 14 #[v] w fun e w' => ∃ v', e = .returned (.tuple #[v', .int .i64 (validP P)]) ∧ ParAt w' v' (resRed P) ∧ Below w.heap.size w w' := by
  have HP := hid_ h
  obtain ⟨a1, n1, c1, a2, n2, c2, rfl, h1, h2⟩ := h
  obtain ⟨w1, hw1⟩ : ∃ w1, w.alloc (.cells #[.slice a1 n1 c1, .slice a2 n2 c2] 25) = w1 := ⟨_, rfl⟩
  have cb : Below w.heap.size w w1 := by rw [← hw1]; exact below_alloc _ _
  have q0 : w1.cell? ⟨w.heap.size, 0, none⟩ = some (.slice a1 n1 c1) := by rw [← hw1]; exact cells_alloc _ _ _ 0
  have q1 : w1.cell? ⟨w.heap.size, 1, none⟩ = some (.slice a2 n2 c2) := by rw [← hw1]; exact cells_alloc _ _ _ 1
  have HP1 := hid_ (HP.out.below cb (Nat.le_refl _)); have Hc1 := hid_ cb
  obtain ⟨w2, hw2⟩ : ∃ w2, w1.alloc (.cells #[.slice none 0 0, .slice none 0 0] 25) = w2 := ⟨_, rfl⟩
  have z1 : w1.heap.size = w.heap.size + 1 := by rw [← hw1]; simp
  have z2 : w2.heap.size = w.heap.size + 2 := by rw [← hw2]; simp [z1]
  have b2 : Below w1.heap.size w1 w2 := by rw [← hw2]; exact below_alloc _ _
  have r0 : w2.cell? ⟨w.heap.size + 1, 0, none⟩ = some (.slice none 0 0) := by rw [← z1, ← hw2]; exact cells_alloc _ _ _ 0
  have r1 : w2.cell? ⟨w.heap.size + 1, 1, none⟩ = some (.slice none 0 0) := by rw [← z1, ← hw2]; exact cells_alloc _ _ _ 1
  have f0 : ∀ j, w2.frozen? ⟨w.heap.size + 1, j, none⟩ = false := fun j => by rw [← z1, ← hw2]; exact World.frozen?_alloc_at _ _ _ _ (by simp)
  have q02 := cell_below q0 b2; have q12 := cell_below q1 b2
  have HP2 := hid_ (HP1.out.below b2 (Nat.le_refl _))
  have HV := hid_ (r6Validate_calls _ P w2 HP2.out)
  have Hb2 : Hid (Below w.heap.size w w2) := hid_ (Hc1.out.trans (b2.mono Hc1.out.size))
  have hln := h2.len
  have Z2 := hid_ z2
  have HQ := hid_ (fun W (hW : Below w2.heap.size w2 W) => (⟨cell_below q02 hW, cell_below q12 hW⟩ : W.cell? ⟨w.heap.size, 0, none⟩ = some (.slice a1 n1 c1) ∧ W.cell? ⟨w.heap.size, 1, none⟩ = some (.slice a2 n2 c2)))
  have Qf := hid_ (fun W (hW : Below w2.heap.size w2 W) => (⟨⟨cell_below r0 hW, cell_below r1 hW⟩, (hW.frozen (p := ⟨w.heap.size + 1, 0, none⟩) (by show w.heap.size + 1 < w2.heap.size; omega)).trans (f0 0), (hW.frozen (p := ⟨w.heap.size + 1, 1, none⟩) (by show w.heap.size + 1 < w2.heap.size; omega)).trans (f0 1)⟩ : (W.cell? ⟨w.heap.size + 1, 0, none⟩ = some (.slice none 0 0) ∧ W.cell? ⟨w.heap.size + 1, 1, none⟩ = some (.slice none 0 0)) ∧ W.frozen? ⟨w.heap.size + 1, 0, none⟩ = false ∧ W.frozen? ⟨w.heap.size + 1, 1, none⟩ = false))
  clear h1 h2 cb b2 q0 q1 z2 r0 r1 f0
  by_cases hv : validP P = 0
  · have HR : Hid (resRed P = redK P n2) := hid_ (by unfold resRed; rw [if_pos hv, hln])
    obtain ⟨-, -, h10, hent⟩ := validP_ok hv
    have h3 := (validP_ok hv).1.2
    have HC := hid_ (fun W (hW : Below w2.heap.size w2 W) => r6Copy_calls _ P W (HP2.out.below hW (Nat.le_refl _)) (by omega) (by omega) (fun k hk => by have := (specB_ok (hent k hk).1).1; omega))
    have HD := hid_ (fun W Q u x B D i (h : RedN W B D u x Q) (hq : validP Q = 0) (hi : i < Q.ents.length) => r6drop2_calls (.agg #[u, x]) Q i W h.p (by have := (validP_ok hq).2.2.1; omega) hi)
    have HF := hid_ (fun W v Q (h : ParAt W v Q) (hq : validP Q = 0) => r6fill_calls v Q W h hq)
    rw [hv] at HV ⊢
    rw [HR.out]
    have Hv := hid_ hv
    rw [hln] at h10
    have Hln := hid_ hln
    clear hent h3 hv HR hln
    go_enter Try.func14, Try.ntmps14
    go_wp2_with (first
      | (go_at_call 54; (with_reducible refine HV.out.mono ?_); rintro e w3 ⟨rfl, hb3⟩; obtain ⟨q03, q13⟩ := HQ.out _ hb3)
      | (go_at_call 12; (with_reducible refine (HC.out _ hb3).mono ?_); rintro e w4 ⟨v4, rfl, hm4⟩; obtain ⟨u4, x4, rfl, hI4, hc4⟩ := RedN.of (B := w2.heap.size) (D := w4.heap.size) hm4 hb3.size (by omega); obtain ⟨⟨a3, n3, c3, rfl⟩, a4, c4, rfl⟩ := hI4.lits; have hb4 := hb3.trans (hc4.mono hb3.size); have hB4 := hb4.trans ((below_alloc w4 (.cells #[.slice a3 n3 c3, .slice a4 P.ents.length c4] 25)).mono hb4.size); obtain ⟨q04, q14⟩ := HQ.out _ hB4; rw [Hln.out] at hI4 hB4 q04 q14 ⊢; have s0 := cells_alloc w4 #[.slice a3 n3 c3, .slice a4 n2 c4] 25 0; have s1 := cells_alloc w4 #[.slice a3 n3 c3, .slice a4 n2 c4] 25 1))
    obtain ⟨W, hW⟩ : ∃ W, w4.alloc (.cells #[.slice a3 n3 c3, .slice a4 n2 c4] 25) = W := ⟨_, rfl⟩
    rw [hW] at hB4 q04 q14 s0 s1 ⊢
    have bW : Below w4.heap.size w4 W := by rw [← hW]; exact below_alloc _ _
    have HI4 := hid_ (hI4.next bW)
    have s0 : W.cell? ⟨w4.heap.size, 0, none⟩ = some (.slice a3 n3 c3) := s0
    have s1 : W.cell? ⟨w4.heap.size, 1, none⟩ = some (.slice a4 n2 c4) := s1
    have sf : ∀ j, W.frozen? ⟨w4.heap.size, j, none⟩ = false := fun j => by rw [← hW]; exact World.frozen?_alloc_at _ _ _ _ (by simp)
    have hDW : w4.heap.size < W.heap.size := by rw [← hW]; simp
    have hBD : w2.heap.size ≤ w4.heap.size := hb4.size
    have hwn : IntKind.i64.wrap ((n2 : Int) - 1) = (n2 : Int) - 1 := IntWalk.i64_in _ (by omega)
    generalize w4.heap.size = D at *
    have HB4 := hid_ hB4
    clear hI4 hc4 hb4 bW hm4
    go_loopw [6] (fun iv wr => ∃ (k : Nat) (Q : Par) (u x : Value), iv = .int .i64 ((k : Int) - 1) ∧ k ≤ n2 ∧ k ≤ Q.ents.length ∧ redK Q k = redK P n2 ∧ validP Q = 0 ∧ (wr.cell? ⟨D, 0, none⟩ = some u ∧ wr.cell? ⟨D, 1, none⟩ = some x ∧ wr.frozen? ⟨D, 0, none⟩ = false ∧ wr.frozen? ⟨D, 1, none⟩ = false) ∧ RedN wr w2.heap.size D u x Q ∧ Below w2.heap.size w2 wr ∧ D < wr.heap.size) (fun iv _ => (intOf iv + 1).toNat)
    case atStart => exact ⟨n2, P, _, _, rfl, Nat.le_refl _, by rw [Hln.out]; exact Nat.le_refl _, rfl, Hv.out, ⟨s0, s1, sf 0, sf 1⟩, HI4.out, HB4.out, hDW⟩
    case round =>
      clear s0 s1 sf q04 q14 HI4
      obtain ⟨k, Q, u, x, rfl, hk, hkQ, hred, hvQ, ⟨d0, d1, df0, df1⟩, hI, hb, hDr⟩ := hrel
      obtain ⟨⟨au, nu, cu, rfl⟩, ax, cx, rfl⟩ := hI.lits
      have HI := hid_ hI
      have HQv := hid_ hvQ
      cases k with
      | zero =>
        obtain ⟨i, hi⟩ : ∃ i : Int, i = ((0 : Nat) : Int) - 1 := ⟨_, rfl⟩
        rw [← hi]
        have hge : decide (i ≥ 0) = false := by rw [hi]; decide
        obtain ⟨⟨y0, y1⟩, y2, y3⟩ := Qf.out _ hb
        have Hb := hid_ hb
        have Hred := hid_ hred
        clear hI hvQ hi hb hred
        go_wp2
        obtain ⟨t0, t1⟩ := cells_two y0 y1 (.slice au nu cu) (.slice ax Q.ents.length cx)
        have z2 := Z2.out
        have hp : w.heap.size + 1 < w2.heap.size := by omega
        have hQ : Q = redK P n2 := Hred.out
        have y1' : (wr.setCell ⟨w.heap.size + 1, 0, none⟩ (.slice au nu cu)).cell? ⟨w.heap.size + 1, 1, none⟩ = some (.slice none 0 0) := by rw [World.cell?_setCell_other _ _ _ _ (by simp)]; exact y1
        have hIf := (HI.out.store y0 (by show w.heap.size + 1 < _; exact hp) (.slice au nu cu)).store y1' (by show w.heap.size + 1 < _; exact hp) (.slice ax Q.ents.length cx)
        refine bodyPost_ret (v := .tuple #[.agg #[.slice au nu cu, .slice ax Q.ents.length cx], .int .i64 0]) ?_ rfl ⟨_, rfl, ?_, ?_⟩
        · simp [results, Try.results14, go_sem, t0, t1]
        · rw [← hQ]; exact hIf.p
        · have hf : Below w.heap.size w wr := Hb2.out.trans (Hb.out.mono Hb2.out.size)
          exact (hf.setCell (p := ⟨w.heap.size + 1, 0, none⟩) (by show _ ≤ _ + 1; omega) _).setCell (p := ⟨w.heap.size + 1, 1, none⟩) (by show _ ≤ _ + 1; omega) _
      | succ k =>
        rw [show (((k + 1 : Nat) : Int) - 1) = (k : Int) by omega]
        have hwk : IntKind.i64.wrap ((k : Int) - 1) = (k : Int) - 1 := IntWalk.i64_in _ (by omega)
        have hge : decide ((k : Int) ≥ 0) = true := by simp
        have HDk := hid_ (HD.out wr Q _ _ _ _ k hI hvQ (by omega))
        have hlen := hid_ (@cutP_len Q k (by omega))
        have Hred := hid_ hred
        have Hb := hid_ hb
        have hBr := hb.size
        have HvC := hid_ (valid_cut HQv.out k)
        have Hsy : Hid (Same (fillL (cutP Q k)) (fillL Q) = needB Q k) := hid_ (same_symm _ _)
        clear hI hvQ hred hb
        go_wp2_with (go_at_call 56; (with_reducible refine HDk.out.mono ?_); rintro e w5 ⟨u5, x5, rfl, hp5, ho5, hb5⟩; obtain ⟨a5, n5, c5, b5, m5, d5, e5, hi5, he5⟩ := hp5; injection e5 with e5; injection e5 with e5; injection e5 with e6 e7; injection e7 with e7; subst e6; subst e7; have hN5 : RedN w5 w2.heap.size D (.slice a5 n5 c5) (.slice b5 m5 d5) (cutP Q k) := ⟨⟨_, _, _, _, _, _, rfl, hi5, he5⟩, fun q hq => ⟨Nat.le_trans hBr (ho5 q hq), by have := ho5 q hq; omega⟩⟩; have e0 := cell_below d0 hb5; have e1 := cell_below d1 hb5; have ef0 := (hb5.frozen (p := ⟨D, 0, none⟩) hDr).trans df0; have ef1 := (hb5.frozen (p := ⟨D, 1, none⟩) hDr).trans df1; have hs5 := hb5.size; have t0 := cells_alloc w5 #[.slice a5 n5 c5, .slice b5 m5 d5] 25 0; have t1 := cells_alloc w5 #[.slice a5 n5 c5, .slice b5 m5 d5] 25 1; have hL := below_alloc w5 (.cells #[.slice a5 n5 c5, .slice b5 m5 d5] 25); have HN5 := hid_ (hN5.next hL); have Hb5 := hid_ (Hb.out.trans (hb5.mono hBr)); have HIw := hid_ ((HI.out.next hb5).next hL); clear hN5 ho5 hi5 he5 hb5 hL)
        obtain ⟨E, hE⟩ : ∃ E, w5.heap.size = E := ⟨_, rfl⟩
        obtain ⟨V, hV⟩ : ∃ V, w5.alloc (.cells #[.slice a5 n5 c5, .slice b5 m5 d5] 25) = V := ⟨_, rfl⟩
        have bV : Below w5.heap.size w5 V := by rw [← hV]; exact below_alloc _ _
        have hEV : E < V.heap.size := by rw [← hV, ← hE]; simp
        rw [hV] at t0 t1 HN5 HIw
        rw [hV]
        rw [hE] at t0 t1 hs5 ⊢
        have hDE : ¬ D = E := by omega
        have v0 := cell_below e0 bV; have v1 := cell_below e1 bV
        have vf0 := (bV.frozen (p := ⟨D, 0, none⟩) (by show D < w5.heap.size; omega)).trans ef0
        have vf1 := (bV.frozen (p := ⟨D, 1, none⟩) (by show D < w5.heap.size; omega)).trans ef1
        have HbV := hid_ (Hb5.out.trans (bV.mono (by omega)))
        have hBV : w2.heap.size ≤ V.heap.size := HbV.out.size
        have HQV := hid_ (fun W (hW : Below V.heap.size V W) => (⟨cell_below t0 hW, cell_below t1 hW, cell_below v0 hW, cell_below v1 hW⟩ : W.cell? ⟨E, 0, none⟩ = some (.slice a5 n5 c5) ∧ W.cell? ⟨E, 1, none⟩ = some (.slice b5 m5 d5) ∧ W.cell? ⟨D, 0, none⟩ = some (.slice au nu cu) ∧ W.cell? ⟨D, 1, none⟩ = some (.slice ax Q.ents.length cx)))
        have HVf := hid_ (fun W (hW : Below V.heap.size V W) => (⟨(hW.frozen (p := ⟨D, 0, none⟩) (by show D < V.heap.size; omega)).trans vf0, (hW.frozen (p := ⟨D, 1, none⟩) (by show D < V.heap.size; omega)).trans vf1⟩ : W.frozen? ⟨D, 0, none⟩ = false ∧ W.frozen? ⟨D, 1, none⟩ = false))
        have bd : Below V.heap.size V V.drew := Below.drew (Below.refl _ _)
        have HF1 := hid_ (fun W (hW : Below V.heap.size V W) => HF.out W _ _ (HN5.out.next hW).p HvC.out)
        have HF2 := hid_ (fun W (hW : Below V.heap.size V W) => HF.out W _ _ (HIw.out.next hW).p HQv.out)
        clear t0 t1 e0 e1 ef0 ef1 d0 d1 df0 df1 v0 v1 vf0 vf1 bV hW hw1 hw2
        refine wp_region_held_drew (S := fun W => W.cell? ⟨E, 0, none⟩ = some (.slice a5 n5 c5) ∧ W.cell? ⟨E, 1, none⟩ = some (.slice b5 m5 d5) ∧ W.cell? ⟨D, 0, none⟩ = some (.slice au nu cu) ∧ W.cell? ⟨D, 1, none⟩ = some (.slice ax Q.ents.length cx)) (by kernel_rfl) (HQV.out _ bd) (fun hHeld => ?_)
        refine wpAnyH_take (i := 0) (oi := ?oi0h1) (v := ?v0h1) ?hi0h1 (by kernel_rfl) ?hf0h1 (by kernel_rfl) ?hQ0h1 ?hy0h1 (by assumption) ?rest0h1
        case hi0h1 => (simp only [List.getElem?_toArray, List.getElem?_cons_zero]; rfl)
        case hf0h1 => kernel_rfl
        case hQ0h1 => exact fun _ _ _ h => h
        case hy0h1 => (refine Or.inl ⟨by rfl, ?_⟩; intro W hSw; (try dsimp only at hSw); obtain ⟨g0, g1, g2, g3⟩ := hSw; go_simp; try with_reducible rfl)
        try simp only [Act.put, List.setIfInBounds_toArray, List.set_cons_zero, List.set_cons_succ]
        refine wpAnyH_take (i := 2) (oi := ?oi2h2) (v := ?v2h2) ?hi2h2 (by kernel_rfl) ?hf2h2 (by kernel_rfl) ?hQ2h2 ?hy2h2 (by assumption) ?rest2h2
        case hi2h2 => (simp only [List.getElem?_toArray, List.getElem?_cons_succ, List.getElem?_cons_zero]; rfl)
        case hf2h2 => kernel_rfl
        case hQ2h2 => exact fun _ _ _ h => h
        case hy2h2 => (refine Or.inl ⟨by rfl, ?_⟩; intro W hSw; (try dsimp only at hSw); obtain ⟨g0, g1, g2, g3⟩ := hSw; go_simp; try with_reducible rfl)
        try simp only [Act.put, List.setIfInBounds_toArray, List.set_cons_zero, List.set_cons_succ]
        refine wpAnyH_ready (rs := [1]) (by kernel_rfl) (by simp) ?_
        refine AllReadyH.cons (o := _) (by (simp only [List.getElem?_toArray, List.getElem?_cons_succ, List.getElem?_cons_zero]; rfl)) (fun K hK => ?_) AllReadyH.nil
        go_simp
        (with_reducible refine (HF1.out _ bd).mono ?_); rintro e w6 ⟨v6, rfl, hm6⟩; have bb6 := bd.trans (hm6.bel.mono bd.size); obtain ⟨a6, c6, rfl, hi6⟩ := hm6.at_; have Hi6 := hid_ hi6; clear hi6 hm6
        refine hK.out _ _ ?_ (fun hHeld => ?_)
        · exact HQV.out _ bb6
        clear hK K
        try simp only [Act.put, List.setIfInBounds_toArray, List.set_cons_zero, List.set_cons_succ]
        refine wpAnyH_ready (rs := [3]) (by kernel_rfl) (by simp) ?_
        refine AllReadyH.cons (o := _) (by (simp only [List.getElem?_toArray, List.getElem?_cons_succ, List.getElem?_cons_zero]; rfl)) (fun K hK => ?_) AllReadyH.nil
        go_simp
        (with_reducible refine (HF2.out _ bb6).mono ?_); rintro e w7 ⟨v7, rfl, hm7⟩; have bb7 := bb6.trans (hm7.bel.mono bb6.size); obtain ⟨a7, c7, rfl, hi7⟩ := hm7.at_; have Hi7 := hid_ hi7; have Hi67 := hid_ (Hi6.out.below hm7.bel (Nat.le_refl _)); clear hi7 hm7
        refine hK.out _ _ ?_ (fun hHeld => ?_)
        · exact HQV.out _ bb7
        clear hK K
        try simp only [Act.put, List.setIfInBounds_toArray, List.set_cons_zero, List.set_cons_succ]
        refine wpAnyH_ready (rs := [4]) (by kernel_rfl) (by simp) ?_
        refine AllReadyH.cons (o := _) (by (simp only [List.getElem?_toArray, List.getElem?_cons_succ, List.getElem?_cons_zero]; rfl)) (fun K hK => ?_) AllReadyH.nil
        go_simp
        (with_reducible refine (same_calls _ _ _ (fillL (cutP Q k)) _ _ _ (fillL Q) _ Hi67.out Hi7.out).mono ?_); rintro e w8 ⟨rfl, q8, rfl⟩; rw [Hsy.out]
        refine hK.out _ _ ?_ (fun hHeld => ?_)
        · exact HQV.out _ (below_drewN bb7 _)
        clear hK K
        try simp only [Act.put, List.setIfInBounds_toArray, List.set_cons_zero, List.set_cons_succ]
        refine wpAnyH_done (by kernel_rfl) ?_ _
        clear hHeld
        have bb8 : Below V.heap.size V (w7.drewN q8) := below_drewN bb7 _
        generalize w7.drewN q8 = w8 at *
        obtain ⟨g0, g1, g2, g3⟩ := HQV.out _ bb8
        obtain ⟨gf0, gf1⟩ := HVf.out _ bb8
        have hs8 := bb8.size
        have HN8 := hid_ (HN5.out.next bb8); have HI8 := hid_ (HIw.out.next bb8); have Hb8 := hid_ (HbV.out.trans (bb8.mono hBV))
        have HL8 : Hid (∃ a c, Value.slice b5 m5 d5 = .slice a (cutP Q k).ents.length c) := hid_ HN8.out.lits.2
        clear bb6 bb7 bb8 bd
        cases hn : needB Q k with
        | true =>
          have HSt := hid_ (step_yes hn)
          clear hn
          go_wp2
          obtain ⟨t0, t1⟩ := cells_two g2 g3 (.slice a5 n5 c5) (.slice b5 m5 d5)
          have g3' : (w8.setCell ⟨D, 0, none⟩ (.slice a5 n5 c5)).cell? ⟨D, 1, none⟩ = some (.slice ax Q.ents.length cx) := by rw [World.cell?_setCell_other _ _ _ _ (by simp)]; exact g3
          have hI9 := (HN8.out.set g2 (.inr rfl) (.slice a5 n5 c5)).set g3' (.inr rfl) (.slice b5 m5 d5)
          go_roundw
          case rel =>
            refine ⟨k, cutP Q k, _, _, by go_num, by omega, by rw [hlen.out]; omega, ?_, HvC.out, ⟨t0, t1, by rw [World.frozen?_setCell, World.frozen?_setCell]; exact gf0, by rw [World.frozen?_setCell, World.frozen?_setCell]; exact gf1⟩, hI9, (Hb8.out.setCell (p := ⟨D, 0, none⟩) hBD _).setCell (p := ⟨D, 1, none⟩) hBD _, by simp; omega⟩
            rw [← Hred.out]
            show _ = redK (redStep Q k) k
            rw [HSt.out]
          case measure => (simp [intOf]; try omega)
        | false =>
          have HSt := hid_ (step_no hn)
          clear hn
          go_wp2
          go_roundw
          case rel =>
            refine ⟨k, Q, _, _, by go_num, by omega, by omega, ?_, HQv.out, ⟨g2, g3, gf0, gf1⟩, HI8.out, Hb8.out, by omega⟩
            rw [← Hred.out]
            show _ = redK (redStep Q k) k
            rw [HSt.out]
          case measure => (simp [intOf]; try omega)
  · have hq : (validP P != 0) = true := by simpa using hv
    have Hf : Hid (resRed P = ⟨[], []⟩) := hid_ (by unfold resRed; rw [if_neg hv])
    rw [Hf.out]
    generalize validP P = x at *
    clear hv
    go_enter Try.func14, Try.ntmps14
    go_wp2_with (go_at_call 54; (with_reducible refine HV.out.mono ?_); rintro e w3 ⟨rfl, hb3⟩; obtain ⟨⟨y0, y1⟩, y2, y3⟩ := Qf.out _ hb3)
    obtain ⟨t0, t1⟩ := cells_two y0 y1 (.slice none 0 0) (.slice none 0 0)
    refine bodyPost_ret (v := .tuple #[.agg #[.slice none 0 0, .slice none 0 0], .int .i64 x]) ?_ rfl ⟨_, rfl, ParAt.zero _, ?_⟩
    · simp [results, Try.results14, go_sem, t0, t1]
    · have hf : Below w.heap.size w w3 := Hb2.out.trans (hb3.mono Hb2.out.size)
      exact (hf.setCell (p := ⟨w.heap.size + 1, 0, none⟩) (by show _ ≤ _ + 1; omega) _).setCell (p := ⟨w.heap.size + 1, 1, none⟩) (by show _ ≤ _ + 1; omega) _
end Go.Proofs.Ytdnlpikfibdjoaa
