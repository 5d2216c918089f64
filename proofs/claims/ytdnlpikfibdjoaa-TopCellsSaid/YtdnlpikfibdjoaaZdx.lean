import Derived.Test.YtdnlpikfibdjoaaZvg
namespace Go.Proofs.Ytdnlpikfibdjoaa
open Go.RowKit Go.Proofs.Kv Go

/-! ### Reduce of the program -/
def redStep (Q : Par) (i : Nat) : Par := if needB Q i = true then cutP Q i else Q
def redK (Q : Par) : Nat → Par
  | 0 => Q
  | k + 1 => redK (redStep Q k) k
def resRed (P : Par) : Par := if validP P = 0 then redK P P.ents.length else ⟨[], []⟩
theorem cutP_len {Q : Par} {i : Nat} (h : i < Q.ents.length) : (cutP Q i).ents.length = Q.ents.length - 1 := by
  show (cutE Q.ents i).length = _
  unfold cutE; rw [List.length_append, List.length_take, List.length_drop]; omega
theorem valid_step {Q : Par} (hv : validP Q = 0) (i : Nat) : validP (redStep Q i) = 0 := by
  unfold redStep; split
  · exact valid_cut hv i
  · exact hv
theorem step_yes {Q : Par} {i : Nat} (h : needB Q i = true) : redStep Q i = cutP Q i := by unfold redStep; rw [if_pos h]
theorem step_no {Q : Par} {i : Nat} (h : needB Q i = false) : redStep Q i = Q := by unfold redStep; rw [h]; rfl
/-- what the loop knows of the paradigm in hand: it lies in the call's own memory, and not in the box D -/
structure RedI (w : World) (B D : Nat) (u x : Value) (Q : Par) : Prop where
  s : SpecV w B x.ownBlock u Q.sizes
  e : OwnE w B x Q.ents
  d : x.ownBlock ≠ some D
theorem RedI.par {w : World} {B D : Nat} {u x : Value} {Q : Par} (h : RedI w B D u x Q) : ParAt w (.agg #[u, x]) Q := by
  obtain ⟨a, n, c, rfl, hi⟩ := h.s.ints
  obtain ⟨a', c', rfl, he⟩ := h.e.at_
  exact ⟨_, _, _, _, _, _, rfl, hi, he⟩
theorem RedI.lits {w : World} {B D : Nat} {u x : Value} {Q : Par} (h : RedI w B D u x Q) : (∃ a n c, u = .slice a n c) ∧ ∃ a c, x = .slice a Q.ents.length c := by
  obtain ⟨a, n, c, rfl, hi⟩ := h.s.ints
  obtain ⟨a', c', rfl, he⟩ := h.e.at_
  exact ⟨⟨_, _, _, rfl⟩, _, _, rfl⟩
theorem RedI.next {w w' : World} {B D : Nat} {u x : Value} {Q : Par} (h : RedI w B D u x Q) (hb : Below w.heap.size w w') : RedI w' B D u x Q := ⟨h.s.next hb, h.e.next hb, h.d⟩
theorem RedI.store {w : World} {B D : Nat} {u x : Value} {Q : Par} (h : RedI w B D u x Q) {p : Addr} (hp : p.block < B) (y : Value) : RedI (w.setCell p y) B D u x Q := ⟨h.s.store hp y, h.e.store hp y, h.d⟩
theorem RedI.box {w : World} {B D : Nat} {u x : Value} {Q : Par} (h : RedI w B D u x Q) {j m k : Nat} {a : Option Addr} (hq : w.cell? ⟨D, j, none⟩ = some (.slice a m k)) (y : Value) : RedI (w.setCell ⟨D, j, none⟩ y) B D u x Q :=
  ⟨h.s.setSlice hq, h.e.setSlice hq h.d, h.d⟩
theorem RedI.of {w w' : World} {v : Value} {Q : Par} {B D : Nat} (h : MadeP6 w w' v Q) (hB : B ≤ w.heap.size) (hD : ¬ (w.heap.size ≤ D ∧ D < w'.heap.size)) : ∃ u x, v = .agg #[u, x] ∧ RedI w' B D u x Q ∧ Below w.heap.size w w' := by
  obtain ⟨u, x, rfl, hs, he, hb⟩ := h
  exact ⟨u, x, rfl, ⟨hs.base hB, he.base hB, fun e => hD (he.lt D e)⟩, hb⟩
set_option maxRecDepth 100000 in
set_option maxHeartbeats 8000000 in
theorem ceReduce_calls (v : Value) (P : Par) (w : World) (h : ParAt w v P) :
    Calls Try.prog 13 #[v] w fun e w' => ∃ v', e = .returned (.tuple #[v', .int .i64 (validP P)]) ∧ MadeP6 w w' v' (resRed P) := by
  have HP := hid_ h
  obtain ⟨a1, n1, c1, a2, n2, c2, rfl, h1, h2⟩ := h
  obtain ⟨w1, hw1⟩ : ∃ w1, w.alloc (.cells #[.slice a1 n1 c1, .slice a2 n2 c2] 25) = w1 := ⟨_, rfl⟩
  have cb : Below w.heap.size w w1 := by rw [← hw1]; exact below_alloc _ _
  have q0 : w1.cell? ⟨w.heap.size, 0, none⟩ = some (.slice a1 n1 c1) := by rw [← hw1]; exact cells_alloc _ _ _ 0
  have q1 : w1.cell? ⟨w.heap.size, 1, none⟩ = some (.slice a2 n2 c2) := by rw [← hw1]; exact cells_alloc _ _ _ 1
  have HP1 := hid_ (HP.out.below cb (Nat.le_refl _)); have Hc1 := hid_ cb
  obtain ⟨w2, hw2⟩ : ∃ w2, w1.alloc (.cells #[.slice none 0 0, .slice none 0 0] 25) = w2 := ⟨_, rfl⟩
  have z1 : w1.heap.size = w.heap.size + 1 := by rw [← hw1]; simp
  have z2 : w2.heap.size = w.heap.size + 2 := by rw [← hw2]; simp [z1]
  have b2 : Below w1.heap.size w1 w2 := by rw [← hw2]; exact below_alloc _ _
  have r0 : w2.cell? ⟨w.heap.size + 1, 0, none⟩ = some (.slice none 0 0) := by rw [← z1, ← hw2]; exact cells_alloc _ _ _ 0
  have r1 : w2.cell? ⟨w.heap.size + 1, 1, none⟩ = some (.slice none 0 0) := by rw [← z1, ← hw2]; exact cells_alloc _ _ _ 1
  have f0 : ∀ j, w2.frozen? ⟨w.heap.size + 1, j, none⟩ = false := fun j => by rw [← z1, ← hw2]; exact World.frozen?_alloc_at _ _ _ _ (by simp)
  have q02 := cell_below q0 b2; have q12 := cell_below q1 b2
  have HP2 := hid_ (HP1.out.below b2 (Nat.le_refl _))
  have HV := hid_ (ceValidate_calls _ P w2 HP2.out)
  have Hb2 : Hid (Below w.heap.size w w2) := hid_ (Hc1.out.trans (b2.mono Hc1.out.size))
  have hln := h2.len
  have Z2 := hid_ z2
  have HQ := hid_ (fun W (hW : Below w2.heap.size w2 W) => (⟨cell_below q02 hW, cell_below q12 hW⟩ : W.cell? ⟨w.heap.size, 0, none⟩ = some (.slice a1 n1 c1) ∧ W.cell? ⟨w.heap.size, 1, none⟩ = some (.slice a2 n2 c2)))
  have Qf := hid_ (fun W (hW : Below w2.heap.size w2 W) => (⟨⟨cell_below r0 hW, cell_below r1 hW⟩, (hW.frozen (p := ⟨w.heap.size + 1, 0, none⟩) (by show w.heap.size + 1 < w2.heap.size; omega)).trans (f0 0), (hW.frozen (p := ⟨w.heap.size + 1, 1, none⟩) (by show w.heap.size + 1 < w2.heap.size; omega)).trans (f0 1)⟩ : (W.cell? ⟨w.heap.size + 1, 0, none⟩ = some (.slice none 0 0) ∧ W.cell? ⟨w.heap.size + 1, 1, none⟩ = some (.slice none 0 0)) ∧ W.frozen? ⟨w.heap.size + 1, 0, none⟩ = false ∧ W.frozen? ⟨w.heap.size + 1, 1, none⟩ = false))
  clear h1 h2 cb b2 q0 q1 z2 r0 r1 f0
  by_cases hv : validP P = 0
  · have HR : Hid (resRed P = redK P n2) := hid_ (by unfold resRed; rw [if_pos hv, hln])
    obtain ⟨-, -, h10, hent⟩ := validP_ok hv
    have h3 := (validP_ok hv).1.2
    have HC := hid_ (fun W (hW : Below w2.heap.size w2 W) => copied_calls _ P W (HP2.out.below hW (Nat.le_refl _)) (by omega) (by omega) (fun k hk => by have := (specB_ok (hent k hk).1).1; omega))
    have HN := hid_ (fun W Q u x B D i (h : RedI W B D u x Q) (hq : validP Q = 0) (hi : i < Q.ents.length) => isNeedless_calls (.agg #[u, x]) Q i W h.par hq hi)
    have HW := hid_ (fun W Q u x B D i (h : RedI W B D u x Q) (hq : validP Q = 0) (hi : i < Q.ents.length) => by
      obtain ⟨-, -, h10, hent⟩ := validP_ok hq
      have h3 := (validP_ok hq).1.2
      exact ceWithout0_calls (.agg #[u, x]) Q i W h.par (by omega) (by omega) (fun k hk => by have := (specB_ok (hent k hk).1).1; omega) hi)
    rw [hv] at HV ⊢
    rw [HR.out]
    have Hv := hid_ hv
    rw [hln] at h10
    have Hln := hid_ hln
    clear hent h3 hv HR hln
    go_enter Try.func13, Try.ntmps13
    go_wp2_with (first
      | (go_at_call 52; (with_reducible refine HV.out.mono ?_); rintro e w3 ⟨rfl, hb3⟩; obtain ⟨q03, q13⟩ := HQ.out _ hb3)
      | (go_at_call 57; (with_reducible refine (HC.out _ hb3).mono ?_); rintro e w4 ⟨v4, rfl, hm4⟩; obtain ⟨u4, x4, rfl, hI4, hc4⟩ := RedI.of (B := w2.heap.size) (D := w4.heap.size) hm4 hb3.size (by omega); obtain ⟨⟨a3, n3, c3, rfl⟩, a4, c4, rfl⟩ := hI4.lits; have hb4 := hb3.trans (hc4.mono hb3.size); have hB4 := hb4.trans ((below_alloc w4 (.cells #[.slice a3 n3 c3, .slice a4 P.ents.length c4] 25)).mono hb4.size); obtain ⟨q04, q14⟩ := HQ.out _ hB4))
    obtain ⟨W, hW⟩ : ∃ W, w4.alloc (.cells #[.slice a3 n3 c3, .slice a4 P.ents.length c4] 25) = W := ⟨_, rfl⟩
    rw [hW] at hB4 q04 q14 ⊢
    have bW : Below w4.heap.size w4 W := by rw [← hW]; exact below_alloc _ _
    have HI4 := hid_ (hI4.next bW)
    have s0 : W.cell? ⟨w4.heap.size, 0, none⟩ = some (.slice a3 n3 c3) := by rw [← hW]; exact cells_alloc _ _ _ 0
    have s1 : W.cell? ⟨w4.heap.size, 1, none⟩ = some (.slice a4 P.ents.length c4) := by rw [← hW]; exact cells_alloc _ _ _ 1
    have sf : ∀ j, W.frozen? ⟨w4.heap.size, j, none⟩ = false := fun j => by rw [← hW]; exact World.frozen?_alloc_at _ _ _ _ (by simp)
    have hDW : w4.heap.size < W.heap.size := by rw [← hW]; simp
    have hBD : w2.heap.size ≤ w4.heap.size := hb4.size
    have hwn : IntKind.i64.wrap ((n2 : Int) - 1) = (n2 : Int) - 1 := IntWalk.i64_in _ (by omega)
    generalize w4.heap.size = D at *
    have HB4 := hid_ hB4
    clear hI4 hc4 hb4 bW hm4
    go_loopw [6] (fun iv wr => ∃ (k : Nat) (Q : Par) (u x : Value), iv = .int .i64 ((k : Int) - 1) ∧ k ≤ n2 ∧ k ≤ Q.ents.length ∧ redK Q k = redK P n2 ∧ validP Q = 0 ∧ (wr.cell? ⟨D, 0, none⟩ = some u ∧ wr.cell? ⟨D, 1, none⟩ = some x ∧ wr.frozen? ⟨D, 0, none⟩ = false ∧ wr.frozen? ⟨D, 1, none⟩ = false) ∧ RedI wr w2.heap.size D u x Q ∧ Below w2.heap.size w2 wr ∧ D < wr.heap.size) (fun iv _ => (intOf iv + 1).toNat)
    case atStart => exact ⟨n2, P, _, _, rfl, Nat.le_refl _, by rw [Hln.out]; exact Nat.le_refl _, rfl, Hv.out, ⟨s0, s1, sf 0, sf 1⟩, HI4.out, HB4.out, hDW⟩
    case round =>
      clear s0 s1 sf q04 q14 HI4
      obtain ⟨k, Q, u, x, rfl, hk, hkQ, hred, hvQ, ⟨d0, d1, df0, df1⟩, hI, hb, hDr⟩ := hrel
      obtain ⟨⟨au, nu, cu, rfl⟩, ax, cx, rfl⟩ := hI.lits
      have HI := hid_ hI
      have HQv := hid_ hvQ
      cases k with
      | zero =>
        obtain ⟨i, hi⟩ : ∃ i : Int, i = ((0 : Nat) : Int) - 1 := ⟨_, rfl⟩
        rw [← hi]
        have hge : decide (i ≥ 0) = false := by rw [hi]; decide
        obtain ⟨⟨y0, y1⟩, y2, y3⟩ := Qf.out _ hb
        have Hb := hid_ hb
        have Hred := hid_ hred
        clear hI hvQ hi hb hred
        go_wp2
        obtain ⟨t0, t1⟩ := cells_two y0 y1 (.slice au nu cu) (.slice ax Q.ents.length cx)
        have z2 := Z2.out
        have hp : w.heap.size + 1 < w2.heap.size := by omega
        have hQ : Q = redK P n2 := Hred.out
        have hIf := (HI.out.store (p := ⟨w.heap.size + 1, 0, none⟩) hp (.slice au nu cu)).store (p := ⟨w.heap.size + 1, 1, none⟩) hp (.slice ax Q.ents.length cx)
        refine bodyPost_ret (v := .tuple #[.agg #[.slice au nu cu, .slice ax Q.ents.length cx], .int .i64 0]) ?_ rfl ⟨_, rfl, _, _, rfl, ?_, ?_, ?_⟩
        · simp [results, Try.results13, go_sem, t0, t1]
        · rw [← hQ]; exact hIf.s.base (by omega)
        · rw [← hQ]; exact hIf.e.base (by omega)
        · have hf : Below w.heap.size w wr := Hb2.out.trans (Hb.out.mono Hb2.out.size)
          exact (hf.setCell (p := ⟨w.heap.size + 1, 0, none⟩) (by show _ ≤ _ + 1; omega) _).setCell (p := ⟨w.heap.size + 1, 1, none⟩) (by show _ ≤ _ + 1; omega) _
      | succ k =>
        rw [show (((k + 1 : Nat) : Int) - 1) = (k : Int) by omega]
        have hwk : IntKind.i64.wrap ((k : Int) - 1) = (k : Int) - 1 := IntWalk.i64_in _ (by omega)
        have hge : decide ((k : Int) ≥ 0) = true := by simp
        have HNk := hid_ (HN.out wr Q _ _ _ _ k hI hvQ (by omega))
        have HWk := hid_ (fun W (hW : Below wr.heap.size wr W) => HW.out W Q _ _ _ _ k (hI.next hW) hvQ (by omega))
        have hlen := hid_ (@cutP_len Q k (by omega))
        have Hred := hid_ hred
        have Hb := hid_ hb
        have hBr := hb.size
        cases hn : needB Q k with
        | true =>
          rw [hn] at HNk
          have HSt := hid_ (step_yes hn)
          have HvC := hid_ (valid_cut HQv.out k)
          clear hI hvQ hred hb hn
          go_wp2_with (first
            | (go_at_call 53; (with_reducible refine HNk.out.mono ?_); rintro e w5 ⟨rfl, hb5⟩; have HW5 := hid_ (HWk.out _ hb5); have e0 := cell_below d0 hb5; have e1 := cell_below d1 hb5; have ef0 := (hb5.frozen (p := ⟨D, 0, none⟩) hDr).trans df0; have ef1 := (hb5.frozen (p := ⟨D, 1, none⟩) hDr).trans df1; have hs5 := hb5.size)
            | (go_at_call 58; (with_reducible refine HW5.out.mono ?_); rintro e w6 ⟨v6, rfl, hm6⟩; obtain ⟨u6, x6, rfl, hI6, hc6⟩ := RedI.of (B := w2.heap.size) (D := D) hm6 (Nat.le_trans hBr hs5) (by omega); obtain ⟨⟨a6, n6, c6, rfl⟩, a7, c7, rfl⟩ := hI6.lits; have g0 := cell_below e0 hc6; have g1 := cell_below e1 hc6; have gf0 := (hc6.frozen (p := ⟨D, 0, none⟩) (Nat.lt_of_lt_of_le hDr hs5)).trans ef0; have gf1 := (hc6.frozen (p := ⟨D, 1, none⟩) (Nat.lt_of_lt_of_le hDr hs5)).trans ef1; have hb6 := Hb.out.trans ((hb5.trans (hc6.mono hs5)).mono hBr); have hs6 := hc6.size; have HI6 := hid_ hI6; have Hb6 := hid_ hb6; clear hI6 hb6 hm6 hb5 hc6))
          obtain ⟨t0, t1⟩ := cells_two g0 g1 (.slice a6 n6 c6) (.slice a7 (cutP Q k).ents.length c7)
          have g1' : (w6.setCell ⟨D, 0, none⟩ (.slice a6 n6 c6)).cell? ⟨D, 1, none⟩ = some (.slice ax Q.ents.length cx) := by rw [World.cell?_setCell_other _ _ _ _ (by simp)]; exact g1
          have hI8 := (HI6.out.box g0 (.slice a6 n6 c6)).box g1' (.slice a7 (cutP Q k).ents.length c7)
          go_roundw
          case rel =>
            refine ⟨k, cutP Q k, _, _, by go_num, by omega, by rw [hlen.out]; omega, ?_, HvC.out, ⟨t0, t1, by rw [World.frozen?_setCell, World.frozen?_setCell]; exact gf0, by rw [World.frozen?_setCell, World.frozen?_setCell]; exact gf1⟩, hI8, (Hb6.out.setCell (p := ⟨D, 0, none⟩) hBD _).setCell (p := ⟨D, 1, none⟩) hBD _, by simp; omega⟩
            rw [← Hred.out]
            show _ = redK (redStep Q k) k
            rw [HSt.out]
          case measure => (simp [intOf]; try omega)
        | false =>
          rw [hn] at HNk
          have HSt := hid_ (step_no hn)
          clear hvQ hred hb hn
          go_wp2_with (go_at_call 53; (with_reducible refine HNk.out.mono ?_); rintro e w5 ⟨rfl, hb5⟩; have e0 := cell_below d0 hb5; have e1 := cell_below d1 hb5; have ef0 := (hb5.frozen (p := ⟨D, 0, none⟩) hDr).trans df0; have ef1 := (hb5.frozen (p := ⟨D, 1, none⟩) hDr).trans df1; have HI5 := hid_ (hI.next hb5); have Hb5 := hid_ (Hb.out.trans (hb5.mono hBr)); have hs5 := hb5.size; clear hb5)
          go_roundw
          case rel =>
            refine ⟨k, Q, _, _, by go_num, by omega, by omega, ?_, HQv.out, ⟨e0, e1, ef0, ef1⟩, HI5.out, Hb5.out, by omega⟩
            rw [← Hred.out]
            show _ = redK (redStep Q k) k
            rw [HSt.out]
          case measure => (simp [intOf]; try omega)
  · have hq : (validP P != 0) = true := by simpa using hv
    have Hf : Hid (resRed P = ⟨[], []⟩) := hid_ (by unfold resRed; rw [if_neg hv])
    rw [Hf.out]
    generalize validP P = x at *
    clear hv
    go_enter Try.func13, Try.ntmps13
    go_wp2_with (go_at_call 52; (with_reducible refine HV.out.mono ?_); rintro e w3 ⟨rfl, hb3⟩; obtain ⟨⟨y0, y1⟩, y2, y3⟩ := Qf.out _ hb3)
    obtain ⟨t0, t1⟩ := cells_two y0 y1 (.slice none 0 0) (.slice none 0 0)
    refine bodyPost_ret (v := .tuple #[.agg #[.slice none 0 0, .slice none 0 0], .int .i64 x]) ?_ rfl ⟨_, rfl, MadeP6.zero ?_⟩
    · simp [results, Try.results13, go_sem, t0, t1]
    · have hf : Below w.heap.size w w3 := Hb2.out.trans (hb3.mono Hb2.out.size)
      exact (hf.setCell (p := ⟨w.heap.size + 1, 0, none⟩) (by show _ ≤ _ + 1; omega) _).setCell (p := ⟨w.heap.size + 1, 1, none⟩) (by show _ ≤ _ + 1; omega) _
end Go.Proofs.Ytdnlpikfibdjoaa
