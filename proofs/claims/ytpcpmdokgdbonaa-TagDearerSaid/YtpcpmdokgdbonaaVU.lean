import Derived.Test.YtpcpmdokgdbonaaVT
namespace Go.Proofs.Kv
open Go.RowKit Go
theorem two_stored {W : World} {rb : Nat} {x y u0 u1 : Value} (h0 : W.cell? ⟨rb, 0, none⟩ = some u0) (h1 : W.cell? ⟨rb, 1, none⟩ = some u1) :
    ((W.setCell ⟨rb, 0, none⟩ x).setCell ⟨rb, 1, none⟩ y).cell? ⟨rb, 0, none⟩ = some x ∧ ((W.setCell ⟨rb, 0, none⟩ x).setCell ⟨rb, 1, none⟩ y).cell? ⟨rb, 1, none⟩ = some y := by
  refine ⟨?_, ?_⟩
  · rw [World.cell?_setCell_other _ _ _ _ (by simp), World.cell?_setCell_same _ _ _ h0]
  · rw [World.cell?_setCell_same _ _ _ (by rw [World.cell?_setCell_other _ _ _ _ (by simp)]; exact h1)]
theorem NewI.res {EI EL E1 : TypeId} {w : World} {B rb : Nat} {iv fv : Value} {xs : List Ic} {fs : List Value} {L : Lx} (h : NewI EI EL E1 w B iv fv xs fs L) (hp : rb < B) (x y : Value) : NewI EI EL E1 ((w.setCell ⟨rb, 0, none⟩ x).setCell ⟨rb, 1, none⟩ y) B iv fv xs fs L :=
  (h.store (p := ⟨rb, 0, none⟩) hp x).store (p := ⟨rb, 1, none⟩) hp y
theorem NewI.nil0 (EI EL E1 : TypeId) (w : World) (B : Nat) (h1 : EI ≠ E1) (h2 : EL ≠ E1) (h3 : EI ≠ EL) : NewI EI EL E1 w B (.slice none 0 0) (.slice none 0 0) [] [] ⟨[], []⟩ :=
  ⟨h1, h2, h3, World.ownsRow_nil _ _ _ _, rfl, fun i x h => by simp at h, World.ownsRow_nil _ _ _ _, RowsIn.nil _ _ _⟩
/-- the cost of item i is put anew -/
def setCost (L : Lx) (i : Nat) (k : Int) : Lx := ⟨L.items.set i { L.items.getD i I0 with cost := k }, L.follow⟩
theorem NewI.cost {EI EL E1 : TypeId} {w : World} {B g n c i : Nat} {fv : Value} {xs : List Ic} {fs : List Value} {L : Lx} (h : NewI EI EL E1 w B (.slice (some ⟨g, 0, none⟩) n c) fv xs fs L) (hn : n = L.items.length) (hi : i < n) (k : Int) :
    ∃ xs', NewI EI EL E1 (w.setCell ⟨g, i * 3 + 2, none⟩ (.int .i64 k)) B (.slice (some ⟨g, 0, none⟩) n c) fv xs' fs (setCost L i k) := by
  subst hn
  have hl := h.len
  obtain ⟨x, hx, -⟩ := h.word hi
  obtain ⟨s1, s2⟩ := h.items.stored (i * 3 + 2) (.int .i64 k)
  have s2' : w.grownBy (w.setCell ⟨g, i * 3 + 2, none⟩ (.int .i64 k)) (Value.slice (some ⟨g, 0, none⟩) L.items.length c).ownBlock := s2
  rw [encI_cost xs i x k hx] at s1
  refine ⟨xs.set i (x.1, x.2.1, k), h.ne1, h.ne2, h.ne3, by simpa [setCost] using s1, by simp [setCost, hl], fun j y hy => ?_, own_kept_ne h.fol s2' (fun b hb => own_apart h.fol h.items (Ne.symm h.ne3) b hb), ?_⟩
  · show y.2 = (((L.items.set i _).getD j I0).kind, ((L.items.set i _).getD j I0).cost)
    rw [getD_set8 _ _ _ _ _ hi]
    by_cases e : j = i
    · subst e
      rw [List.getElem?_set_self (by omega)] at hy
      injection hy with hy; subst hy
      rw [if_pos rfl]
      have := h.kc j x hx
      rw [this]
    · rw [List.getElem?_set_ne (Ne.symm e)] at hy
      rw [if_neg e]; exact h.kc j y hy
  · have e1 : (xs.set i (x.1, x.2.1, k)).map (·.1) = xs.map (·.1) := by
      apply List.ext_getElem?
      intro j
      rw [List.getElem?_map, List.getElem?_map]
      by_cases e : j = i
      · subst e; rw [List.getElem?_set_self (by omega), hx]; rfl
      · rw [List.getElem?_set_ne (Ne.symm e)]
    have e2 : (setCost L i k).items.map (·.word) = L.items.map (·.word) := by
      apply List.ext_getElem?
      intro j
      rw [List.getElem?_map, List.getElem?_map]
      show ((L.items.set i _)[j]?).map _ = _
      by_cases e : j = i
      · subst e; rw [List.getElem?_set_self hi, List.getElem?_eq_getElem hi]; simp [List.getD, hi]
      · rw [List.getElem?_set_ne (Ne.symm e)]
    rw [e1, e2]
    exact h.rows.other h.items h.ne1 s2'
theorem NewI.costAt {EI EL E1 : TypeId} {w : World} {B g n c i : Nat} {fv : Value} {xs : List Ic} {fs : List Value} {L : Lx} (h : NewI EI EL E1 w B (.slice (some ⟨g, 0, none⟩) n c) fv xs fs L) (hn : n = L.items.length) (hi : i < n) :
    w.cell? ⟨g, i * 3 + 2, none⟩ = some (.int .i64 (L.items.getD i I0).cost) ∧ w.frozen? ⟨g, i * 3 + 2, none⟩ = false ∧ (∃ a m d, w.cell? ⟨g, i * 3, none⟩ = some (.slice a m d) ∧ IntsAt w a m d (L.items.getD i I0).word) ∧ w.frozen? ⟨g, i * 3, none⟩ = false := by
  subst hn
  obtain ⟨x, hx, ho⟩ := h.word hi
  obtain ⟨e0, -, e2⟩ := encI_at xs i x hx
  have hk := h.kc i x hx
  rw [hk] at e2
  obtain ⟨a, d, hv, hI⟩ := IntsAt.own ho
  rw [hv] at e0
  exact ⟨(h.items.cellAt _ (by omega)).trans e2, h.items.frozenAt _, ⟨a, _, d, (h.items.cellAt _ (by omega)).trans e0, hI⟩, h.items.frozenAt _⟩
theorem NewI.form {EI EL E1 : TypeId} {w : World} {B : Nat} {iv fv : Value} {xs : List Ic} {fs : List Value} {L : Lx} (h : NewI EI EL E1 w B iv fv xs fs L) (h0 : 0 < L.items.length) : ∃ g c, iv = .slice (some ⟨g, 0, none⟩) L.items.length c ∧ B ≤ g ∧ g < w.heap.size := by
  rcases h.items.2 with ⟨_, h1⟩ | ⟨g, cap, cur, rfl, hB, hg, _⟩
  · omega
  · exact ⟨g, cap, rfl, hB, (Array.getElem?_eq_some_iff.1 hg).1⟩
end Go.Proofs.Kv
namespace Go.Proofs.Ytpcpmdokgdbonaa
open Go.RowKit Go.Proofs.Kv Go

/-! ### Dearer -/
def drE (L : Lx) (i b : Int) : Int := if viE L [i] = 0 then (if 0 ≤ costI L i + b ∧ costI L i + b ≤ 99 then 0 else 1) else viE L [i]
def drL (L : Lx) (i b : Int) : Lx := if drE L i b = 0 then setCost L i.toNat (costI L i + b) else ⟨[], []⟩
theorem one_item {L : Lx} {i : Int} (h : itemsB L [i] = true) : ∃ j : Nat, i = (j : Int) ∧ j < L.items.length := by
  obtain ⟨j, e, hj⟩ := itemsB_at h (k := 0) (by simp)
  exact ⟨j, e, hj⟩
set_option maxRecDepth 100000 in
set_option maxHeartbeats 4000000 in
theorem taDearer_calls (v : Value) (L : Lx) (i b : Int) (w : World) (h : LexAt w v L) :
    Calls Try.prog 31 #[v, .int .i64 i, .int .i64 b] w fun e w' => ∃ iv fv xs fs, e = .returned (.tuple #[.agg #[iv, fv], .int .i64 (drE L i b)]) ∧ NewL w' w.heap.size iv fv xs fs (drL L i b) ∧ Below w.heap.size w w' := by
  have HP := hid_ h
  obtain ⟨a1, n1, c1, a2, n2, c2, rfl, h1, h2⟩ := h
  obtain ⟨w1, hw1⟩ : ∃ w1, w.alloc (.cells #[.slice a1 n1 c1, .slice a2 n2 c2] 25) = w1 := ⟨_, rfl⟩
  have cb : Below w.heap.size w w1 := by rw [← hw1]; exact below_alloc _ _
  have q0 : w1.cell? ⟨w.heap.size, 0, none⟩ = some (.slice a1 n1 c1) := by rw [← hw1]; exact cells_alloc _ _ _ 0
  have q1 : w1.cell? ⟨w.heap.size, 1, none⟩ = some (.slice a2 n2 c2) := by rw [← hw1]; exact cells_alloc _ _ _ 1
  have HP1 := hid_ (HP.out.below cb (Nat.le_refl _)); have Hc1 := hid_ cb
  obtain ⟨w2, hw2⟩ : ∃ w2, w1.alloc (.cells #[.slice none 0 0, .slice none 0 0] 25) = w2 := ⟨_, rfl⟩
  have z1 : w1.heap.size = w.heap.size + 1 := by rw [← hw1]; simp
  have z2 : w2.heap.size = w.heap.size + 2 := by rw [← hw2]; simp [z1]
  have b2 : Below w1.heap.size w1 w2 := by rw [← hw2]; exact below_alloc _ _
  have r0 : w2.cell? ⟨w.heap.size + 1, 0, none⟩ = some (.slice none 0 0) := by rw [← z1, ← hw2]; exact cells_alloc _ _ _ 0
  have r1 : w2.cell? ⟨w.heap.size + 1, 1, none⟩ = some (.slice none 0 0) := by rw [← z1, ← hw2]; exact cells_alloc _ _ _ 1
  have f0 : ∀ j, w2.frozen? ⟨w.heap.size + 1, j, none⟩ = false := fun j => by rw [← z1, ← hw2]; exact World.frozen?_alloc_at _ _ _ _ (by simp)
  have q02 := cell_below q0 b2; have q12 := cell_below q1 b2
  have Hb2 : Hid (Below w.heap.size w w2) := hid_ (Hc1.out.trans (b2.mono Hc1.out.size))
  have HP2 := hid_ (HP.out.below Hb2.out (Nat.le_refl _))
  have HRs := hid_ (fun W (hW : Below w2.heap.size w2 W) => (⟨(hW.cell (p := ⟨w.heap.size + 1, 0, none⟩) (by show w.heap.size + 1 < w2.heap.size; omega)).trans r0, (hW.cell (p := ⟨w.heap.size + 1, 1, none⟩) (by show w.heap.size + 1 < w2.heap.size; omega)).trans r1, (hW.frozen (p := ⟨w.heap.size + 1, 0, none⟩) (by show w.heap.size + 1 < w2.heap.size; omega)).trans (f0 0), (hW.frozen (p := ⟨w.heap.size + 1, 1, none⟩) (by show w.heap.size + 1 < w2.heap.size; omega)).trans (f0 1)⟩ : W.cell? ⟨w.heap.size + 1, 0, none⟩ = some (.slice none 0 0) ∧ W.cell? ⟨w.heap.size + 1, 1, none⟩ = some (.slice none 0 0) ∧ W.frozen? ⟨w.heap.size + 1, 0, none⟩ = false ∧ W.frozen? ⟨w.heap.size + 1, 1, none⟩ = false))
  have HQ := hid_ (fun W (hW : Below w2.heap.size w2 W) => (⟨cell_below q02 hW, cell_below q12 hW⟩ : _ ∧ _))
  have Z2 := hid_ z2
  have ba := below_alloc w2 (.cells #[.int .i64 i] 3)
  have HV := hid_ (validateItems_calls _ L _ 1 1 [i] _ (HP2.out.below ba (Nat.le_refl _)) (IntsAt.one w2 i 3))
  have Hba := hid_ ba
  have HE : Hid (drE L i b = if viE L [i] = 0 then (if 0 ≤ costI L i + b ∧ costI L i + b ≤ 99 then 0 else 1) else viE L [i]) := hid_ rfl
  have HD : Hid (drL L i b = if drE L i b = 0 then setCost L i.toNat (costI L i + b) else ⟨[], []⟩) := hid_ rfl
  have HI2 := hid_ (h1.below Hb2.out (Nat.le_refl _))
  have hl1 := h1.len
  generalize drL L i b = D at *
  generalize drE L i b = E at *
  by_cases he : viE L [i] = 0
  · obtain ⟨hv, hi⟩ := viE_ok he
    have g := validL_ok hv
    obtain ⟨j, rfl, hj⟩ := one_item hi
    have hc : costI L (j : Int) = (L.items.getD j I0).cost := by unfold costI; rw [Int.toNat_natCast]
    rw [if_pos he] at HE
    rw [he] at HV
    obtain ⟨hc0, hc1⟩ := g.cost j hj
    obtain ⟨bi, oi, ai, ni, ci, rfl, -, k0, k1, k2, -⟩ := HI2.out.cells j (by omega)
    have HCp := hid_ (fun W (hW : Below w2.heap.size w2 W) => copied8_calls _ L W (HP2.out.below hW (Nat.le_refl _)) g)
    rw [hc, Int.toNat_natCast] at HD
    rw [hc] at HE
    obtain ⟨old, hold⟩ : ∃ old, (L.items.getD j I0).cost = old := ⟨_, rfl⟩
    rw [hold] at hc0 hc1 k2 HD HE
    have Hold := hid_ hold
    have HBt := hid_ (fun W => isBetween_calls b (-old) (99 - old) W)
    have hwn : IntKind.i64.wrap (-old) = -old := IntWalk.i64_in _ (by omega)
    have hws : IntKind.i64.wrap (99 - old) = 99 - old := IntWalk.i64_in _ (by omega)
    have hWt : Within b (-old) (99 - old) = decide (0 ≤ old + b ∧ old + b ≤ 99) := by
      rw [Bool.eq_iff_iff]
      simp only [Within, Bool.and_eq_true, decide_eq_true_eq]
      constructor
      · intro h9; omega
      · intro h9; omega
    rw [hWt] at HBt
    rw [hl1] at hj
    have Hl1 := hid_ hl1
    clear HI2 h1 h2 HP HP1 g hv hi he hold hc hWt ba cb b2
    by_cases hin : 0 ≤ old + b ∧ old + b ≤ 99
    · rw [decide_eq_true hin] at HBt
      have HE' : Hid (E = 0) := hid_ (HE.out.trans (if_pos hin))
      have HD' : Hid (D = setCost L j (old + b)) := hid_ (HD.out.trans (if_pos HE'.out))
      have hwa : IntKind.i64.wrap (old + b) = old + b := IntWalk.i64_in _ (by omega)
      rw [HD'.out, HE'.out]
      clear z2
      go_enter Try.func31, Try.ntmps31
      go_wp2_with (first
        | (go_at_call 63; (with_reducible refine HV.out.mono ?_); rintro e w3 ⟨rfl, hb3'⟩; have hb3 := below_then8 Hba.out hb3'; obtain ⟨q3, p3⟩ := HQ.out w3 hb3; have k23 := cell_below k2 hb3)
        | (go_at_call 64; (with_reducible refine (HBt.out _).mono ?_); rintro e w4 ⟨rfl, rfl⟩)
        | (go_at_call 59; (with_reducible refine (HCp.out _ hb3).mono ?_); rintro e w5 ⟨iv, fv, xs, fs, rfl, hN, hb5'⟩; have hb5 := below_then8 hb3 hb5'; obtain ⟨gi, cg, rfl, hgB, hgl⟩ := hN.form (by rw [Hl1.out]; omega); obtain ⟨ac, cc, rfl, -⟩ := hN.listsAt; simp only [Hl1.out] at hN ⊢; have Hhn := hid_ hN; clear hN; obtain ⟨fl, hfl⟩ : ∃ fl, L.follow.length = fl := ⟨_, rfl⟩; rw [hfl] at Hhn ⊢; obtain ⟨w6, hw6⟩ : ∃ w6, w5.alloc (.cells #[.slice (some ⟨gi, 0, none⟩) n1 cg, .slice ac fl cc] 25) = w6 := ⟨_, rfl⟩; have b6 : Below w5.heap.size w5 w6 := (by rw [← hw6]; exact below_alloc _ _); have HN6 := hid_ (Hhn.out.below b6 (Nat.le_refl _)); obtain ⟨y0, yf, -, -⟩ := HN6.out.costAt Hl1.out.symm hj; rw [Hold.out] at y0; have c0 : w6.cell? ⟨w5.heap.size, 0, none⟩ = some (.slice (some ⟨gi, 0, none⟩) n1 cg) := (by rw [← hw6]; exact cells_alloc _ _ _ 0); have c1 : w6.cell? ⟨w5.heap.size, 1, none⟩ = some (.slice ac fl cc) := (by rw [← hw6]; exact cells_alloc _ _ _ 1); obtain ⟨w7, hw7⟩ : ∃ w7, w6.setCell ⟨gi, j * 3 + 2, none⟩ (.int .i64 (old + b)) = w7 := ⟨_, rfl⟩; obtain ⟨xs', hN7⟩ := HN6.out.cost Hl1.out.symm hj (old + b); rw [hw7] at hN7; have HN7 := hid_ hN7; clear hN7; have d0 : w7.cell? ⟨w5.heap.size, 0, none⟩ = some (.slice (some ⟨gi, 0, none⟩) n1 cg) := (by rw [← hw7, World.cell?_setCell_other _ _ _ _ (by intro e; injection e with e; omega)]; exact c0); have d1 : w7.cell? ⟨w5.heap.size, 1, none⟩ = some (.slice ac fl cc) := (by rw [← hw7, World.cell?_setCell_other _ _ _ _ (by intro e; injection e with e; omega)]; exact c1); have h2g : w2.heap.size ≤ gi := Nat.le_trans hb3.size hgB; have hb7 : Below w2.heap.size w2 w7 := (by rw [← hw7]; exact Below.setCell (p := ⟨gi, j * 3 + 2, none⟩) (hb5.trans (b6.mono hb5.size)) h2g _); obtain ⟨s0, s1, g0, g1⟩ := HRs.out w7 hb7; have Hb7 := hid_ hb7; clear b6 hb7))
      obtain ⟨t0, t1⟩ := two_stored (x := .slice (some ⟨gi, 0, none⟩) n1 cg) (y := .slice ac fl cc) s0 s1
      refine bodyPost_ret (v := .tuple #[.agg #[.slice (some ⟨gi, 0, none⟩) n1 cg, .slice ac fl cc], .int .i64 0]) ?_ rfl ⟨_, _, xs', fs, rfl, ?_, ?_⟩
      · simp [results, Try.results31, go_sem, t0, t1]
      · exact ((HN7.out.base hb3.size).res (by have := Z2.out; omega) _ _).base (by have := Z2.out; omega)
      · have hf := Hb2.out.trans (Hb7.out.mono Hb2.out.size)
        exact (hf.setCell (p := ⟨w.heap.size + 1, 0, none⟩) (by show _ ≤ _ + 1; omega) _).setCell (p := ⟨w.heap.size + 1, 1, none⟩) (by show _ ≤ _ + 1; omega) _
    · rw [decide_eq_false hin] at HBt
      have HE' : Hid (E = 1) := hid_ (HE.out.trans (if_neg hin))
      have HD' : Hid (D = ⟨[], []⟩) := hid_ (HD.out.trans (if_neg (by rw [HE'.out]; decide)))
      rw [HD'.out, HE'.out]
      clear z2 hin
      go_enter Try.func31, Try.ntmps31
      go_wp2_with (first
        | (go_at_call 63; (with_reducible refine HV.out.mono ?_); rintro e w3 ⟨rfl, hb3'⟩; have hb3 := below_then8 Hba.out hb3'; obtain ⟨q3, p3⟩ := HQ.out w3 hb3; have k23 := cell_below k2 hb3; obtain ⟨s0, s1, g0, g1⟩ := HRs.out w3 hb3)
        | (go_at_call 64; (with_reducible refine (HBt.out _).mono ?_); rintro e w4 ⟨rfl, rfl⟩))
      obtain ⟨t0, t1⟩ := two_stored (x := .slice none 0 0) (y := .slice none 0 0) s0 s1
      refine bodyPost_ret (v := .tuple #[.agg #[.slice none 0 0, .slice none 0 0], .int .i64 1]) ?_ rfl ⟨_, _, [], [], rfl, NewI.nil0 _ _ _ _ _ (by decide) (by decide) (by decide), ?_⟩
      · simp [results, Try.results31, go_sem, t0, t1]
      · have hf := Hb2.out.trans (hb3.mono Hb2.out.size)
        exact (hf.setCell (p := ⟨w.heap.size + 1, 0, none⟩) (by show _ ≤ _ + 1; omega) _).setCell (p := ⟨w.heap.size + 1, 1, none⟩) (by show _ ≤ _ + 1; omega) _
  · have hq : (viE L [i] != 0) = true := by simpa using he
    have HE' : Hid (E = viE L [i]) := hid_ (HE.out.trans (if_neg he))
    have HD' : Hid (D = ⟨[], []⟩) := hid_ (HD.out.trans (if_neg (by rw [HE'.out]; exact he)))
    rw [HD'.out, HE'.out]
    generalize viE L [i] = x at *
    clear he HI2 h1 h2 HP HP1 ba cb b2 z2
    go_enter Try.func31, Try.ntmps31
    go_wp2_with (go_at_call 63; (with_reducible refine HV.out.mono ?_); rintro e w3 ⟨rfl, hb3'⟩; have hb3 := below_then8 Hba.out hb3'; obtain ⟨s0, s1, g0, g1⟩ := HRs.out w3 hb3)
    obtain ⟨t0, t1⟩ := two_stored (x := .slice none 0 0) (y := .slice none 0 0) s0 s1
    refine bodyPost_ret (v := .tuple #[.agg #[.slice none 0 0, .slice none 0 0], .int .i64 x]) ?_ rfl ⟨_, _, [], [], rfl, NewI.nil0 _ _ _ _ _ (by decide) (by decide) (by decide), ?_⟩
    · simp [results, Try.results31, go_sem, t0, t1]
    · have hf := Hb2.out.trans (hb3.mono Hb2.out.size)
      exact (hf.setCell (p := ⟨w.heap.size + 1, 0, none⟩) (by show _ ≤ _ + 1; omega) _).setCell (p := ⟨w.heap.size + 1, 1, none⟩) (by show _ ≤ _ + 1; omega) _
set_option maxRecDepth 100000 in
set_option maxHeartbeats 4000000 in
theorem r8item_calls (v : Value) (L : Lx) (i : Int) (w : World) (h : LexAt w v L) :
    Calls Try.prog 65 #[v, .int .i64 i] w fun e w' => e = .returned (.int .i64 (viE L [i])) ∧ Below w.heap.size w w' := by
  have HP := hid_ h
  obtain ⟨a1, n1, c1, a2, n2, c2, rfl, h1, h2⟩ := h
  obtain ⟨w1, hw1⟩ : ∃ w1, w.alloc (.cells #[.slice a1 n1 c1, .slice a2 n2 c2] 25) = w1 := ⟨_, rfl⟩
  have cb : Below w.heap.size w w1 := by rw [← hw1]; exact below_alloc _ _
  have q0 : w1.cell? ⟨w.heap.size, 0, none⟩ = some (.slice a1 n1 c1) := by rw [← hw1]; exact cells_alloc _ _ _ 0
  have q1 : w1.cell? ⟨w.heap.size, 1, none⟩ = some (.slice a2 n2 c2) := by rw [← hw1]; exact cells_alloc _ _ _ 1
  have HP1 := hid_ (HP.out.below cb (Nat.le_refl _)); have Hc1 := hid_ cb
  have HV := hid_ (r8Validate_calls _ L w1 HP1.out)
  have HQ := hid_ (fun W (hW : Below w1.heap.size w1 W) => (⟨cell_below q0 hW, cell_below q1 hW⟩ : _ ∧ _))
  have HE : Hid (viE L [i] = if validL L = 0 then (if itemsB L [i] = true then 0 else 4) else validL L) := hid_ rfl
  have hl1 := h1.len
  have hn : n1 ≤ 9223372036854775807 := Nat.le_trans h1.le h1.small
  have HB : Hid (itemsB L [i] = Within i 0 ((n1 : Int) - 1)) := hid_ (by simp [itemsB, areB, hl1])
  clear h1 h2 HP HP1 cb
  generalize viE L [i] = E at *
  by_cases he : validL L = 0
  · rw [he, if_pos rfl, HB.out] at HE
    rw [he] at HV
    have hwl : IntKind.i64.wrap ((n1 : Int) - 1) = (n1 : Int) - 1 := IntWalk.i64_in _ (by omega)
    have HW := hid_ (fun W => within8_calls i 0 ((n1 : Int) - 1) W)
    clear he hl1
    cases hi : Within i 0 ((n1 : Int) - 1) with
    | true =>
      rw [hi, if_pos rfl] at HE
      rw [hi] at HW
      clear hi
      rw [HE.out]
      go_enter Try.func65, Try.ntmps65
      go_wp2_with (first
        | (go_at_call 61; (with_reducible refine HV.out.mono ?_); rintro e w2 ⟨rfl, hb2⟩; obtain ⟨q2, r2⟩ := HQ.out w2 hb2)
        | (go_at_call 56; (with_reducible refine (HW.out _).mono ?_); rintro e w3 ⟨rfl, rfl⟩))
      go_ret
      exact ⟨rfl, Hc1.out.trans (hb2.mono Hc1.out.size)⟩
    | false =>
      rw [hi, if_neg (by decide)] at HE
      rw [hi] at HW
      clear hi
      rw [HE.out]
      go_enter Try.func65, Try.ntmps65
      go_wp2_with (first
        | (go_at_call 61; (with_reducible refine HV.out.mono ?_); rintro e w2 ⟨rfl, hb2⟩; obtain ⟨q2, r2⟩ := HQ.out w2 hb2)
        | (go_at_call 56; (with_reducible refine (HW.out _).mono ?_); rintro e w3 ⟨rfl, rfl⟩))
      go_ret
      exact ⟨rfl, Hc1.out.trans (hb2.mono Hc1.out.size)⟩
  · have hq : (validL L != 0) = true := by simpa using he
    rw [if_neg he] at HE
    rw [HE.out]
    generalize validL L = x at *
    clear he
    go_enter Try.func65, Try.ntmps65
    go_wp2_with (go_at_call 61; (with_reducible refine HV.out.mono ?_); rintro e w2 ⟨rfl, hb2⟩)
    go_ret
    exact ⟨rfl, Hc1.out.trans (hb2.mono Hc1.out.size)⟩
theorem GoodL.copy {L : Lx} (g : GoodL L) : L.items.length ≤ 1000 ∧ (∀ j, j < L.items.length → (L.items.getD j I0).word.length ≤ 1000) ∧ L.follow.length ≤ 1000 ∧ (∀ k, k < L.follow.length → (L.follow.getD k []).length ≤ 1000) :=
  ⟨by have := g.le; omega, fun j hj => by have := (g.word j hj).2.1; omega, by have := g.rows; omega, fun k hk => by have := (g.row k (by have := g.rows; omega)).1; omega⟩
set_option maxRecDepth 100000 in
set_option maxHeartbeats 4000000 in
theorem r8Dearer_calls (v : Value) (L : Lx) (i b : Int) (w : World) (h : LexAt w v L) :
    Calls Try.prog 32 #[v, .int .i64 i, .int .i64 b] w fun e w' => ∃ iv fv xs fs, e = .returned (.tuple #[.agg #[iv, fv], .int .i64 (drE L i b)]) ∧ NewL w' w.heap.size iv fv xs fs (drL L i b) ∧ Below w.heap.size w w' := by
  have HP := hid_ h
  obtain ⟨a1, n1, c1, a2, n2, c2, rfl, h1, h2⟩ := h
  obtain ⟨w1, hw1⟩ : ∃ w1, w.alloc (.cells #[.slice a1 n1 c1, .slice a2 n2 c2] 25) = w1 := ⟨_, rfl⟩
  have cb : Below w.heap.size w w1 := by rw [← hw1]; exact below_alloc _ _
  have q0 : w1.cell? ⟨w.heap.size, 0, none⟩ = some (.slice a1 n1 c1) := by rw [← hw1]; exact cells_alloc _ _ _ 0
  have q1 : w1.cell? ⟨w.heap.size, 1, none⟩ = some (.slice a2 n2 c2) := by rw [← hw1]; exact cells_alloc _ _ _ 1
  have HP1 := hid_ (HP.out.below cb (Nat.le_refl _)); have Hc1 := hid_ cb
  obtain ⟨w2, hw2⟩ : ∃ w2, w1.alloc (.cells #[.slice none 0 0, .slice none 0 0] 25) = w2 := ⟨_, rfl⟩
  have z1 : w1.heap.size = w.heap.size + 1 := by rw [← hw1]; simp
  have z2 : w2.heap.size = w.heap.size + 2 := by rw [← hw2]; simp [z1]
  have b2 : Below w1.heap.size w1 w2 := by rw [← hw2]; exact below_alloc _ _
  have r0 : w2.cell? ⟨w.heap.size + 1, 0, none⟩ = some (.slice none 0 0) := by rw [← z1, ← hw2]; exact cells_alloc _ _ _ 0
  have r1 : w2.cell? ⟨w.heap.size + 1, 1, none⟩ = some (.slice none 0 0) := by rw [← z1, ← hw2]; exact cells_alloc _ _ _ 1
  have f0 : ∀ j, w2.frozen? ⟨w.heap.size + 1, j, none⟩ = false := fun j => by rw [← z1, ← hw2]; exact World.frozen?_alloc_at _ _ _ _ (by simp)
  have q02 := cell_below q0 b2; have q12 := cell_below q1 b2
  have Hb2 : Hid (Below w.heap.size w w2) := hid_ (Hc1.out.trans (b2.mono Hc1.out.size))
  have HP2 := hid_ (HP.out.below Hb2.out (Nat.le_refl _))
  have HRs := hid_ (fun W (hW : Below w2.heap.size w2 W) => (⟨(hW.cell (p := ⟨w.heap.size + 1, 0, none⟩) (by show w.heap.size + 1 < w2.heap.size; omega)).trans r0, (hW.cell (p := ⟨w.heap.size + 1, 1, none⟩) (by show w.heap.size + 1 < w2.heap.size; omega)).trans r1, (hW.frozen (p := ⟨w.heap.size + 1, 0, none⟩) (by show w.heap.size + 1 < w2.heap.size; omega)).trans (f0 0), (hW.frozen (p := ⟨w.heap.size + 1, 1, none⟩) (by show w.heap.size + 1 < w2.heap.size; omega)).trans (f0 1)⟩ : W.cell? ⟨w.heap.size + 1, 0, none⟩ = some (.slice none 0 0) ∧ W.cell? ⟨w.heap.size + 1, 1, none⟩ = some (.slice none 0 0) ∧ W.frozen? ⟨w.heap.size + 1, 0, none⟩ = false ∧ W.frozen? ⟨w.heap.size + 1, 1, none⟩ = false))
  have HQ := hid_ (fun W (hW : Below w2.heap.size w2 W) => (⟨cell_below q02 hW, cell_below q12 hW⟩ : _ ∧ _))
  have Z2 := hid_ z2
  have HV := hid_ (r8item_calls _ L i w2 HP2.out)
  have HE : Hid (drE L i b = if viE L [i] = 0 then (if 0 ≤ costI L i + b ∧ costI L i + b ≤ 99 then 0 else 1) else viE L [i]) := hid_ rfl
  have HD : Hid (drL L i b = if drE L i b = 0 then setCost L i.toNat (costI L i + b) else ⟨[], []⟩) := hid_ rfl
  have HI2 := hid_ (h1.below Hb2.out (Nat.le_refl _))
  have hl1 := h1.len
  generalize drL L i b = D at *
  generalize drE L i b = E at *
  by_cases he : viE L [i] = 0
  · obtain ⟨hv, hi⟩ := viE_ok he
    have g := validL_ok hv
    obtain ⟨j, rfl, hj⟩ := one_item hi
    have hc : costI L (j : Int) = (L.items.getD j I0).cost := by unfold costI; rw [Int.toNat_natCast]
    rw [if_pos he] at HE
    rw [he] at HV
    obtain ⟨hc0, hc1⟩ := g.cost j hj
    obtain ⟨bi, oi, ai, ni, ci, rfl, -, k0, k1, k2, -⟩ := HI2.out.cells j (by omega)
    have HCp := hid_ (fun W (hW : Below w2.heap.size w2 W) => r8Copy_calls _ L W (HP2.out.below hW (Nat.le_refl _)) g.copy.1 g.copy.2.1 g.copy.2.2.1 g.copy.2.2.2)
    rw [hc, Int.toNat_natCast] at HD
    rw [hc] at HE
    obtain ⟨old, hold⟩ : ∃ old, (L.items.getD j I0).cost = old := ⟨_, rfl⟩
    rw [hold] at hc0 hc1 k2 HD HE
    have Hold := hid_ hold
    have HBt := hid_ (fun W => within8_calls b (-99) 99 W)
    have HBt2 := hid_ (fun W => within8_calls (old + b) 0 99 W)
    rw [hl1] at hj
    have Hl1 := hid_ hl1
    clear HI2 h1 h2 HP HP1 g hv hi he hold hc cb b2
    by_cases hin : 0 ≤ old + b ∧ old + b ≤ 99
    · have e1 : Within b (-99) 99 = true := by simp only [Within, Bool.and_eq_true, decide_eq_true_eq]; omega
      have e2 : Within (old + b) 0 99 = true := by simp only [Within, Bool.and_eq_true, decide_eq_true_eq]; omega
      rw [e1] at HBt
      rw [e2] at HBt2
      have HE' : Hid (E = 0) := hid_ (HE.out.trans (if_pos hin))
      have HD' : Hid (D = setCost L j (old + b)) := hid_ (HD.out.trans (if_pos HE'.out))
      have hwa : IntKind.i64.wrap (old + b) = old + b := IntWalk.i64_in _ (by omega)
      rw [HD'.out, HE'.out]
      clear z2 e1 e2
      go_enter Try.func32, Try.ntmps32
      go_wp2_with (first
        | (go_at_call 65; (with_reducible refine HV.out.mono ?_); rintro e w3 ⟨rfl, hb3⟩; obtain ⟨q3, p3⟩ := HQ.out w3 hb3; have k23 := cell_below k2 hb3)
        | (go_at_call 56; (with_reducible refine (HBt.out _).mono ?_); rintro e w4 ⟨rfl, rfl⟩)
        | (go_at_call 56; (with_reducible refine (HBt2.out _).mono ?_); rintro e w4 ⟨rfl, rfl⟩)
        | (go_at_call 25; (with_reducible refine (HCp.out _ hb3).mono ?_); rintro e w5 ⟨iv, fv, xs, fs, rfl, hN, hb5'⟩; have hb5 := below_then8 hb3 hb5'; obtain ⟨gi, cg, rfl, hgB, hgl⟩ := hN.form (by rw [Hl1.out]; omega); obtain ⟨ac, cc, rfl, -⟩ := hN.listsAt; simp only [Hl1.out] at hN ⊢; have Hhn := hid_ hN; clear hN; obtain ⟨fl, hfl⟩ : ∃ fl, L.follow.length = fl := ⟨_, rfl⟩; rw [hfl] at Hhn ⊢; obtain ⟨w6, hw6⟩ : ∃ w6, w5.alloc (.cells #[.slice (some ⟨gi, 0, none⟩) n1 cg, .slice ac fl cc] 25) = w6 := ⟨_, rfl⟩; have b6 : Below w5.heap.size w5 w6 := (by rw [← hw6]; exact below_alloc _ _); have HN6 := hid_ (Hhn.out.below b6 (Nat.le_refl _)); obtain ⟨y0, yf, -, -⟩ := HN6.out.costAt Hl1.out.symm hj; rw [Hold.out] at y0; have c0 : w6.cell? ⟨w5.heap.size, 0, none⟩ = some (.slice (some ⟨gi, 0, none⟩) n1 cg) := (by rw [← hw6]; exact cells_alloc _ _ _ 0); have c1 : w6.cell? ⟨w5.heap.size, 1, none⟩ = some (.slice ac fl cc) := (by rw [← hw6]; exact cells_alloc _ _ _ 1); obtain ⟨w7, hw7⟩ : ∃ w7, w6.setCell ⟨gi, j * 3 + 2, none⟩ (.int .i64 (old + b)) = w7 := ⟨_, rfl⟩; obtain ⟨xs', hN7⟩ := HN6.out.cost Hl1.out.symm hj (old + b); rw [hw7] at hN7; have HN7 := hid_ hN7; clear hN7; have d0 : w7.cell? ⟨w5.heap.size, 0, none⟩ = some (.slice (some ⟨gi, 0, none⟩) n1 cg) := (by rw [← hw7, World.cell?_setCell_other _ _ _ _ (by intro e; injection e with e; omega)]; exact c0); have d1 : w7.cell? ⟨w5.heap.size, 1, none⟩ = some (.slice ac fl cc) := (by rw [← hw7, World.cell?_setCell_other _ _ _ _ (by intro e; injection e with e; omega)]; exact c1); have h2g : w2.heap.size ≤ gi := Nat.le_trans hb3.size hgB; have hb7 : Below w2.heap.size w2 w7 := (by rw [← hw7]; exact Below.setCell (p := ⟨gi, j * 3 + 2, none⟩) (hb5.trans (b6.mono hb5.size)) h2g _); obtain ⟨s0, s1, g0, g1⟩ := HRs.out w7 hb7; have Hb7 := hid_ hb7; clear b6 hb7))
      obtain ⟨t0, t1⟩ := two_stored (x := .slice (some ⟨gi, 0, none⟩) n1 cg) (y := .slice ac fl cc) s0 s1
      refine bodyPost_ret (v := .tuple #[.agg #[.slice (some ⟨gi, 0, none⟩) n1 cg, .slice ac fl cc], .int .i64 0]) ?_ rfl ⟨_, _, xs', fs, rfl, ?_, ?_⟩
      · simp [results, Try.results32, go_sem, t0, t1]
      · exact ((HN7.out.base hb3.size).res (by have := Z2.out; omega) _ _).base (by have := Z2.out; omega)
      · have hf := Hb2.out.trans (Hb7.out.mono Hb2.out.size)
        exact (hf.setCell (p := ⟨w.heap.size + 1, 0, none⟩) (by show _ ≤ _ + 1; omega) _).setCell (p := ⟨w.heap.size + 1, 1, none⟩) (by show _ ≤ _ + 1; omega) _
    · have HE' : Hid (E = 1) := hid_ (HE.out.trans (if_neg hin))
      have HD' : Hid (D = ⟨[], []⟩) := hid_ (HD.out.trans (if_neg (by rw [HE'.out]; decide)))
      rw [HD'.out, HE'.out]
      cases e1 : Within b (-99) 99 with
      | false =>
        rw [e1] at HBt
        clear z2 hin e1
        go_enter Try.func32, Try.ntmps32
        go_wp2_with (first
          | (go_at_call 65; (with_reducible refine HV.out.mono ?_); rintro e w3 ⟨rfl, hb3⟩; obtain ⟨q3, p3⟩ := HQ.out w3 hb3; have k23 := cell_below k2 hb3; obtain ⟨s0, s1, g0, g1⟩ := HRs.out w3 hb3)
          | (go_at_call 56; (with_reducible refine (HBt.out _).mono ?_); rintro e w4 ⟨rfl, rfl⟩))
        obtain ⟨t0, t1⟩ := two_stored (x := .slice none 0 0) (y := .slice none 0 0) s0 s1
        refine bodyPost_ret (v := .tuple #[.agg #[.slice none 0 0, .slice none 0 0], .int .i64 1]) ?_ rfl ⟨_, _, [], [], rfl, NewI.nil0 _ _ _ _ _ (by decide) (by decide) (by decide), ?_⟩
        · simp [results, Try.results32, go_sem, t0, t1]
        · have hf := Hb2.out.trans (hb3.mono Hb2.out.size)
          exact (hf.setCell (p := ⟨w.heap.size + 1, 0, none⟩) (by show _ ≤ _ + 1; omega) _).setCell (p := ⟨w.heap.size + 1, 1, none⟩) (by show _ ≤ _ + 1; omega) _
      | true =>
        have e3 : -99 ≤ b ∧ b ≤ 99 := by simpa [Within] using e1
        have e2 : Within (old + b) 0 99 = false := by
          rw [Bool.eq_false_iff]; simp only [Within, ne_eq, Bool.and_eq_true, decide_eq_true_eq]; exact hin
        have hwa : IntKind.i64.wrap (old + b) = old + b := IntWalk.i64_in _ (by omega)
        rw [e1] at HBt
        rw [e2] at HBt2
        clear z2 hin e1 e2
        go_enter Try.func32, Try.ntmps32
        go_wp2_with (first
          | (go_at_call 65; (with_reducible refine HV.out.mono ?_); rintro e w3 ⟨rfl, hb3⟩; obtain ⟨q3, p3⟩ := HQ.out w3 hb3; have k23 := cell_below k2 hb3; obtain ⟨s0, s1, g0, g1⟩ := HRs.out w3 hb3)
          | (go_at_call 56; (with_reducible refine (HBt.out _).mono ?_); rintro e w4 ⟨rfl, rfl⟩)
          | (go_at_call 56; (with_reducible refine (HBt2.out _).mono ?_); rintro e w4 ⟨rfl, rfl⟩))
        obtain ⟨t0, t1⟩ := two_stored (x := .slice none 0 0) (y := .slice none 0 0) s0 s1
        refine bodyPost_ret (v := .tuple #[.agg #[.slice none 0 0, .slice none 0 0], .int .i64 1]) ?_ rfl ⟨_, _, [], [], rfl, NewI.nil0 _ _ _ _ _ (by decide) (by decide) (by decide), ?_⟩
        · simp [results, Try.results32, go_sem, t0, t1]
        · have hf := Hb2.out.trans (hb3.mono Hb2.out.size)
          exact (hf.setCell (p := ⟨w.heap.size + 1, 0, none⟩) (by show _ ≤ _ + 1; omega) _).setCell (p := ⟨w.heap.size + 1, 1, none⟩) (by show _ ≤ _ + 1; omega) _
  · have hq : (viE L [i] != 0) = true := by simpa using he
    have HE' : Hid (E = viE L [i]) := hid_ (HE.out.trans (if_neg he))
    have HD' : Hid (D = ⟨[], []⟩) := hid_ (HD.out.trans (if_neg (by rw [HE'.out]; exact he)))
    rw [HD'.out, HE'.out]
    generalize viE L [i] = x at *
    clear he HI2 h1 h2 HP HP1 cb b2 z2
    go_enter Try.func32, Try.ntmps32
    go_wp2_with (go_at_call 65; (with_reducible refine HV.out.mono ?_); rintro e w3 ⟨rfl, hb3⟩; obtain ⟨s0, s1, g0, g1⟩ := HRs.out w3 hb3)
    obtain ⟨t0, t1⟩ := two_stored (x := .slice none 0 0) (y := .slice none 0 0) s0 s1
    refine bodyPost_ret (v := .tuple #[.agg #[.slice none 0 0, .slice none 0 0], .int .i64 x]) ?_ rfl ⟨_, _, [], [], rfl, NewI.nil0 _ _ _ _ _ (by decide) (by decide) (by decide), ?_⟩
    · simp [results, Try.results32, go_sem, t0, t1]
    · have hf := Hb2.out.trans (hb3.mono Hb2.out.size)
      exact (hf.setCell (p := ⟨w.heap.size + 1, 0, none⟩) (by show _ ≤ _ + 1; omega) _).setCell (p := ⟨w.heap.size + 1, 1, none⟩) (by show _ ≤ _ + 1; omega) _
end Go.Proofs.Ytpcpmdokgdbonaa
