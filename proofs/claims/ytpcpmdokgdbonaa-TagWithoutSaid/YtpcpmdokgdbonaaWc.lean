import Derived.Test.YtpcpmdokgdbonaaWb
import Derived.ArgAppend
namespace Go.Proofs.Kv
open Go.RowKit Go
theorem RowsIn.erase {E1 : TypeId} {w : World} {B : Nat} {us : List Value} {R : List (List Int)} (h : RowsIn E1 w B us R) (i : Nat) : RowsIn E1 w B (us.eraseIdx i) (R.eraseIdx i) := by
  have hl := h.len
  have hat : ∀ j x, (us.eraseIdx i)[j]? = some x → ∃ j', us[j']? = some x ∧ j' = (if j < i then j else j + 1) := fun j x hx => by
    rw [List.getElem?_eraseIdx] at hx
    split at hx
    · rename_i hlt; exact ⟨j, hx, by rw [if_pos hlt]⟩
    · rename_i hlt; exact ⟨j + 1, hx, by rw [if_neg hlt]⟩
  refine ⟨by rw [List.length_eraseIdx, List.length_eraseIdx, hl], fun j u hu => ?_, fun j k u u' b hjk hu hu' hb => ?_⟩
  · obtain ⟨j', h1, h2⟩ := hat j u hu
    have e : (R.eraseIdx i).getD j [] = R.getD j' [] := by
      simp only [List.getD, List.getElem?_eraseIdx, h2]
      split <;> rfl
    rw [e]; exact h.row j' u h1
  · obtain ⟨j', h1, h2⟩ := hat j u hu
    obtain ⟨k', h3, h4⟩ := hat k u' hu'
    refine h.apart j' k' u u' b ?_ h1 h3 hb
    subst h2; subst h4
    split <;> split <;> omega
theorem own_cap {w : World} {B E size g m c n : Nat} {xs : List Value} (h : w.ownsRow B E size (.slice (some ⟨g, 0, none⟩) m c) n xs) : n ≤ c := by
  rcases h.2 with ⟨h9, _⟩ | ⟨g', cap, cur, e9, _, _, hle, _⟩
  · cases h9
  · injection e9 with e1 e2 e3; omega
/-- one item taken out -/
theorem NewI.erase {EI EL E1 : TypeId} {w w' : World} {B g n c i : Nat} {fv : Value} {xs : List Ic} {fs : List Value} {L : Lx} (h : NewI EI EL E1 w B (.slice (some ⟨g, 0, none⟩) n c) fv xs fs L) (hn : n = L.items.length) (hi : i < n)
    (hi' : w'.ownsRow B EI 3 (.slice (some ⟨g, 0, none⟩) (n - 1) c) (n - 1) ((xs.take i ++ xs.drop (i + 1)).flatMap encI)) (hg : w.grownBy w' (some g)) :
    NewI EI EL E1 w' B (.slice (some ⟨g, 0, none⟩) (n - 1) c) fv (xs.eraseIdx i) fs ⟨L.items.eraseIdx i, L.follow⟩ := by
  subst hn
  have hl := h.len
  have hg' : w.grownBy w' (Value.slice (some ⟨g, 0, none⟩) L.items.length c).ownBlock := hg
  have hR := (h.rows.other h.items h.ne1 hg').erase i
  have hle : (L.items.eraseIdx i).length = L.items.length - 1 := List.length_eraseIdx_of_lt hi
  refine ⟨h.ne1, h.ne2, h.ne3, ?_, by show (xs.eraseIdx i).length = (L.items.eraseIdx i).length; rw [List.length_eraseIdx_of_lt (by omega), hle, hl], fun j x hx => ?_, own_kept_ne h.fol hg' (fun b hb => own_apart h.fol h.items (Ne.symm h.ne3) b hb), ?_⟩
  · show w'.ownsRow B EI 3 _ (L.items.eraseIdx i).length _
    rw [hle, List.eraseIdx_eq_take_drop_succ]; exact hi'
  · rw [List.getElem?_eraseIdx] at hx
    show x.2 = (((L.items.eraseIdx i).getD j I0).kind, ((L.items.eraseIdx i).getD j I0).cost)
    simp only [List.getD, List.getElem?_eraseIdx]
    split at hx
    · rename_i hlt; rw [if_pos hlt]; exact h.kc j x hx
    · rename_i hlt; rw [if_neg hlt]; exact h.kc (j + 1) x hx
  · rw [List.eraseIdx_append_of_lt_length (by simp [hl]; omega), List.eraseIdx_append_of_lt_length (by simpa using hi)] at hR
    have em : ∀ {α β : Type} (f : α → β) (l : List α), (l.map f).eraseIdx i = (l.eraseIdx i).map f := fun f l => by
      simp [List.eraseIdx_eq_take_drop_succ, List.map_take, List.map_drop]
    rw [em, em] at hR
    exact hR
/-- append onto a slice without room -/
theorem step_append_full {P : Program} {ops : Array Oper} {o : Oper} {a : Act} {w : World} {K : Act → World → Prop} {Q : Exit → Act → World → Prop} {E0 : Prop} (hgd : o.guard = none) (s x : Operand) (t : TypeId)
    (ho : o.op = .call { callee := .builtin .append, args := #[s, x], argTypes := #[t, t] }) (e : TypeId) (i : TypeInfo) {z : Value} (size by_ : Nat) (ht : P.underlying t = some (.slice e)) (hi : P.info? e = some i) (hz : i.zero = some z) (hzc : z.cells.size = size) (hsize : i.size = size) (hs0 : 0 < size) (hby : i.bytes = by_) (hb0 : by_ ≤ 48)
    (b off n : Nat) (olds : List Value) (hs : a.eval s = .slice (some ⟨b, off, none⟩) n n) (hlo : olds.length = n * size) (holds : ∀ j u, olds[j]? = some u → w.cell? ((⟨b, off, none⟩ : Addr).add j) = some u)
    (A : Addr) (m c : Nat) (news : List Value) (hx : a.eval x = .slice (some A) m c) (hl : news.length = m * size) (hc : ∀ j u, news[j]? = some u → w.cell? (A.add j) = some u) (hsm : n + m ≤ 1000000)
    (hK : ∀ b' off' c' w', n + m ≤ c' → c' ≤ 9223372036854775807 → (∀ j u, (olds ++ news)[j]? = some u → w'.cell? ((⟨b', off', none⟩ : Addr).add j) = some u) → w.grownBy w' none → K (a.put o.dst (.slice (some ⟨b', off', none⟩) (n + m) c')) w') :
    if Region.wanted o (yielded ops a.tmps) = true then Oper.wp P o a w K Q else E0 := by
  have hm : (n + m) * by_ ≤ 1000000 * 48 := Nat.mul_le_mul hsm hb0
  have hw : Region.wanted o (yielded ops a.tmps) = true := by simp [Region.wanted, hgd]
  rw [if_pos hw]
  by_cases h0 : m = 0
  · subst h0
    have hnl : news = [] := List.length_eq_zero_iff.1 (by omega)
    subst hnl
    have hrun := run_append_room_cells (P := P) w t o.type e i ht hi b off n n A 0 c [] (by simp) (by simp) (by simp) (by omega) (by simp) (by simp)
    unfold Oper.wp
    simp [execOp, ho, resolve, invoke, builtin, hs, hx, hrun, Result.andThen, World.setCells]
    exact hK b off n w (by omega) (by omega) (by simpa using holds) ⟨rfl, rfl, rfl, Nat.le_refl _, fun _ _ _ => rfl⟩
  · obtain ⟨v', w', hrun, h2, h3⟩ := run_append_arg_grows (P := P) w t o.type e i z size by_ ht hi hz hsize hby hzc hs0 ⟨b, off, none⟩ n n olds hlo holds A m c news hl hc (by omega) (by unfold maxLen; omega) (by omega)
    have h2' := h2
    rcases h2.2 with ⟨_, h9⟩ | ⟨g, cap, cur, rfl, _, _, hle, hmx, _⟩
    · omega
    · unfold Oper.wp
      simp [execOp, ho, resolve, invoke, builtin, hs, hx, hrun, Result.andThen]
      exact hK g 0 cap w' hle (by unfold maxLen at hmx; omega) (fun j u hu => h2'.cells (g := g) rfl j u hu) h3
end Go.Proofs.Kv
namespace Go.Proofs.Ytpcpmdokgdbonaa
open Go.RowKit Go.Proofs.Kv Go

/-! ### Without -/
def wiE (L : Lx) (i : Int) : Int := if viE L [i] = 0 then (if L.items.length = 1 then 1 else 0) else viE L [i]
def wiL (L : Lx) (i : Int) : Lx := if wiE L i = 0 then ⟨L.items.eraseIdx i.toNat, L.follow⟩ else ⟨[], []⟩
theorem nil_lex (w : World) : LexAt w (.agg #[.slice none 0 0, .slice none 0 0]) ⟨[], []⟩ := ⟨none, 0, 0, none, 0, 0, rfl, ItemsAt.nil _ _ _ (by omega), ListsAt.nil _ _ _ (by omega)⟩
set_option maxRecDepth 100000 in
set_option maxHeartbeats 4000000 in
theorem taWithout_calls (v : Value) (L : Lx) (i : Int) (w : World) (h : LexAt w v L) :
    Calls Try.prog 33 #[v, .int .i64 i] w fun e w' => ∃ a n c a' n' c', e = .returned (.tuple #[.agg #[.slice a n c, .slice a' n' c'], .int .i64 (wiE L i)]) ∧ LexAt w' (.agg #[.slice a n c, .slice a' n' c']) (wiL L i) ∧ Below w.heap.size w w' := by
  have HP := hid_ h
  obtain ⟨a1, n1, c1, a2, n2, c2, rfl, h1, h2⟩ := h
  obtain ⟨w1, hw1⟩ : ∃ w1, w.alloc (.cells #[.slice a1 n1 c1, .slice a2 n2 c2] 25) = w1 := ⟨_, rfl⟩
  have cb : Below w.heap.size w w1 := by rw [← hw1]; exact below_alloc _ _
  have q0 : w1.cell? ⟨w.heap.size, 0, none⟩ = some (.slice a1 n1 c1) := by rw [← hw1]; exact cells_alloc _ _ _ 0
  have q1 : w1.cell? ⟨w.heap.size, 1, none⟩ = some (.slice a2 n2 c2) := by rw [← hw1]; exact cells_alloc _ _ _ 1
  have HP1 := hid_ (HP.out.below cb (Nat.le_refl _)); have Hc1 := hid_ cb
  obtain ⟨w2, hw2⟩ : ∃ w2, w1.alloc (.cells #[.slice none 0 0, .slice none 0 0] 25) = w2 := ⟨_, rfl⟩
  have z1 : w1.heap.size = w.heap.size + 1 := by rw [← hw1]; simp
  have z2 : w2.heap.size = w.heap.size + 2 := by rw [← hw2]; simp [z1]
  have b2 : Below w1.heap.size w1 w2 := by rw [← hw2]; exact below_alloc _ _
  have r0 : w2.cell? ⟨w.heap.size + 1, 0, none⟩ = some (.slice none 0 0) := by rw [← z1, ← hw2]; exact cells_alloc _ _ _ 0
  have r1 : w2.cell? ⟨w.heap.size + 1, 1, none⟩ = some (.slice none 0 0) := by rw [← z1, ← hw2]; exact cells_alloc _ _ _ 1
  have f0 : ∀ j, w2.frozen? ⟨w.heap.size + 1, j, none⟩ = false := fun j => by rw [← z1, ← hw2]; exact World.frozen?_alloc_at _ _ _ _ (by simp)
  have q02 := cell_below q0 b2; have q12 := cell_below q1 b2
  have Hb2 : Hid (Below w.heap.size w w2) := hid_ (Hc1.out.trans (b2.mono Hc1.out.size))
  have HP2 := hid_ (HP.out.below Hb2.out (Nat.le_refl _))
  have HRs := hid_ (fun W (hW : Below w2.heap.size w2 W) => (⟨(hW.cell (p := ⟨w.heap.size + 1, 0, none⟩) (by show w.heap.size + 1 < w2.heap.size; omega)).trans r0, (hW.cell (p := ⟨w.heap.size + 1, 1, none⟩) (by show w.heap.size + 1 < w2.heap.size; omega)).trans r1, (hW.frozen (p := ⟨w.heap.size + 1, 0, none⟩) (by show w.heap.size + 1 < w2.heap.size; omega)).trans (f0 0), (hW.frozen (p := ⟨w.heap.size + 1, 1, none⟩) (by show w.heap.size + 1 < w2.heap.size; omega)).trans (f0 1)⟩ : W.cell? ⟨w.heap.size + 1, 0, none⟩ = some (.slice none 0 0) ∧ W.cell? ⟨w.heap.size + 1, 1, none⟩ = some (.slice none 0 0) ∧ W.frozen? ⟨w.heap.size + 1, 0, none⟩ = false ∧ W.frozen? ⟨w.heap.size + 1, 1, none⟩ = false))
  have HQ := hid_ (fun W (hW : Below w2.heap.size w2 W) => (⟨cell_below q02 hW, cell_below q12 hW⟩ : _ ∧ _))
  have Z2 := hid_ z2
  have ba := below_alloc w2 (.cells #[.int .i64 i] 3)
  have HV := hid_ (validateItems_calls _ L _ 1 1 [i] _ (HP2.out.below ba (Nat.le_refl _)) (IntsAt.one w2 i 3))
  have Hba := hid_ ba
  have HE : Hid (wiE L i = if viE L [i] = 0 then (if L.items.length = 1 then 1 else 0) else viE L [i]) := hid_ rfl
  have HD : Hid (wiL L i = if wiE L i = 0 then ⟨L.items.eraseIdx i.toNat, L.follow⟩ else ⟨[], []⟩) := hid_ rfl
  have hl1 := h1.len
  generalize wiL L i = D at *
  generalize wiE L i = E at *
  by_cases he : viE L [i] = 0
  · obtain ⟨hv, hi⟩ := viE_ok he
    have g := validL_ok hv
    obtain ⟨j, rfl, hj⟩ := one_item hi
    rw [if_pos he, hl1] at HE
    rw [he] at HV
    rw [Int.toNat_natCast] at HD
    have HCp := hid_ (fun W (hW : Below w2.heap.size w2 W) => copied8_calls _ L W (HP2.out.below hW (Nat.le_refl _)) g)
    rw [hl1] at hj
    have hn8 : n1 ≤ 8 := by have := g.le; omega
    have Hl1 := hid_ hl1
    clear h1 h2 HP HP1 g hv hi he ba cb b2
    by_cases h1 : n1 = 1
    · have HE' : Hid (E = 1) := hid_ (HE.out.trans (if_pos h1))
      have HD' : Hid (D = ⟨[], []⟩) := hid_ (HD.out.trans (if_neg (by rw [HE'.out]; decide)))
      rw [HD'.out, HE'.out]
      have hq : ((n1 : Int) == 1) = true := by simp [h1]
      clear z2 h1 hl1
      go_enter Try.func33, Try.ntmps33
      go_wp2_with (go_at_call 63; (with_reducible refine HV.out.mono ?_); rintro e w3 ⟨rfl, hb3'⟩; have hb3 := below_then8 Hba.out hb3'; obtain ⟨q3, p3⟩ := HQ.out w3 hb3; obtain ⟨s0, s1, g0, g1⟩ := HRs.out w3 hb3)
      obtain ⟨t0, t1⟩ := two_stored (x := .slice none 0 0) (y := .slice none 0 0) s0 s1
      refine bodyPost_ret (v := .tuple #[.agg #[.slice none 0 0, .slice none 0 0], .int .i64 1]) ?_ rfl ⟨_, _, _, _, _, _, rfl, nil_lex _, ?_⟩
      · simp [results, Try.results33, go_sem, t0, t1]
      · have hf := Hb2.out.trans (hb3.mono Hb2.out.size)
        exact (hf.setCell (p := ⟨w.heap.size + 1, 0, none⟩) (by show _ ≤ _ + 1; omega) _).setCell (p := ⟨w.heap.size + 1, 1, none⟩) (by show _ ≤ _ + 1; omega) _
    · have HE' : Hid (E = 0) := hid_ (HE.out.trans (if_neg h1))
      have HD' : Hid (D = ⟨L.items.eraseIdx j, L.follow⟩) := hid_ (HD.out.trans (if_pos HE'.out))
      rw [HD'.out, HE'.out]
      have hq : ((n1 : Int) == 1) = false := by simpa using (fun e : (n1 : Int) = 1 => h1 (by omega))
      obtain ⟨j1, hj1⟩ : ∃ j1, j1 = j + 1 := ⟨_, rfl⟩
      have hwj : IntKind.i64.wrap ((j : Int) + 1) = (j1 : Int) := by rw [IntKind.wrap_i64]; omega
      have Hj1 := hid_ hj1
      clear z2 h1 hl1 hj1
      go_enter Try.func33, Try.ntmps33
      go_wp2_with (first
        | (go_at_call 63; (with_reducible refine HV.out.mono ?_); rintro e w3 ⟨rfl, hb3'⟩; have hb3 := below_then8 Hba.out hb3'; obtain ⟨q3, p3⟩ := HQ.out w3 hb3)
        | (go_at_call 59; (with_reducible refine (HCp.out _ hb3).mono ?_); rintro e w5 ⟨iv, fv, xs, fs, rfl, hN, hb5'⟩; have hb5 := below_then8 hb3 hb5'; obtain ⟨gi, cg, rfl, hgB, hgl⟩ := hN.form (by rw [Hl1.out]; omega); obtain ⟨ac, cc, rfl, -⟩ := hN.listsAt; simp only [Hl1.out] at hN ⊢; have Hhn := hid_ hN; clear hN; obtain ⟨fl, hfl⟩ : ∃ fl, L.follow.length = fl := ⟨_, rfl⟩; rw [hfl] at Hhn ⊢; obtain ⟨w6, hw6⟩ : ∃ w6, w5.alloc (.cells #[.slice (some ⟨gi, 0, none⟩) n1 cg, .slice ac fl cc] 25) = w6 := ⟨_, rfl⟩; have b6 : Below w5.heap.size w5 w6 := (by rw [← hw6]; exact below_alloc _ _); have HN6 := hid_ (Hhn.out.below b6 (Nat.le_refl _)); have HOc := hid_ (show w6.ownsRow w5.heap.size 25 2 (.slice (some ⟨w5.heap.size, 0, none⟩) 1 1) 1 [.slice (some ⟨gi, 0, none⟩) n1 cg, .slice ac fl cc] by rw [← hw6]; exact World.ownsRow_lit (base := w5.heap.size) (e := 25) (size := 2) w5 #[.slice (some ⟨gi, 0, none⟩) n1 cg, .slice ac fl cc] 1 (Nat.le_refl _) (by unfold maxLen; omega) rfl); have e60 : w6.cell? ⟨w5.heap.size, 0, none⟩ = some (.slice (some ⟨gi, 0, none⟩) n1 cg) := HOc.out.cellAt 0 (by omega); have Hb6 := hid_ (hb5.trans (b6.mono hb5.size)); have H3 := hid_ hb3.size; have hit := HN6.out.items; simp only [Hl1.out] at hit; have hone : ∀ u ∈ List.flatMap encI xs, u.oneCell' = true := encI_one xs (fun k x hx => by have h9 := HN6.out.len; have hk : k < L.items.length := (by rw [← h9]; exact (List.getElem?_eq_some_iff.1 hx).1); obtain ⟨y, hy, ho⟩ := HN6.out.word hk; rw [hx] at hy; injection hy with hy; subst hy; obtain ⟨a9, c9, e9, -⟩ := IntsAt.own ho; exact ⟨a9, _, c9, e9⟩); have hncg : n1 ≤ cg := own_cap hit; have HDl := hid_ (deleteItem_calls hit hone Hj1.out hj hncg); clear b6 hit hone)
        | (go_at_call 66; (with_reducible refine HDl.out.mono ?_); rintro e w7 ⟨rfl, hd7, hg7⟩; have hN7 := HN6.out.erase Hl1.out.symm hj hd7 hg7; have hgne : w5.heap.size ≠ gi := (by omega); have oc7 := own_kept_ne HOc.out hg7 (fun b hb => by injection hb with hb; subst hb; intro e; injection e with e; exact hgne e.symm); have c70 : w7.cell? ⟨w5.heap.size, 0, none⟩ = some (.slice (some ⟨gi, 0, none⟩) n1 cg) := oc7.cellAt 0 (by omega); have f70 : w7.frozen? ⟨w5.heap.size, 0, none⟩ = false := oc7.frozenAt 0; obtain ⟨w8, hw8⟩ : ∃ w8, w7.setCell ⟨w5.heap.size, 0, none⟩ (.slice (some ⟨gi, 0, none⟩) (n1 - 1) cg) = w8 := ⟨_, rfl⟩; have st8 := oc7.stored 0 (.slice (some ⟨gi, 0, none⟩) (n1 - 1) cg); rw [hw8] at st8; have d80 : w8.cell? ⟨w5.heap.size, 0, none⟩ = some (.slice (some ⟨gi, 0, none⟩) (n1 - 1) cg) := st8.1.cellAt 0 (by omega); have d81 : w8.cell? ⟨w5.heap.size, 1, none⟩ = some (.slice ac fl cc) := st8.1.cellAt 1 (by omega); have HN8 := hid_ (hN7.other oc7 (by decide) (by decide) (by decide) st8.2); have h2g : w2.heap.size ≤ gi := Nat.le_trans H3.out hgB; have hb7 : Below w2.heap.size w2 w7 := Hb6.out.grown hg7 Hb6.out.size (fun q e => by injection e with e; omega); have hb8 : Below w2.heap.size w2 w8 := (by rw [← hw8]; exact Below.setCell (p := ⟨w5.heap.size, 0, none⟩) hb7 hb5.size _); obtain ⟨s0, s1, g0, g1⟩ := HRs.out w8 hb8; have Hb8 := hid_ hb8; clear hN7 oc7 hd7 hg7 st8 hb7 hb8))
      obtain ⟨t0, t1⟩ := two_stored (x := .slice (some ⟨gi, 0, none⟩) (n1 - 1) cg) (y := .slice ac fl cc) s0 s1
      refine bodyPost_ret (v := .tuple #[.agg #[.slice (some ⟨gi, 0, none⟩) (n1 - 1) cg, .slice ac fl cc], .int .i64 0]) ?_ rfl ⟨_, _, _, _, _, _, rfl, ?_, ?_⟩
      · simp [results, Try.results33, go_sem, t0, t1]
      · exact ((HN8.out.base H3.out).res (by have := Z2.out; omega) _ _).lex
      · have hf := Hb2.out.trans (Hb8.out.mono Hb2.out.size)
        exact (hf.setCell (p := ⟨w.heap.size + 1, 0, none⟩) (by show _ ≤ _ + 1; omega) _).setCell (p := ⟨w.heap.size + 1, 1, none⟩) (by show _ ≤ _ + 1; omega) _
  · have hq : (viE L [i] != 0) = true := by simpa using he
    have HE' : Hid (E = viE L [i]) := hid_ (HE.out.trans (if_neg he))
    have HD' : Hid (D = ⟨[], []⟩) := hid_ (HD.out.trans (if_neg (by rw [HE'.out]; exact he)))
    rw [HD'.out, HE'.out]
    generalize viE L [i] = x at *
    clear he h1 h2 HP HP1 ba cb b2 z2
    go_enter Try.func33, Try.ntmps33
    go_wp2_with (go_at_call 63; (with_reducible refine HV.out.mono ?_); rintro e w3 ⟨rfl, hb3'⟩; have hb3 := below_then8 Hba.out hb3'; obtain ⟨s0, s1, g0, g1⟩ := HRs.out w3 hb3)
    obtain ⟨t0, t1⟩ := two_stored (x := .slice none 0 0) (y := .slice none 0 0) s0 s1
    refine bodyPost_ret (v := .tuple #[.agg #[.slice none 0 0, .slice none 0 0], .int .i64 x]) ?_ rfl ⟨_, _, _, _, _, _, rfl, nil_lex _, ?_⟩
    · simp [results, Try.results33, go_sem, t0, t1]
    · have hf := Hb2.out.trans (hb3.mono Hb2.out.size)
      exact (hf.setCell (p := ⟨w.heap.size + 1, 0, none⟩) (by show _ ≤ _ + 1; omega) _).setCell (p := ⟨w.heap.size + 1, 1, none⟩) (by show _ ≤ _ + 1; omega) _
end Go.Proofs.Ytpcpmdokgdbonaa
