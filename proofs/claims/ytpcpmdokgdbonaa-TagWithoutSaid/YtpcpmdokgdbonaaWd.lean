import Derived.Test.YtpcpmdokgdbonaaWc
namespace Go.Proofs.Kv
open Go.RowKit Go
theorem NewI.lexErase {EI EL E1 : TypeId} {w : World} {B j b off c m : Nat} {iv fv : Value} {xs : List Ic} {fs : List Value} {L : Lx} (h : NewI EI EL E1 w B iv fv xs fs L) (hj : j < L.items.length)
    (hc : ∀ t u, ((xs.take j ++ xs.drop (j + 1)).flatMap encI)[t]? = some u → w.cell? ((⟨b, off, none⟩ : Addr).add t) = some u) (hm : m = L.items.length - 1) (hle : m ≤ c) (hcs : c ≤ 9223372036854775807) :
    LexAt w (.agg #[.slice (some ⟨b, off, none⟩) m c, fv]) ⟨L.items.eraseIdx j, L.follow⟩ := by
  obtain ⟨a', c', rfl, h2⟩ := h.listsAt
  have hl := h.len
  refine ⟨_, m, c, a', _, c', rfl, ⟨by show (L.items.eraseIdx j).length = m; rw [List.length_eraseIdx_of_lt hj, hm], hle, hcs, fun i hi => ?_⟩, h2⟩
  rw [← List.eraseIdx_eq_take_drop_succ] at hc
  obtain ⟨i', hi', he⟩ : ∃ i', i' < L.items.length ∧ i' = (if i < j then i else i + 1) := ⟨_, by split <;> omega, rfl⟩
  obtain ⟨x, hx, ho⟩ := h.word hi'
  have hx' : (xs.eraseIdx j)[i]? = some x := by
    rw [List.getElem?_eraseIdx]
    split
    · rename_i hlt; rw [if_pos hlt] at he; rw [← he]; exact hx
    · rename_i hlt; rw [if_neg hlt] at he; rw [← he]; exact hx
  have hI : (L.items.eraseIdx j).getD i I0 = L.items.getD i' I0 := by
    simp only [List.getD, List.getElem?_eraseIdx, he]
    split <;> rfl
  obtain ⟨e0, e1, e2⟩ := encI_at _ i x hx'
  have hk := h.kc i' x hx
  obtain ⟨a1, c1, hu, hIn⟩ := IntsAt.own ho
  have k0 := hc _ _ e0; have k1 := hc _ _ e1; have k2 := hc _ _ e2
  rw [addr_add8] at k0 k1 k2
  show ∃ b off a1 n1 c1, _ ∧ _ ∧ _ = _ ∧ _ = some (Value.int .i64 ((L.items.eraseIdx j).getD i I0).kind) ∧ _ = some (Value.int .i64 ((L.items.eraseIdx j).getD i I0).cost) ∧ IntsAt w _ _ _ ((L.items.eraseIdx j).getD i I0).word
  rw [hI]
  rw [hk] at k1 k2
  rw [hu] at k0
  exact ⟨b, off, a1, _, c1, rfl, World.block_lt_of_cell? w _ k0, k0, by rw [Nat.add_assoc]; exact k1, by rw [Nat.add_assoc]; exact k2, hIn⟩
/-- append onto a slice without room -/
theorem step_append_full2 {P : Program} {ops : Array Oper} {o : Oper} {a : Act} {w : World} {K : Act → World → Prop} {Q : Exit → Act → World → Prop} {E0 : Prop} (hgd : o.guard = none) (s x : Operand) (t : TypeId)
    (ho : o.op = .call { callee := .builtin .append, args := #[s, x], argTypes := #[t, t] }) (e : TypeId) (i : TypeInfo) {z : Value} (size by_ : Nat) (ht : P.underlying t = some (.slice e)) (hi : P.info? e = some i) (hz : i.zero = some z) (hzc : z.cells.size = size) (hsize : i.size = size) (hs0 : 0 < size) (hby : i.bytes = by_) (hb0 : by_ ≤ 48)
    (b off n : Nat) (olds : List Value) (hs : a.eval s = .slice (some ⟨b, off, none⟩) n n) (hlo : olds.length = n * size) (holds : ∀ j u, olds[j]? = some u → w.cell? ((⟨b, off, none⟩ : Addr).add j) = some u)
    (A : Addr) (m c : Nat) (news : List Value) (hx : a.eval x = .slice (some A) m c) (hl : news.length = m * size) (hc : ∀ j u, news[j]? = some u → w.cell? (A.add j) = some u) (hsm : n + m ≤ 1000000)
    (hK : ∀ b' off' c' w', n + m ≤ c' → c' ≤ 9223372036854775807 → (b' = b ∨ w.heap.size ≤ b') → (∀ j u, (olds ++ news)[j]? = some u → w'.cell? ((⟨b', off', none⟩ : Addr).add j) = some u) → w.grownBy w' none → K (a.put o.dst (.slice (some ⟨b', off', none⟩) (n + m) c')) w') :
    if Region.wanted o (yielded ops a.tmps) = true then Oper.wp P o a w K Q else E0 := by
  have hm : (n + m) * by_ ≤ 1000000 * 48 := Nat.mul_le_mul hsm hb0
  have hw : Region.wanted o (yielded ops a.tmps) = true := by simp [Region.wanted, hgd]
  rw [if_pos hw]
  by_cases h0 : m = 0
  · subst h0
    have hnl : news = [] := List.length_eq_zero_iff.1 (by omega)
    subst hnl
    have hrun := run_append_room_cells (P := P) w t o.type e i ht hi b off n n A 0 c [] (by simp) (by simp) (by simp) (by omega) (by simp) (by simp)
    unfold Oper.wp
    simp [execOp, ho, resolve, invoke, builtin, hs, hx, hrun, Result.andThen, World.setCells]
    exact hK b off n w (by omega) (by omega) (.inl rfl) (by simpa using holds) ⟨rfl, rfl, rfl, Nat.le_refl _, fun _ _ _ => rfl⟩
  · obtain ⟨v', w', hrun, h2, h3⟩ := run_append_arg_grows (P := P) w t o.type e i z size by_ ht hi hz hsize hby hzc hs0 ⟨b, off, none⟩ n n olds hlo holds A m c news hl hc (by omega) (by unfold maxLen; omega) (by omega)
    have h2' := h2
    rcases h2.2 with ⟨_, h9⟩ | ⟨g, cap, cur, rfl, hgB, _, hle, hmx, _⟩
    · omega
    · unfold Oper.wp
      simp [execOp, ho, resolve, invoke, builtin, hs, hx, hrun, Result.andThen]
      exact hK g 0 cap w' hle (by unfold maxLen at hmx; omega) (.inr hgB) (fun j u hu => h2'.cells (g := g) rfl j u hu) h3
end Go.Proofs.Kv
namespace Go.Proofs.Ytpcpmdokgdbonaa
open Go.RowKit Go.Proofs.Kv Go

/-! ### Without of the document -/
set_option maxRecDepth 100000 in
set_option maxHeartbeats 4000000 in
theorem r8Without_calls (v : Value) (L : Lx) (i : Int) (w : World) (h : LexAt w v L) :
    Calls Try.prog 34 #[v, .int .i64 i] w fun e w' => ∃ a n c a' n' c', e = .returned (.tuple #[.agg #[.slice a n c, .slice a' n' c'], .int .i64 (wiE L i)]) ∧ LexAt w' (.agg #[.slice a n c, .slice a' n' c']) (wiL L i) ∧ Below w.heap.size w w' := by
  have HP := hid_ h
  obtain ⟨a1, n1, c1, a2, n2, c2, rfl, h1, h2⟩ := h
  obtain ⟨w1, hw1⟩ : ∃ w1, w.alloc (.cells #[.slice a1 n1 c1, .slice a2 n2 c2] 25) = w1 := ⟨_, rfl⟩
  have cb : Below w.heap.size w w1 := by rw [← hw1]; exact below_alloc _ _
  have q0 : w1.cell? ⟨w.heap.size, 0, none⟩ = some (.slice a1 n1 c1) := by rw [← hw1]; exact cells_alloc _ _ _ 0
  have q1 : w1.cell? ⟨w.heap.size, 1, none⟩ = some (.slice a2 n2 c2) := by rw [← hw1]; exact cells_alloc _ _ _ 1
  have HP1 := hid_ (HP.out.below cb (Nat.le_refl _)); have Hc1 := hid_ cb
  obtain ⟨w2, hw2⟩ : ∃ w2, w1.alloc (.cells #[.slice none 0 0, .slice none 0 0] 25) = w2 := ⟨_, rfl⟩
  have z1 : w1.heap.size = w.heap.size + 1 := by rw [← hw1]; simp
  have z2 : w2.heap.size = w.heap.size + 2 := by rw [← hw2]; simp [z1]
  have b2 : Below w1.heap.size w1 w2 := by rw [← hw2]; exact below_alloc _ _
  have r0 : w2.cell? ⟨w.heap.size + 1, 0, none⟩ = some (.slice none 0 0) := by rw [← z1, ← hw2]; exact cells_alloc _ _ _ 0
  have r1 : w2.cell? ⟨w.heap.size + 1, 1, none⟩ = some (.slice none 0 0) := by rw [← z1, ← hw2]; exact cells_alloc _ _ _ 1
  have f0 : ∀ j, w2.frozen? ⟨w.heap.size + 1, j, none⟩ = false := fun j => by rw [← z1, ← hw2]; exact World.frozen?_alloc_at _ _ _ _ (by simp)
  have q02 := cell_below q0 b2; have q12 := cell_below q1 b2
  have Hb2 : Hid (Below w.heap.size w w2) := hid_ (Hc1.out.trans (b2.mono Hc1.out.size))
  have HP2 := hid_ (HP.out.below Hb2.out (Nat.le_refl _))
  have HRs := hid_ (fun W (hW : Below w2.heap.size w2 W) => (⟨(hW.cell (p := ⟨w.heap.size + 1, 0, none⟩) (by show w.heap.size + 1 < w2.heap.size; omega)).trans r0, (hW.cell (p := ⟨w.heap.size + 1, 1, none⟩) (by show w.heap.size + 1 < w2.heap.size; omega)).trans r1, (hW.frozen (p := ⟨w.heap.size + 1, 0, none⟩) (by show w.heap.size + 1 < w2.heap.size; omega)).trans (f0 0), (hW.frozen (p := ⟨w.heap.size + 1, 1, none⟩) (by show w.heap.size + 1 < w2.heap.size; omega)).trans (f0 1)⟩ : W.cell? ⟨w.heap.size + 1, 0, none⟩ = some (.slice none 0 0) ∧ W.cell? ⟨w.heap.size + 1, 1, none⟩ = some (.slice none 0 0) ∧ W.frozen? ⟨w.heap.size + 1, 0, none⟩ = false ∧ W.frozen? ⟨w.heap.size + 1, 1, none⟩ = false))
  have HQ := hid_ (fun W (hW : Below w2.heap.size w2 W) => (⟨cell_below q02 hW, cell_below q12 hW⟩ : _ ∧ _))
  have Z2 := hid_ z2
  have HV := hid_ (r8item_calls _ L i w2 HP2.out)
  have HE : Hid (wiE L i = if viE L [i] = 0 then (if L.items.length = 1 then 1 else 0) else viE L [i]) := hid_ rfl
  have HD : Hid (wiL L i = if wiE L i = 0 then ⟨L.items.eraseIdx i.toNat, L.follow⟩ else ⟨[], []⟩) := hid_ rfl
  have hl1 := h1.len
  generalize wiL L i = D at *
  generalize wiE L i = E at *
  by_cases he : viE L [i] = 0
  · obtain ⟨hv, hi⟩ := viE_ok he
    have g := validL_ok hv
    obtain ⟨j, rfl, hj⟩ := one_item hi
    rw [if_pos he, hl1] at HE
    rw [he] at HV
    rw [Int.toNat_natCast] at HD
    have HCp := hid_ (fun W (hW : Below w2.heap.size w2 W) => r8Copy_calls _ L W (HP2.out.below hW (Nat.le_refl _)) g.copy.1 g.copy.2.1 g.copy.2.2.1 g.copy.2.2.2)
    rw [hl1] at hj
    have hn8 : n1 ≤ 8 := by have := g.le; omega
    have Hl1 := hid_ hl1
    obtain ⟨i0, hi0, hz0, hz1, hz2⟩ := info_parts Try.infoItem
    clear h1 h2 HP HP1 g hv hi he cb b2
    by_cases h1 : n1 = 1
    · have HE' : Hid (E = 1) := hid_ (HE.out.trans (if_pos h1))
      have HD' : Hid (D = ⟨[], []⟩) := hid_ (HD.out.trans (if_neg (by rw [HE'.out]; decide)))
      rw [HD'.out, HE'.out]
      have hq : ((n1 : Int) == 1) = true := by simp [h1]
      clear z2 h1 hl1
      go_enter Try.func34, Try.ntmps34
      go_wp2_with (go_at_call 65; (with_reducible refine HV.out.mono ?_); rintro e w3 ⟨rfl, hb3⟩; obtain ⟨q3, p3⟩ := HQ.out w3 hb3; obtain ⟨s0, s1, g0, g1⟩ := HRs.out w3 hb3)
      obtain ⟨t0, t1⟩ := two_stored (x := .slice none 0 0) (y := .slice none 0 0) s0 s1
      refine bodyPost_ret (v := .tuple #[.agg #[.slice none 0 0, .slice none 0 0], .int .i64 1]) ?_ rfl ⟨_, _, _, _, _, _, rfl, nil_lex _, ?_⟩
      · simp [results, Try.results34, go_sem, t0, t1]
      · have hf := Hb2.out.trans (hb3.mono Hb2.out.size)
        exact (hf.setCell (p := ⟨w.heap.size + 1, 0, none⟩) (by show _ ≤ _ + 1; omega) _).setCell (p := ⟨w.heap.size + 1, 1, none⟩) (by show _ ≤ _ + 1; omega) _
    · have HE' : Hid (E = 0) := hid_ (HE.out.trans (if_neg h1))
      have HD' : Hid (D = ⟨L.items.eraseIdx j, L.follow⟩) := hid_ (HD.out.trans (if_pos HE'.out))
      rw [HD'.out, HE'.out]
      have hq : ((n1 : Int) == 1) = false := by simpa using (fun e : (n1 : Int) = 1 => h1 (by omega))
      obtain ⟨j1, hj1⟩ : ∃ j1, j1 = j + 1 := ⟨_, rfl⟩
      have hwj : IntKind.i64.wrap ((j : Int) + 1) = (j1 : Int) := by rw [IntKind.wrap_i64]; omega
      have hj1n : j1 ≤ n1 := by omega
      have Hj1 := hid_ hj1
      clear z2 h1 hl1 hj1
      go_enter Try.func34, Try.ntmps34
      go_wp2_with (first
        | (go_at_call 65; (with_reducible refine HV.out.mono ?_); rintro e w3 ⟨rfl, hb3⟩; obtain ⟨q3, p3⟩ := HQ.out w3 hb3)
        | (go_at_call 25; (with_reducible refine (HCp.out _ hb3).mono ?_); rintro e w5 ⟨iv, fv, xs, fs, rfl, hN, hb5'⟩; have hb5 := below_then8 hb3 hb5'; obtain ⟨gi, cg, rfl, hgB, hgl⟩ := hN.form (by rw [Hl1.out]; omega); obtain ⟨ac, cc, rfl, -⟩ := hN.listsAt; simp only [Hl1.out] at hN ⊢; have Hhn := hid_ hN; clear hN; obtain ⟨fl, hfl⟩ : ∃ fl, L.follow.length = fl := ⟨_, rfl⟩; rw [hfl] at Hhn ⊢; obtain ⟨w6, hw6⟩ : ∃ w6, w5.alloc (.cells #[.slice (some ⟨gi, 0, none⟩) n1 cg, .slice ac fl cc] 25) = w6 := ⟨_, rfl⟩; have b6 : Below w5.heap.size w5 w6 := (by rw [← hw6]; exact below_alloc _ _); have HN6 := hid_ (Hhn.out.below b6 (Nat.le_refl _)); have HOc := hid_ (show w6.ownsRow w5.heap.size 25 2 (.slice (some ⟨w5.heap.size, 0, none⟩) 1 1) 1 [.slice (some ⟨gi, 0, none⟩) n1 cg, .slice ac fl cc] by rw [← hw6]; exact World.ownsRow_lit (base := w5.heap.size) (e := 25) (size := 2) w5 #[.slice (some ⟨gi, 0, none⟩) n1 cg, .slice ac fl cc] 1 (Nat.le_refl _) (by unfold maxLen; omega) rfl); have e60 : w6.cell? ⟨w5.heap.size, 0, none⟩ = some (.slice (some ⟨gi, 0, none⟩) n1 cg) := HOc.out.cellAt 0 (by omega); have Hb6 := hid_ (hb5.trans (b6.mono hb5.size)); have H3 := hid_ hb3.size; have hit := HN6.out.items; simp only [Hl1.out] at hit; have hncg : n1 ≤ cg := own_cap hit; have Hit := hid_ hit; have H56 := hid_ (show w6.heap.size = w5.heap.size + 1 by rw [← hw6]; simp); clear b6 hit))
      clear hw6
      have hjc : j ≤ cg := by omega
      have hjc1 : j1 ≤ cg := by omega
      have hxl : xs.length = n1 := by have := Hit.out.1; rw [encI_len] at this; omega
      have hfl3 : (xs.flatMap encI).length = n1 * 3 := Hit.out.1
      obtain ⟨news, hnews⟩ : ∃ news, news = (xs.drop j1).flatMap encI := ⟨_, rfl⟩
      obtain ⟨olds, holds⟩ : ∃ olds, olds = (xs.take j).flatMap encI := ⟨_, rfl⟩
      have hlen : news.length = (n1 - j1) * 3 := by rw [hnews, encI_len, List.length_drop, hxl]
      have hleno : olds.length = j * 3 := by rw [holds, encI_len, List.length_take, hxl]; omega
      have hgo : ∀ t u, olds[t]? = some u → w6.cell? ((⟨gi, 0, none⟩ : Addr).add t) = some u := fun t u hu => by
        have ht : t < j * 3 := by rw [← hleno]; exact (List.getElem?_eq_some_iff.1 hu).1
        rw [add_zero8, Hit.out.cellAt _ (by omega), ← hu, holds, ← encI_take, List.getElem?_take_of_lt ht]
      have hget : ∀ t u, news[t]? = some u → w6.cell? ⟨gi, j1 * 3 + t, none⟩ = some u := fun t u hu => by
        have ht : t < (n1 - j1) * 3 := by rw [← hlen]; exact (List.getElem?_eq_some_iff.1 hu).1
        rw [Hit.out.cellAt _ (by omega), ← hu, hnews, ← encI_drop, List.getElem?_drop]
      obtain ⟨A, hA, Hsrc⟩ : ∃ A : Addr, (if cg = j1 then some (⟨gi, 0, none⟩ : Addr) else some ⟨gi, j1 * 3, none⟩) = some A ∧ Hid (∀ t u, news[t]? = some u → w6.cell? (A.add t) = some u) := by
        by_cases h : cg = j1
        · refine ⟨⟨gi, 0, none⟩, by simp [h], hid_ fun t u hu => ?_⟩
          have h0 : news.length = 0 := by rw [hlen]; omega
          rw [List.length_eq_zero_iff.1 h0] at hu
          simp at hu
        · exact ⟨⟨gi, j1 * 3, none⟩, by simp [h], hid_ fun t u hu => by rw [addr_add8]; exact hget t u hu⟩
      have Hgo := hid_ hgo; have Hlen := hid_ hlen; have Hleno := hid_ hleno
      have Hcat : Hid (olds ++ news = (xs.take j ++ xs.drop (j + 1)).flatMap encI) := hid_ (by rw [holds, hnews, Hj1.out, List.flatMap_append])
      clear hget hgo hlen hleno hfl3 hxl hnews holds
      have hgne : w5.heap.size ≠ gi := by omega
      refine wp_region_last2 (n := 12) (S := fun W' => W'.cell? ⟨w5.heap.size, 0, none⟩ = some (.slice (some ⟨gi, 0, none⟩) n1 cg)) (by kernel_rfl) (by kernel_rfl) (cell_below e60 (Below.drew (Below.refl _ _))) (fun hHeld => ?_)
      refine wpAnyH_take (i := 0) (oi := ?oi0h1) (v := ?v0h1) ?hi0h1 (by kernel_rfl) ?hf0h1 (by kernel_rfl) ?hQ0h1 ?hy0h1 (by assumption) ?rest0h1
      case hi0h1 => (simp only [List.getElem?_toArray, List.getElem?_cons_zero]; rfl)
      case hf0h1 => kernel_rfl
      case hQ0h1 => exact fun _ _ _ h => h
      case hy0h1 => (refine Or.inl ⟨by rfl, ?_⟩; intro W hSw; (try dsimp only at hSw); go_simp; try with_reducible rfl)
      try simp only [Act.put, List.setIfInBounds_toArray, List.set_cons_zero, List.set_cons_succ]
      refine wpAnyH_take (i := 1) (oi := ?oi1h2) (v := ?v1h2) ?hi1h2 (by kernel_rfl) ?hf1h2 (by kernel_rfl) ?hQ1h2 ?hy1h2 (by assumption) ?rest1h2
      case hi1h2 => (simp only [List.getElem?_toArray, List.getElem?_cons_succ, List.getElem?_cons_zero]; rfl)
      case hf1h2 => kernel_rfl
      case hQ1h2 => exact fun _ _ _ h => h
      case hy1h2 => (refine Or.inl ⟨by rfl, ?_⟩; intro W hSw; (try dsimp only at hSw); go_simp; try with_reducible rfl)
      try simp only [Act.put, List.setIfInBounds_toArray, List.set_cons_zero, List.set_cons_succ]
      refine wpAnyH_take (i := 2) (oi := ?oi2h3) (v := ?v2h3) ?hi2h3 (by kernel_rfl) ?hf2h3 (by kernel_rfl) ?hQ2h3 ?hy2h3 (by assumption) ?rest2h3
      case hi2h3 => (simp only [List.getElem?_toArray, List.getElem?_cons_succ, List.getElem?_cons_zero]; rfl)
      case hf2h3 => kernel_rfl
      case hQ2h3 => exact fun _ _ _ h => h
      case hy2h3 => (refine Or.inl ⟨by rfl, ?_⟩; intro W hSw; (try dsimp only at hSw); go_simp; try with_reducible rfl)
      try simp only [Act.put, List.setIfInBounds_toArray, List.set_cons_zero, List.set_cons_succ]
      refine wpAnyH_take (i := 3) (oi := ?oi3h4) (v := ?v3h4) ?hi3h4 (by kernel_rfl) ?hf3h4 (by kernel_rfl) ?hQ3h4 ?hy3h4 (by assumption) ?rest3h4
      case hi3h4 => (simp only [List.getElem?_toArray, List.getElem?_cons_succ, List.getElem?_cons_zero]; rfl)
      case hf3h4 => kernel_rfl
      case hQ3h4 => exact fun _ _ _ h => h
      case hy3h4 => (refine Or.inl ⟨by rfl, ?_⟩; intro W hSw; (try dsimp only at hSw); go_simp; try with_reducible rfl)
      try simp only [Act.put, List.setIfInBounds_toArray, List.set_cons_zero, List.set_cons_succ]
      refine wpAnyH_take (i := 4) (oi := ?oi4h5) (v := ?v4h5) ?hi4h5 (by kernel_rfl) ?hf4h5 (by kernel_rfl) ?hQ4h5 ?hy4h5 (by assumption) ?rest4h5
      case hi4h5 => (simp only [List.getElem?_toArray, List.getElem?_cons_succ, List.getElem?_cons_zero]; rfl)
      case hf4h5 => kernel_rfl
      case hQ4h5 => exact fun _ _ _ h => h
      case hy4h5 => (refine Or.inl ⟨by rfl, ?_⟩; intro W hSw; (try dsimp only at hSw); go_simp; try with_reducible rfl)
      try simp only [Act.put, List.setIfInBounds_toArray, List.set_cons_zero, List.set_cons_succ]
      refine wpAnyH_take (i := 5) (oi := ?oi5h6) (v := ?v5h6) ?hi5h6 (by kernel_rfl) ?hf5h6 (by kernel_rfl) ?hQ5h6 ?hy5h6 (by assumption) ?rest5h6
      case hi5h6 => (simp only [List.getElem?_toArray, List.getElem?_cons_succ, List.getElem?_cons_zero]; rfl)
      case hf5h6 => kernel_rfl
      case hQ5h6 => exact fun _ _ _ h => h
      case hy5h6 => (refine Or.inl ⟨by rfl, ?_⟩; intro W hSw; (try dsimp only at hSw); go_simp; try with_reducible rfl)
      try simp only [Act.put, List.setIfInBounds_toArray, List.set_cons_zero, List.set_cons_succ]
      refine wpAnyH_take (i := 6) (oi := ?oi6h7) (v := ?v6h7) ?hi6h7 (by kernel_rfl) ?hf6h7 (by kernel_rfl) ?hQ6h7 ?hy6h7 (by assumption) ?rest6h7
      case hi6h7 => (simp only [List.getElem?_toArray, List.getElem?_cons_succ, List.getElem?_cons_zero]; rfl)
      case hf6h7 => kernel_rfl
      case hQ6h7 => exact fun _ _ _ h => h
      case hy6h7 => (refine Or.inl ⟨by rfl, ?_⟩; intro W hSw; (try dsimp only at hSw); go_simp; try with_reducible rfl)
      try simp only [Act.put, List.setIfInBounds_toArray, List.set_cons_zero, List.set_cons_succ]
      refine wpAnyH_take (i := 7) (oi := ?oi7h8) (v := ?v7h8) ?hi7h8 (by kernel_rfl) ?hf7h8 (by kernel_rfl) ?hQ7h8 ?hy7h8 (by assumption) ?rest7h8
      case hi7h8 => (simp only [List.getElem?_toArray, List.getElem?_cons_succ, List.getElem?_cons_zero]; rfl)
      case hf7h8 => kernel_rfl
      case hQ7h8 => exact fun _ _ _ h => h
      case hy7h8 => (refine Or.inl ⟨by rfl, ?_⟩; intro W hSw; (try dsimp only at hSw); go_simp; try with_reducible rfl)
      try simp only [Act.put, List.setIfInBounds_toArray, List.set_cons_zero, List.set_cons_succ]
      refine wpAnyH_take (i := 8) (oi := ?oi8h9) (v := ?v8h9) ?hi8h9 (by kernel_rfl) ?hf8h9 (by kernel_rfl) ?hQ8h9 ?hy8h9 (by assumption) ?rest8h9
      case hi8h9 => (simp only [List.getElem?_toArray, List.getElem?_cons_succ, List.getElem?_cons_zero]; rfl)
      case hf8h9 => kernel_rfl
      case hQ8h9 => exact fun _ _ _ h => h
      case hy8h9 => (refine Or.inl ⟨by rfl, ?_⟩; intro W hSw; (try dsimp only at hSw); go_simp; try with_reducible rfl)
      try simp only [Act.put, List.setIfInBounds_toArray, List.set_cons_zero, List.set_cons_succ]
      refine wpAnyH_take (i := 9) (oi := ?oi9h10) (v := ?v9h10) ?hi9h10 (by kernel_rfl) ?hf9h10 (by kernel_rfl) ?hQ9h10 ?hy9h10 (by assumption) ?rest9h10
      case hi9h10 => (simp only [List.getElem?_toArray, List.getElem?_cons_succ, List.getElem?_cons_zero]; rfl)
      case hf9h10 => kernel_rfl
      case hQ9h10 => exact fun _ _ _ h => h
      case hy9h10 => (refine Or.inl ⟨by rfl, ?_⟩; intro W hSw; (try dsimp only at hSw); go_simp; try with_reducible rfl)
      try simp only [Act.put, List.setIfInBounds_toArray, List.set_cons_zero, List.set_cons_succ]
      refine wpAnyH_ready (rs := [10]) (by kernel_rfl) (by simp) ?_
      refine AllReadyH.cons (o := _) (by (simp only [List.getElem?_toArray, List.getElem?_cons_succ, List.getElem?_cons_zero]; rfl)) (fun K hK => ?_) AllReadyH.nil
      refine step_append_full2 rfl (.tmp 26) (.tmp 31) _ rfl 50 i0 3 40 Try.underlying22 hi0 hz0 rfl hz1 (by omega) hz2 (by omega) gi 0 j olds (by rfl) Hleno.out Hgo.out A (n1 - j1) (cg - j1) news (by simp [Act.eval]) Hlen.out Hsrc.out (by omega) ?_; intro b7 o7 c7 w7 hle7 hc7 hb7 hcell7 hg7
      refine hK.out _ _ ?_ (fun hHeld => ?_)
      · exact cell_below e60 ((Below.drew (Below.refl _ w6)).grown hg7 (Nat.le_refl _) (fun k e => by cases e))
      clear hK K
      try simp only [Act.put, List.setIfInBounds_toArray, List.set_cons_zero, List.set_cons_succ]
      refine wpAnyH_take (i := 11) (oi := ?oi11h11) (v := ?v11h11) ?hi11h11 (by kernel_rfl) ?hf11h11 (by kernel_rfl) ?hQ11h11 ?hy11h11 (by assumption) ?rest11h11
      case hi11h11 => (simp only [List.getElem?_toArray, List.getElem?_cons_succ, List.getElem?_cons_zero]; rfl)
      case hf11h11 => kernel_rfl
      case hQ11h11 => exact fun _ _ _ h => h
      case hy11h11 => (refine Or.inl ⟨by rfl, ?_⟩; intro W hSw; (try dsimp only at hSw); go_simp; try with_reducible rfl)
      try simp only [Act.put, List.setIfInBounds_toArray, List.set_cons_zero, List.set_cons_succ]
      have bw7 : Below w6.heap.size w6 w7 := (Below.drew (Below.refl _ w6)).grown hg7 (Nat.le_refl _) (fun k e => by cases e)
      have oc7 := own_below HOc.out bw7 (Nat.le_refl _)
      have c70 : w7.cell? ⟨w5.heap.size, 0, none⟩ = some (.slice (some ⟨gi, 0, none⟩) n1 cg) := oc7.cellAt 0 (by omega)
      have f70 : w7.frozen? ⟨w5.heap.size, 0, none⟩ = false := oc7.frozenAt 0
      have hm7 : j + (n1 - j1) = n1 - 1 := by have := Hj1.out; omega
      have hne7 : b7 ≠ w5.heap.size := by
        rcases hb7 with h9 | h9
        · rw [h9]; exact fun e => hgne e.symm
        · have h9 : w6.heap.size ≤ b7 := h9
          have := H56.out; omega
      obtain ⟨w8, hw8⟩ : ∃ w8, w7.setCell ⟨w5.heap.size, 0, none⟩ (.slice (some ⟨b7, o7, none⟩) (j + (n1 - j1)) c7) = w8 := ⟨_, rfl⟩
      have st8 := oc7.stored 0 (.slice (some ⟨b7, o7, none⟩) (j + (n1 - j1)) c7)
      rw [hw8] at st8
      have d80 : w8.cell? ⟨w5.heap.size, 0, none⟩ = some (.slice (some ⟨b7, o7, none⟩) (j + (n1 - j1)) c7) := st8.1.cellAt 0 (by omega)
      have d81 : w8.cell? ⟨w5.heap.size, 1, none⟩ = some (.slice ac fl cc) := st8.1.cellAt 1 (by omega)
      have HN8 := hid_ ((HN6.out.below bw7 (Nat.le_refl _)).other oc7 (by decide) (by decide) (by decide) st8.2)
      have Hce8 : Hid (∀ t u, ((xs.take j ++ xs.drop (j + 1)).flatMap encI)[t]? = some u → w8.cell? ((⟨b7, o7, none⟩ : Addr).add t) = some u) := hid_ (fun t u hu => by
        rw [← Hcat.out] at hu
        have h9 := hcell7 t u hu
        rw [addr_add8] at h9 ⊢
        rw [← hw8, World.cell?_setCell_other _ _ _ _ (by intro e; injection e with e; exact hne7 e.symm)]; exact h9)
      have hb8 : Below w2.heap.size w2 w8 := by rw [← hw8]; exact Below.setCell (p := ⟨w5.heap.size, 0, none⟩) (Hb6.out.trans (bw7.mono Hb6.out.size)) hb5.size _
      obtain ⟨s0, s1, g0, g1⟩ := HRs.out w8 hb8
      have Hb8 := hid_ hb8
      have Hle7 := hid_ hle7; have Hc7 := hid_ hc7
      have hb9 : b7 ≠ w.heap.size + 1 := by
        have := Z2.out
        have := Nat.le_trans H3.out hgB
        rcases hb7 with h9 | h9
        · omega
        · have h9 : w6.heap.size ≤ b7 := h9
          have := H56.out; have := hb5.size; omega
      have Hb9 := hid_ hb9; have Hm7 := hid_ hm7
      clear bw7 oc7 st8 hb7 hcell7 hg7 hb8 hne7 hle7 hc7 hb9 hm7
      refine wpAnyH_done (by kernel_rfl) ?_ _
      clear hHeld
      refine last_of ?_
      refine wpOp_step (o := _) (by (simp only [List.getElem?_toArray, List.getElem?_cons_succ, List.getElem?_cons_zero]; rfl)) (fun K hK => ?_)
      go_simp
      refine hK _ _ ?_
      clear hK K
      try simp only [Act.put, List.setIfInBounds_toArray, List.set_cons_zero, List.set_cons_succ]
      go_wp2
      obtain ⟨t0, t1⟩ := two_stored (x := .slice (some ⟨b7, o7, none⟩) (j + (n1 - j1)) c7) (y := .slice ac fl cc) s0 s1
      refine bodyPost_ret (v := .tuple #[.agg #[.slice (some ⟨b7, o7, none⟩) (j + (n1 - j1)) c7, .slice ac fl cc], .int .i64 0]) ?_ rfl ⟨_, _, _, _, _, _, rfl, ?_, ?_⟩
      · simp [results, Try.results34, go_sem, t0, t1]
      · refine ((HN8.out.base H3.out).res (by have := Z2.out; omega) _ _).lexErase (by rw [Hl1.out]; exact hj) (fun t u hu => ?_) (by rw [Hm7.out, Hl1.out]) Hle7.out Hc7.out
        have h9 := Hce8.out t u hu
        rw [addr_add8] at h9 ⊢
        rw [World.cell?_setCell_other _ _ _ _ (by intro e; injection e with e; exact Hb9.out e.symm), World.cell?_setCell_other _ _ _ _ (by intro e; injection e with e; exact Hb9.out e.symm)]
        exact h9
      · have hf := Hb2.out.trans (Hb8.out.mono Hb2.out.size)
        exact (hf.setCell (p := ⟨w.heap.size + 1, 0, none⟩) (by show _ ≤ _ + 1; omega) _).setCell (p := ⟨w.heap.size + 1, 1, none⟩) (by show _ ≤ _ + 1; omega) _
  · have hq : (viE L [i] != 0) = true := by simpa using he
    have HE' : Hid (E = viE L [i]) := hid_ (HE.out.trans (if_neg he))
    have HD' : Hid (D = ⟨[], []⟩) := hid_ (HD.out.trans (if_neg (by rw [HE'.out]; exact he)))
    rw [HD'.out, HE'.out]
    generalize viE L [i] = x at *
    clear he h1 h2 HP HP1 cb b2 z2
    go_enter Try.func34, Try.ntmps34
    go_wp2_with (go_at_call 65; (with_reducible refine HV.out.mono ?_); rintro e w3 ⟨rfl, hb3⟩; obtain ⟨s0, s1, g0, g1⟩ := HRs.out w3 hb3)
    obtain ⟨t0, t1⟩ := two_stored (x := .slice none 0 0) (y := .slice none 0 0) s0 s1
    refine bodyPost_ret (v := .tuple #[.agg #[.slice none 0 0, .slice none 0 0], .int .i64 x]) ?_ rfl ⟨_, _, _, _, _, _, rfl, nil_lex _, ?_⟩
    · simp [results, Try.results34, go_sem, t0, t1]
    · have hf := Hb2.out.trans (hb3.mono Hb2.out.size)
      exact (hf.setCell (p := ⟨w.heap.size + 1, 0, none⟩) (by show _ ≤ _ + 1; omega) _).setCell (p := ⟨w.heap.size + 1, 1, none⟩) (by show _ ≤ _ + 1; omega) _
end Go.Proofs.Ytpcpmdokgdbonaa
