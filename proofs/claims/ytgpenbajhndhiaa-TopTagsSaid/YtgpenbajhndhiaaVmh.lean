import Derived.Test.YtgpenbajhndhiaaVmg
import Derived.Test.YtgpenbajhndhiaaVO
import Derived.Lib.SliceRun
namespace Go.Proofs.Ytgpenbajhndhiaa
open Go.RowKit Go.Proofs.Kv Go

/-! ### lexicons beside lexicons -/
theorem validL_yes {L : Lx} (g : GoodL L) : validL L = 0 := by
  unfold validL
  have h1 := g.ge; have h2 := g.le
  rw [if_pos (by simp only [Within, Bool.and_eq_true, decide_eq_true_eq]; omega)]
  have h3 : L.items.any (fun x => !itemOk x) = false := any_no I0 rfl fun j hj => by
    obtain ⟨w1, w2, w3⟩ := g.word j hj
    obtain ⟨k1, k2⟩ := g.kind j hj
    obtain ⟨c1, c2⟩ := g.cost j hj
    rw [Bool.not_eq_false']
    simp only [itemOk, Within, Bool.and_eq_true, decide_eq_true_eq]
    exact ⟨⟨by omega, by omega⟩, w3, ⟨k1, k2⟩, c1, c2⟩
  rw [if_neg (by rw [h3]; decide)]
  have h4 : rowsB L.follow 4 4 (-1) 99 = true := by
    rw [rowsB_all g.rows (fun k hk => by
      obtain ⟨r1, r2⟩ := g.row k hk
      rw [rowOk8, r2, decide_eq_true (by omega)]; rfl)]
    decide
  rw [if_pos h4]
theorem textE_eq {L L' : Lx} (g : GoodL L) (g' : GoodL L') (t : List Int) : textE L t = textE L' t := by
  unfold textE; rw [validL_yes g, validL_yes g']
theorem cnt_map {L L' : Lx} {t t' : List Int} (g : GoodL L) (g' : GoodL L') (f : List Int → List Int) (hf : ∀ s, isS L t s → isS L' t' (f s)) (hi : ∀ s s', isS L t s → isS L t s' → f s = f s' → s = s') : cntA L t ≤ cntA L' t' := by
  have hn : ((allS L t).map f).Nodup := by
    unfold List.Nodup
    rw [List.pairwise_map]
    exact (nodup_allS g t).imp_of_mem fun ha hb hne e => hne (hi _ _ ((mem_allS g t _).1 ha) ((mem_allS g t _).1 hb) e)
  have := len_le_sub8 hn (m := allS L' t') fun x hx => by
    obtain ⟨s, hs, rfl⟩ := List.mem_map.1 hx
    exact (mem_allS g' t' _).2 (hf s ((mem_allS g t _).1 hs))
  rw [List.length_map] at this
  unfold cntA; omega
theorem lst_le {L L' : Lx} {t t' : List Int} (g : GoodL L) (g' : GoodL L') (h : ∀ s', isS L' t' s' → ∃ s, isS L t s ∧ sumC L s ≤ sumC L' s') : lstA L t ≤ lstA L' t' := by
  unfold lstA
  refine le_minN (minN_le _) fun x hx => ?_
  obtain ⟨s', hs', rfl⟩ := List.mem_map.1 hx
  obtain ⟨s, hs, hle⟩ := h s' ((mem_allS g' t' _).1 hs')
  exact Int.le_trans (minN_mem (List.mem_map.2 ⟨s, (mem_allS g t _).2 hs, rfl⟩)) hle
theorem leastB_of {L L' : Lx} {t t' : List Int} (ht : textE L t = textE L' t') (h : cntA L t = cntA L' t') : leastB L t = leastB L' t' := by
  unfold leastB; rw [ht, h]

/-! ### a dearer item -/
theorem setCost_len (L : Lx) (i : Nat) (k : Int) : (setCost L i k).items.length = L.items.length := by simp [setCost]
theorem setCost_at (L : Lx) (i : Nat) (k : Int) (j : Nat) : ((setCost L i k).items.getD j I0).word = (L.items.getD j I0).word ∧ ((setCost L i k).items.getD j I0).kind = (L.items.getD j I0).kind ∧ ((setCost L i k).items.getD j I0).cost = if j = i ∧ i < L.items.length then k else (L.items.getD j I0).cost := by
  show ((L.items.set i _).getD j I0).word = _ ∧ _
  by_cases hi : i < L.items.length
  · show _ ∧ ((L.items.set i _).getD j I0).kind = _ ∧ ((L.items.set i _).getD j I0).cost = _
    rw [getD_set8 _ _ _ _ _ hi]
    by_cases e : j = i
    · subst e; rw [if_pos rfl, if_pos ⟨rfl, hi⟩]; exact ⟨rfl, rfl, rfl⟩
    · rw [if_neg e, if_neg (by omega)]; exact ⟨rfl, rfl, rfl⟩
  · show _ ∧ ((L.items.set i _).getD j I0).kind = _ ∧ ((L.items.set i _).getD j I0).cost = _
    rw [List.set_eq_of_length_le (by omega), if_neg (by omega)]; exact ⟨rfl, rfl, rfl⟩
theorem setCost_good {L : Lx} (g : GoodL L) (i : Nat) {k : Int} (h0 : 0 ≤ k) (h1 : k ≤ 99) : GoodL (setCost L i k) where
  ge := by rw [setCost_len]; exact g.ge
  le := by rw [setCost_len]; exact g.le
  word j hj := by rw [setCost_len] at hj; rw [(setCost_at L i k j).1]; exact g.word j hj
  kind j hj := by rw [setCost_len] at hj; rw [(setCost_at L i k j).2.1]; exact g.kind j hj
  cost j hj := by
    rw [setCost_len] at hj; rw [(setCost_at L i k j).2.2]
    split
    · exact ⟨h0, h1⟩
    · exact g.cost j hj
  rows := g.rows
  row := g.row
theorem setCost_words (L : Lx) (i : Nat) (k : Int) (s : List Int) : wordsL (setCost L i k) s = wordsL L s := by
  unfold wordsL
  refine flatMap_congr8 fun x _ => ?_
  unfold wordL; exact (setCost_at L i k _).1
theorem setCost_fv (L : Lx) (i : Nat) (k : Int) (a b : Int) : fvI (setCost L i k) a b = fvI L a b := by
  unfold fvI follV
  rw [(setCost_at L i k _).2.1, (setCost_at L i k _).2.1]; rfl
theorem setCost_isS (L : Lx) (i : Nat) (k : Int) (t s : List Int) : isS (setCost L i k) t s ↔ isS L t s := by
  unfold isS
  have e1 : itemsB (setCost L i k) s = itemsB L s := by unfold itemsB; rw [setCost_len]
  have e2 : okF (setCost L i k) s = okF L s := by
    unfold okF
    congr 1
    funext j; unfold okC; rw [setCost_fv]
  rw [e1, e2, setCost_words]
theorem setCost_sum {L : Lx} {i : Nat} {k : Int} (hk : (L.items.getD i I0).cost ≤ k) (s : List Int) : sumC L s ≤ sumC (setCost L i k) s := by
  have key : ∀ n, sumK L s n ≤ sumK (setCost L i k) s n := fun n => by
    induction n with
    | zero => exact Int.le_refl _
    | succ n ih =>
      have : stepC L s n ≤ stepC (setCost L i k) s n := by
        unfold stepC
        have hc : costI L (s.getD n 0) ≤ costI (setCost L i k) (s.getD n 0) := by
          unfold costI
          rw [(setCost_at L i k _).2.2]
          split
          · rename_i h; rw [h.1]; exact hk
          · exact Int.le_refl _
        rw [setCost_fv]; omega
      show sumK L s n + _ ≤ sumK _ s n + _
      omega
  exact key _
theorem dearer_facts {L : Lx} {i b : Int} (h : drE L i b = 0) (t : List Int) : GoodL L ∧ textE (drL L i b) t = textE L t ∧ leastB (drL L i b) t = leastB L t ∧ (0 ≤ b → leastV L t ≤ leastV (drL L i b) t) := by
  have h0 := h
  unfold drE at h
  by_cases hv : viE L [i] = 0
  · rw [if_pos hv] at h
    by_cases hin : 0 ≤ costI L i + b ∧ costI L i + b ≤ 99
    · have g := validL_ok (viE_ok hv).1
      have hD : drL L i b = setCost L i.toNat (costI L i + b) := by unfold drL; rw [if_pos h0]
      rw [hD]
      have g' := setCost_good g i.toNat hin.1 hin.2
      have ht := textE_eq g' g t
      have hc : cntA (setCost L i.toNat (costI L i + b)) t = cntA L t := Int.le_antisymm
        (cnt_map g' g id (fun s hs => (setCost_isS L _ _ t s).1 hs) (fun s s' _ _ e => e))
        (cnt_map g g' id (fun s hs => (setCost_isS L _ _ t s).2 hs) (fun s s' _ _ e => e))
      have hl := leastB_of ht hc
      refine ⟨g, ht, hl, fun hb => ?_⟩
      unfold leastV
      rw [hl]
      split
      · exact lst_le g g' fun s' hs' => ⟨s', (setCost_isS L _ _ t s').1 hs', setCost_sum (by unfold costI; omega) s'⟩
      · exact Int.le_refl _
    · rw [if_neg hin] at h; cases h
  · rw [if_neg hv] at h; exact absurd h hv
end Go.Proofs.Ytgpenbajhndhiaa
namespace Go.Proofs.Kv
open Go.RowKit Go
theorem NewI.lits {EI EL E1 : TypeId} {w : World} {B : Nat} {iv fv : Value} {xs : List Ic} {fs : List Value} {L : Lx} (h : NewI EI EL E1 w B iv fv xs fs L) : ∃ a n c a' n' c', iv = .slice a n c ∧ fv = .slice a' n' c' ∧ LexAt w (.agg #[.slice a n c, .slice a' n' c']) L := by
  obtain ⟨a, c, rfl, h1⟩ := h.itemsAt
  obtain ⟨a', c', rfl, h2⟩ := h.listsAt
  exact ⟨a, _, c, a', _, c', rfl, rfl, a, _, c, a', _, c', rfl, h1, h2⟩
end Go.Proofs.Kv
namespace Go.Proofs.Ytgpenbajhndhiaa
open Go.RowKit Go.Proofs.Kv Go

/-! ### the law TagDearer -/
end Go.Proofs.Ytgpenbajhndhiaa
namespace Go.Proofs.Kv
open Go.RowKit Go
/-- row k of the lists turns in its block -/
theorem NewI.turnF {EI EL E1 : TypeId} {w w' : World} {B k : Nat} {iv fv u : Value} {xs : List Ic} {fs : List Value} {I : List It} {F : List (List Int)} {r : List Int} (h : NewI EI EL E1 w B iv fv xs fs ⟨I, F⟩) (hk : k < F.length) (hu : fs[k]? = some u)
    (hg : w.grownBy w' u.ownBlock) (hu' : w'.ownsRow B E1 1 u r.length (r.map (Value.int .i64))) : NewI EI EL E1 w' B iv fv xs fs ⟨I, F.set k r⟩ := by
  have hl := h.len
  have hl' : xs.length = I.length := hl
  obtain ⟨u', hu2, hu3, ho⟩ := h.list (k := k) hk
  rw [hu] at hu2; injection hu2 with hu2; subst hu2
  have hR := h.rows.turn hu3 hg hu'
  have e : (I.map (·.word) ++ F).set (I.length + k) r = I.map (·.word) ++ F.set k r := by
    rw [List.set_append_right _ _ (by simp)]; simp
  refine ⟨h.ne1, h.ne2, h.ne3, own_kept_ne h.items hg (fun b hb => own_apart h.items ho h.ne1 b hb), h.len, h.kc, by simpa using own_kept_ne h.fol hg (fun b hb => own_apart h.fol ho h.ne2 b hb), ?_⟩
  rw [e] at hR; exact hR
theorem NewI.listAt {EI EL E1 : TypeId} {w : World} {B g n c k : Nat} {iv : Value} {xs : List Ic} {fs : List Value} {L : Lx} (h : NewI EI EL E1 w B iv (.slice (some ⟨g, 0, none⟩) n c) xs fs L) (hn : n = L.follow.length) (hk : k < n) (h0 : 0 < (L.follow.getD k []).length) :
    ∃ b d, fs[k]? = some (.slice (some ⟨b, 0, none⟩) (L.follow.getD k []).length d) ∧ w.cell? ⟨g, k, none⟩ = some (.slice (some ⟨b, 0, none⟩) (L.follow.getD k []).length d) ∧ w.ownsRow B E1 1 (.slice (some ⟨b, 0, none⟩) (L.follow.getD k []).length d) (L.follow.getD k []).length ((L.follow.getD k []).map (Value.int .i64)) ∧ (L.follow.getD k []).length ≤ d := by
  subst hn
  obtain ⟨u, hu, -, ho⟩ := h.list hk
  have ho2 := ho
  rcases ho.2 with ⟨_, h1⟩ | ⟨b, cap, cur, rfl, hB, hg, hle, _⟩
  · omega
  · exact ⟨b, cap, hu, (h.fol.cellAt _ (by omega)).trans hu, ho2, hle⟩
theorem NewI.formF {EI EL E1 : TypeId} {w : World} {B : Nat} {iv fv : Value} {xs : List Ic} {fs : List Value} {L : Lx} (h : NewI EI EL E1 w B iv fv xs fs L) (h0 : 0 < L.follow.length) : ∃ g c, fv = .slice (some ⟨g, 0, none⟩) L.follow.length c ∧ B ≤ g ∧ g < w.heap.size := by
  rcases h.fol.2 with ⟨_, h1⟩ | ⟨g, cap, cur, rfl, hB, hg, _⟩
  · omega
  · exact ⟨g, cap, rfl, hB, (Array.getElem?_eq_some_iff.1 hg).1⟩
theorem zero_run8 {P : Program} {t : TypeId} {i : TypeInfo} {z : Value} (h : P.info? t = some i) (hz : i.zero = some z) : ∀ w, (zeroValue t).run P w = .ok z w := by
  intro w
  simp [zeroValue, typeInfo, h, hz]
def zerR (r : List Int) : List Int := r.map fun _ => 0
/-- the first k lists put to naught -/
def zerK (F : List (List Int)) (k : Nat) : List (List Int) := (List.range F.length).map fun i => if i < k then zerR (F.getD i []) else F.getD i []
theorem zerK_len (F : List (List Int)) (k : Nat) : (zerK F k).length = F.length := by simp [zerK]
theorem zerK_at (F : List (List Int)) (k : Nat) {i : Nat} (hi : i < F.length) : (zerK F k).getD i [] = if i < k then zerR (F.getD i []) else F.getD i [] := by simp [zerK, List.getD, hi]
theorem zerK_0 (F : List (List Int)) : zerK F 0 = F := by
  apply List.ext_getElem
  · simp [zerK]
  · intro i h1 h2; simp [zerK, List.getD, h2]
theorem zerK_all (F : List (List Int)) : zerK F F.length = F.map zerR := by
  apply List.ext_getElem
  · simp [zerK]
  · intro i h1 h2
    have : i < F.length := by simpa using h2
    simp [zerK, this]
theorem zerK_next (F : List (List Int)) {k : Nat} (_ : k < F.length) : (zerK F k).set k (zerR (F.getD k [])) = zerK F (k + 1) := by
  apply List.ext_getElem
  · simp [zerK]
  · intro i h1 h2
    rw [List.getElem_set]
    split
    · rename_i e; subst e; simp [zerK]
    · rename_i e
      simp only [zerK, List.getElem_map, List.getElem_range]
      by_cases h : i < k
      · rw [if_pos h, if_pos (by omega)]
      · rw [if_neg h, if_neg (by omega)]
theorem zerR_rep {r : List Int} {n : Nat} (h : r.length = n) : zerR r = List.replicate n 0 := by
  subst h; exact List.map_const' ..
end Go.Proofs.Kv
namespace Go.Proofs.Ytgpenbajhndhiaa
open Go.RowKit Go.Proofs.Kv Go

/-! ### Free -/
def freeL (L : Lx) : Lx := ⟨L.items, L.follow.map zerR⟩
def frL (L : Lx) : Lx := if validL L = 0 then freeL L else ⟨[], []⟩
set_option maxRecDepth 100000 in
set_option maxHeartbeats 4000000 in
theorem taFree_calls (v : Value) (L : Lx) (w : World) (h : LexAt w v L) :
    Calls Try.prog 24 #[v] w fun e w' => ∃ iv fv xs fs, e = .returned (.tuple #[.agg #[iv, fv], .int .i64 (validL L)]) ∧ NewL w' w.heap.size iv fv xs fs (frL L) ∧ Below w.heap.size w w' := by
  have HP := hid_ h
  obtain ⟨a1, n1, c1, a2, n2, c2, rfl, h1, h2⟩ := h
  obtain ⟨w1, hw1⟩ : ∃ w1, w.alloc (.cells #[.slice a1 n1 c1, .slice a2 n2 c2] 25) = w1 := ⟨_, rfl⟩
  have cb : Below w.heap.size w w1 := by rw [← hw1]; exact below_alloc _ _
  have q0 : w1.cell? ⟨w.heap.size, 0, none⟩ = some (.slice a1 n1 c1) := by rw [← hw1]; exact cells_alloc _ _ _ 0
  have q1 : w1.cell? ⟨w.heap.size, 1, none⟩ = some (.slice a2 n2 c2) := by rw [← hw1]; exact cells_alloc _ _ _ 1
  have HP1 := hid_ (HP.out.below cb (Nat.le_refl _)); have Hc1 := hid_ cb
  obtain ⟨w2, hw2⟩ : ∃ w2, w1.alloc (.cells #[.slice none 0 0, .slice none 0 0] 25) = w2 := ⟨_, rfl⟩
  have z1 : w1.heap.size = w.heap.size + 1 := by rw [← hw1]; simp
  have z2 : w2.heap.size = w.heap.size + 2 := by rw [← hw2]; simp [z1]
  have b2 : Below w1.heap.size w1 w2 := by rw [← hw2]; exact below_alloc _ _
  have r0 : w2.cell? ⟨w.heap.size + 1, 0, none⟩ = some (.slice none 0 0) := by rw [← z1, ← hw2]; exact cells_alloc _ _ _ 0
  have r1 : w2.cell? ⟨w.heap.size + 1, 1, none⟩ = some (.slice none 0 0) := by rw [← z1, ← hw2]; exact cells_alloc _ _ _ 1
  have f0 : ∀ j, w2.frozen? ⟨w.heap.size + 1, j, none⟩ = false := fun j => by rw [← z1, ← hw2]; exact World.frozen?_alloc_at _ _ _ _ (by simp)
  have q02 := cell_below q0 b2; have q12 := cell_below q1 b2
  have Hb2 : Hid (Below w.heap.size w w2) := hid_ (Hc1.out.trans (b2.mono Hc1.out.size))
  have HP2 := hid_ (HP.out.below Hb2.out (Nat.le_refl _))
  have HRs := hid_ (fun W (hW : Below w2.heap.size w2 W) => (⟨(hW.cell (p := ⟨w.heap.size + 1, 0, none⟩) (by show w.heap.size + 1 < w2.heap.size; omega)).trans r0, (hW.cell (p := ⟨w.heap.size + 1, 1, none⟩) (by show w.heap.size + 1 < w2.heap.size; omega)).trans r1, (hW.frozen (p := ⟨w.heap.size + 1, 0, none⟩) (by show w.heap.size + 1 < w2.heap.size; omega)).trans (f0 0), (hW.frozen (p := ⟨w.heap.size + 1, 1, none⟩) (by show w.heap.size + 1 < w2.heap.size; omega)).trans (f0 1)⟩ : W.cell? ⟨w.heap.size + 1, 0, none⟩ = some (.slice none 0 0) ∧ W.cell? ⟨w.heap.size + 1, 1, none⟩ = some (.slice none 0 0) ∧ W.frozen? ⟨w.heap.size + 1, 0, none⟩ = false ∧ W.frozen? ⟨w.heap.size + 1, 1, none⟩ = false))
  have HQ := hid_ (fun W (hW : Below w2.heap.size w2 W) => (⟨cell_below q02 hW, cell_below q12 hW⟩ : _ ∧ _))
  have Z2 := hid_ z2
  have HV := hid_ (taValidate_calls _ L w2 HP2.out)
  have HD : Hid (frL L = if validL L = 0 then freeL L else ⟨[], []⟩) := hid_ rfl
  generalize frL L = D at *
  by_cases he : validL L = 0
  · have g := validL_ok he
    have hl1 := h1.len; have hl2 := h2.len
    have hr4 := g.rows
    obtain rfl : n2 = 4 := by omega
    rw [if_pos he] at HD
    rw [he] at HV ⊢
    have HCp := hid_ (fun W (hW : Below w2.heap.size w2 W) => copied8_calls _ L W (HP2.out.below hW (Nat.le_refl _)) g)
    have Hr4 := hid_ (fun k (hk : k < 4) => (g.row k hk).1)
    have Hl1 := hid_ hl1; have Hl2 := hid_ hl2
    have hn1 := g.ge
    rw [hl1] at hn1
    obtain ⟨i1, hi1, hy0, hy1, hy2⟩ := info_parts Try.infoInt
    clear h1 h2 HP HP1 g he cb b2 hl1 hl2 hr4
    rw [HD.out]
    clear z2
    go_enter Try.func24, Try.ntmps24
    go_wp2_with (first
      | (go_at_call 44; (with_reducible refine HV.out.mono ?_); rintro e w3 ⟨rfl, hb3⟩; obtain ⟨q3, p3⟩ := HQ.out w3 hb3)
      | (go_at_call 46; (with_reducible refine (HCp.out _ hb3).mono ?_); rintro e w5 ⟨iv, fv, xs, fs, rfl, hN, hb5'⟩; have hb5 := below_then8 hb3 hb5'; obtain ⟨gi, cg, rfl, hgB, hgl⟩ := hN.form (by rw [Hl1.out]; omega); obtain ⟨gf, cf, rfl, hfB, hfl⟩ := hN.formF (by rw [Hl2.out]; omega); simp only [Hl1.out, Hl2.out] at hN ⊢; have Hhn := hid_ hN; clear hN; obtain ⟨w6, hw6⟩ : ∃ w6, w5.alloc (.cells #[.slice (some ⟨gi, 0, none⟩) n1 cg, .slice (some ⟨gf, 0, none⟩) 4 cf] 25) = w6 := ⟨_, rfl⟩; have b6 : Below w5.heap.size w5 w6 := (by rw [← hw6]; exact below_alloc _ _); have HN6 := hid_ (Hhn.out.below b6 (Nat.le_refl _)); have HOc := hid_ (show w6.ownsRow w5.heap.size 25 2 (.slice (some ⟨w5.heap.size, 0, none⟩) 1 1) 1 [.slice (some ⟨gi, 0, none⟩) n1 cg, .slice (some ⟨gf, 0, none⟩) 4 cf] by rw [← hw6]; exact World.ownsRow_lit (base := w5.heap.size) (e := 25) (size := 2) w5 #[.slice (some ⟨gi, 0, none⟩) n1 cg, .slice (some ⟨gf, 0, none⟩) 4 cf] 1 (Nat.le_refl _) (by unfold maxLen; omega) rfl); have e61 : w6.cell? ⟨w5.heap.size, 1, none⟩ = some (.slice (some ⟨gf, 0, none⟩) 4 cf) := HOc.out.cellAt 1 (by omega); have Hb6 := hid_ (hb5.trans (b6.mono hb5.size)); have H3 := hid_ hb3.size; clear b6))
    clear hw6 e61
    go_loopw [19] (fun iv wr => ∃ k : Nat, k ≤ 4 ∧ iv = .int .i64 k ∧ Below w2.heap.size w2 wr ∧ wr.ownsRow w5.heap.size 25 2 (.slice (some ⟨w5.heap.size, 0, none⟩) 1 1) 1 [.slice (some ⟨gi, 0, none⟩) n1 cg, .slice (some ⟨gf, 0, none⟩) 4 cf] ∧ NewL wr w3.heap.size (.slice (some ⟨gi, 0, none⟩) n1 cg) (.slice (some ⟨gf, 0, none⟩) 4 cf) xs fs ⟨L.items, zerK L.follow k⟩) (fun iv _ => 4 - (intOf iv).toNat)
    case atStart => exact ⟨0, by omega, rfl, Hb6.out, HOc.out, by rw [zerK_0]; exact HN6.out⟩
    case round =>
      clear HOc HN6
      obtain ⟨k, hk, rfl, hbr, hoc, hN⟩ := hrel
      by_cases hlt : k < 4
      · have hkF : k < L.follow.length := by rw [Hl2.out]; exact hlt
        have hat : (zerK L.follow k).getD k [] = L.follow.getD k [] := by rw [zerK_at _ _ hkF, if_neg (by omega)]
        obtain ⟨b, d, hfs, hcell, hrow, hled⟩ := hN.listAt (by show 4 = (zerK L.follow k).length; rw [zerK_len, Hl2.out]) hlt (by show 0 < ((zerK L.follow k).getD k []).length; rw [hat, Hr4.out k hlt]; omega)
        have hat' : ((⟨L.items, zerK L.follow k⟩ : Lx).follow.getD k []) = L.follow.getD k [] := hat
        rw [hat', Hr4.out k hlt] at hfs hcell hrow hled
        obtain ⟨s1, s2⟩ := own_setCells_at (List.replicate 4 (Value.int .i64 0)) 0 hrow (by rw [List.length_map, Hr4.out k hlt]; simp)
        have e9 : List.take 0 ((L.follow.getD k []).map (Value.int .i64)) ++ List.replicate 4 (Value.int .i64 0) ++ List.drop (0 + (List.replicate 4 (Value.int .i64 0)).length) ((L.follow.getD k []).map (Value.int .i64)) = (zerR (L.follow.getD k [])).map (Value.int .i64) := by
          rw [zerR_rep (Hr4.out k hlt), List.drop_of_length_le (by rw [List.length_map, Hr4.out k hlt]; simp)]; rfl
        rw [e9] at s1
        have hz4 : (zerR (L.follow.getD k [])).length = 4 := by rw [zerR_rep (Hr4.out k hlt)]; rfl
        have hcl : ∀ ty, (Builtin.clear_ #[26] ty #[.slice (some ⟨b, 0, none⟩) 4 d]).run Try.prog wr = .ok (.tuple #[]) (wr.setCells b 0 (List.replicate 4 (.int .i64 0))) :=
          fun ty => Lib.run_clear_slice wr 26 3 ty (.int .i64 0) Try.underlying26 (zero_run8 hi1 hy0) rfl rfl b 0 4 d (by omega) (fun j hj => by rw [Nat.zero_add, hrow.cellAt j (by omega), List.getElem?_eq_getElem (by rw [List.length_map, Hr4.out k hlt]; exact hj)]; rfl) (fun j hj => hrow.frozenAt _)
        have hN8 := hN.turnF (k := k) (r := zerR (L.follow.getD k [])) (by rw [zerK_len]; exact hkF) hfs s2 (by rw [hz4]; exact s1)
        rw [zerK_next _ hkF] at hN8
        have HN8 := hid_ hN8
        have HOc8 := hid_ (own_kept_ne hoc s2 (fun b' hb' => own_apart hoc hrow (by decide) b' hb'))
        have Hb8 := hid_ (below_setCells hbr (g := b) (Nat.le_trans H3.out (hrow.lt b rfl).1) (List.replicate 4 (Value.int .i64 0)) 0)
        clear hN hN8 hoc hrow s1 s2 e9 hat hat' hfs hz4
        go_wp2
        go_roundw
        case rel => exact ⟨k + 1, by omega, by go_num, Hb8.out, HOc8.out, HN8.out⟩
        case measure => simp [intOf]; omega
      · obtain rfl : k = 4 := by omega
        have hz : zerK L.follow 4 = L.follow.map zerR := by rw [← zerK_all, Hl2.out]
        rw [hz] at hN
        have HN := hid_ hN
        have d0 : wr.cell? ⟨w5.heap.size, 0, none⟩ = some (.slice (some ⟨gi, 0, none⟩) n1 cg) := hoc.cellAt 0 (by omega)
        have d1 : wr.cell? ⟨w5.heap.size, 1, none⟩ = some (.slice (some ⟨gf, 0, none⟩) 4 cf) := hoc.cellAt 1 (by omega)
        obtain ⟨s0, s1, g0, g1⟩ := HRs.out wr hbr
        have Hbr := hid_ hbr
        clear hN hoc hbr hz
        obtain ⟨t0, t1⟩ := two_stored (x := .slice (some ⟨gi, 0, none⟩) n1 cg) (y := .slice (some ⟨gf, 0, none⟩) 4 cf) s0 s1
        go_wp2
        refine bodyPost_ret (v := .tuple #[.agg #[.slice (some ⟨gi, 0, none⟩) n1 cg, .slice (some ⟨gf, 0, none⟩) 4 cf], .int .i64 0]) ?_ rfl ⟨_, _, xs, fs, rfl, ?_, ?_⟩
        · simp [results, Try.results24, go_sem, t0, t1]
        · exact ((HN.out.base H3.out).res (by have := Z2.out; omega) _ _).base (by have := Z2.out; omega)
        · have hf := Hb2.out.trans (Hbr.out.mono Hb2.out.size)
          exact (hf.setCell (p := ⟨w.heap.size + 1, 0, none⟩) (by show _ ≤ _ + 1; omega) _).setCell (p := ⟨w.heap.size + 1, 1, none⟩) (by show _ ≤ _ + 1; omega) _
  · have hq : (validL L != 0) = true := by simpa using he
    rw [if_neg he] at HD
    rw [HD.out]
    generalize validL L = x at *
    clear he h1 h2 HP HP1 cb b2 z2
    go_enter Try.func24, Try.ntmps24
    go_wp2_with (go_at_call 44; (with_reducible refine HV.out.mono ?_); rintro e w3 ⟨rfl, hb3⟩; obtain ⟨s0, s1, g0, g1⟩ := HRs.out w3 hb3)
    obtain ⟨t0, t1⟩ := two_stored (x := .slice none 0 0) (y := .slice none 0 0) s0 s1
    refine bodyPost_ret (v := .tuple #[.agg #[.slice none 0 0, .slice none 0 0], .int .i64 x]) ?_ rfl ⟨_, _, [], [], rfl, NewI.nil0 _ _ _ _ _ (by decide) (by decide) (by decide), ?_⟩
    · simp [results, Try.results24, go_sem, t0, t1]
    · have hf := Hb2.out.trans (hb3.mono Hb2.out.size)
      exact (hf.setCell (p := ⟨w.heap.size + 1, 0, none⟩) (by show _ ≤ _ + 1; omega) _).setCell (p := ⟨w.heap.size + 1, 1, none⟩) (by show _ ≤ _ + 1; omega) _
end Go.Proofs.Ytgpenbajhndhiaa
namespace Go.Proofs.Kv
open Go.RowKit Go
/-- the first i numbers put to naught -/
def zerP (r : List Int) (i : Nat) : List Int := List.replicate i 0 ++ r.drop i
theorem zerP_0 (r : List Int) : zerP r 0 = r := by simp [zerP]
theorem zerP_len {r : List Int} {i n : Nat} (h : r.length = n) (hi : i ≤ n) : (zerP r i).length = n := by simp [zerP, h]; omega
theorem zerP_all {r : List Int} {n : Nat} (h : r.length = n) : zerP r n = zerR r := by
  rw [zerR_rep h, zerP, List.drop_of_length_le (by omega), List.append_nil]
theorem zerP_next {r : List Int} {i n : Nat} (h : r.length = n) (hi : i < n) : ((zerP r i).map (Value.int .i64)).set i (.int .i64 0) = (zerP r (i + 1)).map (Value.int .i64) := by
  apply List.ext_getElem
  · simp [zerP]; omega
  · intro j h1 h2
    simp only [List.getElem_set, List.getElem_map, zerP]
    by_cases e : i = j
    · subst e
      rw [if_pos rfl, List.getElem_append_left (by simp)]; simp
    · rw [if_neg e]
      by_cases hj : j < i
      · rw [List.getElem_append_left (by simpa using hj), List.getElem_append_left (by simp; omega)]; simp
      · rw [List.getElem_append_right (by simp; omega), List.getElem_append_right (by simp; omega)]
        simp only [List.length_replicate, List.getElem_drop]
        congr 2; omega
end Go.Proofs.Kv
namespace Go.Proofs.Ytgpenbajhndhiaa
open Go.RowKit Go.Proofs.Kv Go

end Go.Proofs.Ytgpenbajhndhiaa
namespace Go.Proofs.Ytgpenbajhndhiaa
open Go.RowKit Go.Proofs.Kv Go

/-! ### everything may follow -/
theorem zerR_at (r : List Int) (j : Nat) : (zerR r).getD j 0 = 0 := by
  unfold zerR
  simp only [List.getD, List.getElem?_map]
  cases r[j]? <;> rfl
theorem free_fv (L : Lx) (a b : Int) : fvI (freeL L) a b = 0 := by
  unfold fvI follV freeL
  show ((L.follow.map zerR).getD _ []).getD _ 0 = 0
  simp only [List.getD, List.getElem?_map]
  cases L.follow[((L.items[a.toNat]?).getD I0).kind.toNat]? with
  | none => rfl
  | some r => exact zerR_at r _
theorem free_ok (L : Lx) (s : List Int) : okF (freeL L) s = true := okF_yes rfl fun k _ => by
  unfold okC; rw [free_fv]; simp
theorem free_good {L : Lx} (g : GoodL L) : GoodL (freeL L) where
  ge := g.ge
  le := g.le
  word := g.word
  kind := g.kind
  cost := g.cost
  rows := by show (L.follow.map zerR).length = 4; rw [List.length_map]; exact g.rows
  row k hk := by
    have hl := g.rows
    have e : (freeL L).follow.getD k [] = zerR (L.follow.getD k []) := by
      show (L.follow.map zerR).getD k [] = _
      simp only [List.getD, List.getElem?_map]
      rw [List.getElem?_eq_getElem (show k < L.follow.length by omega)]; rfl
    rw [e]
    obtain ⟨r1, r2⟩ := g.row k hk
    refine ⟨by simp [zerR]; exact r1, ?_⟩
    rw [zerR_rep r1]; decide
theorem itemsB_app {L : Lx} {s s' : List Int} : itemsB L (s ++ s') = true ↔ itemsB L s = true ∧ itemsB L s' = true := by
  unfold itemsB areB; rw [List.all_append, Bool.and_eq_true]
theorem wordsL_app (L : Lx) (s s' : List Int) : wordsL L (s ++ s') = wordsL L s ++ wordsL L s' := by simp [wordsL]
theorem cut_same {L : Lx} (g : GoodL L) {s d s' d' : List Int} (hs : itemsB L s = true) (hs' : itemsB L s' = true) (hw : wordsL L s = wordsL L s') (h : s ++ d = s' ++ d') : s = s' := by
  rcases List.append_eq_append_iff.1 h with ⟨e, h1, h2⟩ | ⟨e, h1, h2⟩
  · subst h1
    have h3 := (itemsB_app.1 hs').2
    rw [wordsL_app] at hw
    have h4 : wordsL L e = [] := by
      have := congrArg List.length hw
      rw [List.length_append] at this
      exact List.length_eq_zero_iff.1 (by omega)
    have h5 := itemsB_len g e.length rfl h3
    rw [h4] at h5
    have : e = [] := List.length_eq_zero_iff.1 (by simpa using h5)
    rw [this, List.append_nil]
  · subst h1
    have h3 := (itemsB_app.1 hs).2
    rw [wordsL_app] at hw
    have h4 : wordsL L e = [] := by
      have := congrArg List.length hw
      rw [List.length_append] at this
      exact List.length_eq_zero_iff.1 (by omega)
    have h5 := itemsB_len g e.length rfl h3
    rw [h4] at h5
    have : e = [] := List.length_eq_zero_iff.1 (by simpa using h5)
    rw [this, List.append_nil]
theorem len_prod {A B C : List (List Int)} (hA : A.Nodup) (hB : B.Nodup) (hC : ∀ a ∈ A, ∀ b ∈ B, a ++ b ∈ C) (hi : ∀ a ∈ A, ∀ a' ∈ A, ∀ b ∈ B, ∀ b' ∈ B, a ++ b = a' ++ b' → a = a') : A.length * B.length ≤ C.length := by
  have hn : (A.flatMap fun a => B.map fun b => a ++ b).Nodup := by
    unfold List.Nodup
    rw [List.pairwise_flatMap]
    refine ⟨fun a _ => ?_, ?_⟩
    · rw [List.pairwise_map]
      exact hB.imp fun hne e => hne (List.append_cancel_left e)
    · refine hA.imp_of_mem fun {a a'} ha ha' hne x hx y hy e => ?_
      obtain ⟨b, hb, rfl⟩ := List.mem_map.1 hx
      obtain ⟨b', hb', rfl⟩ := List.mem_map.1 hy
      exact hne (hi a ha a' ha' b hb b' hb' e)
  have hl : (A.flatMap fun a => B.map fun b => a ++ b).length = A.length * B.length := by
    clear hn hA hC hi
    induction A with
    | nil => simp
    | cons a A ih => rw [List.flatMap_cons, List.length_append, ih, List.length_map, List.length_cons, Nat.add_mul, Nat.one_mul, Nat.add_comm]
  rw [← hl]
  exact len_le_sub8 hn fun x hx => by
    obtain ⟨a, ha, hx⟩ := List.mem_flatMap.1 hx
    obtain ⟨b, hb, rfl⟩ := List.mem_map.1 hx
    exact hC a ha b hb
theorem free_prod {L : Lx} (g : GoodL L) (u v : List Int) : cntA (freeL L) u * cntA (freeL L) v ≤ cntA (freeL L) (u ++ v) := by
  have g' := free_good g
  have h := len_prod (C := allS (freeL L) (u ++ v)) (nodup_allS g' u) (nodup_allS g' v) (fun a ha b hb => by
    obtain ⟨a1, a2, -⟩ := (mem_allS g' u a).1 ha
    obtain ⟨b1, b2, -⟩ := (mem_allS g' v b).1 hb
    exact (mem_allS g' (u ++ v) _).2 ⟨itemsB_app.2 ⟨a1, b1⟩, by rw [wordsL_app, a2, b2], free_ok L _⟩) (fun a ha a' ha' b _ b' _ e => by
    obtain ⟨a1, a2, -⟩ := (mem_allS g' u a).1 ha
    obtain ⟨b1, b2, -⟩ := (mem_allS g' u a').1 ha'
    exact cut_same g' a1 b1 (a2.trans b2.symm) e)
  unfold cntA
  exact_mod_cast h
theorem cntA_small {L : Lx} (g : GoodL L) {t : List Int} (ht : t.length ≤ 12) : 0 ≤ cntA L t ∧ cntA L t ≤ 549755813888 := by
  refine ⟨by unfold cntA; omega, ?_⟩
  unfold cntA allS
  by_cases h0 : t.length = 0
  · rw [if_pos h0]; simp
  · rw [if_neg h0]
    have h := len_allP g t ht L.items.length (Nat.le_refl _)
    have := g.le
    show ((allP L t L.items.length).length : Int) ≤ _
    omega
theorem free_facts {L : Lx} (h : validL L = 0) (u v : List Int) (h2 : textE (freeL L) (u ++ v) = 0) : 0 ≤ countV (freeL L) u ∧ 0 ≤ countV (freeL L) v ∧ countV (freeL L) u * countV (freeL L) v ≤ countV (freeL L) (u ++ v) ∧ countV (freeL L) (u ++ v) ≤ 549755813888 := by
  have g := validL_ok h
  have g' := free_good g
  obtain ⟨-, h12, hb⟩ := textE_ok h2
  rw [List.length_append] at h12
  have hbu : areB u 0 5 = true ∧ areB v 0 5 = true := by
    unfold areB at hb ⊢; rw [List.all_append, Bool.and_eq_true] at hb; exact hb
  have e1 : textE (freeL L) u = 0 := by unfold textE; rw [validL_yes g', if_pos rfl, if_neg (by omega), if_pos hbu.1]
  have e2 : textE (freeL L) v = 0 := by unfold textE; rw [validL_yes g', if_pos rfl, if_neg (by omega), if_pos hbu.2]
  unfold countV
  rw [if_pos e1, if_pos e2, if_pos h2]
  exact ⟨(cntA_small g' (by omega)).1, (cntA_small g' (by omega)).1, free_prod g u v, (cntA_small g' (by rw [List.length_append]; omega)).2⟩
end Go.Proofs.Ytgpenbajhndhiaa
namespace Go.Proofs.Ytgpenbajhndhiaa
open Go.RowKit Go.Proofs.Kv Go

/-! ### the law TagFree -/
end Go.Proofs.Ytgpenbajhndhiaa
