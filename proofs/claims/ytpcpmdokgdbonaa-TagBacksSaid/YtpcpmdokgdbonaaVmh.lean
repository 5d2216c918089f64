import Derived.Test.YtpcpmdokgdbonaaVmg
import Derived.Test.YtpcpmdokgdbonaaVO
import Derived.Lib.SliceRun
namespace Go.Proofs.Ytpcpmdokgdbonaa
open Go.RowKit Go.Proofs.Kv Go

/-! ### lexicons beside lexicons -/
theorem validL_yes {L : Lx} (g : GoodL L) : validL L = 0 := by
  unfold validL
  have h1 := g.ge; have h2 := g.le
  rw [if_pos (by simp only [Within, Bool.and_eq_true, decide_eq_true_eq]; omega)]
  have h3 : L.items.any (fun x => !itemOk x) = false := any_no I0 rfl fun j hj => by
    obtain ⟨w1, w2, w3⟩ := g.word j hj
    obtain ⟨k1, k2⟩ := g.kind j hj
    obtain ⟨c1, c2⟩ := g.cost j hj
    rw [Bool.not_eq_false']
    simp only [itemOk, Within, Bool.and_eq_true, decide_eq_true_eq]
    exact ⟨⟨by omega, by omega⟩, w3, ⟨k1, k2⟩, c1, c2⟩
  rw [if_neg (by rw [h3]; decide)]
  have h4 : rowsB L.follow 4 4 (-1) 99 = true := by
    rw [rowsB_all g.rows (fun k hk => by
      obtain ⟨r1, r2⟩ := g.row k hk
      rw [rowOk8, r2, decide_eq_true (by omega)]; rfl)]
    decide
  rw [if_pos h4]
theorem textE_eq {L L' : Lx} (g : GoodL L) (g' : GoodL L') (t : List Int) : textE L t = textE L' t := by
  unfold textE; rw [validL_yes g, validL_yes g']
theorem cnt_map {L L' : Lx} {t t' : List Int} (g : GoodL L) (g' : GoodL L') (f : List Int → List Int) (hf : ∀ s, isS L t s → isS L' t' (f s)) (hi : ∀ s s', isS L t s → isS L t s' → f s = f s' → s = s') : cntA L t ≤ cntA L' t' := by
  have hn : ((allS L t).map f).Nodup := by
    unfold List.Nodup
    rw [List.pairwise_map]
    exact (nodup_allS g t).imp_of_mem fun ha hb hne e => hne (hi _ _ ((mem_allS g t _).1 ha) ((mem_allS g t _).1 hb) e)
  have := len_le_sub8 hn (m := allS L' t') fun x hx => by
    obtain ⟨s, hs, rfl⟩ := List.mem_map.1 hx
    exact (mem_allS g' t' _).2 (hf s ((mem_allS g t _).1 hs))
  rw [List.length_map] at this
  unfold cntA; omega
theorem lst_le {L L' : Lx} {t t' : List Int} (g : GoodL L) (g' : GoodL L') (h : ∀ s', isS L' t' s' → ∃ s, isS L t s ∧ sumC L s ≤ sumC L' s') : lstA L t ≤ lstA L' t' := by
  unfold lstA
  refine le_minN (minN_le _) fun x hx => ?_
  obtain ⟨s', hs', rfl⟩ := List.mem_map.1 hx
  obtain ⟨s, hs, hle⟩ := h s' ((mem_allS g' t' _).1 hs')
  exact Int.le_trans (minN_mem (List.mem_map.2 ⟨s, (mem_allS g t _).2 hs, rfl⟩)) hle
theorem leastB_of {L L' : Lx} {t t' : List Int} (ht : textE L t = textE L' t') (h : cntA L t = cntA L' t') : leastB L t = leastB L' t' := by
  unfold leastB; rw [ht, h]

/-! ### a dearer item -/
theorem setCost_len (L : Lx) (i : Nat) (k : Int) : (setCost L i k).items.length = L.items.length := by simp [setCost]
theorem setCost_at (L : Lx) (i : Nat) (k : Int) (j : Nat) : ((setCost L i k).items.getD j I0).word = (L.items.getD j I0).word ∧ ((setCost L i k).items.getD j I0).kind = (L.items.getD j I0).kind ∧ ((setCost L i k).items.getD j I0).cost = if j = i ∧ i < L.items.length then k else (L.items.getD j I0).cost := by
  show ((L.items.set i _).getD j I0).word = _ ∧ _
  by_cases hi : i < L.items.length
  · show _ ∧ ((L.items.set i _).getD j I0).kind = _ ∧ ((L.items.set i _).getD j I0).cost = _
    rw [getD_set8 _ _ _ _ _ hi]
    by_cases e : j = i
    · subst e; rw [if_pos rfl, if_pos ⟨rfl, hi⟩]; exact ⟨rfl, rfl, rfl⟩
    · rw [if_neg e, if_neg (by omega)]; exact ⟨rfl, rfl, rfl⟩
  · show _ ∧ ((L.items.set i _).getD j I0).kind = _ ∧ ((L.items.set i _).getD j I0).cost = _
    rw [List.set_eq_of_length_le (by omega), if_neg (by omega)]; exact ⟨rfl, rfl, rfl⟩
theorem setCost_good {L : Lx} (g : GoodL L) (i : Nat) {k : Int} (h0 : 0 ≤ k) (h1 : k ≤ 99) : GoodL (setCost L i k) where
  ge := by rw [setCost_len]; exact g.ge
  le := by rw [setCost_len]; exact g.le
  word j hj := by rw [setCost_len] at hj; rw [(setCost_at L i k j).1]; exact g.word j hj
  kind j hj := by rw [setCost_len] at hj; rw [(setCost_at L i k j).2.1]; exact g.kind j hj
  cost j hj := by
    rw [setCost_len] at hj; rw [(setCost_at L i k j).2.2]
    split
    · exact ⟨h0, h1⟩
    · exact g.cost j hj
  rows := g.rows
  row := g.row
theorem setCost_words (L : Lx) (i : Nat) (k : Int) (s : List Int) : wordsL (setCost L i k) s = wordsL L s := by
  unfold wordsL
  refine flatMap_congr8 fun x _ => ?_
  unfold wordL; exact (setCost_at L i k _).1
theorem setCost_fv (L : Lx) (i : Nat) (k : Int) (a b : Int) : fvI (setCost L i k) a b = fvI L a b := by
  unfold fvI follV
  rw [(setCost_at L i k _).2.1, (setCost_at L i k _).2.1]; rfl
theorem setCost_isS (L : Lx) (i : Nat) (k : Int) (t s : List Int) : isS (setCost L i k) t s ↔ isS L t s := by
  unfold isS
  have e1 : itemsB (setCost L i k) s = itemsB L s := by unfold itemsB; rw [setCost_len]
  have e2 : okF (setCost L i k) s = okF L s := by
    unfold okF
    congr 1
    funext j; unfold okC; rw [setCost_fv]
  rw [e1, e2, setCost_words]
theorem setCost_sum {L : Lx} {i : Nat} {k : Int} (hk : (L.items.getD i I0).cost ≤ k) (s : List Int) : sumC L s ≤ sumC (setCost L i k) s := by
  have key : ∀ n, sumK L s n ≤ sumK (setCost L i k) s n := fun n => by
    induction n with
    | zero => exact Int.le_refl _
    | succ n ih =>
      have : stepC L s n ≤ stepC (setCost L i k) s n := by
        unfold stepC
        have hc : costI L (s.getD n 0) ≤ costI (setCost L i k) (s.getD n 0) := by
          unfold costI
          rw [(setCost_at L i k _).2.2]
          split
          · rename_i h; rw [h.1]; exact hk
          · exact Int.le_refl _
        rw [setCost_fv]; omega
      show sumK L s n + _ ≤ sumK _ s n + _
      omega
  exact key _
theorem dearer_facts {L : Lx} {i b : Int} (h : drE L i b = 0) (t : List Int) : GoodL L ∧ textE (drL L i b) t = textE L t ∧ leastB (drL L i b) t = leastB L t ∧ (0 ≤ b → leastV L t ≤ leastV (drL L i b) t) := by
  have h0 := h
  unfold drE at h
  by_cases hv : viE L [i] = 0
  · rw [if_pos hv] at h
    by_cases hin : 0 ≤ costI L i + b ∧ costI L i + b ≤ 99
    · have g := validL_ok (viE_ok hv).1
      have hD : drL L i b = setCost L i.toNat (costI L i + b) := by unfold drL; rw [if_pos h0]
      rw [hD]
      have g' := setCost_good g i.toNat hin.1 hin.2
      have ht := textE_eq g' g t
      have hc : cntA (setCost L i.toNat (costI L i + b)) t = cntA L t := Int.le_antisymm
        (cnt_map g' g id (fun s hs => (setCost_isS L _ _ t s).1 hs) (fun s s' _ _ e => e))
        (cnt_map g g' id (fun s hs => (setCost_isS L _ _ t s).2 hs) (fun s s' _ _ e => e))
      have hl := leastB_of ht hc
      refine ⟨g, ht, hl, fun hb => ?_⟩
      unfold leastV
      rw [hl]
      split
      · exact lst_le g g' fun s' hs' => ⟨s', (setCost_isS L _ _ t s').1 hs', setCost_sum (by unfold costI; omega) s'⟩
      · exact Int.le_refl _
    · rw [if_neg hin] at h; cases h
  · rw [if_neg hv] at h; exact absurd h hv
end Go.Proofs.Ytpcpmdokgdbonaa
namespace Go.Proofs.Kv
open Go.RowKit Go
theorem NewI.lits {EI EL E1 : TypeId} {w : World} {B : Nat} {iv fv : Value} {xs : List Ic} {fs : List Value} {L : Lx} (h : NewI EI EL E1 w B iv fv xs fs L) : ∃ a n c a' n' c', iv = .slice a n c ∧ fv = .slice a' n' c' ∧ LexAt w (.agg #[.slice a n c, .slice a' n' c']) L := by
  obtain ⟨a, c, rfl, h1⟩ := h.itemsAt
  obtain ⟨a', c', rfl, h2⟩ := h.listsAt
  exact ⟨a, _, c, a', _, c', rfl, rfl, a, _, c, a', _, c', rfl, h1, h2⟩
end Go.Proofs.Kv
namespace Go.Proofs.Ytpcpmdokgdbonaa
open Go.RowKit Go.Proofs.Kv Go

/-! ### the law TagDearer -/
set_option maxRecDepth 100000 in
set_option maxHeartbeats 8000000 in
theorem tagDearer_calls (v : Value) (L : Lx) (a : Option Addr) (n c : Nat) (t : List Int) (i b : Int) (w : World) (h : LexAt w v L) (ht : IntsAt w a n c t) :
    Calls Try.prog 7 #[v, .slice a n c, .agg #[.int .i64 i, .int .i64 b]] w fun e w' => e = .returned (.bool true) ∧ Below w.heap.size w w' := by
  have HP := hid_ h
  obtain ⟨a1, n1, c1, a2, n2, c2, rfl, h1, h2⟩ := h
  obtain ⟨w1, hw1⟩ : ∃ w1, w.alloc (.cells #[.slice a1 n1 c1, .slice a2 n2 c2] 25) = w1 := ⟨_, rfl⟩
  have cb : Below w.heap.size w w1 := by rw [← hw1]; exact below_alloc _ _
  have q0 : w1.cell? ⟨w.heap.size, 0, none⟩ = some (.slice a1 n1 c1) := by rw [← hw1]; exact cells_alloc _ _ _ 0
  have q1 : w1.cell? ⟨w.heap.size, 1, none⟩ = some (.slice a2 n2 c2) := by rw [← hw1]; exact cells_alloc _ _ _ 1
  have HP1 := hid_ (HP.out.below cb (Nat.le_refl _)); have Hc1 := hid_ cb
  obtain ⟨w2, hw2⟩ : ∃ w2, w1.alloc (.cells #[.int .i64 i, .int .i64 b] 52) = w2 := ⟨_, rfl⟩
  have z1 : w1.heap.size = w.heap.size + 1 := by rw [← hw1]; simp
  have b2 : Below w1.heap.size w1 w2 := by rw [← hw2]; exact below_alloc _ _
  have hb2 : Below w.heap.size w w2 := cb.trans (b2.mono cb.size)
  have q02 := cell_below q0 b2; have q12 := cell_below q1 b2
  have k0 : w2.cell? ⟨w.heap.size + 1, 0, none⟩ = some (.int .i64 i) := by rw [← z1, ← hw2]; exact cells_alloc _ _ _ 0
  have k1 : w2.cell? ⟨w.heap.size + 1, 1, none⟩ = some (.int .i64 b) := by rw [← z1, ← hw2]; exact cells_alloc _ _ _ 1
  have HP2 := hid_ (HP.out.below hb2 (Nat.le_refl _))
  have ht2 := ht.below hb2 (Nat.le_refl _)
  have HG := hid_ (long8_calls _ L _ 1 1 [t] _ (HP2.out.below (below_alloc w2 (.cells #[.slice a n c] 26)) (Nat.le_refl _)) (lists1_8 w2 26 ht2))
  have Ha := hid_ (below_alloc w2 (.cells #[.slice a n c] 26))
  have HQ := hid_ (fun W (hW : Below w2.heap.size w2 W) => (⟨cell_below q02 hW, cell_below q12 hW, cell_below k0 hW, cell_below k1 hW⟩ : _ ∧ _ ∧ _ ∧ _))
  have HA := hid_ (fun W (hW : Below w2.heap.size w2 W) => taDearer_calls _ L i b W (HP2.out.below hW (Nat.le_refl _)))
  have HB := hid_ (fun W (hW : Below w2.heap.size w2 W) => r8Dearer_calls _ L i b W (HP2.out.below hW (Nat.le_refl _)))
  have HLe := hid_ (fun W (hW : Below w2.heap.size w2 W) => taLeast_calls _ L a n c t W (HP2.out.below hW (Nat.le_refl _)) (ht2.below hW (Nat.le_refl _)))
  have HLd := hid_ (fun W (hW : Below w2.heap.size w2 W) v' hv' => taLeast_calls v' (drL L i b) a n c t W hv' (ht2.below hW (Nat.le_refl _)))
  have HK := hid_ sane_calls
  have HF := fun h => @dearer_facts L i b h t
  have Hb2 := hid_ hb2
  clear h1 h2 HP HP1 cb ht ht2 hb2 b2
  cases hg : longX L [t] with
  | true =>
    rw [hg] at HG
    clear hg HF
    go_enter Try.func7, Try.ntmps7
    go_wp2_with (first
      | (go_at_call 11; (with_reducible refine HG.out.mono ?_); rintro e w3 ⟨rfl, hb3⟩; have Hb3 := hid_ (below_then8 Ha.out hb3); clear hb3)
      | (go_at_call 12; (with_reducible refine (HK.out _).mono ?_); rintro e w4 ⟨rfl, hb4⟩))
    go_ret
    exact ⟨rfl, Hb2.out.trans ((below_then8 Hb3.out hb4).mono Hb2.out.size)⟩
  | false =>
    rw [hg] at HG
    clear hg
    have hS := hid_ (fun W x y (hx : LexAt W x (drL L i b)) (hy : LexAt W y (drL L i b)) => r8Same_yes x y (drL L i b) W hx hy)
    generalize drL L i b = D at *
    generalize leastV L t = m at *
    generalize leastV D t = m' at *
    by_cases hE : drE L i b = 0
    · obtain ⟨-, e1, e2, e3⟩ := HF hE
      rw [hE] at HA HB
      rw [e1, e2] at HLd
      generalize leastB L t = s at *
      generalize textE L t = x at *
      have hxx : (x == x) = true := by simp
      have hss : (s == s) = true := by simp
      by_cases hb : b < 0
      · clear HF e1 e2 e3 hE
        go_enter Try.func7, Try.ntmps7
        go_wp2_with (first
          | (go_at_call 11; (with_reducible refine HG.out.mono ?_); rintro e w3 ⟨rfl, hb3'⟩; have hb3 := below_then8 Ha.out hb3'; obtain ⟨q3, p3, x3, y3⟩ := HQ.out w3 hb3)
          | (go_at_call 31; (with_reducible refine (HA.out _ hb3).mono ?_); rintro e w4 ⟨iv, fv, xs, fs, rfl, hN, hb4'⟩; have hb4 := below_then8 hb3 hb4'; obtain ⟨a4, n4, k4, d4, m4, l4, rfl, rfl, hL4⟩ := hN.lits; clear hN; obtain ⟨w5, hw5⟩ : ∃ W, w4.alloc (.cells #[.slice a4 n4 k4, .slice d4 m4 l4] 25) = W := ⟨_, rfl⟩; have bb5 : Below w4.heap.size w4 w5 := (by rw [← hw5]; exact below_alloc _ _); have HL5 := hid_ (hL4.below bb5 (Nat.le_refl _)); clear hL4; have hb5 := below_then8 hb4 bb5; obtain ⟨q5, p5, x5, y5⟩ := HQ.out w5 hb5; have c50 : w5.cell? ⟨w4.heap.size, 0, none⟩ = some (.slice a4 n4 k4) := (by rw [← hw5]; exact cells_alloc _ _ _ 0); have c51 : w5.cell? ⟨w4.heap.size, 1, none⟩ = some (.slice d4 m4 l4) := (by rw [← hw5]; exact cells_alloc _ _ _ 1); have z5 : w4.heap.size < w5.heap.size := (by rw [← hw5]; simp); clear bb5)
          | (go_at_call 32; (with_reducible refine (HB.out _ hb5).mono ?_); rintro e w6 ⟨iv, fv, xs, fs, rfl, hN, hb6'⟩; have hb6 := below_then8 hb5 hb6'; obtain ⟨a6, n6, k6, d6, m6, l6, rfl, rfl, hL6⟩ := hN.lits; clear hN; obtain ⟨w7, hw7⟩ : ∃ W, w6.alloc (.cells #[.slice a6 n6 k6, .slice d6 m6 l6] 25) = W := ⟨_, rfl⟩; have bb7 : Below w6.heap.size w6 w7 := (by rw [← hw7]; exact below_alloc _ _); have HL7 := hid_ (hL6.below bb7 (Nat.le_refl _)); clear hL6; have hb7 := below_then8 hb6 bb7; obtain ⟨q7, p7, x7, y7⟩ := HQ.out w7 hb7; have c60 := cell_below c50 hb6'; have c61 := cell_below c51 hb6'; have c70 := cell_below c60 bb7; have c71 := cell_below c61 bb7; have e70 : w7.cell? ⟨w6.heap.size, 0, none⟩ = some (.slice a6 n6 k6) := (by rw [← hw7]; exact cells_alloc _ _ _ 0); have e71 : w7.cell? ⟨w6.heap.size, 1, none⟩ = some (.slice d6 m6 l6) := (by rw [← hw7]; exact cells_alloc _ _ _ 1); have HL75 := hid_ ((HL5.out.below hb6' (Nat.le_refl _)).below bb7 (Nat.le_refl _)); have HSa := hid_ (hS.out _ _ _ HL75.out HL7.out); clear c60 c61 bb7)
          | (go_at_call 28; (with_reducible refine HSa.out.mono ?_); rintro e w8 ⟨rfl, hb8'⟩; have hb8 := below_then8 hb7 hb8'; obtain ⟨q8, p8, x8, y8⟩ := HQ.out w8 hb8; have c80 := cell_below c70 hb8'; have c81 := cell_below c71 hb8'; have HL8 := hid_ (HL75.out.below hb8' (Nat.le_refl _)))
          | (go_at_call 12; (with_reducible refine (HK.out _).mono ?_); rintro e w9 ⟨rfl, hb9⟩))
        go_ret
        exact ⟨rfl, Hb2.out.trans ((below_then8 hb8 hb9).mono Hb2.out.size)⟩
      · have hle := e3 (by omega)
        clear HF e1 e2 e3 hE
        go_enter Try.func7, Try.ntmps7
        go_wp2_with (first
          | (go_at_call 11; (with_reducible refine HG.out.mono ?_); rintro e w3 ⟨rfl, hb3'⟩; have hb3 := below_then8 Ha.out hb3'; obtain ⟨q3, p3, x3, y3⟩ := HQ.out w3 hb3)
          | (go_at_call 31; (with_reducible refine (HA.out _ hb3).mono ?_); rintro e w4 ⟨iv, fv, xs, fs, rfl, hN, hb4'⟩; have hb4 := below_then8 hb3 hb4'; obtain ⟨a4, n4, k4, d4, m4, l4, rfl, rfl, hL4⟩ := hN.lits; clear hN; obtain ⟨w5, hw5⟩ : ∃ W, w4.alloc (.cells #[.slice a4 n4 k4, .slice d4 m4 l4] 25) = W := ⟨_, rfl⟩; have bb5 : Below w4.heap.size w4 w5 := (by rw [← hw5]; exact below_alloc _ _); have HL5 := hid_ (hL4.below bb5 (Nat.le_refl _)); clear hL4; have hb5 := below_then8 hb4 bb5; obtain ⟨q5, p5, x5, y5⟩ := HQ.out w5 hb5; have c50 : w5.cell? ⟨w4.heap.size, 0, none⟩ = some (.slice a4 n4 k4) := (by rw [← hw5]; exact cells_alloc _ _ _ 0); have c51 : w5.cell? ⟨w4.heap.size, 1, none⟩ = some (.slice d4 m4 l4) := (by rw [← hw5]; exact cells_alloc _ _ _ 1); have z5 : w4.heap.size < w5.heap.size := (by rw [← hw5]; simp); clear bb5)
          | (go_at_call 32; (with_reducible refine (HB.out _ hb5).mono ?_); rintro e w6 ⟨iv, fv, xs, fs, rfl, hN, hb6'⟩; have hb6 := below_then8 hb5 hb6'; obtain ⟨a6, n6, k6, d6, m6, l6, rfl, rfl, hL6⟩ := hN.lits; clear hN; obtain ⟨w7, hw7⟩ : ∃ W, w6.alloc (.cells #[.slice a6 n6 k6, .slice d6 m6 l6] 25) = W := ⟨_, rfl⟩; have bb7 : Below w6.heap.size w6 w7 := (by rw [← hw7]; exact below_alloc _ _); have HL7 := hid_ (hL6.below bb7 (Nat.le_refl _)); clear hL6; have hb7 := below_then8 hb6 bb7; obtain ⟨q7, p7, x7, y7⟩ := HQ.out w7 hb7; have c60 := cell_below c50 hb6'; have c61 := cell_below c51 hb6'; have c70 := cell_below c60 bb7; have c71 := cell_below c61 bb7; have e70 : w7.cell? ⟨w6.heap.size, 0, none⟩ = some (.slice a6 n6 k6) := (by rw [← hw7]; exact cells_alloc _ _ _ 0); have e71 : w7.cell? ⟨w6.heap.size, 1, none⟩ = some (.slice d6 m6 l6) := (by rw [← hw7]; exact cells_alloc _ _ _ 1); have HL75 := hid_ ((HL5.out.below hb6' (Nat.le_refl _)).below bb7 (Nat.le_refl _)); have HSa := hid_ (hS.out _ _ _ HL75.out HL7.out); clear c60 c61 bb7)
          | (go_at_call 28; (with_reducible refine HSa.out.mono ?_); rintro e w8 ⟨rfl, hb8'⟩; have hb8 := below_then8 hb7 hb8'; obtain ⟨q8, p8, x8, y8⟩ := HQ.out w8 hb8; have c80 := cell_below c70 hb8'; have c81 := cell_below c71 hb8'; have HL8 := hid_ (HL75.out.below hb8' (Nat.le_refl _)))
          | (go_at_call 13; (with_reducible refine (HLe.out _ hb8).mono ?_); rintro e w9 ⟨rfl, hb9'⟩; have hb9 := below_then8 hb8 hb9'; obtain ⟨q9, p9, x9, y9⟩ := HQ.out w9 hb9; have c90 := cell_below c80 hb9'; have c91 := cell_below c81 hb9'; have HL9 := hid_ (HL8.out.below hb9' (Nat.le_refl _)))
          | (go_at_call 13; (with_reducible refine (HLd.out _ hb9 _ HL9.out).mono ?_); rintro e w10 ⟨rfl, hb10'⟩; have hb10 := below_then8 hb9 hb10')
          | (go_at_call 12; (with_reducible refine (HK.out _).mono ?_); rintro e w11 ⟨rfl, hb11⟩))
        go_ret
        exact ⟨rfl, Hb2.out.trans ((below_then8 hb10 hb11).mono Hb2.out.size)⟩
    · have hq : (drE L i b != 0) = true := by simpa using hE
      generalize drE L i b = y at *
      have hyy : (y != y) = false := by simp
      clear HF hE
      go_enter Try.func7, Try.ntmps7
      go_wp2_with (first
        | (go_at_call 11; (with_reducible refine HG.out.mono ?_); rintro e w3 ⟨rfl, hb3'⟩; have hb3 := below_then8 Ha.out hb3'; obtain ⟨q3, p3, x3, y3⟩ := HQ.out w3 hb3)
        | (go_at_call 31; (with_reducible refine (HA.out _ hb3).mono ?_); rintro e w4 ⟨iv, fv, xs, fs, rfl, hN, hb4'⟩; have hb4 := below_then8 hb3 hb4'; obtain ⟨a4, n4, k4, d4, m4, l4, rfl, rfl, hL4⟩ := hN.lits; clear hN; obtain ⟨w5, hw5⟩ : ∃ W, w4.alloc (.cells #[.slice a4 n4 k4, .slice d4 m4 l4] 25) = W := ⟨_, rfl⟩; have bb5 : Below w4.heap.size w4 w5 := (by rw [← hw5]; exact below_alloc _ _); have HL5 := hid_ (hL4.below bb5 (Nat.le_refl _)); clear hL4; have hb5 := below_then8 hb4 bb5; obtain ⟨q5, p5, x5, y5⟩ := HQ.out w5 hb5; have c50 : w5.cell? ⟨w4.heap.size, 0, none⟩ = some (.slice a4 n4 k4) := (by rw [← hw5]; exact cells_alloc _ _ _ 0); have c51 : w5.cell? ⟨w4.heap.size, 1, none⟩ = some (.slice d4 m4 l4) := (by rw [← hw5]; exact cells_alloc _ _ _ 1); have z5 : w4.heap.size < w5.heap.size := (by rw [← hw5]; simp); clear bb5)
        | (go_at_call 32; (with_reducible refine (HB.out _ hb5).mono ?_); rintro e w6 ⟨iv, fv, xs, fs, rfl, hN, hb6'⟩; have hb6 := below_then8 hb5 hb6'; obtain ⟨a6, n6, k6, d6, m6, l6, rfl, rfl, hL6⟩ := hN.lits; clear hN; obtain ⟨w7, hw7⟩ : ∃ W, w6.alloc (.cells #[.slice a6 n6 k6, .slice d6 m6 l6] 25) = W := ⟨_, rfl⟩; have bb7 : Below w6.heap.size w6 w7 := (by rw [← hw7]; exact below_alloc _ _); have HL7 := hid_ (hL6.below bb7 (Nat.le_refl _)); clear hL6; have hb7 := below_then8 hb6 bb7; obtain ⟨q7, p7, x7, y7⟩ := HQ.out w7 hb7; have c60 := cell_below c50 hb6'; have c61 := cell_below c51 hb6'; have c70 := cell_below c60 bb7; have c71 := cell_below c61 bb7; have e70 : w7.cell? ⟨w6.heap.size, 0, none⟩ = some (.slice a6 n6 k6) := (by rw [← hw7]; exact cells_alloc _ _ _ 0); have e71 : w7.cell? ⟨w6.heap.size, 1, none⟩ = some (.slice d6 m6 l6) := (by rw [← hw7]; exact cells_alloc _ _ _ 1); have HL75 := hid_ ((HL5.out.below hb6' (Nat.le_refl _)).below bb7 (Nat.le_refl _)); have HSa := hid_ (hS.out _ _ _ HL75.out HL7.out); clear c60 c61 bb7)
        | (go_at_call 28; (with_reducible refine HSa.out.mono ?_); rintro e w8 ⟨rfl, hb8'⟩; have hb8 := below_then8 hb7 hb8'; obtain ⟨q8, p8, x8, y8⟩ := HQ.out w8 hb8; have c80 := cell_below c70 hb8'; have c81 := cell_below c71 hb8'; have HL8 := hid_ (HL75.out.below hb8' (Nat.le_refl _)))
        | (go_at_call 12; (with_reducible refine (HK.out _).mono ?_); rintro e w9 ⟨rfl, hb9⟩))
      go_ret
      exact ⟨rfl, Hb2.out.trans ((below_then8 hb8 hb9).mono Hb2.out.size)⟩
end Go.Proofs.Ytpcpmdokgdbonaa
namespace Go.Proofs.Kv
open Go.RowKit Go
/-- row k of the lists turns in its block -/
theorem NewI.turnF {EI EL E1 : TypeId} {w w' : World} {B k : Nat} {iv fv u : Value} {xs : List Ic} {fs : List Value} {I : List It} {F : List (List Int)} {r : List Int} (h : NewI EI EL E1 w B iv fv xs fs ⟨I, F⟩) (hk : k < F.length) (hu : fs[k]? = some u)
    (hg : w.grownBy w' u.ownBlock) (hu' : w'.ownsRow B E1 1 u r.length (r.map (Value.int .i64))) : NewI EI EL E1 w' B iv fv xs fs ⟨I, F.set k r⟩ := by
  have hl := h.len
  have hl' : xs.length = I.length := hl
  obtain ⟨u', hu2, hu3, ho⟩ := h.list (k := k) hk
  rw [hu] at hu2; injection hu2 with hu2; subst hu2
  have hR := h.rows.turn hu3 hg hu'
  have e : (I.map (·.word) ++ F).set (I.length + k) r = I.map (·.word) ++ F.set k r := by
    rw [List.set_append_right _ _ (by simp)]; simp
  refine ⟨h.ne1, h.ne2, h.ne3, own_kept_ne h.items hg (fun b hb => own_apart h.items ho h.ne1 b hb), h.len, h.kc, by simpa using own_kept_ne h.fol hg (fun b hb => own_apart h.fol ho h.ne2 b hb), ?_⟩
  rw [e] at hR; exact hR
theorem NewI.listAt {EI EL E1 : TypeId} {w : World} {B g n c k : Nat} {iv : Value} {xs : List Ic} {fs : List Value} {L : Lx} (h : NewI EI EL E1 w B iv (.slice (some ⟨g, 0, none⟩) n c) xs fs L) (hn : n = L.follow.length) (hk : k < n) (h0 : 0 < (L.follow.getD k []).length) :
    ∃ b d, fs[k]? = some (.slice (some ⟨b, 0, none⟩) (L.follow.getD k []).length d) ∧ w.cell? ⟨g, k, none⟩ = some (.slice (some ⟨b, 0, none⟩) (L.follow.getD k []).length d) ∧ w.ownsRow B E1 1 (.slice (some ⟨b, 0, none⟩) (L.follow.getD k []).length d) (L.follow.getD k []).length ((L.follow.getD k []).map (Value.int .i64)) ∧ (L.follow.getD k []).length ≤ d := by
  subst hn
  obtain ⟨u, hu, -, ho⟩ := h.list hk
  have ho2 := ho
  rcases ho.2 with ⟨_, h1⟩ | ⟨b, cap, cur, rfl, hB, hg, hle, _⟩
  · omega
  · exact ⟨b, cap, hu, (h.fol.cellAt _ (by omega)).trans hu, ho2, hle⟩
theorem NewI.formF {EI EL E1 : TypeId} {w : World} {B : Nat} {iv fv : Value} {xs : List Ic} {fs : List Value} {L : Lx} (h : NewI EI EL E1 w B iv fv xs fs L) (h0 : 0 < L.follow.length) : ∃ g c, fv = .slice (some ⟨g, 0, none⟩) L.follow.length c ∧ B ≤ g ∧ g < w.heap.size := by
  rcases h.fol.2 with ⟨_, h1⟩ | ⟨g, cap, cur, rfl, hB, hg, _⟩
  · omega
  · exact ⟨g, cap, rfl, hB, (Array.getElem?_eq_some_iff.1 hg).1⟩
theorem zero_run8 {P : Program} {t : TypeId} {i : TypeInfo} {z : Value} (h : P.info? t = some i) (hz : i.zero = some z) : ∀ w, (zeroValue t).run P w = .ok z w := by
  intro w
  simp [zeroValue, typeInfo, h, hz]
def zerR (r : List Int) : List Int := r.map fun _ => 0
/-- the first k lists put to naught -/
def zerK (F : List (List Int)) (k : Nat) : List (List Int) := (List.range F.length).map fun i => if i < k then zerR (F.getD i []) else F.getD i []
theorem zerK_len (F : List (List Int)) (k : Nat) : (zerK F k).length = F.length := by simp [zerK]
theorem zerK_at (F : List (List Int)) (k : Nat) {i : Nat} (hi : i < F.length) : (zerK F k).getD i [] = if i < k then zerR (F.getD i []) else F.getD i [] := by simp [zerK, List.getD, hi]
theorem zerK_0 (F : List (List Int)) : zerK F 0 = F := by
  apply List.ext_getElem
  · simp [zerK]
  · intro i h1 h2; simp [zerK, List.getD, h2]
theorem zerK_all (F : List (List Int)) : zerK F F.length = F.map zerR := by
  apply List.ext_getElem
  · simp [zerK]
  · intro i h1 h2
    have : i < F.length := by simpa using h2
    simp [zerK, this]
theorem zerK_next (F : List (List Int)) {k : Nat} (_ : k < F.length) : (zerK F k).set k (zerR (F.getD k [])) = zerK F (k + 1) := by
  apply List.ext_getElem
  · simp [zerK]
  · intro i h1 h2
    rw [List.getElem_set]
    split
    · rename_i e; subst e; simp [zerK]
    · rename_i e
      simp only [zerK, List.getElem_map, List.getElem_range]
      by_cases h : i < k
      · rw [if_pos h, if_pos (by omega)]
      · rw [if_neg h, if_neg (by omega)]
theorem zerR_rep {r : List Int} {n : Nat} (h : r.length = n) : zerR r = List.replicate n 0 := by
  subst h; exact List.map_const' ..
end Go.Proofs.Kv
namespace Go.Proofs.Ytpcpmdokgdbonaa
open Go.RowKit Go.Proofs.Kv Go

/-! ### Free -/
def freeL (L : Lx) : Lx := ⟨L.items, L.follow.map zerR⟩
def frL (L : Lx) : Lx := if validL L = 0 then freeL L else ⟨[], []⟩
set_option maxRecDepth 100000 in
set_option maxHeartbeats 4000000 in
theorem taFree_calls (v : Value) (L : Lx) (w : World) (h : LexAt w v L) :
    Calls Try.prog 35 #[v] w fun e w' => ∃ iv fv xs fs, e = .returned (.tuple #[.agg #[iv, fv], .int .i64 (validL L)]) ∧ NewL w' w.heap.size iv fv xs fs (frL L) ∧ Below w.heap.size w w' := by
  have HP := hid_ h
  obtain ⟨a1, n1, c1, a2, n2, c2, rfl, h1, h2⟩ := h
  obtain ⟨w1, hw1⟩ : ∃ w1, w.alloc (.cells #[.slice a1 n1 c1, .slice a2 n2 c2] 25) = w1 := ⟨_, rfl⟩
  have cb : Below w.heap.size w w1 := by rw [← hw1]; exact below_alloc _ _
  have q0 : w1.cell? ⟨w.heap.size, 0, none⟩ = some (.slice a1 n1 c1) := by rw [← hw1]; exact cells_alloc _ _ _ 0
  have q1 : w1.cell? ⟨w.heap.size, 1, none⟩ = some (.slice a2 n2 c2) := by rw [← hw1]; exact cells_alloc _ _ _ 1
  have HP1 := hid_ (HP.out.below cb (Nat.le_refl _)); have Hc1 := hid_ cb
  obtain ⟨w2, hw2⟩ : ∃ w2, w1.alloc (.cells #[.slice none 0 0, .slice none 0 0] 25) = w2 := ⟨_, rfl⟩
  have z1 : w1.heap.size = w.heap.size + 1 := by rw [← hw1]; simp
  have z2 : w2.heap.size = w.heap.size + 2 := by rw [← hw2]; simp [z1]
  have b2 : Below w1.heap.size w1 w2 := by rw [← hw2]; exact below_alloc _ _
  have r0 : w2.cell? ⟨w.heap.size + 1, 0, none⟩ = some (.slice none 0 0) := by rw [← z1, ← hw2]; exact cells_alloc _ _ _ 0
  have r1 : w2.cell? ⟨w.heap.size + 1, 1, none⟩ = some (.slice none 0 0) := by rw [← z1, ← hw2]; exact cells_alloc _ _ _ 1
  have f0 : ∀ j, w2.frozen? ⟨w.heap.size + 1, j, none⟩ = false := fun j => by rw [← z1, ← hw2]; exact World.frozen?_alloc_at _ _ _ _ (by simp)
  have q02 := cell_below q0 b2; have q12 := cell_below q1 b2
  have Hb2 : Hid (Below w.heap.size w w2) := hid_ (Hc1.out.trans (b2.mono Hc1.out.size))
  have HP2 := hid_ (HP.out.below Hb2.out (Nat.le_refl _))
  have HRs := hid_ (fun W (hW : Below w2.heap.size w2 W) => (⟨(hW.cell (p := ⟨w.heap.size + 1, 0, none⟩) (by show w.heap.size + 1 < w2.heap.size; omega)).trans r0, (hW.cell (p := ⟨w.heap.size + 1, 1, none⟩) (by show w.heap.size + 1 < w2.heap.size; omega)).trans r1, (hW.frozen (p := ⟨w.heap.size + 1, 0, none⟩) (by show w.heap.size + 1 < w2.heap.size; omega)).trans (f0 0), (hW.frozen (p := ⟨w.heap.size + 1, 1, none⟩) (by show w.heap.size + 1 < w2.heap.size; omega)).trans (f0 1)⟩ : W.cell? ⟨w.heap.size + 1, 0, none⟩ = some (.slice none 0 0) ∧ W.cell? ⟨w.heap.size + 1, 1, none⟩ = some (.slice none 0 0) ∧ W.frozen? ⟨w.heap.size + 1, 0, none⟩ = false ∧ W.frozen? ⟨w.heap.size + 1, 1, none⟩ = false))
  have HQ := hid_ (fun W (hW : Below w2.heap.size w2 W) => (⟨cell_below q02 hW, cell_below q12 hW⟩ : _ ∧ _))
  have Z2 := hid_ z2
  have HV := hid_ (taValidate_calls _ L w2 HP2.out)
  have HD : Hid (frL L = if validL L = 0 then freeL L else ⟨[], []⟩) := hid_ rfl
  generalize frL L = D at *
  by_cases he : validL L = 0
  · have g := validL_ok he
    have hl1 := h1.len; have hl2 := h2.len
    have hr4 := g.rows
    obtain rfl : n2 = 4 := by omega
    rw [if_pos he] at HD
    rw [he] at HV ⊢
    have HCp := hid_ (fun W (hW : Below w2.heap.size w2 W) => copied8_calls _ L W (HP2.out.below hW (Nat.le_refl _)) g)
    have Hr4 := hid_ (fun k (hk : k < 4) => (g.row k hk).1)
    have Hl1 := hid_ hl1; have Hl2 := hid_ hl2
    have hn1 := g.ge
    rw [hl1] at hn1
    obtain ⟨i1, hi1, hy0, hy1, hy2⟩ := info_parts Try.infoInt
    clear h1 h2 HP HP1 g he cb b2 hl1 hl2 hr4
    rw [HD.out]
    clear z2
    go_enter Try.func35, Try.ntmps35
    go_wp2_with (first
      | (go_at_call 58; (with_reducible refine HV.out.mono ?_); rintro e w3 ⟨rfl, hb3⟩; obtain ⟨q3, p3⟩ := HQ.out w3 hb3)
      | (go_at_call 59; (with_reducible refine (HCp.out _ hb3).mono ?_); rintro e w5 ⟨iv, fv, xs, fs, rfl, hN, hb5'⟩; have hb5 := below_then8 hb3 hb5'; obtain ⟨gi, cg, rfl, hgB, hgl⟩ := hN.form (by rw [Hl1.out]; omega); obtain ⟨gf, cf, rfl, hfB, hfl⟩ := hN.formF (by rw [Hl2.out]; omega); simp only [Hl1.out, Hl2.out] at hN ⊢; have Hhn := hid_ hN; clear hN; obtain ⟨w6, hw6⟩ : ∃ w6, w5.alloc (.cells #[.slice (some ⟨gi, 0, none⟩) n1 cg, .slice (some ⟨gf, 0, none⟩) 4 cf] 25) = w6 := ⟨_, rfl⟩; have b6 : Below w5.heap.size w5 w6 := (by rw [← hw6]; exact below_alloc _ _); have HN6 := hid_ (Hhn.out.below b6 (Nat.le_refl _)); have HOc := hid_ (show w6.ownsRow w5.heap.size 25 2 (.slice (some ⟨w5.heap.size, 0, none⟩) 1 1) 1 [.slice (some ⟨gi, 0, none⟩) n1 cg, .slice (some ⟨gf, 0, none⟩) 4 cf] by rw [← hw6]; exact World.ownsRow_lit (base := w5.heap.size) (e := 25) (size := 2) w5 #[.slice (some ⟨gi, 0, none⟩) n1 cg, .slice (some ⟨gf, 0, none⟩) 4 cf] 1 (Nat.le_refl _) (by unfold maxLen; omega) rfl); have e61 : w6.cell? ⟨w5.heap.size, 1, none⟩ = some (.slice (some ⟨gf, 0, none⟩) 4 cf) := HOc.out.cellAt 1 (by omega); have Hb6 := hid_ (hb5.trans (b6.mono hb5.size)); have H3 := hid_ hb3.size; clear b6))
    clear hw6 e61
    go_loopw [19] (fun iv wr => ∃ k : Nat, k ≤ 4 ∧ iv = .int .i64 k ∧ Below w2.heap.size w2 wr ∧ wr.ownsRow w5.heap.size 25 2 (.slice (some ⟨w5.heap.size, 0, none⟩) 1 1) 1 [.slice (some ⟨gi, 0, none⟩) n1 cg, .slice (some ⟨gf, 0, none⟩) 4 cf] ∧ NewL wr w3.heap.size (.slice (some ⟨gi, 0, none⟩) n1 cg) (.slice (some ⟨gf, 0, none⟩) 4 cf) xs fs ⟨L.items, zerK L.follow k⟩) (fun iv _ => 4 - (intOf iv).toNat)
    case atStart => exact ⟨0, by omega, rfl, Hb6.out, HOc.out, by rw [zerK_0]; exact HN6.out⟩
    case round =>
      clear HOc HN6
      obtain ⟨k, hk, rfl, hbr, hoc, hN⟩ := hrel
      by_cases hlt : k < 4
      · have hkF : k < L.follow.length := by rw [Hl2.out]; exact hlt
        have hat : (zerK L.follow k).getD k [] = L.follow.getD k [] := by rw [zerK_at _ _ hkF, if_neg (by omega)]
        obtain ⟨b, d, hfs, hcell, hrow, hled⟩ := hN.listAt (by show 4 = (zerK L.follow k).length; rw [zerK_len, Hl2.out]) hlt (by show 0 < ((zerK L.follow k).getD k []).length; rw [hat, Hr4.out k hlt]; omega)
        have hat' : ((⟨L.items, zerK L.follow k⟩ : Lx).follow.getD k []) = L.follow.getD k [] := hat
        rw [hat', Hr4.out k hlt] at hfs hcell hrow hled
        obtain ⟨s1, s2⟩ := own_setCells_at (List.replicate 4 (Value.int .i64 0)) 0 hrow (by rw [List.length_map, Hr4.out k hlt]; simp)
        have e9 : List.take 0 ((L.follow.getD k []).map (Value.int .i64)) ++ List.replicate 4 (Value.int .i64 0) ++ List.drop (0 + (List.replicate 4 (Value.int .i64 0)).length) ((L.follow.getD k []).map (Value.int .i64)) = (zerR (L.follow.getD k [])).map (Value.int .i64) := by
          rw [zerR_rep (Hr4.out k hlt), List.drop_of_length_le (by rw [List.length_map, Hr4.out k hlt]; simp)]; rfl
        rw [e9] at s1
        have hz4 : (zerR (L.follow.getD k [])).length = 4 := by rw [zerR_rep (Hr4.out k hlt)]; rfl
        have hcl : ∀ ty, (Builtin.clear_ #[26] ty #[.slice (some ⟨b, 0, none⟩) 4 d]).run Try.prog wr = .ok (.tuple #[]) (wr.setCells b 0 (List.replicate 4 (.int .i64 0))) :=
          fun ty => Lib.run_clear_slice wr 26 3 ty (.int .i64 0) Try.underlying26 (zero_run8 hi1 hy0) rfl rfl b 0 4 d (by omega) (fun j hj => by rw [Nat.zero_add, hrow.cellAt j (by omega), List.getElem?_eq_getElem (by rw [List.length_map, Hr4.out k hlt]; exact hj)]; rfl) (fun j hj => hrow.frozenAt _)
        have hN8 := hN.turnF (k := k) (r := zerR (L.follow.getD k [])) (by rw [zerK_len]; exact hkF) hfs s2 (by rw [hz4]; exact s1)
        rw [zerK_next _ hkF] at hN8
        have HN8 := hid_ hN8
        have HOc8 := hid_ (own_kept_ne hoc s2 (fun b' hb' => own_apart hoc hrow (by decide) b' hb'))
        have Hb8 := hid_ (below_setCells hbr (g := b) (Nat.le_trans H3.out (hrow.lt b rfl).1) (List.replicate 4 (Value.int .i64 0)) 0)
        clear hN hN8 hoc hrow s1 s2 e9 hat hat' hfs hz4
        go_wp2
        go_roundw
        case rel => exact ⟨k + 1, by omega, by go_num, Hb8.out, HOc8.out, HN8.out⟩
        case measure => simp [intOf]; omega
      · obtain rfl : k = 4 := by omega
        have hz : zerK L.follow 4 = L.follow.map zerR := by rw [← zerK_all, Hl2.out]
        rw [hz] at hN
        have HN := hid_ hN
        have d0 : wr.cell? ⟨w5.heap.size, 0, none⟩ = some (.slice (some ⟨gi, 0, none⟩) n1 cg) := hoc.cellAt 0 (by omega)
        have d1 : wr.cell? ⟨w5.heap.size, 1, none⟩ = some (.slice (some ⟨gf, 0, none⟩) 4 cf) := hoc.cellAt 1 (by omega)
        obtain ⟨s0, s1, g0, g1⟩ := HRs.out wr hbr
        have Hbr := hid_ hbr
        clear hN hoc hbr hz
        obtain ⟨t0, t1⟩ := two_stored (x := .slice (some ⟨gi, 0, none⟩) n1 cg) (y := .slice (some ⟨gf, 0, none⟩) 4 cf) s0 s1
        go_wp2
        refine bodyPost_ret (v := .tuple #[.agg #[.slice (some ⟨gi, 0, none⟩) n1 cg, .slice (some ⟨gf, 0, none⟩) 4 cf], .int .i64 0]) ?_ rfl ⟨_, _, xs, fs, rfl, ?_, ?_⟩
        · simp [results, Try.results35, go_sem, t0, t1]
        · exact ((HN.out.base H3.out).res (by have := Z2.out; omega) _ _).base (by have := Z2.out; omega)
        · have hf := Hb2.out.trans (Hbr.out.mono Hb2.out.size)
          exact (hf.setCell (p := ⟨w.heap.size + 1, 0, none⟩) (by show _ ≤ _ + 1; omega) _).setCell (p := ⟨w.heap.size + 1, 1, none⟩) (by show _ ≤ _ + 1; omega) _
  · have hq : (validL L != 0) = true := by simpa using he
    rw [if_neg he] at HD
    rw [HD.out]
    generalize validL L = x at *
    clear he h1 h2 HP HP1 cb b2 z2
    go_enter Try.func35, Try.ntmps35
    go_wp2_with (go_at_call 58; (with_reducible refine HV.out.mono ?_); rintro e w3 ⟨rfl, hb3⟩; obtain ⟨s0, s1, g0, g1⟩ := HRs.out w3 hb3)
    obtain ⟨t0, t1⟩ := two_stored (x := .slice none 0 0) (y := .slice none 0 0) s0 s1
    refine bodyPost_ret (v := .tuple #[.agg #[.slice none 0 0, .slice none 0 0], .int .i64 x]) ?_ rfl ⟨_, _, [], [], rfl, NewI.nil0 _ _ _ _ _ (by decide) (by decide) (by decide), ?_⟩
    · simp [results, Try.results35, go_sem, t0, t1]
    · have hf := Hb2.out.trans (hb3.mono Hb2.out.size)
      exact (hf.setCell (p := ⟨w.heap.size + 1, 0, none⟩) (by show _ ≤ _ + 1; omega) _).setCell (p := ⟨w.heap.size + 1, 1, none⟩) (by show _ ≤ _ + 1; omega) _
end Go.Proofs.Ytpcpmdokgdbonaa
namespace Go.Proofs.Kv
open Go.RowKit Go
/-- the first i numbers put to naught -/
def zerP (r : List Int) (i : Nat) : List Int := List.replicate i 0 ++ r.drop i
theorem zerP_0 (r : List Int) : zerP r 0 = r := by simp [zerP]
theorem zerP_len {r : List Int} {i n : Nat} (h : r.length = n) (hi : i ≤ n) : (zerP r i).length = n := by simp [zerP, h]; omega
theorem zerP_all {r : List Int} {n : Nat} (h : r.length = n) : zerP r n = zerR r := by
  rw [zerR_rep h, zerP, List.drop_of_length_le (by omega), List.append_nil]
theorem zerP_next {r : List Int} {i n : Nat} (h : r.length = n) (hi : i < n) : ((zerP r i).map (Value.int .i64)).set i (.int .i64 0) = (zerP r (i + 1)).map (Value.int .i64) := by
  apply List.ext_getElem
  · simp [zerP]; omega
  · intro j h1 h2
    simp only [List.getElem_set, List.getElem_map, zerP]
    by_cases e : i = j
    · subst e
      rw [if_pos rfl, List.getElem_append_left (by simp)]; simp
    · rw [if_neg e]
      by_cases hj : j < i
      · rw [List.getElem_append_left (by simpa using hj), List.getElem_append_left (by simp; omega)]; simp
      · rw [List.getElem_append_right (by simp; omega), List.getElem_append_right (by simp; omega)]
        simp only [List.length_replicate, List.getElem_drop]
        congr 2; omega
end Go.Proofs.Kv
namespace Go.Proofs.Ytpcpmdokgdbonaa
open Go.RowKit Go.Proofs.Kv Go

set_option maxRecDepth 100000 in
set_option maxHeartbeats 4000000 in
theorem r8Free_calls (v : Value) (L : Lx) (w : World) (h : LexAt w v L) :
    Calls Try.prog 36 #[v] w fun e w' => ∃ iv fv xs fs, e = .returned (.tuple #[.agg #[iv, fv], .int .i64 (validL L)]) ∧ NewL w' w.heap.size iv fv xs fs (frL L) ∧ Below w.heap.size w w' := by
  have HP := hid_ h
  obtain ⟨a1, n1, c1, a2, n2, c2, rfl, h1, h2⟩ := h
  obtain ⟨w1, hw1⟩ : ∃ w1, w.alloc (.cells #[.slice a1 n1 c1, .slice a2 n2 c2] 25) = w1 := ⟨_, rfl⟩
  have cb : Below w.heap.size w w1 := by rw [← hw1]; exact below_alloc _ _
  have q0 : w1.cell? ⟨w.heap.size, 0, none⟩ = some (.slice a1 n1 c1) := by rw [← hw1]; exact cells_alloc _ _ _ 0
  have q1 : w1.cell? ⟨w.heap.size, 1, none⟩ = some (.slice a2 n2 c2) := by rw [← hw1]; exact cells_alloc _ _ _ 1
  have HP1 := hid_ (HP.out.below cb (Nat.le_refl _)); have Hc1 := hid_ cb
  obtain ⟨w2, hw2⟩ : ∃ w2, w1.alloc (.cells #[.slice none 0 0, .slice none 0 0] 25) = w2 := ⟨_, rfl⟩
  have z1 : w1.heap.size = w.heap.size + 1 := by rw [← hw1]; simp
  have z2 : w2.heap.size = w.heap.size + 2 := by rw [← hw2]; simp [z1]
  have b2 : Below w1.heap.size w1 w2 := by rw [← hw2]; exact below_alloc _ _
  have r0 : w2.cell? ⟨w.heap.size + 1, 0, none⟩ = some (.slice none 0 0) := by rw [← z1, ← hw2]; exact cells_alloc _ _ _ 0
  have r1 : w2.cell? ⟨w.heap.size + 1, 1, none⟩ = some (.slice none 0 0) := by rw [← z1, ← hw2]; exact cells_alloc _ _ _ 1
  have f0 : ∀ j, w2.frozen? ⟨w.heap.size + 1, j, none⟩ = false := fun j => by rw [← z1, ← hw2]; exact World.frozen?_alloc_at _ _ _ _ (by simp)
  have q02 := cell_below q0 b2; have q12 := cell_below q1 b2
  have Hb2 : Hid (Below w.heap.size w w2) := hid_ (Hc1.out.trans (b2.mono Hc1.out.size))
  have HP2 := hid_ (HP.out.below Hb2.out (Nat.le_refl _))
  have HRs := hid_ (fun W (hW : Below w2.heap.size w2 W) => (⟨(hW.cell (p := ⟨w.heap.size + 1, 0, none⟩) (by show w.heap.size + 1 < w2.heap.size; omega)).trans r0, (hW.cell (p := ⟨w.heap.size + 1, 1, none⟩) (by show w.heap.size + 1 < w2.heap.size; omega)).trans r1, (hW.frozen (p := ⟨w.heap.size + 1, 0, none⟩) (by show w.heap.size + 1 < w2.heap.size; omega)).trans (f0 0), (hW.frozen (p := ⟨w.heap.size + 1, 1, none⟩) (by show w.heap.size + 1 < w2.heap.size; omega)).trans (f0 1)⟩ : W.cell? ⟨w.heap.size + 1, 0, none⟩ = some (.slice none 0 0) ∧ W.cell? ⟨w.heap.size + 1, 1, none⟩ = some (.slice none 0 0) ∧ W.frozen? ⟨w.heap.size + 1, 0, none⟩ = false ∧ W.frozen? ⟨w.heap.size + 1, 1, none⟩ = false))
  have HQ := hid_ (fun W (hW : Below w2.heap.size w2 W) => (⟨cell_below q02 hW, cell_below q12 hW⟩ : _ ∧ _))
  have Z2 := hid_ z2
  have HV := hid_ (r8Validate_calls _ L w2 HP2.out)
  have HD : Hid (frL L = if validL L = 0 then freeL L else ⟨[], []⟩) := hid_ rfl
  generalize frL L = D at *
  by_cases he : validL L = 0
  · have g := validL_ok he
    have hl1 := h1.len; have hl2 := h2.len
    have hr4 := g.rows
    obtain rfl : n2 = 4 := by omega
    rw [if_pos he] at HD
    rw [he] at HV ⊢
    have HCp := hid_ (fun W (hW : Below w2.heap.size w2 W) => r8Copy_calls _ L W (HP2.out.below hW (Nat.le_refl _)) g.copy.1 g.copy.2.1 g.copy.2.2.1 g.copy.2.2.2)
    have Hr4 := hid_ (fun k (hk : k < 4) => (g.row k hk).1)
    have Hl1 := hid_ hl1; have Hl2 := hid_ hl2
    have hn1 := g.ge
    rw [hl1] at hn1
    clear h1 h2 HP HP1 g he cb b2 hl1 hl2 hr4
    rw [HD.out]
    clear z2
    go_enter Try.func36, Try.ntmps36
    go_wp2_with (first
      | (go_at_call 61; (with_reducible refine HV.out.mono ?_); rintro e w3 ⟨rfl, hb3⟩; obtain ⟨q3, p3⟩ := HQ.out w3 hb3)
      | (go_at_call 25; (with_reducible refine (HCp.out _ hb3).mono ?_); rintro e w5 ⟨iv, fv, xs, fs, rfl, hN, hb5'⟩; have hb5 := below_then8 hb3 hb5'; obtain ⟨gi, cg, rfl, hgB, hgl⟩ := hN.form (by rw [Hl1.out]; omega); obtain ⟨gf, cf, rfl, hfB, hfl⟩ := hN.formF (by rw [Hl2.out]; omega); simp only [Hl1.out, Hl2.out] at hN ⊢; have Hhn := hid_ hN; clear hN; obtain ⟨w6, hw6⟩ : ∃ w6, w5.alloc (.cells #[.slice (some ⟨gi, 0, none⟩) n1 cg, .slice (some ⟨gf, 0, none⟩) 4 cf] 25) = w6 := ⟨_, rfl⟩; have b6 : Below w5.heap.size w5 w6 := (by rw [← hw6]; exact below_alloc _ _); have HN6 := hid_ (Hhn.out.below b6 (Nat.le_refl _)); have HOc := hid_ (show w6.ownsRow w5.heap.size 25 2 (.slice (some ⟨w5.heap.size, 0, none⟩) 1 1) 1 [.slice (some ⟨gi, 0, none⟩) n1 cg, .slice (some ⟨gf, 0, none⟩) 4 cf] by rw [← hw6]; exact World.ownsRow_lit (base := w5.heap.size) (e := 25) (size := 2) w5 #[.slice (some ⟨gi, 0, none⟩) n1 cg, .slice (some ⟨gf, 0, none⟩) 4 cf] 1 (Nat.le_refl _) (by unfold maxLen; omega) rfl); have e61 : w6.cell? ⟨w5.heap.size, 1, none⟩ = some (.slice (some ⟨gf, 0, none⟩) 4 cf) := HOc.out.cellAt 1 (by omega); have Hb6 := hid_ (hb5.trans (b6.mono hb5.size)); have H3 := hid_ hb3.size; clear b6))
    clear hw6 e61
    go_loopw [6, 7] (fun iv _ wr => ∃ k : Nat, k ≤ 4 ∧ iv = .int .i64 k ∧ Below w2.heap.size w2 wr ∧ wr.ownsRow w5.heap.size 25 2 (.slice (some ⟨w5.heap.size, 0, none⟩) 1 1) 1 [.slice (some ⟨gi, 0, none⟩) n1 cg, .slice (some ⟨gf, 0, none⟩) 4 cf] ∧ NewL wr w3.heap.size (.slice (some ⟨gi, 0, none⟩) n1 cg) (.slice (some ⟨gf, 0, none⟩) 4 cf) xs fs ⟨L.items, zerK L.follow k⟩) (fun iv _ _ => 4 - (intOf iv).toNat)
    case atStart => exact ⟨0, by omega, rfl, Hb6.out, HOc.out, by rw [zerK_0]; exact HN6.out⟩
    case round =>
      clear HOc HN6
      obtain ⟨k, hk, rfl, hbr, hoc, hN⟩ := hrel
      have d0 : wr.cell? ⟨w5.heap.size, 0, none⟩ = some (.slice (some ⟨gi, 0, none⟩) n1 cg) := hoc.cellAt 0 (by omega)
      have d1 : wr.cell? ⟨w5.heap.size, 1, none⟩ = some (.slice (some ⟨gf, 0, none⟩) 4 cf) := hoc.cellAt 1 (by omega)
      by_cases hlt : k < 4
      · have hkF : k < L.follow.length := by rw [Hl2.out]; exact hlt
        have hrl : (L.follow.getD k []).length = 4 := Hr4.out k hlt
        have hat : (zerK L.follow k).getD k [] = L.follow.getD k [] := by rw [zerK_at _ _ hkF, if_neg (by omega)]
        have Hs0 : Hid ((zerK L.follow k).set k (zerP (L.follow.getD k []) 0) = zerK L.follow k) := hid_ (by
          rw [zerP_0]
          apply List.ext_getElem
          · simp
          · intro i h1 h2
            rw [List.getElem_set]
            split
            · rename_i e; subst e; rw [← hat]; simp [List.getD, h2]
            · rfl)
        have Hs4 : Hid ((zerK L.follow k).set k (zerP (L.follow.getD k []) 4) = zerK L.follow (k + 1)) := hid_ (by rw [zerP_all hrl, zerK_next _ hkF])
        have HOc := hid_ hoc; have HN := hid_ hN; have Hbr := hid_ hbr; have Hrl := hid_ hrl
        clear hoc hN hbr hat hrl
        go_wp2
        clear d0 d1
        obtain ⟨wo, rfl⟩ : ∃ wo, wo = wr := ⟨_, rfl⟩
        go_loopw [7] (fun iv wr => ∃ i : Nat, i ≤ 4 ∧ iv = .int .i64 i ∧ Below w2.heap.size w2 wr ∧ wr.ownsRow w5.heap.size 25 2 (.slice (some ⟨w5.heap.size, 0, none⟩) 1 1) 1 [.slice (some ⟨gi, 0, none⟩) n1 cg, .slice (some ⟨gf, 0, none⟩) 4 cf] ∧ NewL wr w3.heap.size (.slice (some ⟨gi, 0, none⟩) n1 cg) (.slice (some ⟨gf, 0, none⟩) 4 cf) xs fs ⟨L.items, (zerK L.follow k).set k (zerP (L.follow.getD k []) i)⟩) (fun iv _ => 4 - (intOf iv).toNat)
        case atStart => exact ⟨0, by omega, rfl, Hbr.out, HOc.out, by rw [Hs0.out]; exact HN.out⟩
        case round =>
          clear HOc HN Hbr
          obtain ⟨i, hi, rfl, hbr, hoc, hN⟩ := hrel
          have d1 : wr.cell? ⟨w5.heap.size, 1, none⟩ = some (.slice (some ⟨gf, 0, none⟩) 4 cf) := hoc.cellAt 1 (by omega)
          have hFl : ((zerK L.follow k).set k (zerP (L.follow.getD k []) i)).length = 4 := by rw [List.length_set, zerK_len, Hl2.out]
          have hat : ((⟨L.items, (zerK L.follow k).set k (zerP (L.follow.getD k []) i)⟩ : Lx).follow.getD k []) = zerP (L.follow.getD k []) i := by
            show ((zerK L.follow k).set k _).getD k [] = _
            rw [getD_set8 _ _ _ _ _ (by rw [zerK_len]; exact hkF), if_pos rfl]
          have hzl := zerP_len Hrl.out hi
          obtain ⟨b, d, hfs, hcell, hrow, hled⟩ := hN.listAt hFl.symm hlt (by rw [hat, hzl]; omega)
          rw [hat, hzl] at hfs hcell hrow hled
          by_cases hlti : i < 4
          · have hst := hrow.stored i (.int .i64 0)
            rw [zerP_next Hrl.out hlti] at hst
            have hci : wr.cell? ⟨b, i, none⟩ = some (((zerP (L.follow.getD k []) i).map (Value.int .i64))[i]'(by rw [List.length_map, hzl]; exact hlti)) := (hrow.cellAt i (by omega)).trans (List.getElem?_eq_getElem _)
            have hcf := hrow.frozenAt i
            have hz1 := zerP_len Hrl.out (show i + 1 ≤ 4 by omega)
            have hN8 := hN.turnF (k := k) (r := zerP (L.follow.getD k []) (i + 1)) (by rw [hFl]; exact hlt) hfs hst.2 (by rw [hz1]; exact hst.1)
            rw [List.set_set] at hN8
            have HN8 := hid_ hN8
            have HOc8 := hid_ (own_kept_ne hoc hst.2 (fun b' hb' => own_apart hoc hrow (by decide) b' hb'))
            have Hb8 := hid_ (Below.setCell (p := ⟨b, i, none⟩) hbr (Nat.le_trans H3.out (hrow.lt b rfl).1) (.int .i64 0))
            generalize ((zerP (L.follow.getD k []) i).map (Value.int .i64))[i]'(by rw [List.length_map, hzl]; exact hlti) = y at *
            clear hN hN8 hoc hrow hst hat hfs hFl hzl hz1
            go_wp2
            go_roundw
            case rel => exact ⟨i + 1, by omega, by go_num, Hb8.out, HOc8.out, HN8.out⟩
            case measure => simp [intOf]; omega
          · obtain rfl : i = 4 := by omega
            rw [Hs4.out] at hN
            have HN := hid_ hN; have HOc := hid_ hoc; have Hbr := hid_ hbr
            clear hN hoc hbr hrow hfs hat hFl hzl
            go_wp2
            go_roundw
            case rel => exact ⟨k + 1, by omega, by go_num, Hbr.out, HOc.out, HN.out⟩
            case measure => simp [intOf]; omega
      · obtain rfl : k = 4 := by omega
        have hz : zerK L.follow 4 = L.follow.map zerR := by rw [← zerK_all, Hl2.out]
        rw [hz] at hN
        have HN := hid_ hN
        obtain ⟨s0, s1, g0, g1⟩ := HRs.out wr hbr
        have Hbr := hid_ hbr
        clear hN hoc hbr hz
        obtain ⟨t0, t1⟩ := two_stored (x := .slice (some ⟨gi, 0, none⟩) n1 cg) (y := .slice (some ⟨gf, 0, none⟩) 4 cf) s0 s1
        go_wp2
        refine bodyPost_ret (v := .tuple #[.agg #[.slice (some ⟨gi, 0, none⟩) n1 cg, .slice (some ⟨gf, 0, none⟩) 4 cf], .int .i64 0]) ?_ rfl ⟨_, _, xs, fs, rfl, ?_, ?_⟩
        · simp [results, Try.results36, go_sem, t0, t1]
        · exact ((HN.out.base H3.out).res (by have := Z2.out; omega) _ _).base (by have := Z2.out; omega)
        · have hf := Hb2.out.trans (Hbr.out.mono Hb2.out.size)
          exact (hf.setCell (p := ⟨w.heap.size + 1, 0, none⟩) (by show _ ≤ _ + 1; omega) _).setCell (p := ⟨w.heap.size + 1, 1, none⟩) (by show _ ≤ _ + 1; omega) _
  · have hq : (validL L != 0) = true := by simpa using he
    rw [if_neg he] at HD
    rw [HD.out]
    generalize validL L = x at *
    clear he h1 h2 HP HP1 cb b2 z2
    go_enter Try.func36, Try.ntmps36
    go_wp2_with (go_at_call 61; (with_reducible refine HV.out.mono ?_); rintro e w3 ⟨rfl, hb3⟩; obtain ⟨s0, s1, g0, g1⟩ := HRs.out w3 hb3)
    obtain ⟨t0, t1⟩ := two_stored (x := .slice none 0 0) (y := .slice none 0 0) s0 s1
    refine bodyPost_ret (v := .tuple #[.agg #[.slice none 0 0, .slice none 0 0], .int .i64 x]) ?_ rfl ⟨_, _, [], [], rfl, NewI.nil0 _ _ _ _ _ (by decide) (by decide) (by decide), ?_⟩
    · simp [results, Try.results36, go_sem, t0, t1]
    · have hf := Hb2.out.trans (hb3.mono Hb2.out.size)
      exact (hf.setCell (p := ⟨w.heap.size + 1, 0, none⟩) (by show _ ≤ _ + 1; omega) _).setCell (p := ⟨w.heap.size + 1, 1, none⟩) (by show _ ≤ _ + 1; omega) _
end Go.Proofs.Ytpcpmdokgdbonaa
namespace Go.Proofs.Ytpcpmdokgdbonaa
open Go.RowKit Go.Proofs.Kv Go

/-! ### everything may follow -/
theorem zerR_at (r : List Int) (j : Nat) : (zerR r).getD j 0 = 0 := by
  unfold zerR
  simp only [List.getD, List.getElem?_map]
  cases r[j]? <;> rfl
theorem free_fv (L : Lx) (a b : Int) : fvI (freeL L) a b = 0 := by
  unfold fvI follV freeL
  show ((L.follow.map zerR).getD _ []).getD _ 0 = 0
  simp only [List.getD, List.getElem?_map]
  cases L.follow[((L.items[a.toNat]?).getD I0).kind.toNat]? with
  | none => rfl
  | some r => exact zerR_at r _
theorem free_ok (L : Lx) (s : List Int) : okF (freeL L) s = true := okF_yes rfl fun k _ => by
  unfold okC; rw [free_fv]; simp
theorem free_good {L : Lx} (g : GoodL L) : GoodL (freeL L) where
  ge := g.ge
  le := g.le
  word := g.word
  kind := g.kind
  cost := g.cost
  rows := by show (L.follow.map zerR).length = 4; rw [List.length_map]; exact g.rows
  row k hk := by
    have hl := g.rows
    have e : (freeL L).follow.getD k [] = zerR (L.follow.getD k []) := by
      show (L.follow.map zerR).getD k [] = _
      simp only [List.getD, List.getElem?_map]
      rw [List.getElem?_eq_getElem (show k < L.follow.length by omega)]; rfl
    rw [e]
    obtain ⟨r1, r2⟩ := g.row k hk
    refine ⟨by simp [zerR]; exact r1, ?_⟩
    rw [zerR_rep r1]; decide
theorem itemsB_app {L : Lx} {s s' : List Int} : itemsB L (s ++ s') = true ↔ itemsB L s = true ∧ itemsB L s' = true := by
  unfold itemsB areB; rw [List.all_append, Bool.and_eq_true]
theorem wordsL_app (L : Lx) (s s' : List Int) : wordsL L (s ++ s') = wordsL L s ++ wordsL L s' := by simp [wordsL]
theorem cut_same {L : Lx} (g : GoodL L) {s d s' d' : List Int} (hs : itemsB L s = true) (hs' : itemsB L s' = true) (hw : wordsL L s = wordsL L s') (h : s ++ d = s' ++ d') : s = s' := by
  rcases List.append_eq_append_iff.1 h with ⟨e, h1, h2⟩ | ⟨e, h1, h2⟩
  · subst h1
    have h3 := (itemsB_app.1 hs').2
    rw [wordsL_app] at hw
    have h4 : wordsL L e = [] := by
      have := congrArg List.length hw
      rw [List.length_append] at this
      exact List.length_eq_zero_iff.1 (by omega)
    have h5 := itemsB_len g e.length rfl h3
    rw [h4] at h5
    have : e = [] := List.length_eq_zero_iff.1 (by simpa using h5)
    rw [this, List.append_nil]
  · subst h1
    have h3 := (itemsB_app.1 hs).2
    rw [wordsL_app] at hw
    have h4 : wordsL L e = [] := by
      have := congrArg List.length hw
      rw [List.length_append] at this
      exact List.length_eq_zero_iff.1 (by omega)
    have h5 := itemsB_len g e.length rfl h3
    rw [h4] at h5
    have : e = [] := List.length_eq_zero_iff.1 (by simpa using h5)
    rw [this, List.append_nil]
theorem len_prod {A B C : List (List Int)} (hA : A.Nodup) (hB : B.Nodup) (hC : ∀ a ∈ A, ∀ b ∈ B, a ++ b ∈ C) (hi : ∀ a ∈ A, ∀ a' ∈ A, ∀ b ∈ B, ∀ b' ∈ B, a ++ b = a' ++ b' → a = a') : A.length * B.length ≤ C.length := by
  have hn : (A.flatMap fun a => B.map fun b => a ++ b).Nodup := by
    unfold List.Nodup
    rw [List.pairwise_flatMap]
    refine ⟨fun a _ => ?_, ?_⟩
    · rw [List.pairwise_map]
      exact hB.imp fun hne e => hne (List.append_cancel_left e)
    · refine hA.imp_of_mem fun {a a'} ha ha' hne x hx y hy e => ?_
      obtain ⟨b, hb, rfl⟩ := List.mem_map.1 hx
      obtain ⟨b', hb', rfl⟩ := List.mem_map.1 hy
      exact hne (hi a ha a' ha' b hb b' hb' e)
  have hl : (A.flatMap fun a => B.map fun b => a ++ b).length = A.length * B.length := by
    clear hn hA hC hi
    induction A with
    | nil => simp
    | cons a A ih => rw [List.flatMap_cons, List.length_append, ih, List.length_map, List.length_cons, Nat.add_mul, Nat.one_mul, Nat.add_comm]
  rw [← hl]
  exact len_le_sub8 hn fun x hx => by
    obtain ⟨a, ha, hx⟩ := List.mem_flatMap.1 hx
    obtain ⟨b, hb, rfl⟩ := List.mem_map.1 hx
    exact hC a ha b hb
theorem free_prod {L : Lx} (g : GoodL L) (u v : List Int) : cntA (freeL L) u * cntA (freeL L) v ≤ cntA (freeL L) (u ++ v) := by
  have g' := free_good g
  have h := len_prod (C := allS (freeL L) (u ++ v)) (nodup_allS g' u) (nodup_allS g' v) (fun a ha b hb => by
    obtain ⟨a1, a2, -⟩ := (mem_allS g' u a).1 ha
    obtain ⟨b1, b2, -⟩ := (mem_allS g' v b).1 hb
    exact (mem_allS g' (u ++ v) _).2 ⟨itemsB_app.2 ⟨a1, b1⟩, by rw [wordsL_app, a2, b2], free_ok L _⟩) (fun a ha a' ha' b _ b' _ e => by
    obtain ⟨a1, a2, -⟩ := (mem_allS g' u a).1 ha
    obtain ⟨b1, b2, -⟩ := (mem_allS g' u a').1 ha'
    exact cut_same g' a1 b1 (a2.trans b2.symm) e)
  unfold cntA
  exact_mod_cast h
theorem cntA_small {L : Lx} (g : GoodL L) {t : List Int} (ht : t.length ≤ 12) : 0 ≤ cntA L t ∧ cntA L t ≤ 549755813888 := by
  refine ⟨by unfold cntA; omega, ?_⟩
  unfold cntA allS
  by_cases h0 : t.length = 0
  · rw [if_pos h0]; simp
  · rw [if_neg h0]
    have h := len_allP g t ht L.items.length (Nat.le_refl _)
    have := g.le
    show ((allP L t L.items.length).length : Int) ≤ _
    omega
theorem free_facts {L : Lx} (h : validL L = 0) (u v : List Int) (h2 : textE (freeL L) (u ++ v) = 0) : 0 ≤ countV (freeL L) u ∧ 0 ≤ countV (freeL L) v ∧ countV (freeL L) u * countV (freeL L) v ≤ countV (freeL L) (u ++ v) ∧ countV (freeL L) (u ++ v) ≤ 549755813888 := by
  have g := validL_ok h
  have g' := free_good g
  obtain ⟨-, h12, hb⟩ := textE_ok h2
  rw [List.length_append] at h12
  have hbu : areB u 0 5 = true ∧ areB v 0 5 = true := by
    unfold areB at hb ⊢; rw [List.all_append, Bool.and_eq_true] at hb; exact hb
  have e1 : textE (freeL L) u = 0 := by unfold textE; rw [validL_yes g', if_pos rfl, if_neg (by omega), if_pos hbu.1]
  have e2 : textE (freeL L) v = 0 := by unfold textE; rw [validL_yes g', if_pos rfl, if_neg (by omega), if_pos hbu.2]
  unfold countV
  rw [if_pos e1, if_pos e2, if_pos h2]
  exact ⟨(cntA_small g' (by omega)).1, (cntA_small g' (by omega)).1, free_prod g u v, (cntA_small g' (by rw [List.length_append]; omega)).2⟩
end Go.Proofs.Ytpcpmdokgdbonaa
namespace Go.Proofs.Ytpcpmdokgdbonaa
open Go.RowKit Go.Proofs.Kv Go

/-! ### the law TagFree -/
set_option maxRecDepth 100000 in
set_option maxHeartbeats 8000000 in
theorem tagFree_calls (v : Value) (L : Lx) (a : Option Addr) (n c : Nat) (t : List Int) (a' : Option Addr) (n' c' : Nat) (s : List Int) (w : World) (h : LexAt w v L) (ht : IntsAt w a n c t) (hs : IntsAt w a' n' c' s) :
    Calls Try.prog 9 #[v, .slice a n c, .slice a' n' c'] w fun e w' => e = .returned (.bool true) ∧ Below w.heap.size w w' := by
  have HP := hid_ h
  obtain ⟨a1, n1, c1, a2, n2, c2, rfl, h1, h2⟩ := h
  obtain ⟨w1, hw1⟩ : ∃ w1, w.alloc (.cells #[.slice a1 n1 c1, .slice a2 n2 c2] 25) = w1 := ⟨_, rfl⟩
  have cb : Below w.heap.size w w1 := by rw [← hw1]; exact below_alloc _ _
  have q0 : w1.cell? ⟨w.heap.size, 0, none⟩ = some (.slice a1 n1 c1) := by rw [← hw1]; exact cells_alloc _ _ _ 0
  have q1 : w1.cell? ⟨w.heap.size, 1, none⟩ = some (.slice a2 n2 c2) := by rw [← hw1]; exact cells_alloc _ _ _ 1
  have HP1 := hid_ (HP.out.below cb (Nat.le_refl _)); have Hc1 := hid_ cb
  have ht1 := ht.below cb (Nat.le_refl _)
  have hs1 := hs.below cb (Nat.le_refl _)
  have HG := hid_ (long8_calls _ L _ 2 2 [t, s] _ (HP1.out.below (below_alloc w1 (.cells #[.slice a n c, .slice a' n' c'] 26)) (Nat.le_refl _)) (lists2_8 w1 26 ht1 hs1))
  have Ha := hid_ (below_alloc w1 (.cells #[.slice a n c, .slice a' n' c'] 26))
  have HQ := hid_ (fun W (hW : Below w1.heap.size w1 W) => (⟨cell_below q0 hW, cell_below q1 hW⟩ : _ ∧ _))
  have HA := hid_ (fun W (hW : Below w1.heap.size w1 W) => taFree_calls _ L W (HP1.out.below hW (Nat.le_refl _)))
  have HB := hid_ (fun W (hW : Below w1.heap.size w1 W) => r8Free_calls _ L W (HP1.out.below hW (Nat.le_refl _)))
  have HI := hid_ (fun W (hW : Below w1.heap.size w1 W) => ht1.below hW (Nat.le_refl _))
  have HJ := hid_ (fun W (hW : Below w1.heap.size w1 W) => hs1.below hW (Nat.le_refl _))
  have HK := hid_ sane_calls
  have HF := fun h => @free_facts L h t s
  have HD : Hid (frL L = if validL L = 0 then freeL L else ⟨[], []⟩) := hid_ rfl
  have hln := ht.len; have hln' := hs.len
  clear h1 h2 HP HP1 cb ht hs ht1 hs1
  cases hg : longX L [t, s] with
  | true =>
    rw [hg] at HG
    clear hg HF
    go_enter Try.func9, Try.ntmps9
    go_wp2_with (first
      | (go_at_call 11; (with_reducible refine HG.out.mono ?_); rintro e w3 ⟨rfl, hb3⟩; have Hb3 := hid_ (below_then8 Ha.out hb3); clear hb3)
      | (go_at_call 12; (with_reducible refine (HK.out _).mono ?_); rintro e w4 ⟨rfl, hb4⟩))
    go_ret
    exact ⟨rfl, Hc1.out.trans ((below_then8 Hb3.out hb4).mono Hc1.out.size)⟩
  | false =>
    have hn3 := long_no hg (s := t) (by simp)
    have hn3' := long_no hg (s := s) (by simp)
    rw [hln] at hn3; rw [hln'] at hn3'
    rw [hg] at HG
    clear hg
    have hS := hid_ (fun W x y (hx : LexAt W x (frL L)) (hy : LexAt W y (frL L)) => r8Same_yes x y (frL L) W hx hy)
    by_cases hE : validL L = 0
    · have HF' := HF hE
      rw [if_pos hE] at HD
      rw [hE] at HA HB
      rw [HD.out] at HA HB hS
      have hw7 : n + n' ≤ 1000000 := by omega
      have hlen2 : (t ++ s).length = n + n' := by rw [List.length_append, hln, hln']
      generalize freeL L = D at *
      have HU := hid_ (fun W v' (hv' : LexAt W v' D) hi => taCount_calls v' D a n c t W hv' hi)
      have HV := hid_ (fun W v' (hv' : LexAt W v' D) hi => taCount_calls v' D a' n' c' s W hv' hi)
      have HUV := hid_ (fun W v' (hv' : LexAt W v' D) a2 c2 hi => taCount_calls v' D a2 (n + n') c2 (t ++ s) W hv' hi)
      generalize countV D t = x at *
      generalize countV D s = y at *
      generalize countV D (t ++ s) = z at *
      generalize textE D t = g1 at *
      generalize textE D s = g2 at *
      generalize textE D (t ++ s) = g3 at *
      obtain ⟨i1, hi1, hy0, hy1, hy2⟩ := info_parts Try.infoInt
      clear HF hE HD hln hln' hlen2
      by_cases h1 : g1 = 0
      · by_cases h2 : g2 = 0
        · by_cases h3 : g3 = 0
          · obtain ⟨x0, y0, xy, z0⟩ := HF' h3
            subst h1 h2 h3
            have hwm : IntKind.i64.wrap (x * y) = x * y := IntWalk.i64_in _ (by have := Int.mul_nonneg x0 y0; omega)
            have f1 : decide (x ≥ 0) = true := decide_eq_true x0
            have f2 : decide (y ≥ 0) = true := decide_eq_true y0
            have f3 : decide (z ≥ x * y) = true := decide_eq_true xy
            clear HF'
            go_enter Try.func9, Try.ntmps9
            go_wp2_with (first
              | (go_at_call 11; (with_reducible refine HG.out.mono ?_); rintro e w3 ⟨rfl, hb3'⟩; have hb3 := below_then8 Ha.out hb3'; obtain ⟨q3, p3⟩ := HQ.out w3 hb3)
              | (go_at_call 35; (with_reducible refine (HA.out _ hb3).mono ?_); rintro e w4 ⟨iv, fv, xs, fs, rfl, hN, hb4'⟩; have hb4 := below_then8 hb3 hb4'; obtain ⟨a4, n4, k4, d4, m4, l4, rfl, rfl, hL4⟩ := hN.lits; clear hN; obtain ⟨w5, hw5⟩ : ∃ W, w4.alloc (.cells #[.slice a4 n4 k4, .slice d4 m4 l4] 25) = W := ⟨_, rfl⟩; have bb5 : Below w4.heap.size w4 w5 := (by rw [← hw5]; exact below_alloc _ _); have HL5 := hid_ (hL4.below bb5 (Nat.le_refl _)); clear hL4; have hb5 := below_then8 hb4 bb5; obtain ⟨q5, p5⟩ := HQ.out w5 hb5; have c50 : w5.cell? ⟨w4.heap.size, 0, none⟩ = some (.slice a4 n4 k4) := (by rw [← hw5]; exact cells_alloc _ _ _ 0); have c51 : w5.cell? ⟨w4.heap.size, 1, none⟩ = some (.slice d4 m4 l4) := (by rw [← hw5]; exact cells_alloc _ _ _ 1); have z5 : w4.heap.size < w5.heap.size := (by rw [← hw5]; simp); clear bb5)
              | (go_at_call 36; (with_reducible refine (HB.out _ hb5).mono ?_); rintro e w6 ⟨iv, fv, xs, fs, rfl, hN, hb6'⟩; have hb6 := below_then8 hb5 hb6'; obtain ⟨a6, n6, k6, d6, m6, l6, rfl, rfl, hL6⟩ := hN.lits; clear hN; obtain ⟨w7, hw7⟩ : ∃ W, w6.alloc (.cells #[.slice a6 n6 k6, .slice d6 m6 l6] 25) = W := ⟨_, rfl⟩; have bb7 : Below w6.heap.size w6 w7 := (by rw [← hw7]; exact below_alloc _ _); have HL7 := hid_ (hL6.below bb7 (Nat.le_refl _)); clear hL6; have hb7 := below_then8 hb6 bb7; obtain ⟨q7, p7⟩ := HQ.out w7 hb7; have c60 := cell_below c50 hb6'; have c61 := cell_below c51 hb6'; have c70 := cell_below c60 bb7; have c71 := cell_below c61 bb7; have e70 : w7.cell? ⟨w6.heap.size, 0, none⟩ = some (.slice a6 n6 k6) := (by rw [← hw7]; exact cells_alloc _ _ _ 0); have e71 : w7.cell? ⟨w6.heap.size, 1, none⟩ = some (.slice d6 m6 l6) := (by rw [← hw7]; exact cells_alloc _ _ _ 1); have HL75 := hid_ ((HL5.out.below hb6' (Nat.le_refl _)).below bb7 (Nat.le_refl _)); have HSa := hid_ (hS.out _ _ _ HL75.out HL7.out); clear c60 c61 bb7)
              | (go_at_call 28; (with_reducible refine HSa.out.mono ?_); rintro e w8 ⟨rfl, hb8'⟩; have hb8 := below_then8 hb7 hb8'; obtain ⟨q8, p8⟩ := HQ.out w8 hb8; have c80 := cell_below c70 hb8'; have c81 := cell_below c71 hb8'; have HL8 := hid_ (HL75.out.below hb8' (Nat.le_refl _)))
              | (go_at_call 15; (with_reducible refine (HU.out _ _ HL8.out (HI.out _ hb8)).mono ?_); rintro e w9 ⟨rfl, hb9'⟩; have hb9 := below_then8 hb8 hb9'; have c90 := cell_below c80 hb9'; have c91 := cell_below c81 hb9'; have HL9 := hid_ (HL8.out.below hb9' (Nat.le_refl _)))
              | (go_at_call 15; (with_reducible refine (HV.out _ _ HL9.out (HJ.out _ hb9)).mono ?_); rintro e w10 ⟨rfl, hb10'⟩; have hb10 := below_then8 hb9 hb10'; have c100 := cell_below c90 hb10'; have c101 := cell_below c91 hb10'; have HL10 := hid_ (HL9.out.below hb10' (Nat.le_refl _))))
            have bd : Below w10.heap.size w10 w10.drew := Below.drew (Below.refl _ _)
            have b8 : Below w10.heap.size w10 (w10.drew.alloc (.cells #[] 3)) := bd.alloc (Nat.le_refl _) _
            have HS := hid_ (fun W (hW : Below w10.heap.size w10 W) => (⟨cell_below c100 hW, cell_below c101 hW⟩ : W.cell? ⟨w4.heap.size, 0, none⟩ = some (.slice a4 n4 k4) ∧ W.cell? ⟨w4.heap.size, 1, none⟩ = some (.slice d4 m4 l4)))
            have HIu := hid_ ((HI.out _ hb10).below b8 (Nat.le_refl _))
            have HIv := hid_ (HJ.out _ hb10)
            have Hb10 := hid_ hb10
            refine wp_region_last2 (n := 11) (S := fun W' => W'.cell? ⟨w4.heap.size, 0, none⟩ = some (.slice a4 n4 k4) ∧ W'.cell? ⟨w4.heap.size, 1, none⟩ = some (.slice d4 m4 l4)) (by kernel_rfl) (by kernel_rfl) (HS.out _ bd) (fun hHeld => ?_)
            refine wpAnyH_take (i := 0) (oi := ?oi0h1) (v := ?v0h1) ?hi0h1 (by kernel_rfl) ?hf0h1 (by kernel_rfl) ?hQ0h1 ?hy0h1 (by assumption) ?rest0h1
            case hi0h1 => (simp only [List.getElem?_toArray, List.getElem?_cons_zero]; rfl)
            case hf0h1 => kernel_rfl
            case hQ0h1 => exact fun _ _ _ h => h
            case hy0h1 => (refine Or.inl ⟨by rfl, ?_⟩; intro W hSw; (try dsimp only at hSw); obtain ⟨g0, g1⟩ := hSw; go_simp; try with_reducible rfl)
            try simp only [Act.put, List.setIfInBounds_toArray, List.set_cons_zero, List.set_cons_succ]
            refine wpAnyH_take (i := 2) (oi := ?oi2h2) (v := ?v2h2) ?hi2h2 (by kernel_rfl) ?hf2h2 (by kernel_rfl) ?hQ2h2 ?hy2h2 (by assumption) ?rest2h2
            case hi2h2 => (simp only [List.getElem?_toArray, List.getElem?_cons_succ, List.getElem?_cons_zero]; rfl)
            case hf2h2 => kernel_rfl
            case hQ2h2 => exact fun _ _ _ h => h
            case hy2h2 => (refine Or.inl ⟨by rfl, ?_⟩; intro W hSw; (try dsimp only at hSw); go_simp; try with_reducible rfl)
            try simp only [Act.put, List.setIfInBounds_toArray, List.set_cons_zero, List.set_cons_succ]
            refine wpAnyH_take (i := 4) (oi := ?oi4h3) (v := ?v4h3) ?hi4h3 (by kernel_rfl) ?hf4h3 (by kernel_rfl) ?hQ4h3 ?hy4h3 (by assumption) ?rest4h3
            case hi4h3 => (simp only [List.getElem?_toArray, List.getElem?_cons_succ, List.getElem?_cons_zero]; rfl)
            case hf4h3 => kernel_rfl
            case hQ4h3 => exact fun _ _ _ h => h
            case hy4h3 => (refine Or.inl ⟨by rfl, ?_⟩; intro W hSw; (try dsimp only at hSw); go_simp; try with_reducible rfl)
            try simp only [Act.put, List.setIfInBounds_toArray, List.set_cons_zero, List.set_cons_succ]
            refine wpAnyH_ready (rs := [1]) (by kernel_rfl) (by simp) ?_
            refine AllReadyH.cons (o := _) (by (simp only [List.getElem?_toArray, List.getElem?_cons_succ, List.getElem?_cons_zero]; rfl)) (fun K hK => ?_) AllReadyH.nil
            go_simp
            refine hK.out _ _ ?_ (fun hHeld => ?_)
            · exact HS.out _ b8
            clear hK K
            try simp only [Act.put, List.setIfInBounds_toArray, List.set_cons_zero, List.set_cons_succ]
            refine wpAnyH_ready (rs := [3]) (by kernel_rfl) (by simp) ?_
            refine AllReadyH.cons (o := _) (by (simp only [List.getElem?_toArray, List.getElem?_cons_succ, List.getElem?_cons_zero]; rfl)) (fun K hK => ?_) AllReadyH.nil
            refine step_append_row rfl (.tmp 59) (.tmp 60) rfl w10.heap.size _ 0 [] (by rfl) (World.ownsRow_lit (base := w10.heap.size) (e := 3) (size := 1) w10.drew #[] 0 (Nat.le_refl _) (by unfold maxLen; omega) rfl) a n c t (by rfl) HIu.out (by omega) (by simp) ?_; intro v5 w11 ho5 hg5 hat5; simp only [Nat.zero_add, List.nil_append] at ho5; have bw5 : Below w10.heap.size w10 w11 := b8.grown hg5 (by simp) (fun r e => by cases e; exact Nat.le_refl _); obtain ⟨a11, c11, rfl, -⟩ := IntsAt.own ho5
            refine hK.out _ _ ?_ (fun hHeld => ?_)
            · exact HS.out _ bw5
            clear hK K
            try simp only [Act.put, List.setIfInBounds_toArray, List.set_cons_zero, List.set_cons_succ]
            refine wpAnyH_ready (rs := [5]) (by kernel_rfl) (by simp) ?_
            refine AllReadyH.cons (o := _) (by (simp only [List.getElem?_toArray, List.getElem?_cons_succ, List.getElem?_cons_zero]; rfl)) (fun K hK => ?_) AllReadyH.nil
            refine step_append_row rfl (.tmp 61) (.tmp 62) rfl w10.heap.size _ n t (by rfl) ho5 a' n' c' s (by rfl) (HIv.out.below bw5 (Nat.le_refl _)) (by omega) bw5.size ?_; intro v6 w12 ho6 hg6 hat6; have bw6 : Below w10.heap.size w10 w12 := bw5.grown hg6 bw5.size (fun r e => (ho5.lt r e).1); obtain ⟨a12, c12, rfl, hI12⟩ := IntsAt.own ho6; have HI12 := hid_ hI12; have HL12 := hid_ (HL10.out.below bw6 (Nat.le_refl _))
            refine hK.out _ _ ?_ (fun hHeld => ?_)
            · exact HS.out _ bw6
            clear hK K
            try simp only [Act.put, List.setIfInBounds_toArray, List.set_cons_zero, List.set_cons_succ]
            refine wpAnyH_ready (rs := [6]) (by kernel_rfl) (by simp) ?_
            refine AllReadyH.cons (o := _) (by (simp only [List.getElem?_toArray, List.getElem?_cons_succ, List.getElem?_cons_zero]; rfl)) (fun K hK => ?_) AllReadyH.nil
            go_simp
            (with_reducible refine (HUV.out _ _ HL12.out a12 c12 HI12.out).mono ?_); rintro e w13 ⟨rfl, hb13'⟩; have bw7 : Below w10.heap.size w10 w13 := bw6.trans (hb13'.mono bw6.size)
            refine hK.out _ _ ?_ (fun hHeld => ?_)
            · exact HS.out _ bw7
            clear hK K
            try simp only [Act.put, List.setIfInBounds_toArray, List.set_cons_zero, List.set_cons_succ]
            refine wpAnyH_take (i := 7) (oi := ?oi7h4) (v := ?v7h4) ?hi7h4 (by kernel_rfl) ?hf7h4 (by kernel_rfl) ?hQ7h4 ?hy7h4 (by assumption) ?rest7h4
            case hi7h4 => (simp only [List.getElem?_toArray, List.getElem?_cons_succ, List.getElem?_cons_zero]; rfl)
            case hf7h4 => kernel_rfl
            case hQ7h4 => exact fun _ _ _ h => h
            case hy7h4 => (refine Or.inl ⟨by rfl, ?_⟩; intro W hSw; (try dsimp only at hSw); go_simp; try with_reducible rfl)
            try simp only [Act.put, List.setIfInBounds_toArray, List.set_cons_zero, List.set_cons_succ]
            refine wpAnyH_take (i := 8) (oi := ?oi8h5) (v := ?v8h5) ?hi8h5 (by kernel_rfl) ?hf8h5 (by kernel_rfl) ?hQ8h5 ?hy8h5 (by assumption) ?rest8h5
            case hi8h5 => (simp only [List.getElem?_toArray, List.getElem?_cons_succ, List.getElem?_cons_zero]; rfl)
            case hf8h5 => kernel_rfl
            case hQ8h5 => exact fun _ _ _ h => h
            case hy8h5 => (refine Or.inl ⟨by rfl, ?_⟩; intro W hSw; (try dsimp only at hSw); go_simp; try with_reducible rfl)
            try simp only [Act.put, List.setIfInBounds_toArray, List.set_cons_zero, List.set_cons_succ]
            refine wpAnyH_take (i := 9) (oi := ?oi9h6) (v := ?v9h6) ?hi9h6 (by kernel_rfl) ?hf9h6 (by kernel_rfl) ?hQ9h6 ?hy9h6 (by assumption) ?rest9h6
            case hi9h6 => (simp only [List.getElem?_toArray, List.getElem?_cons_succ, List.getElem?_cons_zero]; rfl)
            case hf9h6 => kernel_rfl
            case hQ9h6 => exact fun _ _ _ h => h
            case hy9h6 => (refine Or.inl ⟨by rfl, ?_⟩; intro W hSw; (try dsimp only at hSw); go_simp; try with_reducible rfl)
            try simp only [Act.put, List.setIfInBounds_toArray, List.set_cons_zero, List.set_cons_succ]
            refine wpAnyH_take (i := 10) (oi := ?oi10h7) (v := ?v10h7) ?hi10h7 (by kernel_rfl) ?hf10h7 (by kernel_rfl) ?hQ10h7 ?hy10h7 (by assumption) ?rest10h7
            case hi10h7 => (simp only [List.getElem?_toArray, List.getElem?_cons_succ, List.getElem?_cons_zero]; rfl)
            case hf10h7 => kernel_rfl
            case hQ10h7 => exact fun _ _ _ h => h
            case hy10h7 => (refine Or.inl ⟨by rfl, ?_⟩; intro W hSw; (try dsimp only at hSw); go_simp; try with_reducible rfl)
            try simp only [Act.put, List.setIfInBounds_toArray, List.set_cons_zero, List.set_cons_succ]
            have hb13 := Hb10.out.trans (bw7.mono Hb10.out.size)
            clear ho5 ho6 hg5 hg6 hat5 hat6 hI12 bw5 bw6 b8 bd
            refine wpAnyH_done (by kernel_rfl) ?_ _
            clear hHeld
            refine last_of ?_
            refine wpOp_step (o := _) (by (simp only [List.getElem?_toArray, List.getElem?_cons_succ, List.getElem?_cons_zero]; rfl)) (fun K hK => ?_)
            go_simp
            refine hK _ _ ?_
            clear hK K
            try simp only [Act.put, List.setIfInBounds_toArray, List.set_cons_zero, List.set_cons_succ]
            go_wp2_with (go_at_call 12; (with_reducible refine (HK.out _).mono ?_); rintro e w14 ⟨rfl, hb14⟩)
            go_ret
            exact ⟨rfl, Hc1.out.trans ((below_then8 hb13 hb14).mono Hc1.out.size)⟩
          · have e3 : (g3 != 0) = true := by simpa using h3
            subst h1 h2
            clear HF' h3
            go_enter Try.func9, Try.ntmps9
            go_wp2_with (first
              | (go_at_call 11; (with_reducible refine HG.out.mono ?_); rintro e w3 ⟨rfl, hb3'⟩; have hb3 := below_then8 Ha.out hb3'; obtain ⟨q3, p3⟩ := HQ.out w3 hb3)
              | (go_at_call 35; (with_reducible refine (HA.out _ hb3).mono ?_); rintro e w4 ⟨iv, fv, xs, fs, rfl, hN, hb4'⟩; have hb4 := below_then8 hb3 hb4'; obtain ⟨a4, n4, k4, d4, m4, l4, rfl, rfl, hL4⟩ := hN.lits; clear hN; obtain ⟨w5, hw5⟩ : ∃ W, w4.alloc (.cells #[.slice a4 n4 k4, .slice d4 m4 l4] 25) = W := ⟨_, rfl⟩; have bb5 : Below w4.heap.size w4 w5 := (by rw [← hw5]; exact below_alloc _ _); have HL5 := hid_ (hL4.below bb5 (Nat.le_refl _)); clear hL4; have hb5 := below_then8 hb4 bb5; obtain ⟨q5, p5⟩ := HQ.out w5 hb5; have c50 : w5.cell? ⟨w4.heap.size, 0, none⟩ = some (.slice a4 n4 k4) := (by rw [← hw5]; exact cells_alloc _ _ _ 0); have c51 : w5.cell? ⟨w4.heap.size, 1, none⟩ = some (.slice d4 m4 l4) := (by rw [← hw5]; exact cells_alloc _ _ _ 1); have z5 : w4.heap.size < w5.heap.size := (by rw [← hw5]; simp); clear bb5)
              | (go_at_call 36; (with_reducible refine (HB.out _ hb5).mono ?_); rintro e w6 ⟨iv, fv, xs, fs, rfl, hN, hb6'⟩; have hb6 := below_then8 hb5 hb6'; obtain ⟨a6, n6, k6, d6, m6, l6, rfl, rfl, hL6⟩ := hN.lits; clear hN; obtain ⟨w7, hw7⟩ : ∃ W, w6.alloc (.cells #[.slice a6 n6 k6, .slice d6 m6 l6] 25) = W := ⟨_, rfl⟩; have bb7 : Below w6.heap.size w6 w7 := (by rw [← hw7]; exact below_alloc _ _); have HL7 := hid_ (hL6.below bb7 (Nat.le_refl _)); clear hL6; have hb7 := below_then8 hb6 bb7; obtain ⟨q7, p7⟩ := HQ.out w7 hb7; have c60 := cell_below c50 hb6'; have c61 := cell_below c51 hb6'; have c70 := cell_below c60 bb7; have c71 := cell_below c61 bb7; have e70 : w7.cell? ⟨w6.heap.size, 0, none⟩ = some (.slice a6 n6 k6) := (by rw [← hw7]; exact cells_alloc _ _ _ 0); have e71 : w7.cell? ⟨w6.heap.size, 1, none⟩ = some (.slice d6 m6 l6) := (by rw [← hw7]; exact cells_alloc _ _ _ 1); have HL75 := hid_ ((HL5.out.below hb6' (Nat.le_refl _)).below bb7 (Nat.le_refl _)); have HSa := hid_ (hS.out _ _ _ HL75.out HL7.out); clear c60 c61 bb7)
              | (go_at_call 28; (with_reducible refine HSa.out.mono ?_); rintro e w8 ⟨rfl, hb8'⟩; have hb8 := below_then8 hb7 hb8'; obtain ⟨q8, p8⟩ := HQ.out w8 hb8; have c80 := cell_below c70 hb8'; have c81 := cell_below c71 hb8'; have HL8 := hid_ (HL75.out.below hb8' (Nat.le_refl _)))
              | (go_at_call 15; (with_reducible refine (HU.out _ _ HL8.out (HI.out _ hb8)).mono ?_); rintro e w9 ⟨rfl, hb9'⟩; have hb9 := below_then8 hb8 hb9'; have c90 := cell_below c80 hb9'; have c91 := cell_below c81 hb9'; have HL9 := hid_ (HL8.out.below hb9' (Nat.le_refl _)))
              | (go_at_call 15; (with_reducible refine (HV.out _ _ HL9.out (HJ.out _ hb9)).mono ?_); rintro e w10 ⟨rfl, hb10'⟩; have hb10 := below_then8 hb9 hb10'; have c100 := cell_below c90 hb10'; have c101 := cell_below c91 hb10'; have HL10 := hid_ (HL9.out.below hb10' (Nat.le_refl _))))
            have bd : Below w10.heap.size w10 w10.drew := Below.drew (Below.refl _ _)
            have b8 : Below w10.heap.size w10 (w10.drew.alloc (.cells #[] 3)) := bd.alloc (Nat.le_refl _) _
            have HS := hid_ (fun W (hW : Below w10.heap.size w10 W) => (⟨cell_below c100 hW, cell_below c101 hW⟩ : W.cell? ⟨w4.heap.size, 0, none⟩ = some (.slice a4 n4 k4) ∧ W.cell? ⟨w4.heap.size, 1, none⟩ = some (.slice d4 m4 l4)))
            have HIu := hid_ ((HI.out _ hb10).below b8 (Nat.le_refl _))
            have HIv := hid_ (HJ.out _ hb10)
            have Hb10 := hid_ hb10
            refine wp_region_last2 (n := 11) (S := fun W' => W'.cell? ⟨w4.heap.size, 0, none⟩ = some (.slice a4 n4 k4) ∧ W'.cell? ⟨w4.heap.size, 1, none⟩ = some (.slice d4 m4 l4)) (by kernel_rfl) (by kernel_rfl) (HS.out _ bd) (fun hHeld => ?_)
            refine wpAnyH_take (i := 0) (oi := ?oi0h8) (v := ?v0h8) ?hi0h8 (by kernel_rfl) ?hf0h8 (by kernel_rfl) ?hQ0h8 ?hy0h8 (by assumption) ?rest0h8
            case hi0h8 => (simp only [List.getElem?_toArray, List.getElem?_cons_zero]; rfl)
            case hf0h8 => kernel_rfl
            case hQ0h8 => exact fun _ _ _ h => h
            case hy0h8 => (refine Or.inl ⟨by rfl, ?_⟩; intro W hSw; (try dsimp only at hSw); obtain ⟨g0, g1⟩ := hSw; go_simp; try with_reducible rfl)
            try simp only [Act.put, List.setIfInBounds_toArray, List.set_cons_zero, List.set_cons_succ]
            refine wpAnyH_take (i := 2) (oi := ?oi2h9) (v := ?v2h9) ?hi2h9 (by kernel_rfl) ?hf2h9 (by kernel_rfl) ?hQ2h9 ?hy2h9 (by assumption) ?rest2h9
            case hi2h9 => (simp only [List.getElem?_toArray, List.getElem?_cons_succ, List.getElem?_cons_zero]; rfl)
            case hf2h9 => kernel_rfl
            case hQ2h9 => exact fun _ _ _ h => h
            case hy2h9 => (refine Or.inl ⟨by rfl, ?_⟩; intro W hSw; (try dsimp only at hSw); go_simp; try with_reducible rfl)
            try simp only [Act.put, List.setIfInBounds_toArray, List.set_cons_zero, List.set_cons_succ]
            refine wpAnyH_take (i := 4) (oi := ?oi4h10) (v := ?v4h10) ?hi4h10 (by kernel_rfl) ?hf4h10 (by kernel_rfl) ?hQ4h10 ?hy4h10 (by assumption) ?rest4h10
            case hi4h10 => (simp only [List.getElem?_toArray, List.getElem?_cons_succ, List.getElem?_cons_zero]; rfl)
            case hf4h10 => kernel_rfl
            case hQ4h10 => exact fun _ _ _ h => h
            case hy4h10 => (refine Or.inl ⟨by rfl, ?_⟩; intro W hSw; (try dsimp only at hSw); go_simp; try with_reducible rfl)
            try simp only [Act.put, List.setIfInBounds_toArray, List.set_cons_zero, List.set_cons_succ]
            refine wpAnyH_ready (rs := [1]) (by kernel_rfl) (by simp) ?_
            refine AllReadyH.cons (o := _) (by (simp only [List.getElem?_toArray, List.getElem?_cons_succ, List.getElem?_cons_zero]; rfl)) (fun K hK => ?_) AllReadyH.nil
            go_simp
            refine hK.out _ _ ?_ (fun hHeld => ?_)
            · exact HS.out _ b8
            clear hK K
            try simp only [Act.put, List.setIfInBounds_toArray, List.set_cons_zero, List.set_cons_succ]
            refine wpAnyH_ready (rs := [3]) (by kernel_rfl) (by simp) ?_
            refine AllReadyH.cons (o := _) (by (simp only [List.getElem?_toArray, List.getElem?_cons_succ, List.getElem?_cons_zero]; rfl)) (fun K hK => ?_) AllReadyH.nil
            refine step_append_row rfl (.tmp 59) (.tmp 60) rfl w10.heap.size _ 0 [] (by rfl) (World.ownsRow_lit (base := w10.heap.size) (e := 3) (size := 1) w10.drew #[] 0 (Nat.le_refl _) (by unfold maxLen; omega) rfl) a n c t (by rfl) HIu.out (by omega) (by simp) ?_; intro v5 w11 ho5 hg5 hat5; simp only [Nat.zero_add, List.nil_append] at ho5; have bw5 : Below w10.heap.size w10 w11 := b8.grown hg5 (by simp) (fun r e => by cases e; exact Nat.le_refl _); obtain ⟨a11, c11, rfl, -⟩ := IntsAt.own ho5
            refine hK.out _ _ ?_ (fun hHeld => ?_)
            · exact HS.out _ bw5
            clear hK K
            try simp only [Act.put, List.setIfInBounds_toArray, List.set_cons_zero, List.set_cons_succ]
            refine wpAnyH_ready (rs := [5]) (by kernel_rfl) (by simp) ?_
            refine AllReadyH.cons (o := _) (by (simp only [List.getElem?_toArray, List.getElem?_cons_succ, List.getElem?_cons_zero]; rfl)) (fun K hK => ?_) AllReadyH.nil
            refine step_append_row rfl (.tmp 61) (.tmp 62) rfl w10.heap.size _ n t (by rfl) ho5 a' n' c' s (by rfl) (HIv.out.below bw5 (Nat.le_refl _)) (by omega) bw5.size ?_; intro v6 w12 ho6 hg6 hat6; have bw6 : Below w10.heap.size w10 w12 := bw5.grown hg6 bw5.size (fun r e => (ho5.lt r e).1); obtain ⟨a12, c12, rfl, hI12⟩ := IntsAt.own ho6; have HI12 := hid_ hI12; have HL12 := hid_ (HL10.out.below bw6 (Nat.le_refl _))
            refine hK.out _ _ ?_ (fun hHeld => ?_)
            · exact HS.out _ bw6
            clear hK K
            try simp only [Act.put, List.setIfInBounds_toArray, List.set_cons_zero, List.set_cons_succ]
            refine wpAnyH_ready (rs := [6]) (by kernel_rfl) (by simp) ?_
            refine AllReadyH.cons (o := _) (by (simp only [List.getElem?_toArray, List.getElem?_cons_succ, List.getElem?_cons_zero]; rfl)) (fun K hK => ?_) AllReadyH.nil
            go_simp
            (with_reducible refine (HUV.out _ _ HL12.out a12 c12 HI12.out).mono ?_); rintro e w13 ⟨rfl, hb13'⟩; have bw7 : Below w10.heap.size w10 w13 := bw6.trans (hb13'.mono bw6.size)
            refine hK.out _ _ ?_ (fun hHeld => ?_)
            · exact HS.out _ bw7
            clear hK K
            try simp only [Act.put, List.setIfInBounds_toArray, List.set_cons_zero, List.set_cons_succ]
            refine wpAnyH_take (i := 7) (oi := ?oi7h11) (v := ?v7h11) ?hi7h11 (by kernel_rfl) ?hf7h11 (by kernel_rfl) ?hQ7h11 ?hy7h11 (by assumption) ?rest7h11
            case hi7h11 => (simp only [List.getElem?_toArray, List.getElem?_cons_succ, List.getElem?_cons_zero]; rfl)
            case hf7h11 => kernel_rfl
            case hQ7h11 => exact fun _ _ _ h => h
            case hy7h11 => (refine Or.inl ⟨by rfl, ?_⟩; intro W hSw; (try dsimp only at hSw); go_simp; try with_reducible rfl)
            try simp only [Act.put, List.setIfInBounds_toArray, List.set_cons_zero, List.set_cons_succ]
            refine wpAnyH_take (i := 8) (oi := ?oi8h12) (v := ?v8h12) ?hi8h12 (by kernel_rfl) ?hf8h12 (by kernel_rfl) ?hQ8h12 ?hy8h12 (by assumption) ?rest8h12
            case hi8h12 => (simp only [List.getElem?_toArray, List.getElem?_cons_succ, List.getElem?_cons_zero]; rfl)
            case hf8h12 => kernel_rfl
            case hQ8h12 => exact fun _ _ _ h => h
            case hy8h12 => (refine Or.inl ⟨by rfl, ?_⟩; intro W hSw; (try dsimp only at hSw); go_simp; try with_reducible rfl)
            try simp only [Act.put, List.setIfInBounds_toArray, List.set_cons_zero, List.set_cons_succ]
            refine wpAnyH_take (i := 9) (oi := ?oi9h13) (v := ?v9h13) ?hi9h13 (by kernel_rfl) ?hf9h13 (by kernel_rfl) ?hQ9h13 ?hy9h13 (by assumption) ?rest9h13
            case hi9h13 => (simp only [List.getElem?_toArray, List.getElem?_cons_succ, List.getElem?_cons_zero]; rfl)
            case hf9h13 => kernel_rfl
            case hQ9h13 => exact fun _ _ _ h => h
            case hy9h13 => (refine Or.inl ⟨by rfl, ?_⟩; intro W hSw; (try dsimp only at hSw); go_simp; try with_reducible rfl)
            try simp only [Act.put, List.setIfInBounds_toArray, List.set_cons_zero, List.set_cons_succ]
            refine wpAnyH_take (i := 10) (oi := ?oi10h14) (v := ?v10h14) ?hi10h14 (by kernel_rfl) ?hf10h14 (by kernel_rfl) ?hQ10h14 ?hy10h14 (by assumption) ?rest10h14
            case hi10h14 => (simp only [List.getElem?_toArray, List.getElem?_cons_succ, List.getElem?_cons_zero]; rfl)
            case hf10h14 => kernel_rfl
            case hQ10h14 => exact fun _ _ _ h => h
            case hy10h14 => (refine Or.inl ⟨by rfl, ?_⟩; intro W hSw; (try dsimp only at hSw); go_simp; try with_reducible rfl)
            try simp only [Act.put, List.setIfInBounds_toArray, List.set_cons_zero, List.set_cons_succ]
            have hb13 := Hb10.out.trans (bw7.mono Hb10.out.size)
            clear ho5 ho6 hg5 hg6 hat5 hat6 hI12 bw5 bw6 b8 bd
            refine wpAnyH_done (by kernel_rfl) ?_ _
            clear hHeld
            refine last_of ?_
            refine wpOp_step (o := _) (by (simp only [List.getElem?_toArray, List.getElem?_cons_succ, List.getElem?_cons_zero]; rfl)) (fun K hK => ?_)
            go_simp
            refine hK _ _ ?_
            clear hK K
            try simp only [Act.put, List.setIfInBounds_toArray, List.set_cons_zero, List.set_cons_succ]
            go_wp2_with (go_at_call 12; (with_reducible refine (HK.out _).mono ?_); rintro e w14 ⟨rfl, hb14⟩)
            go_ret
            exact ⟨rfl, Hc1.out.trans ((below_then8 hb13 hb14).mono Hc1.out.size)⟩
        · have e2 : (g2 != 0) = true := by simpa using h2
          subst h1
          clear HF' h2
          go_enter Try.func9, Try.ntmps9
          go_wp2_with (first
            | (go_at_call 11; (with_reducible refine HG.out.mono ?_); rintro e w3 ⟨rfl, hb3'⟩; have hb3 := below_then8 Ha.out hb3'; obtain ⟨q3, p3⟩ := HQ.out w3 hb3)
            | (go_at_call 35; (with_reducible refine (HA.out _ hb3).mono ?_); rintro e w4 ⟨iv, fv, xs, fs, rfl, hN, hb4'⟩; have hb4 := below_then8 hb3 hb4'; obtain ⟨a4, n4, k4, d4, m4, l4, rfl, rfl, hL4⟩ := hN.lits; clear hN; obtain ⟨w5, hw5⟩ : ∃ W, w4.alloc (.cells #[.slice a4 n4 k4, .slice d4 m4 l4] 25) = W := ⟨_, rfl⟩; have bb5 : Below w4.heap.size w4 w5 := (by rw [← hw5]; exact below_alloc _ _); have HL5 := hid_ (hL4.below bb5 (Nat.le_refl _)); clear hL4; have hb5 := below_then8 hb4 bb5; obtain ⟨q5, p5⟩ := HQ.out w5 hb5; have c50 : w5.cell? ⟨w4.heap.size, 0, none⟩ = some (.slice a4 n4 k4) := (by rw [← hw5]; exact cells_alloc _ _ _ 0); have c51 : w5.cell? ⟨w4.heap.size, 1, none⟩ = some (.slice d4 m4 l4) := (by rw [← hw5]; exact cells_alloc _ _ _ 1); have z5 : w4.heap.size < w5.heap.size := (by rw [← hw5]; simp); clear bb5)
            | (go_at_call 36; (with_reducible refine (HB.out _ hb5).mono ?_); rintro e w6 ⟨iv, fv, xs, fs, rfl, hN, hb6'⟩; have hb6 := below_then8 hb5 hb6'; obtain ⟨a6, n6, k6, d6, m6, l6, rfl, rfl, hL6⟩ := hN.lits; clear hN; obtain ⟨w7, hw7⟩ : ∃ W, w6.alloc (.cells #[.slice a6 n6 k6, .slice d6 m6 l6] 25) = W := ⟨_, rfl⟩; have bb7 : Below w6.heap.size w6 w7 := (by rw [← hw7]; exact below_alloc _ _); have HL7 := hid_ (hL6.below bb7 (Nat.le_refl _)); clear hL6; have hb7 := below_then8 hb6 bb7; obtain ⟨q7, p7⟩ := HQ.out w7 hb7; have c60 := cell_below c50 hb6'; have c61 := cell_below c51 hb6'; have c70 := cell_below c60 bb7; have c71 := cell_below c61 bb7; have e70 : w7.cell? ⟨w6.heap.size, 0, none⟩ = some (.slice a6 n6 k6) := (by rw [← hw7]; exact cells_alloc _ _ _ 0); have e71 : w7.cell? ⟨w6.heap.size, 1, none⟩ = some (.slice d6 m6 l6) := (by rw [← hw7]; exact cells_alloc _ _ _ 1); have HL75 := hid_ ((HL5.out.below hb6' (Nat.le_refl _)).below bb7 (Nat.le_refl _)); have HSa := hid_ (hS.out _ _ _ HL75.out HL7.out); clear c60 c61 bb7)
            | (go_at_call 28; (with_reducible refine HSa.out.mono ?_); rintro e w8 ⟨rfl, hb8'⟩; have hb8 := below_then8 hb7 hb8'; obtain ⟨q8, p8⟩ := HQ.out w8 hb8; have c80 := cell_below c70 hb8'; have c81 := cell_below c71 hb8'; have HL8 := hid_ (HL75.out.below hb8' (Nat.le_refl _)))
            | (go_at_call 15; (with_reducible refine (HU.out _ _ HL8.out (HI.out _ hb8)).mono ?_); rintro e w9 ⟨rfl, hb9'⟩; have hb9 := below_then8 hb8 hb9'; have c90 := cell_below c80 hb9'; have c91 := cell_below c81 hb9'; have HL9 := hid_ (HL8.out.below hb9' (Nat.le_refl _)))
            | (go_at_call 15; (with_reducible refine (HV.out _ _ HL9.out (HJ.out _ hb9)).mono ?_); rintro e w10 ⟨rfl, hb10'⟩; have hb10 := below_then8 hb9 hb10'; have c100 := cell_below c90 hb10'; have c101 := cell_below c91 hb10'; have HL10 := hid_ (HL9.out.below hb10' (Nat.le_refl _))))
          have bd : Below w10.heap.size w10 w10.drew := Below.drew (Below.refl _ _)
          have b8 : Below w10.heap.size w10 (w10.drew.alloc (.cells #[] 3)) := bd.alloc (Nat.le_refl _) _
          have HS := hid_ (fun W (hW : Below w10.heap.size w10 W) => (⟨cell_below c100 hW, cell_below c101 hW⟩ : W.cell? ⟨w4.heap.size, 0, none⟩ = some (.slice a4 n4 k4) ∧ W.cell? ⟨w4.heap.size, 1, none⟩ = some (.slice d4 m4 l4)))
          have HIu := hid_ ((HI.out _ hb10).below b8 (Nat.le_refl _))
          have HIv := hid_ (HJ.out _ hb10)
          have Hb10 := hid_ hb10
          refine wp_region_last2 (n := 11) (S := fun W' => W'.cell? ⟨w4.heap.size, 0, none⟩ = some (.slice a4 n4 k4) ∧ W'.cell? ⟨w4.heap.size, 1, none⟩ = some (.slice d4 m4 l4)) (by kernel_rfl) (by kernel_rfl) (HS.out _ bd) (fun hHeld => ?_)
          refine wpAnyH_take (i := 0) (oi := ?oi0h15) (v := ?v0h15) ?hi0h15 (by kernel_rfl) ?hf0h15 (by kernel_rfl) ?hQ0h15 ?hy0h15 (by assumption) ?rest0h15
          case hi0h15 => (simp only [List.getElem?_toArray, List.getElem?_cons_zero]; rfl)
          case hf0h15 => kernel_rfl
          case hQ0h15 => exact fun _ _ _ h => h
          case hy0h15 => (refine Or.inl ⟨by rfl, ?_⟩; intro W hSw; (try dsimp only at hSw); obtain ⟨g0, g1⟩ := hSw; go_simp; try with_reducible rfl)
          try simp only [Act.put, List.setIfInBounds_toArray, List.set_cons_zero, List.set_cons_succ]
          refine wpAnyH_take (i := 2) (oi := ?oi2h16) (v := ?v2h16) ?hi2h16 (by kernel_rfl) ?hf2h16 (by kernel_rfl) ?hQ2h16 ?hy2h16 (by assumption) ?rest2h16
          case hi2h16 => (simp only [List.getElem?_toArray, List.getElem?_cons_succ, List.getElem?_cons_zero]; rfl)
          case hf2h16 => kernel_rfl
          case hQ2h16 => exact fun _ _ _ h => h
          case hy2h16 => (refine Or.inl ⟨by rfl, ?_⟩; intro W hSw; (try dsimp only at hSw); go_simp; try with_reducible rfl)
          try simp only [Act.put, List.setIfInBounds_toArray, List.set_cons_zero, List.set_cons_succ]
          refine wpAnyH_take (i := 4) (oi := ?oi4h17) (v := ?v4h17) ?hi4h17 (by kernel_rfl) ?hf4h17 (by kernel_rfl) ?hQ4h17 ?hy4h17 (by assumption) ?rest4h17
          case hi4h17 => (simp only [List.getElem?_toArray, List.getElem?_cons_succ, List.getElem?_cons_zero]; rfl)
          case hf4h17 => kernel_rfl
          case hQ4h17 => exact fun _ _ _ h => h
          case hy4h17 => (refine Or.inl ⟨by rfl, ?_⟩; intro W hSw; (try dsimp only at hSw); go_simp; try with_reducible rfl)
          try simp only [Act.put, List.setIfInBounds_toArray, List.set_cons_zero, List.set_cons_succ]
          refine wpAnyH_ready (rs := [1]) (by kernel_rfl) (by simp) ?_
          refine AllReadyH.cons (o := _) (by (simp only [List.getElem?_toArray, List.getElem?_cons_succ, List.getElem?_cons_zero]; rfl)) (fun K hK => ?_) AllReadyH.nil
          go_simp
          refine hK.out _ _ ?_ (fun hHeld => ?_)
          · exact HS.out _ b8
          clear hK K
          try simp only [Act.put, List.setIfInBounds_toArray, List.set_cons_zero, List.set_cons_succ]
          refine wpAnyH_ready (rs := [3]) (by kernel_rfl) (by simp) ?_
          refine AllReadyH.cons (o := _) (by (simp only [List.getElem?_toArray, List.getElem?_cons_succ, List.getElem?_cons_zero]; rfl)) (fun K hK => ?_) AllReadyH.nil
          refine step_append_row rfl (.tmp 59) (.tmp 60) rfl w10.heap.size _ 0 [] (by rfl) (World.ownsRow_lit (base := w10.heap.size) (e := 3) (size := 1) w10.drew #[] 0 (Nat.le_refl _) (by unfold maxLen; omega) rfl) a n c t (by rfl) HIu.out (by omega) (by simp) ?_; intro v5 w11 ho5 hg5 hat5; simp only [Nat.zero_add, List.nil_append] at ho5; have bw5 : Below w10.heap.size w10 w11 := b8.grown hg5 (by simp) (fun r e => by cases e; exact Nat.le_refl _); obtain ⟨a11, c11, rfl, -⟩ := IntsAt.own ho5
          refine hK.out _ _ ?_ (fun hHeld => ?_)
          · exact HS.out _ bw5
          clear hK K
          try simp only [Act.put, List.setIfInBounds_toArray, List.set_cons_zero, List.set_cons_succ]
          refine wpAnyH_ready (rs := [5]) (by kernel_rfl) (by simp) ?_
          refine AllReadyH.cons (o := _) (by (simp only [List.getElem?_toArray, List.getElem?_cons_succ, List.getElem?_cons_zero]; rfl)) (fun K hK => ?_) AllReadyH.nil
          refine step_append_row rfl (.tmp 61) (.tmp 62) rfl w10.heap.size _ n t (by rfl) ho5 a' n' c' s (by rfl) (HIv.out.below bw5 (Nat.le_refl _)) (by omega) bw5.size ?_; intro v6 w12 ho6 hg6 hat6; have bw6 : Below w10.heap.size w10 w12 := bw5.grown hg6 bw5.size (fun r e => (ho5.lt r e).1); obtain ⟨a12, c12, rfl, hI12⟩ := IntsAt.own ho6; have HI12 := hid_ hI12; have HL12 := hid_ (HL10.out.below bw6 (Nat.le_refl _))
          refine hK.out _ _ ?_ (fun hHeld => ?_)
          · exact HS.out _ bw6
          clear hK K
          try simp only [Act.put, List.setIfInBounds_toArray, List.set_cons_zero, List.set_cons_succ]
          refine wpAnyH_ready (rs := [6]) (by kernel_rfl) (by simp) ?_
          refine AllReadyH.cons (o := _) (by (simp only [List.getElem?_toArray, List.getElem?_cons_succ, List.getElem?_cons_zero]; rfl)) (fun K hK => ?_) AllReadyH.nil
          go_simp
          (with_reducible refine (HUV.out _ _ HL12.out a12 c12 HI12.out).mono ?_); rintro e w13 ⟨rfl, hb13'⟩; have bw7 : Below w10.heap.size w10 w13 := bw6.trans (hb13'.mono bw6.size)
          refine hK.out _ _ ?_ (fun hHeld => ?_)
          · exact HS.out _ bw7
          clear hK K
          try simp only [Act.put, List.setIfInBounds_toArray, List.set_cons_zero, List.set_cons_succ]
          refine wpAnyH_take (i := 7) (oi := ?oi7h18) (v := ?v7h18) ?hi7h18 (by kernel_rfl) ?hf7h18 (by kernel_rfl) ?hQ7h18 ?hy7h18 (by assumption) ?rest7h18
          case hi7h18 => (simp only [List.getElem?_toArray, List.getElem?_cons_succ, List.getElem?_cons_zero]; rfl)
          case hf7h18 => kernel_rfl
          case hQ7h18 => exact fun _ _ _ h => h
          case hy7h18 => (refine Or.inl ⟨by rfl, ?_⟩; intro W hSw; (try dsimp only at hSw); go_simp; try with_reducible rfl)
          try simp only [Act.put, List.setIfInBounds_toArray, List.set_cons_zero, List.set_cons_succ]
          refine wpAnyH_take (i := 8) (oi := ?oi8h19) (v := ?v8h19) ?hi8h19 (by kernel_rfl) ?hf8h19 (by kernel_rfl) ?hQ8h19 ?hy8h19 (by assumption) ?rest8h19
          case hi8h19 => (simp only [List.getElem?_toArray, List.getElem?_cons_succ, List.getElem?_cons_zero]; rfl)
          case hf8h19 => kernel_rfl
          case hQ8h19 => exact fun _ _ _ h => h
          case hy8h19 => (refine Or.inl ⟨by rfl, ?_⟩; intro W hSw; (try dsimp only at hSw); go_simp; try with_reducible rfl)
          try simp only [Act.put, List.setIfInBounds_toArray, List.set_cons_zero, List.set_cons_succ]
          refine wpAnyH_take (i := 9) (oi := ?oi9h20) (v := ?v9h20) ?hi9h20 (by kernel_rfl) ?hf9h20 (by kernel_rfl) ?hQ9h20 ?hy9h20 (by assumption) ?rest9h20
          case hi9h20 => (simp only [List.getElem?_toArray, List.getElem?_cons_succ, List.getElem?_cons_zero]; rfl)
          case hf9h20 => kernel_rfl
          case hQ9h20 => exact fun _ _ _ h => h
          case hy9h20 => (refine Or.inl ⟨by rfl, ?_⟩; intro W hSw; (try dsimp only at hSw); go_simp; try with_reducible rfl)
          try simp only [Act.put, List.setIfInBounds_toArray, List.set_cons_zero, List.set_cons_succ]
          refine wpAnyH_take (i := 10) (oi := ?oi10h21) (v := ?v10h21) ?hi10h21 (by kernel_rfl) ?hf10h21 (by kernel_rfl) ?hQ10h21 ?hy10h21 (by assumption) ?rest10h21
          case hi10h21 => (simp only [List.getElem?_toArray, List.getElem?_cons_succ, List.getElem?_cons_zero]; rfl)
          case hf10h21 => kernel_rfl
          case hQ10h21 => exact fun _ _ _ h => h
          case hy10h21 => (refine Or.inl ⟨by rfl, ?_⟩; intro W hSw; (try dsimp only at hSw); go_simp; try with_reducible rfl)
          try simp only [Act.put, List.setIfInBounds_toArray, List.set_cons_zero, List.set_cons_succ]
          have hb13 := Hb10.out.trans (bw7.mono Hb10.out.size)
          clear ho5 ho6 hg5 hg6 hat5 hat6 hI12 bw5 bw6 b8 bd
          refine wpAnyH_done (by kernel_rfl) ?_ _
          clear hHeld
          refine last_of ?_
          refine wpOp_step (o := _) (by (simp only [List.getElem?_toArray, List.getElem?_cons_succ, List.getElem?_cons_zero]; rfl)) (fun K hK => ?_)
          go_simp
          refine hK _ _ ?_
          clear hK K
          try simp only [Act.put, List.setIfInBounds_toArray, List.set_cons_zero, List.set_cons_succ]
          go_wp2_with (go_at_call 12; (with_reducible refine (HK.out _).mono ?_); rintro e w14 ⟨rfl, hb14⟩)
          go_ret
          exact ⟨rfl, Hc1.out.trans ((below_then8 hb13 hb14).mono Hc1.out.size)⟩
      · have e1 : (g1 != 0) = true := by simpa using h1
        clear HF' h1
        go_enter Try.func9, Try.ntmps9
        go_wp2_with (first
          | (go_at_call 11; (with_reducible refine HG.out.mono ?_); rintro e w3 ⟨rfl, hb3'⟩; have hb3 := below_then8 Ha.out hb3'; obtain ⟨q3, p3⟩ := HQ.out w3 hb3)
          | (go_at_call 35; (with_reducible refine (HA.out _ hb3).mono ?_); rintro e w4 ⟨iv, fv, xs, fs, rfl, hN, hb4'⟩; have hb4 := below_then8 hb3 hb4'; obtain ⟨a4, n4, k4, d4, m4, l4, rfl, rfl, hL4⟩ := hN.lits; clear hN; obtain ⟨w5, hw5⟩ : ∃ W, w4.alloc (.cells #[.slice a4 n4 k4, .slice d4 m4 l4] 25) = W := ⟨_, rfl⟩; have bb5 : Below w4.heap.size w4 w5 := (by rw [← hw5]; exact below_alloc _ _); have HL5 := hid_ (hL4.below bb5 (Nat.le_refl _)); clear hL4; have hb5 := below_then8 hb4 bb5; obtain ⟨q5, p5⟩ := HQ.out w5 hb5; have c50 : w5.cell? ⟨w4.heap.size, 0, none⟩ = some (.slice a4 n4 k4) := (by rw [← hw5]; exact cells_alloc _ _ _ 0); have c51 : w5.cell? ⟨w4.heap.size, 1, none⟩ = some (.slice d4 m4 l4) := (by rw [← hw5]; exact cells_alloc _ _ _ 1); have z5 : w4.heap.size < w5.heap.size := (by rw [← hw5]; simp); clear bb5)
          | (go_at_call 36; (with_reducible refine (HB.out _ hb5).mono ?_); rintro e w6 ⟨iv, fv, xs, fs, rfl, hN, hb6'⟩; have hb6 := below_then8 hb5 hb6'; obtain ⟨a6, n6, k6, d6, m6, l6, rfl, rfl, hL6⟩ := hN.lits; clear hN; obtain ⟨w7, hw7⟩ : ∃ W, w6.alloc (.cells #[.slice a6 n6 k6, .slice d6 m6 l6] 25) = W := ⟨_, rfl⟩; have bb7 : Below w6.heap.size w6 w7 := (by rw [← hw7]; exact below_alloc _ _); have HL7 := hid_ (hL6.below bb7 (Nat.le_refl _)); clear hL6; have hb7 := below_then8 hb6 bb7; obtain ⟨q7, p7⟩ := HQ.out w7 hb7; have c60 := cell_below c50 hb6'; have c61 := cell_below c51 hb6'; have c70 := cell_below c60 bb7; have c71 := cell_below c61 bb7; have e70 : w7.cell? ⟨w6.heap.size, 0, none⟩ = some (.slice a6 n6 k6) := (by rw [← hw7]; exact cells_alloc _ _ _ 0); have e71 : w7.cell? ⟨w6.heap.size, 1, none⟩ = some (.slice d6 m6 l6) := (by rw [← hw7]; exact cells_alloc _ _ _ 1); have HL75 := hid_ ((HL5.out.below hb6' (Nat.le_refl _)).below bb7 (Nat.le_refl _)); have HSa := hid_ (hS.out _ _ _ HL75.out HL7.out); clear c60 c61 bb7)
          | (go_at_call 28; (with_reducible refine HSa.out.mono ?_); rintro e w8 ⟨rfl, hb8'⟩; have hb8 := below_then8 hb7 hb8'; obtain ⟨q8, p8⟩ := HQ.out w8 hb8; have c80 := cell_below c70 hb8'; have c81 := cell_below c71 hb8'; have HL8 := hid_ (HL75.out.below hb8' (Nat.le_refl _)))
          | (go_at_call 15; (with_reducible refine (HU.out _ _ HL8.out (HI.out _ hb8)).mono ?_); rintro e w9 ⟨rfl, hb9'⟩; have hb9 := below_then8 hb8 hb9'; have c90 := cell_below c80 hb9'; have c91 := cell_below c81 hb9'; have HL9 := hid_ (HL8.out.below hb9' (Nat.le_refl _)))
          | (go_at_call 15; (with_reducible refine (HV.out _ _ HL9.out (HJ.out _ hb9)).mono ?_); rintro e w10 ⟨rfl, hb10'⟩; have hb10 := below_then8 hb9 hb10'; have c100 := cell_below c90 hb10'; have c101 := cell_below c91 hb10'; have HL10 := hid_ (HL9.out.below hb10' (Nat.le_refl _))))
        have bd : Below w10.heap.size w10 w10.drew := Below.drew (Below.refl _ _)
        have b8 : Below w10.heap.size w10 (w10.drew.alloc (.cells #[] 3)) := bd.alloc (Nat.le_refl _) _
        have HS := hid_ (fun W (hW : Below w10.heap.size w10 W) => (⟨cell_below c100 hW, cell_below c101 hW⟩ : W.cell? ⟨w4.heap.size, 0, none⟩ = some (.slice a4 n4 k4) ∧ W.cell? ⟨w4.heap.size, 1, none⟩ = some (.slice d4 m4 l4)))
        have HIu := hid_ ((HI.out _ hb10).below b8 (Nat.le_refl _))
        have HIv := hid_ (HJ.out _ hb10)
        have Hb10 := hid_ hb10
        refine wp_region_last2 (n := 11) (S := fun W' => W'.cell? ⟨w4.heap.size, 0, none⟩ = some (.slice a4 n4 k4) ∧ W'.cell? ⟨w4.heap.size, 1, none⟩ = some (.slice d4 m4 l4)) (by kernel_rfl) (by kernel_rfl) (HS.out _ bd) (fun hHeld => ?_)
        refine wpAnyH_take (i := 0) (oi := ?oi0h22) (v := ?v0h22) ?hi0h22 (by kernel_rfl) ?hf0h22 (by kernel_rfl) ?hQ0h22 ?hy0h22 (by assumption) ?rest0h22
        case hi0h22 => (simp only [List.getElem?_toArray, List.getElem?_cons_zero]; rfl)
        case hf0h22 => kernel_rfl
        case hQ0h22 => exact fun _ _ _ h => h
        case hy0h22 => (refine Or.inl ⟨by rfl, ?_⟩; intro W hSw; (try dsimp only at hSw); obtain ⟨g0, g1⟩ := hSw; go_simp; try with_reducible rfl)
        try simp only [Act.put, List.setIfInBounds_toArray, List.set_cons_zero, List.set_cons_succ]
        refine wpAnyH_take (i := 2) (oi := ?oi2h23) (v := ?v2h23) ?hi2h23 (by kernel_rfl) ?hf2h23 (by kernel_rfl) ?hQ2h23 ?hy2h23 (by assumption) ?rest2h23
        case hi2h23 => (simp only [List.getElem?_toArray, List.getElem?_cons_succ, List.getElem?_cons_zero]; rfl)
        case hf2h23 => kernel_rfl
        case hQ2h23 => exact fun _ _ _ h => h
        case hy2h23 => (refine Or.inl ⟨by rfl, ?_⟩; intro W hSw; (try dsimp only at hSw); go_simp; try with_reducible rfl)
        try simp only [Act.put, List.setIfInBounds_toArray, List.set_cons_zero, List.set_cons_succ]
        refine wpAnyH_take (i := 4) (oi := ?oi4h24) (v := ?v4h24) ?hi4h24 (by kernel_rfl) ?hf4h24 (by kernel_rfl) ?hQ4h24 ?hy4h24 (by assumption) ?rest4h24
        case hi4h24 => (simp only [List.getElem?_toArray, List.getElem?_cons_succ, List.getElem?_cons_zero]; rfl)
        case hf4h24 => kernel_rfl
        case hQ4h24 => exact fun _ _ _ h => h
        case hy4h24 => (refine Or.inl ⟨by rfl, ?_⟩; intro W hSw; (try dsimp only at hSw); go_simp; try with_reducible rfl)
        try simp only [Act.put, List.setIfInBounds_toArray, List.set_cons_zero, List.set_cons_succ]
        refine wpAnyH_ready (rs := [1]) (by kernel_rfl) (by simp) ?_
        refine AllReadyH.cons (o := _) (by (simp only [List.getElem?_toArray, List.getElem?_cons_succ, List.getElem?_cons_zero]; rfl)) (fun K hK => ?_) AllReadyH.nil
        go_simp
        refine hK.out _ _ ?_ (fun hHeld => ?_)
        · exact HS.out _ b8
        clear hK K
        try simp only [Act.put, List.setIfInBounds_toArray, List.set_cons_zero, List.set_cons_succ]
        refine wpAnyH_ready (rs := [3]) (by kernel_rfl) (by simp) ?_
        refine AllReadyH.cons (o := _) (by (simp only [List.getElem?_toArray, List.getElem?_cons_succ, List.getElem?_cons_zero]; rfl)) (fun K hK => ?_) AllReadyH.nil
        refine step_append_row rfl (.tmp 59) (.tmp 60) rfl w10.heap.size _ 0 [] (by rfl) (World.ownsRow_lit (base := w10.heap.size) (e := 3) (size := 1) w10.drew #[] 0 (Nat.le_refl _) (by unfold maxLen; omega) rfl) a n c t (by rfl) HIu.out (by omega) (by simp) ?_; intro v5 w11 ho5 hg5 hat5; simp only [Nat.zero_add, List.nil_append] at ho5; have bw5 : Below w10.heap.size w10 w11 := b8.grown hg5 (by simp) (fun r e => by cases e; exact Nat.le_refl _); obtain ⟨a11, c11, rfl, -⟩ := IntsAt.own ho5
        refine hK.out _ _ ?_ (fun hHeld => ?_)
        · exact HS.out _ bw5
        clear hK K
        try simp only [Act.put, List.setIfInBounds_toArray, List.set_cons_zero, List.set_cons_succ]
        refine wpAnyH_ready (rs := [5]) (by kernel_rfl) (by simp) ?_
        refine AllReadyH.cons (o := _) (by (simp only [List.getElem?_toArray, List.getElem?_cons_succ, List.getElem?_cons_zero]; rfl)) (fun K hK => ?_) AllReadyH.nil
        refine step_append_row rfl (.tmp 61) (.tmp 62) rfl w10.heap.size _ n t (by rfl) ho5 a' n' c' s (by rfl) (HIv.out.below bw5 (Nat.le_refl _)) (by omega) bw5.size ?_; intro v6 w12 ho6 hg6 hat6; have bw6 : Below w10.heap.size w10 w12 := bw5.grown hg6 bw5.size (fun r e => (ho5.lt r e).1); obtain ⟨a12, c12, rfl, hI12⟩ := IntsAt.own ho6; have HI12 := hid_ hI12; have HL12 := hid_ (HL10.out.below bw6 (Nat.le_refl _))
        refine hK.out _ _ ?_ (fun hHeld => ?_)
        · exact HS.out _ bw6
        clear hK K
        try simp only [Act.put, List.setIfInBounds_toArray, List.set_cons_zero, List.set_cons_succ]
        refine wpAnyH_ready (rs := [6]) (by kernel_rfl) (by simp) ?_
        refine AllReadyH.cons (o := _) (by (simp only [List.getElem?_toArray, List.getElem?_cons_succ, List.getElem?_cons_zero]; rfl)) (fun K hK => ?_) AllReadyH.nil
        go_simp
        (with_reducible refine (HUV.out _ _ HL12.out a12 c12 HI12.out).mono ?_); rintro e w13 ⟨rfl, hb13'⟩; have bw7 : Below w10.heap.size w10 w13 := bw6.trans (hb13'.mono bw6.size)
        refine hK.out _ _ ?_ (fun hHeld => ?_)
        · exact HS.out _ bw7
        clear hK K
        try simp only [Act.put, List.setIfInBounds_toArray, List.set_cons_zero, List.set_cons_succ]
        refine wpAnyH_take (i := 7) (oi := ?oi7h25) (v := ?v7h25) ?hi7h25 (by kernel_rfl) ?hf7h25 (by kernel_rfl) ?hQ7h25 ?hy7h25 (by assumption) ?rest7h25
        case hi7h25 => (simp only [List.getElem?_toArray, List.getElem?_cons_succ, List.getElem?_cons_zero]; rfl)
        case hf7h25 => kernel_rfl
        case hQ7h25 => exact fun _ _ _ h => h
        case hy7h25 => (refine Or.inl ⟨by rfl, ?_⟩; intro W hSw; (try dsimp only at hSw); go_simp; try with_reducible rfl)
        try simp only [Act.put, List.setIfInBounds_toArray, List.set_cons_zero, List.set_cons_succ]
        refine wpAnyH_take (i := 8) (oi := ?oi8h26) (v := ?v8h26) ?hi8h26 (by kernel_rfl) ?hf8h26 (by kernel_rfl) ?hQ8h26 ?hy8h26 (by assumption) ?rest8h26
        case hi8h26 => (simp only [List.getElem?_toArray, List.getElem?_cons_succ, List.getElem?_cons_zero]; rfl)
        case hf8h26 => kernel_rfl
        case hQ8h26 => exact fun _ _ _ h => h
        case hy8h26 => (refine Or.inl ⟨by rfl, ?_⟩; intro W hSw; (try dsimp only at hSw); go_simp; try with_reducible rfl)
        try simp only [Act.put, List.setIfInBounds_toArray, List.set_cons_zero, List.set_cons_succ]
        refine wpAnyH_take (i := 9) (oi := ?oi9h27) (v := ?v9h27) ?hi9h27 (by kernel_rfl) ?hf9h27 (by kernel_rfl) ?hQ9h27 ?hy9h27 (by assumption) ?rest9h27
        case hi9h27 => (simp only [List.getElem?_toArray, List.getElem?_cons_succ, List.getElem?_cons_zero]; rfl)
        case hf9h27 => kernel_rfl
        case hQ9h27 => exact fun _ _ _ h => h
        case hy9h27 => (refine Or.inl ⟨by rfl, ?_⟩; intro W hSw; (try dsimp only at hSw); go_simp; try with_reducible rfl)
        try simp only [Act.put, List.setIfInBounds_toArray, List.set_cons_zero, List.set_cons_succ]
        refine wpAnyH_take (i := 10) (oi := ?oi10h28) (v := ?v10h28) ?hi10h28 (by kernel_rfl) ?hf10h28 (by kernel_rfl) ?hQ10h28 ?hy10h28 (by assumption) ?rest10h28
        case hi10h28 => (simp only [List.getElem?_toArray, List.getElem?_cons_succ, List.getElem?_cons_zero]; rfl)
        case hf10h28 => kernel_rfl
        case hQ10h28 => exact fun _ _ _ h => h
        case hy10h28 => (refine Or.inl ⟨by rfl, ?_⟩; intro W hSw; (try dsimp only at hSw); go_simp; try with_reducible rfl)
        try simp only [Act.put, List.setIfInBounds_toArray, List.set_cons_zero, List.set_cons_succ]
        have hb13 := Hb10.out.trans (bw7.mono Hb10.out.size)
        clear ho5 ho6 hg5 hg6 hat5 hat6 hI12 bw5 bw6 b8 bd
        refine wpAnyH_done (by kernel_rfl) ?_ _
        clear hHeld
        refine last_of ?_
        refine wpOp_step (o := _) (by (simp only [List.getElem?_toArray, List.getElem?_cons_succ, List.getElem?_cons_zero]; rfl)) (fun K hK => ?_)
        go_simp
        refine hK _ _ ?_
        clear hK K
        try simp only [Act.put, List.setIfInBounds_toArray, List.set_cons_zero, List.set_cons_succ]
        go_wp2_with (go_at_call 12; (with_reducible refine (HK.out _).mono ?_); rintro e w14 ⟨rfl, hb14⟩)
        go_ret
        exact ⟨rfl, Hc1.out.trans ((below_then8 hb13 hb14).mono Hc1.out.size)⟩
    · have hq : (validL L != 0) = true := by simpa using hE
      generalize validL L = y at *
      have hyy : (y != y) = false := by simp
      generalize frL L = D at *
      clear HF hE HD
      go_enter Try.func9, Try.ntmps9
      go_wp2_with (first
        | (go_at_call 11; (with_reducible refine HG.out.mono ?_); rintro e w3 ⟨rfl, hb3'⟩; have hb3 := below_then8 Ha.out hb3'; obtain ⟨q3, p3⟩ := HQ.out w3 hb3)
        | (go_at_call 35; (with_reducible refine (HA.out _ hb3).mono ?_); rintro e w4 ⟨iv, fv, xs, fs, rfl, hN, hb4'⟩; have hb4 := below_then8 hb3 hb4'; obtain ⟨a4, n4, k4, d4, m4, l4, rfl, rfl, hL4⟩ := hN.lits; clear hN; obtain ⟨w5, hw5⟩ : ∃ W, w4.alloc (.cells #[.slice a4 n4 k4, .slice d4 m4 l4] 25) = W := ⟨_, rfl⟩; have bb5 : Below w4.heap.size w4 w5 := (by rw [← hw5]; exact below_alloc _ _); have HL5 := hid_ (hL4.below bb5 (Nat.le_refl _)); clear hL4; have hb5 := below_then8 hb4 bb5; obtain ⟨q5, p5⟩ := HQ.out w5 hb5; have c50 : w5.cell? ⟨w4.heap.size, 0, none⟩ = some (.slice a4 n4 k4) := (by rw [← hw5]; exact cells_alloc _ _ _ 0); have c51 : w5.cell? ⟨w4.heap.size, 1, none⟩ = some (.slice d4 m4 l4) := (by rw [← hw5]; exact cells_alloc _ _ _ 1); have z5 : w4.heap.size < w5.heap.size := (by rw [← hw5]; simp); clear bb5)
        | (go_at_call 36; (with_reducible refine (HB.out _ hb5).mono ?_); rintro e w6 ⟨iv, fv, xs, fs, rfl, hN, hb6'⟩; have hb6 := below_then8 hb5 hb6'; obtain ⟨a6, n6, k6, d6, m6, l6, rfl, rfl, hL6⟩ := hN.lits; clear hN; obtain ⟨w7, hw7⟩ : ∃ W, w6.alloc (.cells #[.slice a6 n6 k6, .slice d6 m6 l6] 25) = W := ⟨_, rfl⟩; have bb7 : Below w6.heap.size w6 w7 := (by rw [← hw7]; exact below_alloc _ _); have HL7 := hid_ (hL6.below bb7 (Nat.le_refl _)); clear hL6; have hb7 := below_then8 hb6 bb7; obtain ⟨q7, p7⟩ := HQ.out w7 hb7; have c60 := cell_below c50 hb6'; have c61 := cell_below c51 hb6'; have c70 := cell_below c60 bb7; have c71 := cell_below c61 bb7; have e70 : w7.cell? ⟨w6.heap.size, 0, none⟩ = some (.slice a6 n6 k6) := (by rw [← hw7]; exact cells_alloc _ _ _ 0); have e71 : w7.cell? ⟨w6.heap.size, 1, none⟩ = some (.slice d6 m6 l6) := (by rw [← hw7]; exact cells_alloc _ _ _ 1); have HL75 := hid_ ((HL5.out.below hb6' (Nat.le_refl _)).below bb7 (Nat.le_refl _)); have HSa := hid_ (hS.out _ _ _ HL75.out HL7.out); clear c60 c61 bb7)
        | (go_at_call 28; (with_reducible refine HSa.out.mono ?_); rintro e w8 ⟨rfl, hb8'⟩; have hb8 := below_then8 hb7 hb8'; obtain ⟨q8, p8⟩ := HQ.out w8 hb8; have c80 := cell_below c70 hb8'; have c81 := cell_below c71 hb8'; have HL8 := hid_ (HL75.out.below hb8' (Nat.le_refl _)))
        | (go_at_call 12; (with_reducible refine (HK.out _).mono ?_); rintro e w9 ⟨rfl, hb9⟩))
      go_ret
      exact ⟨rfl, Hc1.out.trans ((below_then8 hb8 hb9).mono Hc1.out.size)⟩
end Go.Proofs.Ytpcpmdokgdbonaa
