import Derived.Test.YtpcpmdokgdbonaaWd
namespace Go.Proofs.Ytpcpmdokgdbonaa
open Go.RowKit Go.Proofs.Kv Go

theorem code_yes {L : Lx} (h0 : validL L = 0) (hr : ¬ RR L []) : codeB L = true := by unfold codeB; rw [if_pos h0]; simpa using hr
/-! ### an item less -/
def upI (j : Nat) (x : Int) : Int := if x < (j : Int) then x else x + 1
theorem upI_inj (j : Nat) {x y : Int} (h : upI j x = upI j y) : x = y := by
  unfold upI at h; split at h <;> split at h <;> omega
def eraL (L : Lx) (j : Nat) : Lx := ⟨L.items.eraseIdx j, L.follow⟩
theorem eraL_at (L : Lx) (j : Nat) (k : Nat) : (eraL L j).items.getD k I0 = L.items.getD (upI j (k : Int)).toNat I0 := by
  show (L.items.eraseIdx j).getD k I0 = _
  simp only [List.getD, List.getElem?_eraseIdx]
  unfold upI
  by_cases h : k < j
  · rw [if_pos h, if_pos (by omega)]; simp
  · rw [if_neg h, if_neg (by omega)]
    rw [show ((k : Int) + 1).toNat = k + 1 by omega]
theorem eraL_len {L : Lx} {j : Nat} (hj : j < L.items.length) : (eraL L j).items.length = L.items.length - 1 := List.length_eraseIdx_of_lt hj
theorem eraL_good {L : Lx} (g : GoodL L) {j : Nat} (hj : j < L.items.length) (h1 : L.items.length ≠ 1) : GoodL (eraL L j) := by
  have hl := eraL_len hj
  have hup : ∀ k, k < (eraL L j).items.length → (upI j (k : Int)).toNat < L.items.length := fun k hk => by
    unfold upI; split <;> omega
  exact ⟨by have := g.ge; omega, by have := g.le; omega, fun k hk => by rw [eraL_at]; exact g.word _ (hup k hk), fun k hk => by rw [eraL_at]; exact g.kind _ (hup k hk), fun k hk => by rw [eraL_at]; exact g.cost _ (hup k hk), g.rows, g.row⟩
theorem eraL_items {L : Lx} {j : Nat} (hj : j < L.items.length) {s : List Int} (h : itemsB (eraL L j) s = true) : itemsB L (s.map (upI j)) = true := by
  unfold itemsB areB at h ⊢
  rw [eraL_len hj] at h
  rw [List.all_eq_true] at h ⊢
  intro x hx
  obtain ⟨y, hy, rfl⟩ := List.mem_map.1 hx
  have := h y hy
  simp only [Within, Bool.and_eq_true, decide_eq_true_eq] at this ⊢
  unfold upI; split <;> omega
theorem eraL_words {L : Lx} {j : Nat} {s : List Int} (h : itemsB (eraL L j) s = true) : wordsL (eraL L j) s = wordsL L (s.map (upI j)) := by
  unfold wordsL
  rw [List.flatMap_map]
  refine flatMap_congr8 fun x hx => ?_
  unfold itemsB areB at h
  rw [List.all_eq_true] at h
  have := h x hx
  simp only [Within, Bool.and_eq_true, decide_eq_true_eq] at this
  obtain ⟨k, rfl⟩ : ∃ k : Nat, x = (k : Int) := ⟨x.toNat, by omega⟩
  unfold wordL
  rw [Int.toNat_natCast, eraL_at]
theorem eraL_fv (L : Lx) (j : Nat) {a b : Int} (ha : 0 ≤ a) (hb : 0 ≤ b) : fvI (eraL L j) a b = fvI L (upI j a) (upI j b) := by
  obtain ⟨k, rfl⟩ : ∃ k : Nat, a = (k : Int) := ⟨a.toNat, by omega⟩
  obtain ⟨m, rfl⟩ : ∃ m : Nat, b = (m : Int) := ⟨b.toNat, by omega⟩
  unfold fvI follV
  rw [Int.toNat_natCast, Int.toNat_natCast, eraL_at, eraL_at]; rfl
theorem getD_mapI (f : Int → Int) (s : List Int) {i : Nat} (hi : i < s.length) : (s.map f).getD i 0 = f (s.getD i 0) := by simp [List.getD, hi]
theorem eraL_isS {L : Lx} {j : Nat} (hj : j < L.items.length) {t s : List Int} (h : isS (eraL L j) t s) : isS L t (s.map (upI j)) := by
  obtain ⟨h1, h2, h3⟩ := h
  refine ⟨eraL_items hj h1, by rw [← eraL_words h1]; exact h2, okF_yes (List.length_map _) fun k hk => ?_⟩
  have h4 : okC (eraL L j) s k = true := by
    unfold okF at h3
    rw [List.all_eq_true] at h3
    exact h3 k (List.mem_range.2 hk)
  unfold okC at h4 ⊢
  by_cases h0 : k = 0
  · subst h0; rfl
  · rw [decide_eq_false h0, Bool.false_or, decide_eq_true_eq] at h4 ⊢
    obtain ⟨a, ea, ha⟩ := itemsB_at h1 (k := k - 1) (by omega)
    obtain ⟨b, eb, hb⟩ := itemsB_at h1 (k := k) hk
    rw [ea, eb, eraL_fv L j (by omega) (by omega)] at h4
    rw [getD_mapI _ _ (by omega), getD_mapI _ _ hk, ea, eb]
    exact h4
theorem map_upI {j : Nat} : ∀ {s s' : List Int}, s.map (upI j) = s'.map (upI j) → s = s'
  | [], [], _ => rfl
  | [], _ :: _, h => by simp at h
  | _ :: _, [], h => by simp at h
  | x :: s, y :: s', h => by
    rw [List.map_cons, List.map_cons] at h
    injection h with h1 h2
    rw [upI_inj j h1, map_upI h2]
theorem without_facts {L : Lx} {i : Int} (h : wiE L i = 0) (t : List Int) : validL L = 0 ∧ validL (wiL L i) = 0 ∧ textE (wiL L i) t = textE L t ∧ countV (wiL L i) t ≤ countV L t ∧ (codeB L = true → codeB (wiL L i) = true) := by
  have h0 := h
  unfold wiE at h
  by_cases hv : viE L [i] = 0
  · rw [if_pos hv] at h
    by_cases h1 : L.items.length = 1
    · rw [if_pos h1] at h; cases h
    · have g := validL_ok (viE_ok hv).1
      obtain ⟨j, rfl, hj⟩ := one_item (viE_ok hv).2
      have hD : wiL L (j : Int) = eraL L j := by unfold wiL; rw [if_pos h0, Int.toNat_natCast]; rfl
      rw [hD]
      have g' := eraL_good g hj h1
      have ht := textE_eq g' g t
      refine ⟨(viE_ok hv).1, validL_yes g', ht, ?_, fun hc => ?_⟩
      · unfold countV
        rw [ht]
        split
        · exact cnt_map g' g (fun s => s.map (upI j)) (fun s hs => eraL_isS hj hs) (fun s s' _ _ e => map_upI e)
        · exact Int.le_refl _
      · have hnr := (code_at hc).2
        refine code_yes (validL_yes g') fun hr => ?_
        obtain ⟨s, s', hne, hs, hs', hw⟩ := (code_iff g').1 hr
        exact hnr ((code_iff g).2 ⟨_, _, fun e => hne (map_upI e), eraL_items hj hs, eraL_items hj hs', by rw [← eraL_words hs, ← eraL_words hs', hw]⟩)
  · rw [if_neg hv] at h; exact absurd h hv
/-! ### the law TagWithout -/
set_option maxRecDepth 100000 in
set_option maxHeartbeats 8000000 in
theorem tagWithout_calls (v : Value) (L : Lx) (i : Int) (a : Option Addr) (n c : Nat) (t : List Int) (w : World) (h : LexAt w v L) (ht : IntsAt w a n c t) :
    Calls Try.prog 8 #[v, .int .i64 i, .slice a n c] w fun e w' => e = .returned (.bool true) ∧ Below w.heap.size w w' := by
  have HP := hid_ h
  obtain ⟨a1, n1, c1, a2, n2, c2, rfl, h1, h2⟩ := h
  obtain ⟨w1, hw1⟩ : ∃ w1, w.alloc (.cells #[.slice a1 n1 c1, .slice a2 n2 c2] 25) = w1 := ⟨_, rfl⟩
  have cb : Below w.heap.size w w1 := by rw [← hw1]; exact below_alloc _ _
  have q0 : w1.cell? ⟨w.heap.size, 0, none⟩ = some (.slice a1 n1 c1) := by rw [← hw1]; exact cells_alloc _ _ _ 0
  have q1 : w1.cell? ⟨w.heap.size, 1, none⟩ = some (.slice a2 n2 c2) := by rw [← hw1]; exact cells_alloc _ _ _ 1
  have HP1 := hid_ (HP.out.below cb (Nat.le_refl _)); have Hc1 := hid_ cb
  have ht1 := ht.below cb (Nat.le_refl _)
  have HG := hid_ (long8_calls _ L _ 1 1 [t] _ (HP1.out.below (below_alloc w1 (.cells #[.slice a n c] 26)) (Nat.le_refl _)) (lists1_8 w1 26 ht1))
  have Ha := hid_ (below_alloc w1 (.cells #[.slice a n c] 26))
  have HQ := hid_ (fun W (hW : Below w1.heap.size w1 W) => (⟨cell_below q0 hW, cell_below q1 hW⟩ : _ ∧ _))
  have HA := hid_ (fun W (hW : Below w1.heap.size w1 W) => taWithout_calls _ L i W (HP1.out.below hW (Nat.le_refl _)))
  have HB := hid_ (fun W (hW : Below w1.heap.size w1 W) => r8Without_calls _ L i W (HP1.out.below hW (Nat.le_refl _)))
  have HCo := hid_ (fun W (hW : Below w1.heap.size w1 W) => taCount_calls _ L a n c t W (HP1.out.below hW (Nat.le_refl _)) (ht1.below hW (Nat.le_refl _)))
  have HCd := hid_ (fun W (hW : Below w1.heap.size w1 W) v' hv' => taCount_calls v' (wiL L i) a n c t W hv' (ht1.below hW (Nat.le_refl _)))
  have HIs := hid_ (fun W (hW : Below w1.heap.size w1 W) => code_calls _ L W (HP1.out.below hW (Nat.le_refl _)))
  have HId := hid_ (fun W v' hv' => code_calls v' (wiL L i) W hv')
  have HK := hid_ sane_calls
  have HF := fun h => @without_facts L i h t
  clear h1 h2 HP HP1 cb ht ht1
  cases hg : longX L [t] with
  | true =>
    rw [hg] at HG
    clear hg HF
    go_enter Try.func8, Try.ntmps8
    go_wp2_with (first
      | (go_at_call 11; (with_reducible refine HG.out.mono ?_); rintro e w3 ⟨rfl, hb3⟩; have Hb3 := hid_ (below_then8 Ha.out hb3); clear hb3)
      | (go_at_call 12; (with_reducible refine (HK.out _).mono ?_); rintro e w4 ⟨rfl, hb4⟩))
    go_ret
    exact ⟨rfl, Hc1.out.trans ((below_then8 Hb3.out hb4).mono Hc1.out.size)⟩
  | false =>
    rw [hg] at HG
    clear hg
    have hS := hid_ (fun W x y (hx : LexAt W x (wiL L i)) (hy : LexAt W y (wiL L i)) => r8Same_yes x y (wiL L i) W hx hy)
    generalize wiL L i = D at *
    by_cases hE : wiE L i = 0
    · obtain ⟨e1, e2, e3, e4, e5⟩ := HF hE
      rw [hE] at HA HB
      rw [e3] at HCd
      rw [e1] at HIs; rw [e2] at HId
      generalize countV L t = x at *
      generalize countV D t = x' at *
      generalize textE L t = g at *
      have hgg : (g == g) = true := by simp
      have hle : decide (x' ≤ x) = true := decide_eq_true e4
      generalize codeB L = b at *
      generalize codeB D = b' at *
      clear HF e1 e2 e3 hE
      cases b with
      | false =>
        clear e5
        go_enter Try.func8, Try.ntmps8
        go_wp2_with (first
          | (go_at_call 11; (with_reducible refine HG.out.mono ?_); rintro e w3 ⟨rfl, hb3'⟩; have hb3 := below_then8 Ha.out hb3'; obtain ⟨q3, p3⟩ := HQ.out w3 hb3)
          | (go_at_call 33; (with_reducible refine (HA.out _ hb3).mono ?_); rintro e w4 ⟨a4, n4, k4, d4, m4, l4, rfl, hL4, hb4'⟩; have hb4 := below_then8 hb3 hb4'; obtain ⟨w5, hw5⟩ : ∃ W, w4.alloc (.cells #[.slice a4 n4 k4, .slice d4 m4 l4] 25) = W := ⟨_, rfl⟩; have bb5 : Below w4.heap.size w4 w5 := (by rw [← hw5]; exact below_alloc _ _); have HL5 := hid_ (hL4.below bb5 (Nat.le_refl _)); clear hL4; have hb5 := below_then8 hb4 bb5; obtain ⟨q5, p5⟩ := HQ.out w5 hb5; have c50 : w5.cell? ⟨w4.heap.size, 0, none⟩ = some (.slice a4 n4 k4) := (by rw [← hw5]; exact cells_alloc _ _ _ 0); have c51 : w5.cell? ⟨w4.heap.size, 1, none⟩ = some (.slice d4 m4 l4) := (by rw [← hw5]; exact cells_alloc _ _ _ 1); have z5 : w4.heap.size < w5.heap.size := (by rw [← hw5]; simp); clear bb5)
          | (go_at_call 34; (with_reducible refine (HB.out _ hb5).mono ?_); rintro e w6 ⟨a6, n6, k6, d6, m6, l6, rfl, hL6, hb6'⟩; have hb6 := below_then8 hb5 hb6'; obtain ⟨w7, hw7⟩ : ∃ W, w6.alloc (.cells #[.slice a6 n6 k6, .slice d6 m6 l6] 25) = W := ⟨_, rfl⟩; have bb7 : Below w6.heap.size w6 w7 := (by rw [← hw7]; exact below_alloc _ _); have HL7 := hid_ (hL6.below bb7 (Nat.le_refl _)); clear hL6; have hb7 := below_then8 hb6 bb7; obtain ⟨q7, p7⟩ := HQ.out w7 hb7; have c60 := cell_below c50 hb6'; have c61 := cell_below c51 hb6'; have c70 := cell_below c60 bb7; have c71 := cell_below c61 bb7; have e70 : w7.cell? ⟨w6.heap.size, 0, none⟩ = some (.slice a6 n6 k6) := (by rw [← hw7]; exact cells_alloc _ _ _ 0); have e71 : w7.cell? ⟨w6.heap.size, 1, none⟩ = some (.slice d6 m6 l6) := (by rw [← hw7]; exact cells_alloc _ _ _ 1); have HL75 := hid_ ((HL5.out.below hb6' (Nat.le_refl _)).below bb7 (Nat.le_refl _)); have HSa := hid_ (hS.out _ _ _ HL75.out HL7.out); clear c60 c61 bb7)
          | (go_at_call 28; (with_reducible refine HSa.out.mono ?_); rintro e w8 ⟨rfl, hb8'⟩; have hb8 := below_then8 hb7 hb8'; obtain ⟨q8, p8⟩ := HQ.out w8 hb8; have c80 := cell_below c70 hb8'; have c81 := cell_below c71 hb8'; have HL8 := hid_ (HL75.out.below hb8' (Nat.le_refl _)))
          | (go_at_call 15; (with_reducible refine (HCo.out _ hb8).mono ?_); rintro e w9 ⟨rfl, hb9'⟩; have hb9 := below_then8 hb8 hb9'; obtain ⟨q9, p9⟩ := HQ.out w9 hb9; have c90 := cell_below c80 hb9'; have c91 := cell_below c81 hb9'; have HL9 := hid_ (HL8.out.below hb9' (Nat.le_refl _)))
          | (go_at_call 15; (with_reducible refine (HCd.out _ hb9 _ HL9.out).mono ?_); rintro e w10 ⟨rfl, hb10'⟩; have hb10 := below_then8 hb9 hb10'; obtain ⟨q10, p10⟩ := HQ.out w10 hb10; have c100 := cell_below c90 hb10'; have c101 := cell_below c91 hb10'; have HL10 := hid_ (HL9.out.below hb10' (Nat.le_refl _)))
          | (go_at_call 30; (with_reducible refine (HIs.out _ hb10).mono ?_); rintro e w11 ⟨rfl, hb11'⟩; have hb11 := below_then8 hb10 hb11'; have c110 := cell_below c100 hb11'; have c111 := cell_below c101 hb11'; have HL11 := hid_ (HL10.out.below hb11' (Nat.le_refl _)))
          | (go_at_call 30; (with_reducible refine (HId.out _ _ HL11.out).mono ?_); rintro e w12 ⟨rfl, hb12'⟩; have hb12 := below_then8 hb11 hb12')
          | (go_at_call 12; (with_reducible refine (HK.out _).mono ?_); rintro e w13 ⟨rfl, hb13⟩))
        go_ret
        exact ⟨rfl, Hc1.out.trans ((below_then8 hb12 hb13).mono Hc1.out.size)⟩
      | true =>
        obtain rfl := e5 rfl
        clear e5
        go_enter Try.func8, Try.ntmps8
        go_wp2_with (first
          | (go_at_call 11; (with_reducible refine HG.out.mono ?_); rintro e w3 ⟨rfl, hb3'⟩; have hb3 := below_then8 Ha.out hb3'; obtain ⟨q3, p3⟩ := HQ.out w3 hb3)
          | (go_at_call 33; (with_reducible refine (HA.out _ hb3).mono ?_); rintro e w4 ⟨a4, n4, k4, d4, m4, l4, rfl, hL4, hb4'⟩; have hb4 := below_then8 hb3 hb4'; obtain ⟨w5, hw5⟩ : ∃ W, w4.alloc (.cells #[.slice a4 n4 k4, .slice d4 m4 l4] 25) = W := ⟨_, rfl⟩; have bb5 : Below w4.heap.size w4 w5 := (by rw [← hw5]; exact below_alloc _ _); have HL5 := hid_ (hL4.below bb5 (Nat.le_refl _)); clear hL4; have hb5 := below_then8 hb4 bb5; obtain ⟨q5, p5⟩ := HQ.out w5 hb5; have c50 : w5.cell? ⟨w4.heap.size, 0, none⟩ = some (.slice a4 n4 k4) := (by rw [← hw5]; exact cells_alloc _ _ _ 0); have c51 : w5.cell? ⟨w4.heap.size, 1, none⟩ = some (.slice d4 m4 l4) := (by rw [← hw5]; exact cells_alloc _ _ _ 1); have z5 : w4.heap.size < w5.heap.size := (by rw [← hw5]; simp); clear bb5)
          | (go_at_call 34; (with_reducible refine (HB.out _ hb5).mono ?_); rintro e w6 ⟨a6, n6, k6, d6, m6, l6, rfl, hL6, hb6'⟩; have hb6 := below_then8 hb5 hb6'; obtain ⟨w7, hw7⟩ : ∃ W, w6.alloc (.cells #[.slice a6 n6 k6, .slice d6 m6 l6] 25) = W := ⟨_, rfl⟩; have bb7 : Below w6.heap.size w6 w7 := (by rw [← hw7]; exact below_alloc _ _); have HL7 := hid_ (hL6.below bb7 (Nat.le_refl _)); clear hL6; have hb7 := below_then8 hb6 bb7; obtain ⟨q7, p7⟩ := HQ.out w7 hb7; have c60 := cell_below c50 hb6'; have c61 := cell_below c51 hb6'; have c70 := cell_below c60 bb7; have c71 := cell_below c61 bb7; have e70 : w7.cell? ⟨w6.heap.size, 0, none⟩ = some (.slice a6 n6 k6) := (by rw [← hw7]; exact cells_alloc _ _ _ 0); have e71 : w7.cell? ⟨w6.heap.size, 1, none⟩ = some (.slice d6 m6 l6) := (by rw [← hw7]; exact cells_alloc _ _ _ 1); have HL75 := hid_ ((HL5.out.below hb6' (Nat.le_refl _)).below bb7 (Nat.le_refl _)); have HSa := hid_ (hS.out _ _ _ HL75.out HL7.out); clear c60 c61 bb7)
          | (go_at_call 28; (with_reducible refine HSa.out.mono ?_); rintro e w8 ⟨rfl, hb8'⟩; have hb8 := below_then8 hb7 hb8'; obtain ⟨q8, p8⟩ := HQ.out w8 hb8; have c80 := cell_below c70 hb8'; have c81 := cell_below c71 hb8'; have HL8 := hid_ (HL75.out.below hb8' (Nat.le_refl _)))
          | (go_at_call 15; (with_reducible refine (HCo.out _ hb8).mono ?_); rintro e w9 ⟨rfl, hb9'⟩; have hb9 := below_then8 hb8 hb9'; obtain ⟨q9, p9⟩ := HQ.out w9 hb9; have c90 := cell_below c80 hb9'; have c91 := cell_below c81 hb9'; have HL9 := hid_ (HL8.out.below hb9' (Nat.le_refl _)))
          | (go_at_call 15; (with_reducible refine (HCd.out _ hb9 _ HL9.out).mono ?_); rintro e w10 ⟨rfl, hb10'⟩; have hb10 := below_then8 hb9 hb10'; obtain ⟨q10, p10⟩ := HQ.out w10 hb10; have c100 := cell_below c90 hb10'; have c101 := cell_below c91 hb10'; have HL10 := hid_ (HL9.out.below hb10' (Nat.le_refl _)))
          | (go_at_call 30; (with_reducible refine (HIs.out _ hb10).mono ?_); rintro e w11 ⟨rfl, hb11'⟩; have hb11 := below_then8 hb10 hb11'; have c110 := cell_below c100 hb11'; have c111 := cell_below c101 hb11'; have HL11 := hid_ (HL10.out.below hb11' (Nat.le_refl _)))
          | (go_at_call 30; (with_reducible refine (HId.out _ _ HL11.out).mono ?_); rintro e w12 ⟨rfl, hb12'⟩; have hb12 := below_then8 hb11 hb12')
          | (go_at_call 12; (with_reducible refine (HK.out _).mono ?_); rintro e w13 ⟨rfl, hb13⟩))
        go_ret
        exact ⟨rfl, Hc1.out.trans ((below_then8 hb12 hb13).mono Hc1.out.size)⟩
    · have hq : (wiE L i != 0) = true := by simpa using hE
      generalize wiE L i = y at *
      have hyy : (y != y) = false := by simp
      clear HF hE
      go_enter Try.func8, Try.ntmps8
      go_wp2_with (first
        | (go_at_call 11; (with_reducible refine HG.out.mono ?_); rintro e w3 ⟨rfl, hb3'⟩; have hb3 := below_then8 Ha.out hb3'; obtain ⟨q3, p3⟩ := HQ.out w3 hb3)
        | (go_at_call 33; (with_reducible refine (HA.out _ hb3).mono ?_); rintro e w4 ⟨a4, n4, k4, d4, m4, l4, rfl, hL4, hb4'⟩; have hb4 := below_then8 hb3 hb4'; obtain ⟨w5, hw5⟩ : ∃ W, w4.alloc (.cells #[.slice a4 n4 k4, .slice d4 m4 l4] 25) = W := ⟨_, rfl⟩; have bb5 : Below w4.heap.size w4 w5 := (by rw [← hw5]; exact below_alloc _ _); have HL5 := hid_ (hL4.below bb5 (Nat.le_refl _)); clear hL4; have hb5 := below_then8 hb4 bb5; obtain ⟨q5, p5⟩ := HQ.out w5 hb5; have c50 : w5.cell? ⟨w4.heap.size, 0, none⟩ = some (.slice a4 n4 k4) := (by rw [← hw5]; exact cells_alloc _ _ _ 0); have c51 : w5.cell? ⟨w4.heap.size, 1, none⟩ = some (.slice d4 m4 l4) := (by rw [← hw5]; exact cells_alloc _ _ _ 1); have z5 : w4.heap.size < w5.heap.size := (by rw [← hw5]; simp); clear bb5)
        | (go_at_call 34; (with_reducible refine (HB.out _ hb5).mono ?_); rintro e w6 ⟨a6, n6, k6, d6, m6, l6, rfl, hL6, hb6'⟩; have hb6 := below_then8 hb5 hb6'; obtain ⟨w7, hw7⟩ : ∃ W, w6.alloc (.cells #[.slice a6 n6 k6, .slice d6 m6 l6] 25) = W := ⟨_, rfl⟩; have bb7 : Below w6.heap.size w6 w7 := (by rw [← hw7]; exact below_alloc _ _); have HL7 := hid_ (hL6.below bb7 (Nat.le_refl _)); clear hL6; have hb7 := below_then8 hb6 bb7; obtain ⟨q7, p7⟩ := HQ.out w7 hb7; have c60 := cell_below c50 hb6'; have c61 := cell_below c51 hb6'; have c70 := cell_below c60 bb7; have c71 := cell_below c61 bb7; have e70 : w7.cell? ⟨w6.heap.size, 0, none⟩ = some (.slice a6 n6 k6) := (by rw [← hw7]; exact cells_alloc _ _ _ 0); have e71 : w7.cell? ⟨w6.heap.size, 1, none⟩ = some (.slice d6 m6 l6) := (by rw [← hw7]; exact cells_alloc _ _ _ 1); have HL75 := hid_ ((HL5.out.below hb6' (Nat.le_refl _)).below bb7 (Nat.le_refl _)); have HSa := hid_ (hS.out _ _ _ HL75.out HL7.out); clear c60 c61 bb7)
        | (go_at_call 28; (with_reducible refine HSa.out.mono ?_); rintro e w8 ⟨rfl, hb8'⟩; have hb8 := below_then8 hb7 hb8'; obtain ⟨q8, p8⟩ := HQ.out w8 hb8; have c80 := cell_below c70 hb8'; have c81 := cell_below c71 hb8'; have HL8 := hid_ (HL75.out.below hb8' (Nat.le_refl _)))
        | (go_at_call 12; (with_reducible refine (HK.out _).mono ?_); rintro e w9 ⟨rfl, hb9⟩))
      go_ret
      exact ⟨rfl, Hc1.out.trans ((below_then8 hb8 hb9).mono Hc1.out.size)⟩
end Go.Proofs.Ytpcpmdokgdbonaa
