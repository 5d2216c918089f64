import Derived.Test.YtpcpmdokgdbonaaVV
namespace Go.Proofs.Kv
open Go.RowKit Go
theorem NewI.lits {EI EL E1 : TypeId} {w : World} {B : Nat} {iv fv : Value} {xs : List Ic} {fs : List Value} {L : Lx} (h : NewI EI EL E1 w B iv fv xs fs L) : ∃ a n c a' n' c', iv = .slice a n c ∧ fv = .slice a' n' c' ∧ LexAt w (.agg #[.slice a n c, .slice a' n' c']) L := by
  obtain ⟨a, c, rfl, h1⟩ := h.itemsAt
  obtain ⟨a', c', rfl, h2⟩ := h.listsAt
  exact ⟨a, _, c, a', _, c', rfl, rfl, a, _, c, a', _, c', rfl, h1, h2⟩
end Go.Proofs.Kv
namespace Go.Proofs.Ytpcpmdokgdbonaa
open Go.RowKit Go.Proofs.Kv Go

/-! ### the law TagDearer -/
set_option maxRecDepth 100000 in
set_option maxHeartbeats 8000000 in
theorem tagDearer_calls (v : Value) (L : Lx) (a : Option Addr) (n c : Nat) (t : List Int) (i b : Int) (w : World) (h : LexAt w v L) (ht : IntsAt w a n c t) :
    Calls Try.prog 7 #[v, .slice a n c, .agg #[.int .i64 i, .int .i64 b]] w fun e w' => e = .returned (.bool true) ∧ Below w.heap.size w w' := by
  have HP := hid_ h
  obtain ⟨a1, n1, c1, a2, n2, c2, rfl, h1, h2⟩ := h
  obtain ⟨w1, hw1⟩ : ∃ w1, w.alloc (.cells #[.slice a1 n1 c1, .slice a2 n2 c2] 25) = w1 := ⟨_, rfl⟩
  have cb : Below w.heap.size w w1 := by rw [← hw1]; exact below_alloc _ _
  have q0 : w1.cell? ⟨w.heap.size, 0, none⟩ = some (.slice a1 n1 c1) := by rw [← hw1]; exact cells_alloc _ _ _ 0
  have q1 : w1.cell? ⟨w.heap.size, 1, none⟩ = some (.slice a2 n2 c2) := by rw [← hw1]; exact cells_alloc _ _ _ 1
  have HP1 := hid_ (HP.out.below cb (Nat.le_refl _)); have Hc1 := hid_ cb
  obtain ⟨w2, hw2⟩ : ∃ w2, w1.alloc (.cells #[.int .i64 i, .int .i64 b] 52) = w2 := ⟨_, rfl⟩
  have z1 : w1.heap.size = w.heap.size + 1 := by rw [← hw1]; simp
  have b2 : Below w1.heap.size w1 w2 := by rw [← hw2]; exact below_alloc _ _
  have hb2 : Below w.heap.size w w2 := cb.trans (b2.mono cb.size)
  have q02 := cell_below q0 b2; have q12 := cell_below q1 b2
  have k0 : w2.cell? ⟨w.heap.size + 1, 0, none⟩ = some (.int .i64 i) := by rw [← z1, ← hw2]; exact cells_alloc _ _ _ 0
  have k1 : w2.cell? ⟨w.heap.size + 1, 1, none⟩ = some (.int .i64 b) := by rw [← z1, ← hw2]; exact cells_alloc _ _ _ 1
  have HP2 := hid_ (HP.out.below hb2 (Nat.le_refl _))
  have ht2 := ht.below hb2 (Nat.le_refl _)
  have HG := hid_ (long8_calls _ L _ 1 1 [t] _ (HP2.out.below (below_alloc w2 (.cells #[.slice a n c] 26)) (Nat.le_refl _)) (lists1_8 w2 26 ht2))
  have Ha := hid_ (below_alloc w2 (.cells #[.slice a n c] 26))
  have HQ := hid_ (fun W (hW : Below w2.heap.size w2 W) => (⟨cell_below q02 hW, cell_below q12 hW, cell_below k0 hW, cell_below k1 hW⟩ : _ ∧ _ ∧ _ ∧ _))
  have HA := hid_ (fun W (hW : Below w2.heap.size w2 W) => taDearer_calls _ L i b W (HP2.out.below hW (Nat.le_refl _)))
  have HB := hid_ (fun W (hW : Below w2.heap.size w2 W) => r8Dearer_calls _ L i b W (HP2.out.below hW (Nat.le_refl _)))
  have HLe := hid_ (fun W (hW : Below w2.heap.size w2 W) => taLeast_calls _ L a n c t W (HP2.out.below hW (Nat.le_refl _)) (ht2.below hW (Nat.le_refl _)))
  have HLd := hid_ (fun W (hW : Below w2.heap.size w2 W) v' hv' => taLeast_calls v' (drL L i b) a n c t W hv' (ht2.below hW (Nat.le_refl _)))
  have HK := hid_ sane_calls
  have HF := fun h => @dearer_facts L i b h t
  have Hb2 := hid_ hb2
  clear h1 h2 HP HP1 cb ht ht2 hb2 b2
  cases hg : longX L [t] with
  | true =>
    rw [hg] at HG
    clear hg HF
    go_enter Try.func7, Try.ntmps7
    go_wp2_with (first
      | (go_at_call 11; (with_reducible refine HG.out.mono ?_); rintro e w3 ⟨rfl, hb3⟩; have Hb3 := hid_ (below_then8 Ha.out hb3); clear hb3)
      | (go_at_call 12; (with_reducible refine (HK.out _).mono ?_); rintro e w4 ⟨rfl, hb4⟩))
    go_ret
    exact ⟨rfl, Hb2.out.trans ((below_then8 Hb3.out hb4).mono Hb2.out.size)⟩
  | false =>
    rw [hg] at HG
    clear hg
    have hS := hid_ (fun W x y (hx : LexAt W x (drL L i b)) (hy : LexAt W y (drL L i b)) => r8Same_yes x y (drL L i b) W hx hy)
    generalize drL L i b = D at *
    generalize leastV L t = m at *
    generalize leastV D t = m' at *
    by_cases hE : drE L i b = 0
    · obtain ⟨-, e1, e2, e3⟩ := HF hE
      rw [hE] at HA HB
      rw [e1, e2] at HLd
      generalize leastB L t = s at *
      generalize textE L t = x at *
      have hxx : (x == x) = true := by simp
      have hss : (s == s) = true := by simp
      by_cases hb : b < 0
      · clear HF e1 e2 e3 hE
        go_enter Try.func7, Try.ntmps7
        go_wp2_with (first
          | (go_at_call 11; (with_reducible refine HG.out.mono ?_); rintro e w3 ⟨rfl, hb3'⟩; have hb3 := below_then8 Ha.out hb3'; obtain ⟨q3, p3, x3, y3⟩ := HQ.out w3 hb3)
          | (go_at_call 31; (with_reducible refine (HA.out _ hb3).mono ?_); rintro e w4 ⟨iv, fv, xs, fs, rfl, hN, hb4'⟩; have hb4 := below_then8 hb3 hb4'; obtain ⟨a4, n4, k4, d4, m4, l4, rfl, rfl, hL4⟩ := hN.lits; clear hN; obtain ⟨w5, hw5⟩ : ∃ W, w4.alloc (.cells #[.slice a4 n4 k4, .slice d4 m4 l4] 25) = W := ⟨_, rfl⟩; have bb5 : Below w4.heap.size w4 w5 := (by rw [← hw5]; exact below_alloc _ _); have HL5 := hid_ (hL4.below bb5 (Nat.le_refl _)); clear hL4; have hb5 := below_then8 hb4 bb5; obtain ⟨q5, p5, x5, y5⟩ := HQ.out w5 hb5; have c50 : w5.cell? ⟨w4.heap.size, 0, none⟩ = some (.slice a4 n4 k4) := (by rw [← hw5]; exact cells_alloc _ _ _ 0); have c51 : w5.cell? ⟨w4.heap.size, 1, none⟩ = some (.slice d4 m4 l4) := (by rw [← hw5]; exact cells_alloc _ _ _ 1); have z5 : w4.heap.size < w5.heap.size := (by rw [← hw5]; simp); clear bb5)
          | (go_at_call 32; (with_reducible refine (HB.out _ hb5).mono ?_); rintro e w6 ⟨iv, fv, xs, fs, rfl, hN, hb6'⟩; have hb6 := below_then8 hb5 hb6'; obtain ⟨a6, n6, k6, d6, m6, l6, rfl, rfl, hL6⟩ := hN.lits; clear hN; obtain ⟨w7, hw7⟩ : ∃ W, w6.alloc (.cells #[.slice a6 n6 k6, .slice d6 m6 l6] 25) = W := ⟨_, rfl⟩; have bb7 : Below w6.heap.size w6 w7 := (by rw [← hw7]; exact below_alloc _ _); have HL7 := hid_ (hL6.below bb7 (Nat.le_refl _)); clear hL6; have hb7 := below_then8 hb6 bb7; obtain ⟨q7, p7, x7, y7⟩ := HQ.out w7 hb7; have c60 := cell_below c50 hb6'; have c61 := cell_below c51 hb6'; have c70 := cell_below c60 bb7; have c71 := cell_below c61 bb7; have e70 : w7.cell? ⟨w6.heap.size, 0, none⟩ = some (.slice a6 n6 k6) := (by rw [← hw7]; exact cells_alloc _ _ _ 0); have e71 : w7.cell? ⟨w6.heap.size, 1, none⟩ = some (.slice d6 m6 l6) := (by rw [← hw7]; exact cells_alloc _ _ _ 1); have HL75 := hid_ ((HL5.out.below hb6' (Nat.le_refl _)).below bb7 (Nat.le_refl _)); have HSa := hid_ (hS.out _ _ _ HL75.out HL7.out); clear c60 c61 bb7)
          | (go_at_call 28; (with_reducible refine HSa.out.mono ?_); rintro e w8 ⟨rfl, hb8'⟩; have hb8 := below_then8 hb7 hb8'; obtain ⟨q8, p8, x8, y8⟩ := HQ.out w8 hb8; have c80 := cell_below c70 hb8'; have c81 := cell_below c71 hb8'; have HL8 := hid_ (HL75.out.below hb8' (Nat.le_refl _)))
          | (go_at_call 12; (with_reducible refine (HK.out _).mono ?_); rintro e w9 ⟨rfl, hb9⟩))
        go_ret
        exact ⟨rfl, Hb2.out.trans ((below_then8 hb8 hb9).mono Hb2.out.size)⟩
      · have hle := e3 (by omega)
        clear HF e1 e2 e3 hE
        go_enter Try.func7, Try.ntmps7
        go_wp2_with (first
          | (go_at_call 11; (with_reducible refine HG.out.mono ?_); rintro e w3 ⟨rfl, hb3'⟩; have hb3 := below_then8 Ha.out hb3'; obtain ⟨q3, p3, x3, y3⟩ := HQ.out w3 hb3)
          | (go_at_call 31; (with_reducible refine (HA.out _ hb3).mono ?_); rintro e w4 ⟨iv, fv, xs, fs, rfl, hN, hb4'⟩; have hb4 := below_then8 hb3 hb4'; obtain ⟨a4, n4, k4, d4, m4, l4, rfl, rfl, hL4⟩ := hN.lits; clear hN; obtain ⟨w5, hw5⟩ : ∃ W, w4.alloc (.cells #[.slice a4 n4 k4, .slice d4 m4 l4] 25) = W := ⟨_, rfl⟩; have bb5 : Below w4.heap.size w4 w5 := (by rw [← hw5]; exact below_alloc _ _); have HL5 := hid_ (hL4.below bb5 (Nat.le_refl _)); clear hL4; have hb5 := below_then8 hb4 bb5; obtain ⟨q5, p5, x5, y5⟩ := HQ.out w5 hb5; have c50 : w5.cell? ⟨w4.heap.size, 0, none⟩ = some (.slice a4 n4 k4) := (by rw [← hw5]; exact cells_alloc _ _ _ 0); have c51 : w5.cell? ⟨w4.heap.size, 1, none⟩ = some (.slice d4 m4 l4) := (by rw [← hw5]; exact cells_alloc _ _ _ 1); have z5 : w4.heap.size < w5.heap.size := (by rw [← hw5]; simp); clear bb5)
          | (go_at_call 32; (with_reducible refine (HB.out _ hb5).mono ?_); rintro e w6 ⟨iv, fv, xs, fs, rfl, hN, hb6'⟩; have hb6 := below_then8 hb5 hb6'; obtain ⟨a6, n6, k6, d6, m6, l6, rfl, rfl, hL6⟩ := hN.lits; clear hN; obtain ⟨w7, hw7⟩ : ∃ W, w6.alloc (.cells #[.slice a6 n6 k6, .slice d6 m6 l6] 25) = W := ⟨_, rfl⟩; have bb7 : Below w6.heap.size w6 w7 := (by rw [← hw7]; exact below_alloc _ _); have HL7 := hid_ (hL6.below bb7 (Nat.le_refl _)); clear hL6; have hb7 := below_then8 hb6 bb7; obtain ⟨q7, p7, x7, y7⟩ := HQ.out w7 hb7; have c60 := cell_below c50 hb6'; have c61 := cell_below c51 hb6'; have c70 := cell_below c60 bb7; have c71 := cell_below c61 bb7; have e70 : w7.cell? ⟨w6.heap.size, 0, none⟩ = some (.slice a6 n6 k6) := (by rw [← hw7]; exact cells_alloc _ _ _ 0); have e71 : w7.cell? ⟨w6.heap.size, 1, none⟩ = some (.slice d6 m6 l6) := (by rw [← hw7]; exact cells_alloc _ _ _ 1); have HL75 := hid_ ((HL5.out.below hb6' (Nat.le_refl _)).below bb7 (Nat.le_refl _)); have HSa := hid_ (hS.out _ _ _ HL75.out HL7.out); clear c60 c61 bb7)
          | (go_at_call 28; (with_reducible refine HSa.out.mono ?_); rintro e w8 ⟨rfl, hb8'⟩; have hb8 := below_then8 hb7 hb8'; obtain ⟨q8, p8, x8, y8⟩ := HQ.out w8 hb8; have c80 := cell_below c70 hb8'; have c81 := cell_below c71 hb8'; have HL8 := hid_ (HL75.out.below hb8' (Nat.le_refl _)))
          | (go_at_call 13; (with_reducible refine (HLe.out _ hb8).mono ?_); rintro e w9 ⟨rfl, hb9'⟩; have hb9 := below_then8 hb8 hb9'; obtain ⟨q9, p9, x9, y9⟩ := HQ.out w9 hb9; have c90 := cell_below c80 hb9'; have c91 := cell_below c81 hb9'; have HL9 := hid_ (HL8.out.below hb9' (Nat.le_refl _)))
          | (go_at_call 13; (with_reducible refine (HLd.out _ hb9 _ HL9.out).mono ?_); rintro e w10 ⟨rfl, hb10'⟩; have hb10 := below_then8 hb9 hb10')
          | (go_at_call 12; (with_reducible refine (HK.out _).mono ?_); rintro e w11 ⟨rfl, hb11⟩))
        go_ret
        exact ⟨rfl, Hb2.out.trans ((below_then8 hb10 hb11).mono Hb2.out.size)⟩
    · have hq : (drE L i b != 0) = true := by simpa using hE
      generalize drE L i b = y at *
      have hyy : (y != y) = false := by simp
      clear HF hE
      go_enter Try.func7, Try.ntmps7
      go_wp2_with (first
        | (go_at_call 11; (with_reducible refine HG.out.mono ?_); rintro e w3 ⟨rfl, hb3'⟩; have hb3 := below_then8 Ha.out hb3'; obtain ⟨q3, p3, x3, y3⟩ := HQ.out w3 hb3)
        | (go_at_call 31; (with_reducible refine (HA.out _ hb3).mono ?_); rintro e w4 ⟨iv, fv, xs, fs, rfl, hN, hb4'⟩; have hb4 := below_then8 hb3 hb4'; obtain ⟨a4, n4, k4, d4, m4, l4, rfl, rfl, hL4⟩ := hN.lits; clear hN; obtain ⟨w5, hw5⟩ : ∃ W, w4.alloc (.cells #[.slice a4 n4 k4, .slice d4 m4 l4] 25) = W := ⟨_, rfl⟩; have bb5 : Below w4.heap.size w4 w5 := (by rw [← hw5]; exact below_alloc _ _); have HL5 := hid_ (hL4.below bb5 (Nat.le_refl _)); clear hL4; have hb5 := below_then8 hb4 bb5; obtain ⟨q5, p5, x5, y5⟩ := HQ.out w5 hb5; have c50 : w5.cell? ⟨w4.heap.size, 0, none⟩ = some (.slice a4 n4 k4) := (by rw [← hw5]; exact cells_alloc _ _ _ 0); have c51 : w5.cell? ⟨w4.heap.size, 1, none⟩ = some (.slice d4 m4 l4) := (by rw [← hw5]; exact cells_alloc _ _ _ 1); have z5 : w4.heap.size < w5.heap.size := (by rw [← hw5]; simp); clear bb5)
        | (go_at_call 32; (with_reducible refine (HB.out _ hb5).mono ?_); rintro e w6 ⟨iv, fv, xs, fs, rfl, hN, hb6'⟩; have hb6 := below_then8 hb5 hb6'; obtain ⟨a6, n6, k6, d6, m6, l6, rfl, rfl, hL6⟩ := hN.lits; clear hN; obtain ⟨w7, hw7⟩ : ∃ W, w6.alloc (.cells #[.slice a6 n6 k6, .slice d6 m6 l6] 25) = W := ⟨_, rfl⟩; have bb7 : Below w6.heap.size w6 w7 := (by rw [← hw7]; exact below_alloc _ _); have HL7 := hid_ (hL6.below bb7 (Nat.le_refl _)); clear hL6; have hb7 := below_then8 hb6 bb7; obtain ⟨q7, p7, x7, y7⟩ := HQ.out w7 hb7; have c60 := cell_below c50 hb6'; have c61 := cell_below c51 hb6'; have c70 := cell_below c60 bb7; have c71 := cell_below c61 bb7; have e70 : w7.cell? ⟨w6.heap.size, 0, none⟩ = some (.slice a6 n6 k6) := (by rw [← hw7]; exact cells_alloc _ _ _ 0); have e71 : w7.cell? ⟨w6.heap.size, 1, none⟩ = some (.slice d6 m6 l6) := (by rw [← hw7]; exact cells_alloc _ _ _ 1); have HL75 := hid_ ((HL5.out.below hb6' (Nat.le_refl _)).below bb7 (Nat.le_refl _)); have HSa := hid_ (hS.out _ _ _ HL75.out HL7.out); clear c60 c61 bb7)
        | (go_at_call 28; (with_reducible refine HSa.out.mono ?_); rintro e w8 ⟨rfl, hb8'⟩; have hb8 := below_then8 hb7 hb8'; obtain ⟨q8, p8, x8, y8⟩ := HQ.out w8 hb8; have c80 := cell_below c70 hb8'; have c81 := cell_below c71 hb8'; have HL8 := hid_ (HL75.out.below hb8' (Nat.le_refl _)))
        | (go_at_call 12; (with_reducible refine (HK.out _).mono ?_); rintro e w9 ⟨rfl, hb9⟩))
      go_ret
      exact ⟨rfl, Hb2.out.trans ((below_then8 hb8 hb9).mono Hb2.out.size)⟩
end Go.Proofs.Ytpcpmdokgdbonaa
