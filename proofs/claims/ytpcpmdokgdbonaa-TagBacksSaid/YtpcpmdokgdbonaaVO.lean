import Derived.Test.YtpcpmdokgdbonaaVN
import Derived.Test.YtpcpmdokgdbonaaVH
namespace Go.Proofs.Ytpcpmdokgdbonaa
open Go.RowKit Go.Proofs.Kv Go

/-! ### the law TagProves -/
set_option maxRecDepth 100000 in
set_option maxHeartbeats 4000000 in
theorem tagProves_calls (v : Value) (L : Lx) (a : Option Addr) (n c : Nat) (t : List Int) (w : World) (h : LexAt w v L) (ht : IntsAt w a n c t) :
    Calls Try.prog 5 #[v, .slice a n c] w fun e w' => e = .returned (.bool true) ∧ Below w.heap.size w w' := by
  have HP := hid_ h
  obtain ⟨a1, n1, c1, a2, n2, c2, rfl, h1, h2⟩ := h
  obtain ⟨w1, hw1⟩ : ∃ w1, w.alloc (.cells #[.slice a1 n1 c1, .slice a2 n2 c2] 25) = w1 := ⟨_, rfl⟩
  have cb : Below w.heap.size w w1 := by rw [← hw1]; exact below_alloc _ _
  have q0 : w1.cell? ⟨w.heap.size, 0, none⟩ = some (.slice a1 n1 c1) := by rw [← hw1]; exact cells_alloc _ _ _ 0
  have q1 : w1.cell? ⟨w.heap.size, 1, none⟩ = some (.slice a2 n2 c2) := by rw [← hw1]; exact cells_alloc _ _ _ 1
  have HP1 := hid_ (HP.out.below cb (Nat.le_refl _)); have Hc1 := hid_ cb
  have HG := hid_ (long8_calls _ L _ 1 1 [t] _ (HP1.out.below (below_alloc w1 (.cells #[.slice a n c] 26)) (Nat.le_refl _)) (lists1_8 w1 26 (ht.below cb (Nat.le_refl _))))
  have Ha := hid_ (below_alloc w1 (.cells #[.slice a n c] 26))
  have HQ := hid_ (fun W (hW : Below w1.heap.size w1 W) => (⟨cell_below q0 hW, cell_below q1 hW⟩ : _ ∧ _))
  have HA := hid_ (fun W (hW : Below w1.heap.size w1 W) => taProof_calls _ L a n c t W (HP1.out.below hW (Nat.le_refl _)) ((ht.below cb (Nat.le_refl _)).below hW (Nat.le_refl _)))
  have HLe := hid_ (fun W (hW : Below w1.heap.size w1 W) => r8Least_calls _ L a n c t W (HP1.out.below hW (Nat.le_refl _)) ((ht.below cb (Nat.le_refl _)).below hW (Nat.le_refl _)))
  have HB := hid_ (fun W (hW : Below w1.heap.size w1 W) a' n' c' P hL => r8CheckProof_calls _ L a n c t a' n' c' P W (HP1.out.below hW (Nat.le_refl _)) ((ht.below cb (Nat.le_refl _)).below hW (Nat.le_refl _)) hL)
  have HK := hid_ sane_calls
  have HF := @prf0_is L t
  have HX : Hid (prfV L t = if leastB L t = true then prf0 L t else []) := hid_ rfl
  have HE : Hid (prfEr L t = if textE L t = 0 then (if leastB L t = true then 0 else 4) else textE L t) := hid_ rfl
  have HBv : Hid (leastB L t = (decide (textE L t = 0) && decide (cntA L t ≠ 0))) := hid_ rfl
  clear h1 h2 HP HP1 cb ht
  cases hg : longX L [t] with
  | true =>
    rw [hg] at HG
    clear hg HF
    go_enter Try.func5, Try.ntmps5
    go_wp2_with (first
      | (go_at_call 11; (with_reducible refine HG.out.mono ?_); rintro e w2 ⟨rfl, hb2⟩; have Hb2 := hid_ (below_then8 Ha.out hb2); clear hb2)
      | (go_at_call 12; (with_reducible refine (HK.out _).mono ?_); rintro e w3 ⟨rfl, hb3⟩))
    go_ret
    exact ⟨rfl, Hc1.out.trans ((below_then8 Hb2.out hb3).mono Hc1.out.size)⟩
  | false =>
    rw [hg] at HG
    clear hg
    generalize leastV L t = m at *
    by_cases hx : textE L t = 0
    · rw [hx] at HLe
      rw [if_pos hx] at HE
      cases hl : leastB L t with
      | false =>
        rw [hl, if_neg (by decide)] at HX HE
        rw [hl] at HLe
        rw [HX.out, HE.out] at HA
        clear hx hl HF HX HE HBv
        go_enter Try.func5, Try.ntmps5
        go_wp2_with (first
          | (go_at_call 11; (with_reducible refine HG.out.mono ?_); rintro e w2 ⟨rfl, hb2'⟩; have hb2 := below_then8 Ha.out hb2'; obtain ⟨q2, r2⟩ := HQ.out w2 hb2)
          | (go_at_call 23; (with_reducible refine (HA.out _ hb2).mono ?_); rintro e w3 ⟨u3, us3, rfl, hO3, hb3'⟩; have hb3 := below_then8 hb2 hb3'; obtain ⟨q3, r3⟩ := HQ.out w3 hb3; obtain ⟨a3, c3, rfl, -⟩ := hO3.lists)
          | (go_at_call 14; (with_reducible refine (HLe.out _ hb3).mono ?_); rintro e w4 ⟨rfl, hb4'⟩; have hb4 := below_then8 hb3 hb4')
          | (go_at_call 12; (with_reducible refine (HK.out _).mono ?_); rintro e w7 ⟨rfl, hb7⟩))
        go_ret
        exact ⟨rfl, Hc1.out.trans ((below_then8 hb4 hb7).mono Hc1.out.size)⟩
      | true =>
        rw [hl, if_pos rfl] at HX HE
        rw [hl] at HLe
        rw [HX.out, HE.out] at HA
        obtain ⟨e1, e2⟩ := HF hl
        have hB := fun W hW a' n' c' hL => HB.out W hW a' n' c' (prf0 L t) hL
        rw [e1, e2] at hB
        have HB' := hid_ hB
        generalize hPl : (prf0 L t).length = k at *
        have HPl := hid_ hPl
        clear hB e1 e2 hx hl HF HX HE HBv HB hPl
        go_enter Try.func5, Try.ntmps5
        go_wp2_with (first
          | (go_at_call 11; (with_reducible refine HG.out.mono ?_); rintro e w2 ⟨rfl, hb2'⟩; have hb2 := below_then8 Ha.out hb2'; obtain ⟨q2, r2⟩ := HQ.out w2 hb2)
          | (go_at_call 23; (with_reducible refine (HA.out _ hb2).mono ?_); rintro e w3 ⟨u3, us3, rfl, hO3, hb3'⟩; have hb3 := below_then8 hb2 hb3'; obtain ⟨q3, r3⟩ := HQ.out w3 hb3; obtain ⟨a3, c3, rfl, hL3⟩ := hO3.lists; rw [HPl.out] at hL3 ⊢; have HL3 := hid_ hL3; clear hL3 hO3)
          | (go_at_call 14; (with_reducible refine (HLe.out _ hb3).mono ?_); rintro e w4 ⟨rfl, hb4'⟩; have hb4 := below_then8 hb3 hb4'; obtain ⟨q4, r4⟩ := HQ.out w4 hb4; have HCh := hid_ (HB'.out w4 hb4 _ _ _ (HL3.out.below hb4' (Nat.le_refl _))))
          | (go_at_call 24; (with_reducible refine HCh.out.mono ?_); rintro e w5 ⟨rfl, hb5'⟩; have hb5 := below_then8 hb4 hb5')
          | (go_at_call 12; (with_reducible refine (HK.out _).mono ?_); rintro e w7 ⟨rfl, hb7⟩))
        go_ret
        exact ⟨by simp, Hc1.out.trans ((below_then8 hb5 hb7).mono Hc1.out.size)⟩
    · have hq : (textE L t != 0) = true := by simpa using hx
      rw [if_neg hx] at HE
      have hlb : leastB L t = false := by rw [HBv.out, decide_eq_false hx]; rfl
      rw [hlb, if_neg (by decide)] at HX
      rw [HX.out, HE.out] at HA
      generalize textE L t = x at *
      clear hx hlb HF HX HE HBv
      go_enter Try.func5, Try.ntmps5
      go_wp2_with (first
        | (go_at_call 11; (with_reducible refine HG.out.mono ?_); rintro e w2 ⟨rfl, hb2'⟩; have hb2 := below_then8 Ha.out hb2'; obtain ⟨q2, r2⟩ := HQ.out w2 hb2)
        | (go_at_call 23; (with_reducible refine (HA.out _ hb2).mono ?_); rintro e w3 ⟨u3, us3, rfl, hO3, hb3'⟩; have hb3 := below_then8 hb2 hb3'; obtain ⟨q3, r3⟩ := HQ.out w3 hb3; obtain ⟨a3, c3, rfl, -⟩ := hO3.lists)
        | (go_at_call 14; (with_reducible refine (HLe.out _ hb3).mono ?_); rintro e w4 ⟨rfl, hb4'⟩; have hb4 := below_then8 hb3 hb4')
        | (go_at_call 12; (with_reducible refine (HK.out _).mono ?_); rintro e w7 ⟨rfl, hb7⟩))
      go_ret
      exact ⟨by simp, Hc1.out.trans ((below_then8 hb4 hb7).mono Hc1.out.size)⟩
end Go.Proofs.Ytpcpmdokgdbonaa
