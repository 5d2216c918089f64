import Derived.Test.YtliheejcfkhghaaVC
namespace Go.Proofs.Ytliheejcfkhghaa
open Go.RowKit Go.Proofs.Kv Go

/-! ### CheckProof of the program -/
def rowsP (L : Lx) (t : List Int) (P : List (List Int)) : Bool := rowsB P ((t.length : Int) + 1) (L.items.length : Int) (-100000) 100000
def proofE (L : Lx) (t : List Int) (P : List (List Int)) : Int := if textE L t = 0 then (if rowsP L t P = true then (if holdsB L t P = true then 0 else 7) else 1) else textE L t
def wthP (L : Lx) (t : List Int) (P : List (List Int)) : Int × Bool := if t.length = 0 then (0, true) else wP L t (P.getD t.length []) L.items.length
def prfP (L : Lx) (t : List Int) (P : List (List Int)) : Int × Bool := if proofE L t P = 0 then wthP L t P else (0, false)
theorem rowsP_good {L : Lx} {t : List Int} {P : List (List Int)} (h : rowsP L t P = true) : GoodP L t P := by
  rw [rowsP, rowsB, Bool.and_eq_true, decide_eq_true_eq, List.all_eq_true] at h
  have hl : P.length = t.length + 1 := by have := h.2; omega
  refine ⟨hl, fun i hi => ?_⟩
  have := h.1 (P.getD i []) (by simp [List.getD, List.getElem?_eq_getElem (show i < P.length by omega)])
  rw [rowOk8, Bool.and_eq_true, decide_eq_true_eq] at this
  exact ⟨by omega, this.2⟩
set_option maxRecDepth 100000 in
set_option maxHeartbeats 4000000 in
theorem taCheckProof_calls (v : Value) (L : Lx) (a : Option Addr) (n c : Nat) (t : List Int) (a' : Option Addr) (n' c' : Nat) (P : List (List Int)) (w : World) (h : LexAt w v L) (ht : IntsAt w a n c t) (hL : ListsAt w a' n' c' P) :
    Calls Try.prog 32 #[v, .slice a n c, .slice a' n' c'] w fun e w' => e = .returned (.tuple #[.int .i64 (prfP L t P).1, .bool (prfP L t P).2, .int .i64 (proofE L t P)]) ∧ Below w.heap.size w w' := by
  have HP := hid_ h
  obtain ⟨a1, n1, c1, a2, n2, c2, rfl, h1, h2⟩ := h
  obtain ⟨w1, hw1⟩ : ∃ w1, w.alloc (.cells #[.slice a1 n1 c1, .slice a2 n2 c2] 25) = w1 := ⟨_, rfl⟩
  have cb : Below w.heap.size w w1 := by rw [← hw1]; exact below_alloc _ _
  have q0 : w1.cell? ⟨w.heap.size, 0, none⟩ = some (.slice a1 n1 c1) := by rw [← hw1]; exact cells_alloc _ _ _ 0
  have q1 : w1.cell? ⟨w.heap.size, 1, none⟩ = some (.slice a2 n2 c2) := by rw [← hw1]; exact cells_alloc _ _ _ 1
  have HP1 := hid_ (HP.out.below cb (Nat.le_refl _)); have Hc1 := hid_ cb
  have HV := hid_ (tavalidate_calls _ L a n c t w1 HP1.out (ht.below cb (Nat.le_refl _)))
  have HQ := hid_ (fun W (hW : Below w1.heap.size w1 W) => (⟨cell_below q0 hW, cell_below q1 hW⟩ : _ ∧ _))
  have hl1 := h1.len
  have htl := ht.len
  have HA := hid_ (fun W (hW : Below w1.heap.size w1 W) => areRows_calls a' n' c' P ((n : Int) + 1) (n1 : Int) (-100000) 100000 W ((hL.below cb (Nat.le_refl _)).below hW (Nat.le_refl _)))
  have HH := hid_ (fun W (hW : Below w1.heap.size w1 W) (g : GoodL L) (hP : GoodP L t P) (hn : n ≤ 1000) => holds_calls _ L a n c t a' n' c' P W (HP1.out.below hW (Nat.le_refl _)) ((ht.below cb (Nat.le_refl _)).below hW (Nat.le_refl _)) ((hL.below cb (Nat.le_refl _)).below hW (Nat.le_refl _)) g hP hn)
  have HW := hid_ (fun W (hW : Below w1.heap.size w1 W) (g : GoodL L) (hn : n ≤ 1000) a3 n3 c3 r (hr : IntsAt W a3 n3 c3 r) (hrl : n3 = L.items.length) => worth_calls _ L a n c t a3 n3 c3 r W (HP1.out.below hW (Nat.le_refl _)) ((ht.below cb (Nat.le_refl _)).below hW (Nat.le_refl _)) hr g hn hrl)
  have HL := hid_ (fun W (hW : Below w1.heap.size w1 W) => (hL.below cb (Nat.le_refl _)).below hW (Nat.le_refl _))
  have hPl := hL.len
  have HE : Hid (proofE L t P = if textE L t = 0 then (if rowsP L t P = true then (if holdsB L t P = true then 0 else 7) else 1) else textE L t) := hid_ rfl
  have HR : Hid (prfP L t P = if proofE L t P = 0 then wthP L t P else (0, false)) := hid_ rfl
  have HWt : Hid (wthP L t P = if n = 0 then (0, true) else wP L t (P.getD n []) L.items.length) := hid_ (by rw [wthP, htl])
  have HRo : Hid (rowsP L t P = rowsB P ((n : Int) + 1) (n1 : Int) (-100000) 100000) := hid_ (by rw [rowsP, htl, hl1])
  have HGp := hid_ (@rowsP_good L t P)
  generalize proofE L t P = E at *
  generalize prfP L t P = R at *
  generalize wthP L t P = WT at *
  rw [← HRo.out] at HA
  have hsm := ht.small
  have hle := ht.le
  have hn'1 : n' ≤ 9223372036854775807 := Nat.le_trans hL.le hL.small
  clear h1 h2 HP HP1 cb ht hL HRo
  by_cases he : textE L t = 0
  · obtain ⟨g, h12, -⟩ := textE_ok he
    rw [if_pos he] at HE
    rw [he] at HV
    rw [htl] at h12
    have hn8 : n1 ≤ 8 := by have := g.le; omega
    clear he
    cases hro : rowsP L t P with
    | false =>
      rw [hro] at HA HE
      have HE' := hid_ (HE.out.trans (if_neg (by decide)))
      have HR' := hid_ (HR.out.trans (if_neg (by rw [HE'.out]; decide)))
      clear hro g
      go_enter Try.func32, Try.ntmps32
      go_wp2_with (first
        | (go_at_call 57; (with_reducible refine HV.out.mono ?_); rintro e w2 ⟨rfl, hb2⟩; obtain ⟨q2, r2⟩ := HQ.out w2 hb2)
        | (go_at_call 68; (with_reducible refine (HA.out _ hb2).mono ?_); rintro e w3 ⟨rfl, hb3'⟩; have hb3 := below_then8 hb2 hb3'))
      go_ret3
      exact ⟨by rw [HR'.out, HE'.out]; rfl, Hc1.out.trans (hb3.mono Hc1.out.size)⟩
    | true =>
      rw [hro] at HA HE
      rw [if_pos rfl] at HE
      have hP := HGp.out hro
      have HH' := hid_ (fun W hW => HH.out W hW g hP (by omega))
      cases hho : holdsB L t P with
      | false =>
        rw [hho] at HH' HE
        have HE' := hid_ (HE.out.trans (if_neg (by decide)))
        have HR' := hid_ (HR.out.trans (if_neg (by rw [HE'.out]; decide)))
        clear hro hho g hP
        go_enter Try.func32, Try.ntmps32
        go_wp2_with (first
          | (go_at_call 57; (with_reducible refine HV.out.mono ?_); rintro e w2 ⟨rfl, hb2⟩; obtain ⟨q2, r2⟩ := HQ.out w2 hb2)
          | (go_at_call 68; (with_reducible refine (HA.out _ hb2).mono ?_); rintro e w3 ⟨rfl, hb3'⟩; have hb3 := below_then8 hb2 hb3'; obtain ⟨q3, r3⟩ := HQ.out w3 hb3)
          | (go_at_call 76; (with_reducible refine (HH'.out _ hb3).mono ?_); rintro e w4 ⟨rfl, hb4'⟩; have hb4 := below_then8 hb3 hb4'))
        go_ret3
        exact ⟨by rw [HR'.out, HE'.out]; rfl, Hc1.out.trans (hb4.mono Hc1.out.size)⟩
      | true =>
        rw [hho] at HH' HE
        have HE' := hid_ (HE.out.trans (if_pos rfl))
        have HR' := hid_ (HR.out.trans (if_pos HE'.out))
        by_cases h0 : n = 0
        · have HW' := hid_ (HWt.out.trans (if_pos h0))
          have hq : ((n : Int) == 0) = true := by simp [h0]
          clear hro hho g hP HWt HW h0
          go_enter Try.func32, Try.ntmps32
          go_wp2_with (first
            | (go_at_call 57; (with_reducible refine HV.out.mono ?_); rintro e w2 ⟨rfl, hb2⟩; obtain ⟨q2, r2⟩ := HQ.out w2 hb2)
            | (go_at_call 68; (with_reducible refine (HA.out _ hb2).mono ?_); rintro e w3 ⟨rfl, hb3'⟩; have hb3 := below_then8 hb2 hb3'; obtain ⟨q3, r3⟩ := HQ.out w3 hb3)
            | (go_at_call 76; (with_reducible refine (HH'.out _ hb3).mono ?_); rintro e w4 ⟨rfl, hb4'⟩; have hb4 := below_then8 hb3 hb4'))
          go_ret3
          exact ⟨by rw [HR'.out, HW'.out, HE'.out]; rfl, Hc1.out.trans (hb4.mono Hc1.out.size)⟩
        · have HW' := hid_ (HWt.out.trans (if_neg h0))
          have hq : ((n : Int) == 0) = false := by simpa using (fun e : (n : Int) = 0 => h0 (by omega))
          have hlt : n < n' := by rw [← hPl, hP.len, htl]; omega
          have hrl := (hP.row n (by omega)).1
          have HWo := hid_ (fun W hW a3 n3 c3 hr => HW.out W hW g (by omega) a3 n3 c3 (P.getD n []) hr)
          clear hro hho g hP HWt HW h0 hPl
          generalize wP L t (P.getD n []) L.items.length = wv at *
          go_enter Try.func32, Try.ntmps32
          go_wp2_with (first
            | (go_at_call 57; (with_reducible refine HV.out.mono ?_); rintro e w2 ⟨rfl, hb2⟩; obtain ⟨q2, r2⟩ := HQ.out w2 hb2)
            | (go_at_call 68; (with_reducible refine (HA.out _ hb2).mono ?_); rintro e w3 ⟨rfl, hb3'⟩; have hb3 := below_then8 hb2 hb3'; obtain ⟨q3, r3⟩ := HQ.out w3 hb3)
            | (go_at_call 76; (with_reducible refine (HH'.out _ hb3).mono ?_); rintro e w4 ⟨rfl, hb4'⟩; have hb4 := below_then8 hb3 hb4'; obtain ⟨q4, r4⟩ := HQ.out w4 hb4; obtain ⟨bp, op, ar, nr, cr, rfl, -, hcP, hrow⟩ := (HL.out w4 hb4).cells n hlt; have Hnr : Hid (nr = L.items.length) := hid_ (by rw [← hrl, hrow.len]); have Hworth := hid_ (fun d os => HWo.out (Go.Sort.grow (redrawn w4 d) os) (hb4.trans ((below_regrown w4 d os).mono hb4.size)) ar nr cr (hrow.below (below_regrown w4 d os) (Nat.le_refl _)) Hnr.out); have gA := cell_regrown q4; have gB := cell_regrown r4; have gC := cell_regrown hcP))
          go_wp2_with fail
          refine wp_region_quiet_below (by kernel_rfl) (by kernel_rfl) ?_
          repeat (first | go_big_quiet_skip | (go_big_quiet_want; go_big_quiet_op; first | go_big_quiet_on | go_big_quiet_call ((go_at_call 77; with_reducible exact Calls.regrown_of (Hworth.out _ _)))))
          refine wpQuiet_nil ?_
          rintro wq ⟨pq, hpq⟩
          have Hbq := hid_ (below_wq hpq)
          clear hpq gA gB gC
          go_wp2
          go_ret3
          exact ⟨by rw [HR'.out, HW'.out, HE'.out]; rfl, Hc1.out.trans ((hb4.trans (Hbq.out.mono hb4.size)).mono Hc1.out.size)⟩
  · have hq : (textE L t != 0) = true := by simpa using he
    rw [if_neg he] at HE
    have HR' := hid_ (HR.out.trans (if_neg (by rw [HE.out]; exact he)))
    generalize textE L t = x at *
    clear he
    go_enter Try.func32, Try.ntmps32
    go_wp2_with (go_at_call 57; (with_reducible refine HV.out.mono ?_); rintro e w2 ⟨rfl, hb2⟩)
    go_ret3
    exact ⟨by rw [HR'.out, HE.out]; rfl, Hc1.out.trans (hb2.mono Hc1.out.size)⟩
end Go.Proofs.Ytliheejcfkhghaa
