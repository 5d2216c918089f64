import Derived.Test.YtliheejcfkhghaaVB
namespace Go.Proofs.Ytliheejcfkhghaa
open Go.RowKit Go.Proofs.Kv Go

/-! ### worth, holds of the program -/
def wP (L : Lx) (t : List Int) (r : List Int) : Nat → Int × Bool
  | 0 => (0, false)
  | k + 1 => if (endB L t t.length k && (!(wP L t r k).2 || decide (r.getD k 0 < (wP L t r k).1))) = true then (r.getD k 0, true) else wP L t r k
theorem wP_yes {L : Lx} {t r : List Int} {k : Nat} {x : Int} {b : Bool} (hw : wP L t r k = (x, b)) (h1 : endB L t t.length k = true) (h2 : b = false ∨ r.getD k 0 < x) : wP L t r (k + 1) = (r.getD k 0, true) := by
  rw [wP, hw, if_pos]
  rw [h1, Bool.true_and, Bool.or_eq_true]
  rcases h2 with h2 | h2
  · left; rw [show (x, b).2 = b from rfl, h2]; rfl
  · right; exact decide_eq_true h2
theorem wP_no {L : Lx} {t r : List Int} {k : Nat} {x : Int} {b : Bool} (hw : wP L t r k = (x, b)) (h1 : endB L t t.length k = false) : wP L t r (k + 1) = (x, b) := by
  rw [wP, hw, if_neg (by rw [h1, Bool.false_and]; decide)]
theorem wP_no' {L : Lx} {t r : List Int} {k : Nat} {x : Int} (hw : wP L t r k = (x, true)) (h2 : ¬ r.getD k 0 < x) : wP L t r (k + 1) = (x, true) := by
  rw [wP, hw, if_neg (by rw [show ((x, true) : Int × Bool).2 = true from rfl, show ((x, true) : Int × Bool).1 = x from rfl, decide_eq_false h2]; simp)]
theorem isEnd_below (a : Option Addr) (n c : Nat) (x : List Int) (a2 : Option Addr) (n2 c2 : Nat) (l : List Int) (w : World) (h : IntsAt w a n c x) (h2 : IntsAt w a2 n2 c2 l) (h1 : 1 ≤ n) (hs : n ≤ 1000 ∧ n2 ≤ 1000) :
    Calls Try.prog 93 #[.slice a n c, .slice a2 n2 c2] w fun e w' => e = .returned (.bool (decide (n ≤ n2) && decide (l.drop (n2 - n) = x))) ∧ Below w.heap.size w w' :=
  (isEnd_calls a n c x a2 n2 c2 l w h h2 h1 hs).mono fun e w' ⟨he, q, hq⟩ => ⟨he, by rw [hq]; exact below_drewN (Below.refl _ _) _⟩
theorem endB_whole (L : Lx) (t : List Int) (k : Nat) : endB L t t.length k = (decide ((wd L k).length ≤ t.length) && decide (t.drop (t.length - (wd L k).length) = wd L k)) := by
  unfold endB ln; rw [List.take_length]; rfl
theorem endB_take (L : Lx) (t : List Int) (i k : Nat) : endB L t i k = (decide ((wd L k).length ≤ i) && decide ((t.take i).drop (i - (wd L k).length) = wd L k)) := by
  unfold endB ln; rfl
set_option maxRecDepth 100000 in
set_option maxHeartbeats 4000000 in
theorem worth_calls (v : Value) (L : Lx) (a : Option Addr) (n c : Nat) (t : List Int) (a' : Option Addr) (n' c' : Nat) (r : List Int) (w : World) (h : LexAt w v L) (ht : IntsAt w a n c t) (hr : IntsAt w a' n' c' r) (g : GoodL L) (hn : n ≤ 1000) (hrl : n' = L.items.length) :
    Calls Try.prog 77 #[v, .slice a n c, .slice a' n' c'] w fun e w' => e = .returned (.tuple #[.int .i64 (wP L t r L.items.length).1, .bool (wP L t r L.items.length).2]) ∧ Below w.heap.size w w' := by
  have HP := hid_ h
  obtain ⟨a1, n1, c1, a2, n2, c2, rfl, h1, h2⟩ := h
  obtain ⟨w1, hw1⟩ : ∃ w1, w.alloc (.cells #[.slice a1 n1 c1, .slice a2 n2 c2] 25) = w1 := ⟨_, rfl⟩
  have cb : Below w.heap.size w w1 := by rw [← hw1]; exact below_alloc _ _
  have q0 : w1.cell? ⟨w.heap.size, 0, none⟩ = some (.slice a1 n1 c1) := by rw [← hw1]; exact cells_alloc _ _ _ 0
  have q1 : w1.cell? ⟨w.heap.size, 1, none⟩ = some (.slice a2 n2 c2) := by rw [← hw1]; exact cells_alloc _ _ _ 1
  have HP1 := hid_ (HP.out.below cb (Nat.le_refl _)); have Hc1 := hid_ cb
  have H1 := hid_ (fun W (hW : Below w1.heap.size w1 W) => (h1.below cb (Nat.le_refl _)).below hW (Nat.le_refl _))
  have HT := hid_ (fun W (hW : Below w1.heap.size w1 W) => (ht.below cb (Nat.le_refl _)).below hW (Nat.le_refl _))
  have HR := hid_ (fun W (hW : Below w1.heap.size w1 W) => (hr.below cb (Nat.le_refl _)).below hW (Nat.le_refl _))
  have hl1 := h1.len
  have htl := ht.len
  have HEn := hid_ (endB_whole L t)
  rw [htl] at HEn
  have Hge := hid_ (fun j (hj : j < n1) => g.word j (by omega))
  have hn1 : n1 ≤ 1000 := by have := g.le; omega
  rw [hl1] at hrl ⊢
  subst hrl
  have Htl := hid_ htl
  clear cb h1 h2 HP HP1 ht hr g hl1 htl
  go_enter Try.func77, Try.ntmps77
  go_wp2
  go_loopw [8, 9, 15] (fun xv bv i wr => ∃ (k : Nat) (x : Int) (b : Bool), k ≤ n' ∧ wP L t r k = (x, b) ∧ xv = .int .i64 x ∧ bv = .bool b ∧ i = .int .i64 k ∧ Below w1.heap.size w1 wr) (fun _ _ i _ => n' - (intOf i).toNat)
  case atStart => exact ⟨0, 0, false, Nat.zero_le _, rfl, rfl, rfl, rfl, Below.refl _ _⟩
  case round =>
    obtain ⟨k, x, b, hk, hB, rfl, rfl, rfl, hb⟩ := hrel
    have q0r := cell_below q0 hb; have q1r := cell_below q1 hb
    have HB := hid_ hB
    clear hB
    by_cases hlt : k < n'
    · obtain ⟨bi, off, a3, n3, c3, rfl, -, k0, k1, k2, hi⟩ := (H1.out wr hb).cells k hlt
      obtain ⟨br, offr, er, -, hck⟩ := (HR.out wr hb).cells k hlt
      have hwl : (wd L k).length = n3 := hi.len
      have hge := Hge.out k hlt
      have hge1 : 1 ≤ (wd L k).length := hge.1
      have hge2 : (wd L k).length ≤ 6 := hge.2.1
      have hen := HEn.out k
      rw [hwl] at hge1 hge2 hen
      obtain ⟨wb, hwb⟩ : ∃ wb, wr.alloc (.cells #[.slice a3 n3 c3, .int .i64 (L.items.getD k I0).kind, .int .i64 (L.items.getD k I0).cost] 62) = wb := ⟨_, rfl⟩
      have hcb : Below wr.heap.size wr wb := by rw [← hwb]; exact below_alloc _ _
      have u0 : wb.cell? ⟨wr.heap.size, 0, none⟩ = some (.slice a3 n3 c3) := by rw [← hwb]; exact cells_alloc _ _ _ 0
      have hbb := hb.trans (hcb.mono hb.size)
      have HI := hid_ (isEnd_calls a3 n3 c3 (wd L k) a n c t wb (hi.below hcb (Nat.le_refl _)) (HT.out wb hbb) hge1 (by omega))
      rw [← hen] at HI
      have Hb := hid_ hbb
      have hcw := cell_below hck hcb
      have hy := wP_yes HB.out
      have hno := wP_no HB.out
      have hno' := fun (hb : b = true) => wP_no' (hb ▸ HB.out)
      rw [Htl.out] at hy hno
      subst er
      clear hb hi hcb hwl hbb hge hen hck
      generalize (L.items.getD k I0).kind = kx at *
      generalize (L.items.getD k I0).cost = cx at *
      generalize r.getD k 0 = y at *
      cases hx : endB L t n k with
      | true =>
        rw [hx] at HI
        cases b with
        | false =>
          have Hn := hid_ (hy hx (.inl rfl))
          clear hx hy hno hno'
          go_wp2_with (go_at_call 93; (with_reducible refine HI.out.mono ?_); rintro e w2 ⟨rfl, q, hw2⟩; have u0' : w2.cell? ⟨wr.heap.size, 0, none⟩ = some (.slice a3 n3 c3) := (by rw [hw2]; exact u0); have hcw2 : w2.cell? ⟨br, offr + k, none⟩ = some (.int .i64 y) := (by rw [hw2]; exact hcw); have Hb2 := hid_ (show Below w1.heap.size w1 w2 by rw [hw2]; exact below_drewN Hb.out _); clear hw2)
          go_roundw
          case rel => exact ⟨k + 1, y, true, by omega, Hn.out, rfl, rfl, by go_num, Hb2.out⟩
          case measure => simp [intOf]; omega
        | true =>
          by_cases hlt2 : y < x
          · have Hn := hid_ (hy hx (.inr hlt2))
            clear hx hy hno hno'
            go_wp2_with (go_at_call 93; (with_reducible refine HI.out.mono ?_); rintro e w2 ⟨rfl, q, hw2⟩; have u0' : w2.cell? ⟨wr.heap.size, 0, none⟩ = some (.slice a3 n3 c3) := (by rw [hw2]; exact u0); have hcw2 : w2.cell? ⟨br, offr + k, none⟩ = some (.int .i64 y) := (by rw [hw2]; exact hcw); have Hb2 := hid_ (show Below w1.heap.size w1 w2 by rw [hw2]; exact below_drewN Hb.out _); clear hw2)
            go_roundw
            case rel => exact ⟨k + 1, y, true, by omega, Hn.out, rfl, rfl, by go_num, Hb2.out⟩
            case measure => simp [intOf]; omega
          · have Hn := hid_ (hno' rfl hlt2)
            clear hx hy hno hno'
            go_wp2_with (go_at_call 93; (with_reducible refine HI.out.mono ?_); rintro e w2 ⟨rfl, q, hw2⟩; have hcw2 : w2.cell? ⟨br, offr + k, none⟩ = some (.int .i64 y) := (by rw [hw2]; exact hcw); have Hb2 := hid_ (show Below w1.heap.size w1 w2 by rw [hw2]; exact below_drewN Hb.out _); clear hw2)
            go_roundw
            case rel => exact ⟨k + 1, x, true, by omega, Hn.out, rfl, rfl, by go_num, Hb2.out⟩
            case measure => simp [intOf]; omega
      | false =>
        rw [hx] at HI
        have Hn := hid_ (hno hx)
        clear hx hy hno hno'
        go_wp2_with (go_at_call 93; (with_reducible refine HI.out.mono ?_); rintro e w2 ⟨rfl, q, hw2⟩; have Hb2 := hid_ (show Below w1.heap.size w1 w2 by rw [hw2]; exact below_drewN Hb.out _); clear hw2)
        go_roundw
        case rel => exact ⟨k + 1, x, b, by omega, Hn.out, rfl, rfl, by go_num, Hb2.out⟩
        case measure => simp [intOf]; omega
    · obtain rfl : n' = k := by omega
      go_wp2
      go_ret2
      exact ⟨by rw [HB.out]; rfl, Hc1.out.trans (hb.mono Hc1.out.size)⟩
set_option maxRecDepth 100000 in
set_option maxHeartbeats 4000000 in
theorem holds_calls (v : Value) (L : Lx) (a : Option Addr) (n c : Nat) (t : List Int) (a' : Option Addr) (n' c' : Nat) (P : List (List Int)) (w : World) (h : LexAt w v L) (ht : IntsAt w a n c t) (hL : ListsAt w a' n' c' P) (g : GoodL L) (hP : GoodP L t P) (hn : n ≤ 1000) :
    Calls Try.prog 76 #[v, .slice a n c, .slice a' n' c'] w fun e w' => e = .returned (.bool (holdsB L t P)) ∧ Below w.heap.size w w' := by
  have HP := hid_ h
  obtain ⟨a1, n1, c1, a2, n2, c2, rfl, h1, h2⟩ := h
  obtain ⟨w1, hw1⟩ : ∃ w1, w.alloc (.cells #[.slice a1 n1 c1, .slice a2 n2 c2] 25) = w1 := ⟨_, rfl⟩
  have cb : Below w.heap.size w w1 := by rw [← hw1]; exact below_alloc _ _
  have q0 : w1.cell? ⟨w.heap.size, 0, none⟩ = some (.slice a1 n1 c1) := by rw [← hw1]; exact cells_alloc _ _ _ 0
  have q1 : w1.cell? ⟨w.heap.size, 1, none⟩ = some (.slice a2 n2 c2) := by rw [← hw1]; exact cells_alloc _ _ _ 1
  have HP1 := hid_ (HP.out.below cb (Nat.le_refl _)); have Hc1 := hid_ cb
  have H1 := hid_ (fun W (hW : Below w1.heap.size w1 W) => (h1.below cb (Nat.le_refl _)).below hW (Nat.le_refl _))
  have HT := hid_ (fun W (hW : Below w1.heap.size w1 W) => (ht.below cb (Nat.le_refl _)).below hW (Nat.le_refl _))
  have HL := hid_ (fun W (hW : Below w1.heap.size w1 W) => (hL.below cb (Nat.le_refl _)).below hW (Nat.le_refl _))
  have hl1 := h1.len
  have htl := ht.len
  have hle := ht.le
  have hsm := ht.small
  have hn' : n' = n + 1 := by rw [← hL.len, hP.len, htl]
  have HEn := hid_ (endB_take L t)
  have Hge := hid_ (fun j (hj : j < n1) => g.word j (by omega))
  have HGr := hid_ (fun W (hW : Below w1.heap.size w1 W) fr j (hf : fr < n + 1) (hj : j < n1) => greatest_calls _ L t a' n' c' P fr j W (HP1.out.below hW (Nat.le_refl _)) ((hL.below cb (Nat.le_refl _)).below hW (Nat.le_refl _)) g hP (by omega) (by omega))
  have HNo := hid_ (fun i j (hi : i < n') (hj : j < n1) => @holdsB_no L t P i j (by rw [hL.len]; exact hi) (by omega))
  have HYes := hid_ (@holdsB_yes L t P n' n1 hL.len hl1)
  have Hrow := hid_ (fun i (hi : i < n') => (hP.row i (by omega)).1.trans hl1)
  have hn1 : n1 ≤ 1000 := by have := g.le; omega
  have Hn' := hid_ hn'
  clear cb h1 h2 HP HP1 ht hL g hl1 htl hP hn'
  generalize holdsB L t P = R at *
  go_enter Try.func76, Try.ntmps76
  go_wp2
  go_loopw [13] (fun iv wr => ∃ i : Nat, i ≤ n' ∧ iv = .int .i64 i ∧ (∀ i', i' < i → ∀ j, j < n1 → okE L t P i' j = true) ∧ Below w1.heap.size w1 wr) (fun iv _ => n' - (intOf iv).toNat)
  case atStart => exact ⟨0, Nat.zero_le _, rfl, fun _ h => absurd h (by omega), Below.refl _ _⟩
  case round =>
    obtain ⟨i, hi, rfl, hall, hb⟩ := hrel
    have Hall := hid_ hall
    clear hall
    by_cases hlt : i < n'
    · obtain ⟨bp, op, ar, nr, cr, ea, -, hcP, hrow⟩ := (HL.out wr hb).cells i hlt
      obtain rfl : nr = n1 := by rw [← Hrow.out i hlt, hrow.len]
      have q0r := cell_below q0 hb
      have Hrw := hid_ hrow
      have Hbo := hid_ hb
      subst ea
      clear hrow hb
      go_wp2
      go_loopw [21] (fun jv wr' => ∃ j : Nat, j ≤ nr ∧ jv = .int .i64 j ∧ (∀ j', j' < j → okE L t P i j' = true) ∧ Below wr.heap.size wr wr') (fun jv _ => nr - (intOf jv).toNat)
      case atStart => exact ⟨0, Nat.zero_le _, rfl, fun _ h => absurd h (by omega), Below.refl _ _⟩
      case round =>
        obtain ⟨j, hj, rfl, hall2, hbi⟩ := hrel
        have hrj := Hrw.out.below hbi (Nat.le_refl _)
        have hbw := Hbo.out.trans (hbi.mono Hbo.out.size)
        by_cases hltj : j < nr
        · obtain ⟨bi, off, a3, n3, c3, e3, -, k0, k1, k2, hiw⟩ := (H1.out _ hbw).cells j hltj
          obtain ⟨br, offr, er, -, hck⟩ := hrj.cells j hltj
          have hwl : (wd L j).length = n3 := hiw.len
          have hge1 : 1 ≤ (wd L j).length := (Hge.out j hltj).1
          have hge2 : (wd L j).length ≤ 6 := (Hge.out j hltj).2.1
          have hen := HEn.out i j
          have hin : i ≤ n := by have := Hn'.out; omega
          rw [hwl] at hge1 hge2 hen
          subst e3; subst er
          have q0i := cell_below q0 hbw; have q1i := cell_below q1 hbw
          obtain ⟨wb, hwb⟩ : ∃ wb, wr.alloc (.cells #[.slice a3 n3 c3, .int .i64 (L.items.getD j I0).kind, .int .i64 (L.items.getD j I0).cost] 62) = wb := ⟨_, rfl⟩
          have hcb : Below wr.heap.size wr wb := by rw [← hwb]; exact below_alloc _ _
          have u0 : wb.cell? ⟨wr.heap.size, 0, none⟩ = some (.slice a3 n3 c3) := by rw [← hwb]; exact cells_alloc _ _ _ 0
          have hbb := hbw.trans (hcb.mono hbw.size)
          have hwg : ∀ d os, Below wb.heap.size wb (Go.Sort.grow (redrawn wb d) os) := fun d os => below_regrown wb d os
          have hti := (HT.out wb hbb).take hin
          have HE := hid_ (fun d os => (by have := isEnd_below a3 n3 c3 (wd L j) a i c (t.take i) (Go.Sort.grow (redrawn wb d) os) ((hiw.below hcb (Nat.le_refl _)).below (hwg d os) (Nat.le_refl _)) (hti.below (hwg d os) (Nat.le_refl _)) hge1 (by omega); rw [← hen] at this; exact this : Calls Try.prog 93 #[.slice a3 n3 c3, .slice a i c] (Go.Sort.grow (redrawn wb d) os) fun e w' => e = .returned (.bool (endB L t i j)) ∧ Below (Go.Sort.grow (redrawn wb d) os).heap.size (Go.Sort.grow (redrawn wb d) os) w'))
          have Hbi := hid_ (hbi.trans (hcb.mono hbi.size))
          have gA := cell_regrown (cell_below q0i hcb); have gB := cell_regrown (cell_below q1i hcb); have gU := cell_regrown u0; have gC := cell_regrown (cell_below hck hcb)
          have hsl := fun W => run_slice_high a n c i hin hle W
          have hok : okE L t P i j = !(endB L t i j && decide (greatV L P (i - n3) j < (P.getD i []).getD j 0)) := by unfold okE pv ln; rw [show (L.items.getD j I0).word.length = n3 from hwl]
          have hsn := fun hx => lt_snoc (p := fun j' => okE L t P i j' = true) hall2 hx
          have hno := HNo.out i j (by omega) hltj
          have Hgr := hid_ (fun d os fr (hf : fr < n + 1) => HGr.out (Go.Sort.grow (redrawn wb d) os) (hbb.trans ((hwg d os).mono hbb.size)) fr j hf hltj)
          clear hall2 hbi hrj hbw hiw hwl hcb hbb hwg hti hck
          generalize (L.items.getD j I0).kind = kx at *
          generalize (L.items.getD j I0).cost = cx at *
          cases hx : endB L t i j with
          | false =>
            rw [hx, Bool.false_and] at hok
            have Hn := hid_ (hsn hok)
            simp only [hx] at HE
            clear hx hok hsn hno hen Hgr
            go_wp2_with fail
            refine wp_region_quiet_below (by kernel_rfl) (by kernel_rfl) ?_
            repeat (first | go_big_quiet_skip | (go_big_quiet_want; go_big_quiet_op; first | go_big_quiet_on | go_big_quiet_call ((go_at_call 93; with_reducible exact Calls.regrown_of (HE.out _ _)))))
            refine wpQuiet_nil ?_
            rintro wq ⟨pq, hpq⟩
            have Hbq := hid_ (below_wq hpq)
            clear hpq gA gB gU gC
            go_wp2
            go_roundw
            case rel => exact ⟨j + 1, by omega, by go_num, Hn.out, Hbi.out.trans (Hbq.out.mono Hbi.out.size)⟩
            case measure => simp [intOf]; omega
          | true =>
            have hni : n3 ≤ i := by
              rw [hx] at hen
              exact of_decide_eq_true (Bool.and_eq_true_iff.1 hen.symm).1
            rw [hx, Bool.true_and] at hok
            simp only [hx] at HE
            obtain ⟨fr, hfr⟩ : ∃ fr, i = fr + n3 := ⟨i - n3, by omega⟩
            have hfr2 : i - n3 = fr := by omega
            rw [hfr2] at hok
            have hwf : IntKind.i64.wrap ((i : Int) - (n3 : Int)) = (fr : Int) := by rw [IntKind.wrap_i64]; omega
            have HG2 := hid_ (fun d os => Hgr.out d os fr (by omega))
            generalize greatV L P fr j = G at *
            obtain ⟨y, hy⟩ : ∃ y, (P.getD i []).getD j 0 = y := ⟨_, rfl⟩
            rw [hy] at hok gC
            have Hfr := hid_ hfr
            clear hx hen Hgr hni hfr hfr2 hy
            by_cases hlg : G < y
            · rw [decide_eq_true hlg] at hok
              have HR := hid_ (hno hok)
              have hgt : decide (y > G) = true := decide_eq_true hlg
              clear hok hsn hno
              go_wp2_with fail
              refine wp_region_quiet_below (by kernel_rfl) (by kernel_rfl) ?_
              repeat (first
                | go_big_quiet_skip
                | (go_big_quiet_want; go_big_quiet_op; first | go_big_quiet_on | go_big_quiet_call ((first
                  | (go_at_call 93; with_reducible exact Calls.regrown_of (HE.out _ _))
                  | (go_at_call 100; with_reducible exact Calls.regrown_of (HG2.out _ _)))))) 
              refine wpQuiet_nil ?_
              rintro wq ⟨pq, hpq⟩
              have Hbq := hid_ (below_wq hpq)
              clear hpq gA gB gU gC
              go_wp2
              go_ret
              exact ⟨retB HR.out, Hc1.out.trans ((Hbo.out.trans ((Hbi.out.trans (Hbq.out.mono Hbi.out.size)).mono Hbo.out.size)).mono Hc1.out.size)⟩
            · rw [decide_eq_false hlg] at hok
              have Hn := hid_ (hsn hok)
              have hgt : decide (y > G) = false := decide_eq_false hlg
              clear hok hsn hno
              go_wp2_with fail
              refine wp_region_quiet_below (by kernel_rfl) (by kernel_rfl) ?_
              repeat (first
                | go_big_quiet_skip
                | (go_big_quiet_want; go_big_quiet_op; first | go_big_quiet_on | go_big_quiet_call ((first
                  | (go_at_call 93; with_reducible exact Calls.regrown_of (HE.out _ _))
                  | (go_at_call 100; with_reducible exact Calls.regrown_of (HG2.out _ _)))))) 
              refine wpQuiet_nil ?_
              rintro wq ⟨pq, hpq⟩
              have Hbq := hid_ (below_wq hpq)
              clear hpq gA gB gU gC
              go_wp2
              go_roundw
              case rel => exact ⟨j + 1, by omega, by go_num, Hn.out, Hbi.out.trans (Hbq.out.mono Hbi.out.size)⟩
              case measure => simp [intOf]; omega
        · obtain rfl : nr = j := by omega
          have hib : i ≤ 1001 := by have := Hn'.out; omega
          have Hn := hid_ (lt_snoc (p := fun i' => ∀ j, j < nr → okE L t P i' j = true) Hall.out hall2)
          go_wp2
          go_roundw
          case rel => exact ⟨i + 1, by omega, by go_num, Hn.out, hbw⟩
          case measure => simp [intOf]; omega
    · obtain rfl : n' = i := by omega
      have HR := hid_ (HYes.out Hall.out)
      go_wp2
      go_ret
      exact ⟨retB HR.out, Hc1.out.trans (hb.mono Hc1.out.size)⟩
end Go.Proofs.Ytliheejcfkhghaa
