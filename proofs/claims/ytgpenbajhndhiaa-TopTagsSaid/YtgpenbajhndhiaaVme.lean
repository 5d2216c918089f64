import Derived.Test.YtgpenbajhndhiaaVmd
namespace Go.Proofs.Ytgpenbajhndhiaa
open Go.RowKit Go.Proofs.Kv Go

/-! ### proofs -/
def pv (P : List (List Int)) (i j : Nat) : Int := (P.getD i []).getD j 0
def gP (L : Lx) (P : List (List Int)) (fr j : Nat) : Nat → Int
  | 0 => 100000
  | k + 1 => if 0 ≤ follV L k j then min (gP L P fr j k) (pv P fr k + follV L k j + (L.items.getD j I0).cost) else gP L P fr j k
def greatV (L : Lx) (P : List (List Int)) (fr j : Nat) : Int := if fr = 0 then (L.items.getD j I0).cost else gP L P fr j L.items.length
def okE (L : Lx) (t : List Int) (P : List (List Int)) (i j : Nat) : Bool := !(endB L t i j && decide (greatV L P (i - ln L j) j < pv P i j))
def holdsB (L : Lx) (t : List Int) (P : List (List Int)) : Bool := (List.range P.length).all fun i => (List.range L.items.length).all fun j => okE L t P i j
theorem holdsB_no {L : Lx} {t : List Int} {P : List (List Int)} {i j : Nat} (hi : i < P.length) (hj : j < L.items.length) (h : okE L t P i j = false) : holdsB L t P = false := by
  rw [holdsB, List.all_eq_false]
  refine ⟨i, List.mem_range.2 hi, ?_⟩
  rw [Bool.not_eq_true, List.all_eq_false]
  exact ⟨j, List.mem_range.2 hj, by rw [h]; decide⟩
theorem holdsB_yes {L : Lx} {t : List Int} {P : List (List Int)} {n n1 : Nat} (hn : P.length = n) (hn1 : L.items.length = n1) (h : ∀ i, i < n → ∀ j, j < n1 → okE L t P i j = true) : holdsB L t P = true := by
  rw [holdsB, List.all_eq_true]; intro i hi
  rw [List.all_eq_true]; intro j hj
  exact h i (by have := List.mem_range.1 hi; omega) j (by have := List.mem_range.1 hj; omega)
theorem holdsB_at {L : Lx} {t : List Int} {P : List (List Int)} (h : holdsB L t P = true) {i j : Nat} (hi : i < P.length) (hj : j < L.items.length) : okE L t P i j = true := by
  rw [holdsB, List.all_eq_true] at h
  have := h i (List.mem_range.2 hi)
  rw [List.all_eq_true] at this
  exact this j (List.mem_range.2 hj)
/-- a proof of the right form -/
structure GoodP (L : Lx) (t : List Int) (P : List (List Int)) : Prop where
  len : P.length = t.length + 1
  row : ∀ i, i < t.length + 1 → (P.getD i []).length = L.items.length ∧ areB (P.getD i []) (-100000) 100000 = true
theorem GoodP.at_ {L : Lx} {t : List Int} {P : List (List Int)} (h : GoodP L t P) {i j : Nat} (hi : i < t.length + 1) (hj : j < L.items.length) : -100000 ≤ pv P i j ∧ pv P i j ≤ 100000 := by
  obtain ⟨h1, h2⟩ := h.row i hi
  exact areB_at h2 (by omega)
theorem gP_in {L : Lx} (g : GoodL L) {t : List Int} {P : List (List Int)} (hP : GoodP L t P) {fr j : Nat} (hf : fr < t.length + 1) (hj : j < L.items.length) : ∀ k, k ≤ L.items.length → -100000 ≤ gP L P fr j k ∧ gP L P fr j k ≤ 100000
  | 0, _ => by simp [gP]
  | k + 1, hk => by
    have ih := gP_in g hP hf hj k (by omega)
    have h1 := hP.at_ hf (show k < L.items.length by omega)
    have h2 := g.cost j hj
    rw [gP]
    split
    · omega
    · exact ih
theorem gP_yes {L : Lx} {P : List (List Int)} {fr j k : Nat} (h : 0 ≤ follV L k j) : gP L P fr j (k + 1) = min (gP L P fr j k) (pv P fr k + follV L k j + (L.items.getD j I0).cost) := by rw [gP, if_pos h]
theorem gP_no {L : Lx} {P : List (List Int)} {fr j k : Nat} (h : ¬ 0 ≤ follV L k j) : gP L P fr j (k + 1) = gP L P fr j k := by rw [gP, if_neg h]
theorem run_slice_high (a : Option Addr) (n c hi : Nat) (h2 : hi ≤ n) (h3 : n ≤ c) (W : World) :
    (Instr.slice 26 (.slice a n c) none (some (.int .i64 (hi : Int))) none).run Try.prog W = .ok (.slice a hi c) W := by
  have hu := Try.underlying26
  have h4 : hi ≤ c := by omega
  simp [Instr.slice, run_underlying hu, go_sem, Instr.sliceBounds, Instr.sliceBound, h4]
  try (intros; cases a <;> simp_all [Addr.add])
set_option maxRecDepth 100000 in
set_option maxHeartbeats 4000000 in
theorem greatest_calls (v : Value) (L : Lx) (t : List Int) (a : Option Addr) (n c : Nat) (P : List (List Int)) (fr j : Nat) (w : World) (h : LexAt w v L) (hL : ListsAt w a n c P) (g : GoodL L) (hP : GoodP L t P) (hf : fr < t.length + 1) (hj : j < L.items.length) :
    Calls Try.prog 63 #[v, .slice a n c, .int .i64 (fr : Int), .int .i64 (j : Int)] w fun e w' => e = .returned (.int .i64 (greatV L P fr j)) ∧ Below w.heap.size w w' := by
  have HP := hid_ h
  obtain ⟨a1, n1, c1, a2, n2, c2, rfl, h1, h2⟩ := h
  obtain ⟨w1, hw1⟩ : ∃ w1, w.alloc (.cells #[.slice a1 n1 c1, .slice a2 n2 c2] 25) = w1 := ⟨_, rfl⟩
  have cb : Below w.heap.size w w1 := by rw [← hw1]; exact below_alloc _ _
  have q0 : w1.cell? ⟨w.heap.size, 0, none⟩ = some (.slice a1 n1 c1) := by rw [← hw1]; exact cells_alloc _ _ _ 0
  have q1 : w1.cell? ⟨w.heap.size, 1, none⟩ = some (.slice a2 n2 c2) := by rw [← hw1]; exact cells_alloc _ _ _ 1
  have HP1 := hid_ (HP.out.below cb (Nat.le_refl _)); have Hc1 := hid_ cb
  have hl1 := h1.len
  have HV : Hid (greatV L P fr j = if fr = 0 then (L.items.getD j I0).cost else gP L P fr j L.items.length) := hid_ rfl
  have hnf : fr < n := by rw [← hL.len, hP.len]; exact hf
  obtain ⟨bp, op, ar, nr, cr, rfl, -, hcP, hrow⟩ := (hL.below cb (Nat.le_refl _)).cells fr hnf
  have hrl : nr = n1 := by rw [← hl1, ← (hP.row fr hf).1, hrow.len]
  subst hrl
  have HF := hid_ (fun W (hW : Below w1.heap.size w1 W) k (hk : k < L.items.length) => tafollow_calls _ L k j W (HP1.out.below hW (Nat.le_refl _)) g hk hj)
  have HI := hid_ (fun W (hW : Below w1.heap.size w1 W) => (h1.below cb (Nat.le_refl _)).below hW (Nat.le_refl _))
  have HR := hid_ (fun W (hW : Below w1.heap.size w1 W) => hrow.below hW (Nat.le_refl _))
  have hcj := g.cost j hj
  have HFi := hid_ (fun k (hk : k < L.items.length) => @follV_in L g k j hk hj)
  have HG := hid_ (fun k (hk : k ≤ L.items.length) => gP_in g hP hf hj k hk)
  have HA := hid_ (fun k (hk : k < L.items.length) => hP.at_ hf hk)
  have hn1 : nr ≤ 1000 := by have := g.le; omega
  have hnn : n ≤ 9223372036854775807 := Nat.le_trans hL.le hL.small
  rw [hl1] at HF HFi HG HA HV hj
  generalize greatV L P fr j = V at *
  clear h1 h2 HP HP1 cb hL g hP hf hl1 hrow
  obtain ⟨bj, offj, aj, nj, cj, rfl, -, j0, j1, j2, -⟩ := (HI.out w1 (Below.refl _ _)).cells j hj
  by_cases h0 : fr = 0
  · subst h0
    have HV' := hid_ (HV.out.trans (if_pos rfl))
    generalize (L.items.getD j I0).cost = cost at *
    clear HV
    go_enter Try.func63, Try.ntmps63
    go_wp2
    go_ret
    exact ⟨by rw [HV'.out]; rfl, Hc1.out⟩
  · have HV' := hid_ (HV.out.trans (if_neg h0))
    have hq : ((fr : Int) == 0) = false := by simpa using (fun e : (fr : Int) = 0 => h0 (by omega))
    clear HV h0
    go_enter Try.func63, Try.ntmps63
    go_wp2
    go_loopw [9, 26] (fun m i wr => ∃ k : Nat, k ≤ nr ∧ m = .int .i64 (gP L P fr j k) ∧ i = .int .i64 k ∧ Below w1.heap.size w1 wr) (fun _ i _ => nr - (intOf i).toNat)
    case atStart => exact ⟨0, Nat.zero_le _, rfl, rfl, Below.refl _ _⟩
    case round =>
      obtain ⟨k, hk, rfl, rfl, hb⟩ := hrel
      by_cases hlt : k < nr
      · obtain ⟨br, offr, er, -, hck⟩ := (HR.out wr hb).cells k hlt
        have hck' : wr.cell? ⟨br, offr + k, none⟩ = some (.int .i64 (pv P fr k)) := hck
        subst er
        have q0r := cell_below q0 hb; have q1r := cell_below q1 hb
        have hFo := HF.out wr hb k hlt
        have hfi := HFi.out k hlt
        obtain ⟨g0, g1⟩ := HG.out k hk
        obtain ⟨p0, p1⟩ := HA.out k hlt
        have hy := @gP_yes L P fr j k
        have hno := @gP_no L P fr j k
        obtain ⟨m, hm⟩ : ∃ m, gP L P fr j k = m := ⟨_, rfl⟩
        rw [hm] at g0 g1 hy hno ⊢
        clear hm hck
        generalize (L.items.getD j I0).cost = cost at *
        generalize pv P fr k = p at *
        generalize follV L k j = f at *
        have HFo := hid_ hFo; have Hb := hid_ hb
        clear hFo hb
        by_cases hf : 0 ≤ f
        · have hfd : decide (f ≥ 0) = true := decide_eq_true hf
          have Hn := hid_ (hy hf)
          have hw1 : IntKind.i64.wrap (p + f) = p + f := IntWalk.i64_in _ (by omega)
          have hw2 : IntKind.i64.wrap (p + f + cost) = p + f + cost := IntWalk.i64_in _ (by omega)
          clear hy hno
          go_wp2_with (go_at_call 61; (with_reducible refine HFo.out.mono ?_); rintro e w4 ⟨rfl, hb4'⟩; have hb4 := below_then8 Hb.out hb4'; have q0c := cell_below q0 hb4; have q1c := cell_below q1 hb4; have j2c := cell_below j2 hb4)
          go_roundw
          case rel => exact ⟨k + 1, by omega, by rw [Hn.out]; first | rfl | (congr 1; simp only [IntKind.wrap_i64] at hw2; first | (rw [hw2]; rw [Int.min_def]; split <;> split <;> omega) | (rw [Int.min_def]; split <;> split <;> omega)), by go_num, hb4⟩
          case measure => simp [intOf]; omega
        · have hfd : decide (f ≥ 0) = false := decide_eq_false hf
          have Hn := hid_ (hno hf)
          clear hy hno
          go_wp2_with (go_at_call 61; (with_reducible refine HFo.out.mono ?_); rintro e w4 ⟨rfl, hb4'⟩; have hb4 := below_then8 Hb.out hb4')
          go_roundw
          case rel => exact ⟨k + 1, by omega, by rw [Hn.out], by go_num, hb4⟩
          case measure => simp [intOf]; omega
      · obtain rfl : nr = k := by omega
        go_wp2
        go_ret
        exact ⟨by rw [HV'.out]; rfl, Hc1.out.trans (hb.mono Hc1.out.size)⟩
end Go.Proofs.Ytgpenbajhndhiaa
namespace Go.Proofs.Ytgpenbajhndhiaa
open Go.RowKit Go.Proofs.Kv Go

/-! ### worth, holds of the program -/
def wP (L : Lx) (t : List Int) (r : List Int) : Nat → Int × Bool
  | 0 => (0, false)
  | k + 1 => if (endB L t t.length k && (!(wP L t r k).2 || decide (r.getD k 0 < (wP L t r k).1))) = true then (r.getD k 0, true) else wP L t r k
theorem wP_yes {L : Lx} {t r : List Int} {k : Nat} {x : Int} {b : Bool} (hw : wP L t r k = (x, b)) (h1 : endB L t t.length k = true) (h2 : b = false ∨ r.getD k 0 < x) : wP L t r (k + 1) = (r.getD k 0, true) := by
  rw [wP, hw, if_pos]
  rw [h1, Bool.true_and, Bool.or_eq_true]
  rcases h2 with h2 | h2
  · left; rw [show (x, b).2 = b from rfl, h2]; rfl
  · right; exact decide_eq_true h2
theorem wP_no {L : Lx} {t r : List Int} {k : Nat} {x : Int} {b : Bool} (hw : wP L t r k = (x, b)) (h1 : endB L t t.length k = false) : wP L t r (k + 1) = (x, b) := by
  rw [wP, hw, if_neg (by rw [h1, Bool.false_and]; decide)]
theorem wP_no' {L : Lx} {t r : List Int} {k : Nat} {x : Int} (hw : wP L t r k = (x, true)) (h2 : ¬ r.getD k 0 < x) : wP L t r (k + 1) = (x, true) := by
  rw [wP, hw, if_neg (by rw [show ((x, true) : Int × Bool).2 = true from rfl, show ((x, true) : Int × Bool).1 = x from rfl, decide_eq_false h2]; simp)]
theorem isEnd_below (a : Option Addr) (n c : Nat) (x : List Int) (a2 : Option Addr) (n2 c2 : Nat) (l : List Int) (w : World) (h : IntsAt w a n c x) (h2 : IntsAt w a2 n2 c2 l) (h1 : 1 ≤ n) (hs : n ≤ 1000 ∧ n2 ≤ 1000) :
    Calls Try.prog 49 #[.slice a n c, .slice a2 n2 c2] w fun e w' => e = .returned (.bool (decide (n ≤ n2) && decide (l.drop (n2 - n) = x))) ∧ Below w.heap.size w w' :=
  (isEnd_calls a n c x a2 n2 c2 l w h h2 h1 hs).mono fun e w' ⟨he, q, hq⟩ => ⟨he, by rw [hq]; exact below_drewN (Below.refl _ _) _⟩
theorem endB_whole (L : Lx) (t : List Int) (k : Nat) : endB L t t.length k = (decide ((wd L k).length ≤ t.length) && decide (t.drop (t.length - (wd L k).length) = wd L k)) := by
  unfold endB ln; rw [List.take_length]; rfl
theorem endB_take (L : Lx) (t : List Int) (i k : Nat) : endB L t i k = (decide ((wd L k).length ≤ i) && decide ((t.take i).drop (i - (wd L k).length) = wd L k)) := by
  unfold endB ln; rfl
set_option maxRecDepth 100000 in
set_option maxHeartbeats 4000000 in
theorem worth_calls (v : Value) (L : Lx) (a : Option Addr) (n c : Nat) (t : List Int) (a' : Option Addr) (n' c' : Nat) (r : List Int) (w : World) (h : LexAt w v L) (ht : IntsAt w a n c t) (hr : IntsAt w a' n' c' r) (g : GoodL L) (hn : n ≤ 1000) (hrl : n' = L.items.length) :
    Calls Try.prog 43 #[v, .slice a n c, .slice a' n' c'] w fun e w' => e = .returned (.tuple #[.int .i64 (wP L t r L.items.length).1, .bool (wP L t r L.items.length).2]) ∧ Below w.heap.size w w' := by
  have HP := hid_ h
  obtain ⟨a1, n1, c1, a2, n2, c2, rfl, h1, h2⟩ := h
  obtain ⟨w1, hw1⟩ : ∃ w1, w.alloc (.cells #[.slice a1 n1 c1, .slice a2 n2 c2] 25) = w1 := ⟨_, rfl⟩
  have cb : Below w.heap.size w w1 := by rw [← hw1]; exact below_alloc _ _
  have q0 : w1.cell? ⟨w.heap.size, 0, none⟩ = some (.slice a1 n1 c1) := by rw [← hw1]; exact cells_alloc _ _ _ 0
  have q1 : w1.cell? ⟨w.heap.size, 1, none⟩ = some (.slice a2 n2 c2) := by rw [← hw1]; exact cells_alloc _ _ _ 1
  have HP1 := hid_ (HP.out.below cb (Nat.le_refl _)); have Hc1 := hid_ cb
  have H1 := hid_ (fun W (hW : Below w1.heap.size w1 W) => (h1.below cb (Nat.le_refl _)).below hW (Nat.le_refl _))
  have HT := hid_ (fun W (hW : Below w1.heap.size w1 W) => (ht.below cb (Nat.le_refl _)).below hW (Nat.le_refl _))
  have HR := hid_ (fun W (hW : Below w1.heap.size w1 W) => (hr.below cb (Nat.le_refl _)).below hW (Nat.le_refl _))
  have hl1 := h1.len
  have htl := ht.len
  have HEn := hid_ (endB_whole L t)
  rw [htl] at HEn
  have Hge := hid_ (fun j (hj : j < n1) => g.word j (by omega))
  have hn1 : n1 ≤ 1000 := by have := g.le; omega
  rw [hl1] at hrl ⊢
  subst hrl
  have Htl := hid_ htl
  clear cb h1 h2 HP HP1 ht hr g hl1 htl
  go_enter Try.func43, Try.ntmps43
  go_wp2
  go_loopw [8, 9, 15] (fun xv bv i wr => ∃ (k : Nat) (x : Int) (b : Bool), k ≤ n' ∧ wP L t r k = (x, b) ∧ xv = .int .i64 x ∧ bv = .bool b ∧ i = .int .i64 k ∧ Below w1.heap.size w1 wr) (fun _ _ i _ => n' - (intOf i).toNat)
  case atStart => exact ⟨0, 0, false, Nat.zero_le _, rfl, rfl, rfl, rfl, Below.refl _ _⟩
  case round =>
    obtain ⟨k, x, b, hk, hB, rfl, rfl, rfl, hb⟩ := hrel
    have q0r := cell_below q0 hb; have q1r := cell_below q1 hb
    have HB := hid_ hB
    clear hB
    by_cases hlt : k < n'
    · obtain ⟨bi, off, a3, n3, c3, rfl, -, k0, k1, k2, hi⟩ := (H1.out wr hb).cells k hlt
      obtain ⟨br, offr, er, -, hck⟩ := (HR.out wr hb).cells k hlt
      have hwl : (wd L k).length = n3 := hi.len
      have hge := Hge.out k hlt
      have hge1 : 1 ≤ (wd L k).length := hge.1
      have hge2 : (wd L k).length ≤ 6 := hge.2.1
      have hen := HEn.out k
      rw [hwl] at hge1 hge2 hen
      obtain ⟨wb, hwb⟩ : ∃ wb, wr.alloc (.cells #[.slice a3 n3 c3, .int .i64 (L.items.getD k I0).kind, .int .i64 (L.items.getD k I0).cost] 42) = wb := ⟨_, rfl⟩
      have hcb : Below wr.heap.size wr wb := by rw [← hwb]; exact below_alloc _ _
      have u0 : wb.cell? ⟨wr.heap.size, 0, none⟩ = some (.slice a3 n3 c3) := by rw [← hwb]; exact cells_alloc _ _ _ 0
      have hbb := hb.trans (hcb.mono hb.size)
      have HI := hid_ (isEnd_calls a3 n3 c3 (wd L k) a n c t wb (hi.below hcb (Nat.le_refl _)) (HT.out wb hbb) hge1 (by omega))
      rw [← hen] at HI
      have Hb := hid_ hbb
      have hcw := cell_below hck hcb
      have hy := wP_yes HB.out
      have hno := wP_no HB.out
      have hno' := fun (hb : b = true) => wP_no' (hb ▸ HB.out)
      rw [Htl.out] at hy hno
      subst er
      clear hb hi hcb hwl hbb hge hen hck
      generalize (L.items.getD k I0).kind = kx at *
      generalize (L.items.getD k I0).cost = cx at *
      generalize r.getD k 0 = y at *
      cases hx : endB L t n k with
      | true =>
        rw [hx] at HI
        cases b with
        | false =>
          have Hn := hid_ (hy hx (.inl rfl))
          clear hx hy hno hno'
          go_wp2_with (go_at_call 49; (with_reducible refine HI.out.mono ?_); rintro e w2 ⟨rfl, q, hw2⟩; have u0' : w2.cell? ⟨wr.heap.size, 0, none⟩ = some (.slice a3 n3 c3) := (by rw [hw2]; exact u0); have hcw2 : w2.cell? ⟨br, offr + k, none⟩ = some (.int .i64 y) := (by rw [hw2]; exact hcw); have Hb2 := hid_ (show Below w1.heap.size w1 w2 by rw [hw2]; exact below_drewN Hb.out _); clear hw2)
          go_roundw
          case rel => exact ⟨k + 1, y, true, by omega, Hn.out, rfl, rfl, by go_num, Hb2.out⟩
          case measure => simp [intOf]; omega
        | true =>
          by_cases hlt2 : y < x
          · have Hn := hid_ (hy hx (.inr hlt2))
            clear hx hy hno hno'
            go_wp2_with (go_at_call 49; (with_reducible refine HI.out.mono ?_); rintro e w2 ⟨rfl, q, hw2⟩; have u0' : w2.cell? ⟨wr.heap.size, 0, none⟩ = some (.slice a3 n3 c3) := (by rw [hw2]; exact u0); have hcw2 : w2.cell? ⟨br, offr + k, none⟩ = some (.int .i64 y) := (by rw [hw2]; exact hcw); have Hb2 := hid_ (show Below w1.heap.size w1 w2 by rw [hw2]; exact below_drewN Hb.out _); clear hw2)
            go_roundw
            case rel => exact ⟨k + 1, y, true, by omega, Hn.out, rfl, rfl, by go_num, Hb2.out⟩
            case measure => simp [intOf]; omega
          · have Hn := hid_ (hno' rfl hlt2)
            clear hx hy hno hno'
            go_wp2_with (go_at_call 49; (with_reducible refine HI.out.mono ?_); rintro e w2 ⟨rfl, q, hw2⟩; have hcw2 : w2.cell? ⟨br, offr + k, none⟩ = some (.int .i64 y) := (by rw [hw2]; exact hcw); have Hb2 := hid_ (show Below w1.heap.size w1 w2 by rw [hw2]; exact below_drewN Hb.out _); clear hw2)
            go_roundw
            case rel => exact ⟨k + 1, x, true, by omega, Hn.out, rfl, rfl, by go_num, Hb2.out⟩
            case measure => simp [intOf]; omega
      | false =>
        rw [hx] at HI
        have Hn := hid_ (hno hx)
        clear hx hy hno hno'
        go_wp2_with (go_at_call 49; (with_reducible refine HI.out.mono ?_); rintro e w2 ⟨rfl, q, hw2⟩; have Hb2 := hid_ (show Below w1.heap.size w1 w2 by rw [hw2]; exact below_drewN Hb.out _); clear hw2)
        go_roundw
        case rel => exact ⟨k + 1, x, b, by omega, Hn.out, rfl, rfl, by go_num, Hb2.out⟩
        case measure => simp [intOf]; omega
    · obtain rfl : n' = k := by omega
      go_wp2
      go_ret2
      exact ⟨by rw [HB.out]; rfl, Hc1.out.trans (hb.mono Hc1.out.size)⟩
set_option maxRecDepth 100000 in
set_option maxHeartbeats 4000000 in
theorem holds_calls (v : Value) (L : Lx) (a : Option Addr) (n c : Nat) (t : List Int) (a' : Option Addr) (n' c' : Nat) (P : List (List Int)) (w : World) (h : LexAt w v L) (ht : IntsAt w a n c t) (hL : ListsAt w a' n' c' P) (g : GoodL L) (hP : GoodP L t P) (hn : n ≤ 1000) :
    Calls Try.prog 42 #[v, .slice a n c, .slice a' n' c'] w fun e w' => e = .returned (.bool (holdsB L t P)) ∧ Below w.heap.size w w' := by
  have HP := hid_ h
  obtain ⟨a1, n1, c1, a2, n2, c2, rfl, h1, h2⟩ := h
  obtain ⟨w1, hw1⟩ : ∃ w1, w.alloc (.cells #[.slice a1 n1 c1, .slice a2 n2 c2] 25) = w1 := ⟨_, rfl⟩
  have cb : Below w.heap.size w w1 := by rw [← hw1]; exact below_alloc _ _
  have q0 : w1.cell? ⟨w.heap.size, 0, none⟩ = some (.slice a1 n1 c1) := by rw [← hw1]; exact cells_alloc _ _ _ 0
  have q1 : w1.cell? ⟨w.heap.size, 1, none⟩ = some (.slice a2 n2 c2) := by rw [← hw1]; exact cells_alloc _ _ _ 1
  have HP1 := hid_ (HP.out.below cb (Nat.le_refl _)); have Hc1 := hid_ cb
  have H1 := hid_ (fun W (hW : Below w1.heap.size w1 W) => (h1.below cb (Nat.le_refl _)).below hW (Nat.le_refl _))
  have HT := hid_ (fun W (hW : Below w1.heap.size w1 W) => (ht.below cb (Nat.le_refl _)).below hW (Nat.le_refl _))
  have HL := hid_ (fun W (hW : Below w1.heap.size w1 W) => (hL.below cb (Nat.le_refl _)).below hW (Nat.le_refl _))
  have hl1 := h1.len
  have htl := ht.len
  have hle := ht.le
  have hsm := ht.small
  have hn' : n' = n + 1 := by rw [← hL.len, hP.len, htl]
  have HEn := hid_ (endB_take L t)
  have Hge := hid_ (fun j (hj : j < n1) => g.word j (by omega))
  have HGr := hid_ (fun W (hW : Below w1.heap.size w1 W) fr j (hf : fr < n + 1) (hj : j < n1) => greatest_calls _ L t a' n' c' P fr j W (HP1.out.below hW (Nat.le_refl _)) ((hL.below cb (Nat.le_refl _)).below hW (Nat.le_refl _)) g hP (by omega) (by omega))
  have HNo := hid_ (fun i j (hi : i < n') (hj : j < n1) => @holdsB_no L t P i j (by rw [hL.len]; exact hi) (by omega))
  have HYes := hid_ (@holdsB_yes L t P n' n1 hL.len hl1)
  have Hrow := hid_ (fun i (hi : i < n') => (hP.row i (by omega)).1.trans hl1)
  have hn1 : n1 ≤ 1000 := by have := g.le; omega
  have Hn' := hid_ hn'
  clear cb h1 h2 HP HP1 ht hL g hl1 htl hP hn'
  generalize holdsB L t P = R at *
  go_enter Try.func42, Try.ntmps42
  go_wp2
  go_loopw [13] (fun iv wr => ∃ i : Nat, i ≤ n' ∧ iv = .int .i64 i ∧ (∀ i', i' < i → ∀ j, j < n1 → okE L t P i' j = true) ∧ Below w1.heap.size w1 wr) (fun iv _ => n' - (intOf iv).toNat)
  case atStart => exact ⟨0, Nat.zero_le _, rfl, fun _ h => absurd h (by omega), Below.refl _ _⟩
  case round =>
    obtain ⟨i, hi, rfl, hall, hb⟩ := hrel
    have Hall := hid_ hall
    clear hall
    by_cases hlt : i < n'
    · obtain ⟨bp, op, ar, nr, cr, ea, -, hcP, hrow⟩ := (HL.out wr hb).cells i hlt
      obtain rfl : nr = n1 := by rw [← Hrow.out i hlt, hrow.len]
      have q0r := cell_below q0 hb
      have Hrw := hid_ hrow
      have Hbo := hid_ hb
      subst ea
      clear hrow hb
      go_wp2
      go_loopw [21] (fun jv wr' => ∃ j : Nat, j ≤ nr ∧ jv = .int .i64 j ∧ (∀ j', j' < j → okE L t P i j' = true) ∧ Below wr.heap.size wr wr') (fun jv _ => nr - (intOf jv).toNat)
      case atStart => exact ⟨0, Nat.zero_le _, rfl, fun _ h => absurd h (by omega), Below.refl _ _⟩
      case round =>
        obtain ⟨j, hj, rfl, hall2, hbi⟩ := hrel
        have hrj := Hrw.out.below hbi (Nat.le_refl _)
        have hbw := Hbo.out.trans (hbi.mono Hbo.out.size)
        by_cases hltj : j < nr
        · obtain ⟨bi, off, a3, n3, c3, e3, -, k0, k1, k2, hiw⟩ := (H1.out _ hbw).cells j hltj
          obtain ⟨br, offr, er, -, hck⟩ := hrj.cells j hltj
          have hwl : (wd L j).length = n3 := hiw.len
          have hge1 : 1 ≤ (wd L j).length := (Hge.out j hltj).1
          have hge2 : (wd L j).length ≤ 6 := (Hge.out j hltj).2.1
          have hen := HEn.out i j
          have hin : i ≤ n := by have := Hn'.out; omega
          rw [hwl] at hge1 hge2 hen
          subst e3; subst er
          have q0i := cell_below q0 hbw; have q1i := cell_below q1 hbw
          obtain ⟨wb, hwb⟩ : ∃ wb, wr.alloc (.cells #[.slice a3 n3 c3, .int .i64 (L.items.getD j I0).kind, .int .i64 (L.items.getD j I0).cost] 42) = wb := ⟨_, rfl⟩
          have hcb : Below wr.heap.size wr wb := by rw [← hwb]; exact below_alloc _ _
          have u0 : wb.cell? ⟨wr.heap.size, 0, none⟩ = some (.slice a3 n3 c3) := by rw [← hwb]; exact cells_alloc _ _ _ 0
          have hbb := hbw.trans (hcb.mono hbw.size)
          have hwg : ∀ d os, Below wb.heap.size wb (Go.Sort.grow (redrawn wb d) os) := fun d os => below_regrown wb d os
          have hti := (HT.out wb hbb).take hin
          have HE := hid_ (fun d os => (by have := isEnd_below a3 n3 c3 (wd L j) a i c (t.take i) (Go.Sort.grow (redrawn wb d) os) ((hiw.below hcb (Nat.le_refl _)).below (hwg d os) (Nat.le_refl _)) (hti.below (hwg d os) (Nat.le_refl _)) hge1 (by omega); rw [← hen] at this; exact this : Calls Try.prog 49 #[.slice a3 n3 c3, .slice a i c] (Go.Sort.grow (redrawn wb d) os) fun e w' => e = .returned (.bool (endB L t i j)) ∧ Below (Go.Sort.grow (redrawn wb d) os).heap.size (Go.Sort.grow (redrawn wb d) os) w'))
          have Hbi := hid_ (hbi.trans (hcb.mono hbi.size))
          have gA := cell_regrown (cell_below q0i hcb); have gB := cell_regrown (cell_below q1i hcb); have gU := cell_regrown u0; have gC := cell_regrown (cell_below hck hcb)
          have hsl := fun W => run_slice_high a n c i hin hle W
          have hok : okE L t P i j = !(endB L t i j && decide (greatV L P (i - n3) j < (P.getD i []).getD j 0)) := by unfold okE pv ln; rw [show (L.items.getD j I0).word.length = n3 from hwl]
          have hsn := fun hx => lt_snoc (p := fun j' => okE L t P i j' = true) hall2 hx
          have hno := HNo.out i j (by omega) hltj
          have Hgr := hid_ (fun d os fr (hf : fr < n + 1) => HGr.out (Go.Sort.grow (redrawn wb d) os) (hbb.trans ((hwg d os).mono hbb.size)) fr j hf hltj)
          clear hall2 hbi hrj hbw hiw hwl hcb hbb hwg hti hck
          generalize (L.items.getD j I0).kind = kx at *
          generalize (L.items.getD j I0).cost = cx at *
          cases hx : endB L t i j with
          | false =>
            rw [hx, Bool.false_and] at hok
            have Hn := hid_ (hsn hok)
            simp only [hx] at HE
            clear hx hok hsn hno hen Hgr
            go_wp2_with fail
            refine wp_region_quiet_below (by kernel_rfl) (by kernel_rfl) ?_
            repeat (first | go_big_quiet_skip | (go_big_quiet_want; go_big_quiet_op; first | go_big_quiet_on | go_big_quiet_call ((go_at_call 49; with_reducible exact Calls.regrown_of (HE.out _ _)))))
            refine wpQuiet_nil ?_
            rintro wq ⟨pq, hpq⟩
            have Hbq := hid_ (below_wq hpq)
            clear hpq gA gB gU gC
            go_wp2
            go_roundw
            case rel => exact ⟨j + 1, by omega, by go_num, Hn.out, Hbi.out.trans (Hbq.out.mono Hbi.out.size)⟩
            case measure => simp [intOf]; omega
          | true =>
            have hni : n3 ≤ i := by
              rw [hx] at hen
              exact of_decide_eq_true (Bool.and_eq_true_iff.1 hen.symm).1
            rw [hx, Bool.true_and] at hok
            simp only [hx] at HE
            obtain ⟨fr, hfr⟩ : ∃ fr, i = fr + n3 := ⟨i - n3, by omega⟩
            have hfr2 : i - n3 = fr := by omega
            rw [hfr2] at hok
            have hwf : IntKind.i64.wrap ((i : Int) - (n3 : Int)) = (fr : Int) := by rw [IntKind.wrap_i64]; omega
            have HG2 := hid_ (fun d os => Hgr.out d os fr (by omega))
            generalize greatV L P fr j = G at *
            obtain ⟨y, hy⟩ : ∃ y, (P.getD i []).getD j 0 = y := ⟨_, rfl⟩
            rw [hy] at hok gC
            have Hfr := hid_ hfr
            clear hx hen Hgr hni hfr hfr2 hy
            by_cases hlg : G < y
            · rw [decide_eq_true hlg] at hok
              have HR := hid_ (hno hok)
              have hgt : decide (y > G) = true := decide_eq_true hlg
              clear hok hsn hno
              go_wp2_with fail
              refine wp_region_quiet_below (by kernel_rfl) (by kernel_rfl) ?_
              repeat (first
                | go_big_quiet_skip
                | (go_big_quiet_want; go_big_quiet_op; first | go_big_quiet_on | go_big_quiet_call ((first
                  | (go_at_call 49; with_reducible exact Calls.regrown_of (HE.out _ _))
                  | (go_at_call 63; with_reducible exact Calls.regrown_of (HG2.out _ _)))))) 
              refine wpQuiet_nil ?_
              rintro wq ⟨pq, hpq⟩
              have Hbq := hid_ (below_wq hpq)
              clear hpq gA gB gU gC
              go_wp2
              go_ret
              exact ⟨retB HR.out, Hc1.out.trans ((Hbo.out.trans ((Hbi.out.trans (Hbq.out.mono Hbi.out.size)).mono Hbo.out.size)).mono Hc1.out.size)⟩
            · rw [decide_eq_false hlg] at hok
              have Hn := hid_ (hsn hok)
              have hgt : decide (y > G) = false := decide_eq_false hlg
              clear hok hsn hno
              go_wp2_with fail
              refine wp_region_quiet_below (by kernel_rfl) (by kernel_rfl) ?_
              repeat (first
                | go_big_quiet_skip
                | (go_big_quiet_want; go_big_quiet_op; first | go_big_quiet_on | go_big_quiet_call ((first
                  | (go_at_call 49; with_reducible exact Calls.regrown_of (HE.out _ _))
                  | (go_at_call 63; with_reducible exact Calls.regrown_of (HG2.out _ _)))))) 
              refine wpQuiet_nil ?_
              rintro wq ⟨pq, hpq⟩
              have Hbq := hid_ (below_wq hpq)
              clear hpq gA gB gU gC
              go_wp2
              go_roundw
              case rel => exact ⟨j + 1, by omega, by go_num, Hn.out, Hbi.out.trans (Hbq.out.mono Hbi.out.size)⟩
              case measure => simp [intOf]; omega
        · obtain rfl : nr = j := by omega
          have hib : i ≤ 1001 := by have := Hn'.out; omega
          have Hn := hid_ (lt_snoc (p := fun i' => ∀ j, j < nr → okE L t P i' j = true) Hall.out hall2)
          go_wp2
          go_roundw
          case rel => exact ⟨i + 1, by omega, by go_num, Hn.out, hbw⟩
          case measure => simp [intOf]; omega
    · obtain rfl : n' = i := by omega
      have HR := hid_ (HYes.out Hall.out)
      go_wp2
      go_ret
      exact ⟨retB HR.out, Hc1.out.trans (hb.mono Hc1.out.size)⟩
end Go.Proofs.Ytgpenbajhndhiaa
namespace Go.Proofs.Ytgpenbajhndhiaa
open Go.RowKit Go.Proofs.Kv Go

/-! ### CheckProof of the program -/
def rowsP (L : Lx) (t : List Int) (P : List (List Int)) : Bool := rowsB P ((t.length : Int) + 1) (L.items.length : Int) (-100000) 100000
def proofE (L : Lx) (t : List Int) (P : List (List Int)) : Int := if textE L t = 0 then (if rowsP L t P = true then (if holdsB L t P = true then 0 else 7) else 1) else textE L t
def wthP (L : Lx) (t : List Int) (P : List (List Int)) : Int × Bool := if t.length = 0 then (0, true) else wP L t (P.getD t.length []) L.items.length
def prfP (L : Lx) (t : List Int) (P : List (List Int)) : Int × Bool := if proofE L t P = 0 then wthP L t P else (0, false)
theorem rowsP_good {L : Lx} {t : List Int} {P : List (List Int)} (h : rowsP L t P = true) : GoodP L t P := by
  rw [rowsP, rowsB, Bool.and_eq_true, decide_eq_true_eq, List.all_eq_true] at h
  have hl : P.length = t.length + 1 := by have := h.2; omega
  refine ⟨hl, fun i hi => ?_⟩
  have := h.1 (P.getD i []) (by simp [List.getD, List.getElem?_eq_getElem (show i < P.length by omega)])
  rw [rowOk8, Bool.and_eq_true, decide_eq_true_eq] at this
  exact ⟨by omega, this.2⟩
set_option maxRecDepth 100000 in
set_option maxHeartbeats 4000000 in
theorem taCheckProof_calls (v : Value) (L : Lx) (a : Option Addr) (n c : Nat) (t : List Int) (a' : Option Addr) (n' c' : Nat) (P : List (List Int)) (w : World) (h : LexAt w v L) (ht : IntsAt w a n c t) (hL : ListsAt w a' n' c' P) :
    Calls Try.prog 20 #[v, .slice a n c, .slice a' n' c'] w fun e w' => e = .returned (.tuple #[.int .i64 (prfP L t P).1, .bool (prfP L t P).2, .int .i64 (proofE L t P)]) ∧ Below w.heap.size w w' := by
  have HP := hid_ h
  obtain ⟨a1, n1, c1, a2, n2, c2, rfl, h1, h2⟩ := h
  obtain ⟨w1, hw1⟩ : ∃ w1, w.alloc (.cells #[.slice a1 n1 c1, .slice a2 n2 c2] 25) = w1 := ⟨_, rfl⟩
  have cb : Below w.heap.size w w1 := by rw [← hw1]; exact below_alloc _ _
  have q0 : w1.cell? ⟨w.heap.size, 0, none⟩ = some (.slice a1 n1 c1) := by rw [← hw1]; exact cells_alloc _ _ _ 0
  have q1 : w1.cell? ⟨w.heap.size, 1, none⟩ = some (.slice a2 n2 c2) := by rw [← hw1]; exact cells_alloc _ _ _ 1
  have HP1 := hid_ (HP.out.below cb (Nat.le_refl _)); have Hc1 := hid_ cb
  have HV := hid_ (tavalidate_calls _ L a n c t w1 HP1.out (ht.below cb (Nat.le_refl _)))
  have HQ := hid_ (fun W (hW : Below w1.heap.size w1 W) => (⟨cell_below q0 hW, cell_below q1 hW⟩ : _ ∧ _))
  have hl1 := h1.len
  have htl := ht.len
  have HA := hid_ (fun W (hW : Below w1.heap.size w1 W) => areRows_calls a' n' c' P ((n : Int) + 1) (n1 : Int) (-100000) 100000 W ((hL.below cb (Nat.le_refl _)).below hW (Nat.le_refl _)))
  have HH := hid_ (fun W (hW : Below w1.heap.size w1 W) (g : GoodL L) (hP : GoodP L t P) (hn : n ≤ 1000) => holds_calls _ L a n c t a' n' c' P W (HP1.out.below hW (Nat.le_refl _)) ((ht.below cb (Nat.le_refl _)).below hW (Nat.le_refl _)) ((hL.below cb (Nat.le_refl _)).below hW (Nat.le_refl _)) g hP hn)
  have HW := hid_ (fun W (hW : Below w1.heap.size w1 W) (g : GoodL L) (hn : n ≤ 1000) a3 n3 c3 r (hr : IntsAt W a3 n3 c3 r) (hrl : n3 = L.items.length) => worth_calls _ L a n c t a3 n3 c3 r W (HP1.out.below hW (Nat.le_refl _)) ((ht.below cb (Nat.le_refl _)).below hW (Nat.le_refl _)) hr g hn hrl)
  have HL := hid_ (fun W (hW : Below w1.heap.size w1 W) => (hL.below cb (Nat.le_refl _)).below hW (Nat.le_refl _))
  have hPl := hL.len
  have HE : Hid (proofE L t P = if textE L t = 0 then (if rowsP L t P = true then (if holdsB L t P = true then 0 else 7) else 1) else textE L t) := hid_ rfl
  have HR : Hid (prfP L t P = if proofE L t P = 0 then wthP L t P else (0, false)) := hid_ rfl
  have HWt : Hid (wthP L t P = if n = 0 then (0, true) else wP L t (P.getD n []) L.items.length) := hid_ (by rw [wthP, htl])
  have HRo : Hid (rowsP L t P = rowsB P ((n : Int) + 1) (n1 : Int) (-100000) 100000) := hid_ (by rw [rowsP, htl, hl1])
  have HGp := hid_ (@rowsP_good L t P)
  generalize proofE L t P = E at *
  generalize prfP L t P = R at *
  generalize wthP L t P = WT at *
  rw [← HRo.out] at HA
  have hsm := ht.small
  have hle := ht.le
  have hn'1 : n' ≤ 9223372036854775807 := Nat.le_trans hL.le hL.small
  clear h1 h2 HP HP1 cb ht hL HRo
  by_cases he : textE L t = 0
  · obtain ⟨g, h12, -⟩ := textE_ok he
    rw [if_pos he] at HE
    rw [he] at HV
    rw [htl] at h12
    have hn8 : n1 ≤ 8 := by have := g.le; omega
    clear he
    cases hro : rowsP L t P with
    | false =>
      rw [hro] at HA HE
      have HE' := hid_ (HE.out.trans (if_neg (by decide)))
      have HR' := hid_ (HR.out.trans (if_neg (by rw [HE'.out]; decide)))
      clear hro g
      go_enter Try.func20, Try.ntmps20
      go_wp2_with (first
        | (go_at_call 26; (with_reducible refine HV.out.mono ?_); rintro e w2 ⟨rfl, hb2⟩; obtain ⟨q2, r2⟩ := HQ.out w2 hb2)
        | (go_at_call 41; (with_reducible refine (HA.out _ hb2).mono ?_); rintro e w3 ⟨rfl, hb3'⟩; have hb3 := below_then8 hb2 hb3'))
      go_ret3
      exact ⟨by rw [HR'.out, HE'.out]; rfl, Hc1.out.trans (hb3.mono Hc1.out.size)⟩
    | true =>
      rw [hro] at HA HE
      rw [if_pos rfl] at HE
      have hP := HGp.out hro
      have HH' := hid_ (fun W hW => HH.out W hW g hP (by omega))
      cases hho : holdsB L t P with
      | false =>
        rw [hho] at HH' HE
        have HE' := hid_ (HE.out.trans (if_neg (by decide)))
        have HR' := hid_ (HR.out.trans (if_neg (by rw [HE'.out]; decide)))
        clear hro hho g hP
        go_enter Try.func20, Try.ntmps20
        go_wp2_with (first
          | (go_at_call 26; (with_reducible refine HV.out.mono ?_); rintro e w2 ⟨rfl, hb2⟩; obtain ⟨q2, r2⟩ := HQ.out w2 hb2)
          | (go_at_call 41; (with_reducible refine (HA.out _ hb2).mono ?_); rintro e w3 ⟨rfl, hb3'⟩; have hb3 := below_then8 hb2 hb3'; obtain ⟨q3, r3⟩ := HQ.out w3 hb3)
          | (go_at_call 42; (with_reducible refine (HH'.out _ hb3).mono ?_); rintro e w4 ⟨rfl, hb4'⟩; have hb4 := below_then8 hb3 hb4'))
        go_ret3
        exact ⟨by rw [HR'.out, HE'.out]; rfl, Hc1.out.trans (hb4.mono Hc1.out.size)⟩
      | true =>
        rw [hho] at HH' HE
        have HE' := hid_ (HE.out.trans (if_pos rfl))
        have HR' := hid_ (HR.out.trans (if_pos HE'.out))
        by_cases h0 : n = 0
        · have HW' := hid_ (HWt.out.trans (if_pos h0))
          have hq : ((n : Int) == 0) = true := by simp [h0]
          clear hro hho g hP HWt HW h0
          go_enter Try.func20, Try.ntmps20
          go_wp2_with (first
            | (go_at_call 26; (with_reducible refine HV.out.mono ?_); rintro e w2 ⟨rfl, hb2⟩; obtain ⟨q2, r2⟩ := HQ.out w2 hb2)
            | (go_at_call 41; (with_reducible refine (HA.out _ hb2).mono ?_); rintro e w3 ⟨rfl, hb3'⟩; have hb3 := below_then8 hb2 hb3'; obtain ⟨q3, r3⟩ := HQ.out w3 hb3)
            | (go_at_call 42; (with_reducible refine (HH'.out _ hb3).mono ?_); rintro e w4 ⟨rfl, hb4'⟩; have hb4 := below_then8 hb3 hb4'))
          go_ret3
          exact ⟨by rw [HR'.out, HW'.out, HE'.out]; rfl, Hc1.out.trans (hb4.mono Hc1.out.size)⟩
        · have HW' := hid_ (HWt.out.trans (if_neg h0))
          have hq : ((n : Int) == 0) = false := by simpa using (fun e : (n : Int) = 0 => h0 (by omega))
          have hlt : n < n' := by rw [← hPl, hP.len, htl]; omega
          have hrl := (hP.row n (by omega)).1
          have HWo := hid_ (fun W hW a3 n3 c3 hr => HW.out W hW g (by omega) a3 n3 c3 (P.getD n []) hr)
          clear hro hho g hP HWt HW h0 hPl
          generalize wP L t (P.getD n []) L.items.length = wv at *
          go_enter Try.func20, Try.ntmps20
          go_wp2_with (first
            | (go_at_call 26; (with_reducible refine HV.out.mono ?_); rintro e w2 ⟨rfl, hb2⟩; obtain ⟨q2, r2⟩ := HQ.out w2 hb2)
            | (go_at_call 41; (with_reducible refine (HA.out _ hb2).mono ?_); rintro e w3 ⟨rfl, hb3'⟩; have hb3 := below_then8 hb2 hb3'; obtain ⟨q3, r3⟩ := HQ.out w3 hb3)
            | (go_at_call 42; (with_reducible refine (HH'.out _ hb3).mono ?_); rintro e w4 ⟨rfl, hb4'⟩; have hb4 := below_then8 hb3 hb4'; obtain ⟨q4, r4⟩ := HQ.out w4 hb4; obtain ⟨bp, op, ar, nr, cr, rfl, -, hcP, hrow⟩ := (HL.out w4 hb4).cells n hlt; have Hnr : Hid (nr = L.items.length) := hid_ (by rw [← hrl, hrow.len]); have Hworth := hid_ (fun d os => HWo.out (Go.Sort.grow (redrawn w4 d) os) (hb4.trans ((below_regrown w4 d os).mono hb4.size)) ar nr cr (hrow.below (below_regrown w4 d os) (Nat.le_refl _)) Hnr.out); have gA := cell_regrown q4; have gB := cell_regrown r4; have gC := cell_regrown hcP))
          go_wp2_with fail
          refine wp_region_quiet_below (by kernel_rfl) (by kernel_rfl) ?_
          repeat (first | go_big_quiet_skip | (go_big_quiet_want; go_big_quiet_op; first | go_big_quiet_on | go_big_quiet_call ((go_at_call 43; with_reducible exact Calls.regrown_of (Hworth.out _ _)))))
          refine wpQuiet_nil ?_
          rintro wq ⟨pq, hpq⟩
          have Hbq := hid_ (below_wq hpq)
          clear hpq gA gB gC
          go_wp2
          go_ret3
          exact ⟨by rw [HR'.out, HW'.out, HE'.out]; rfl, Hc1.out.trans ((hb4.trans (Hbq.out.mono hb4.size)).mono Hc1.out.size)⟩
  · have hq : (textE L t != 0) = true := by simpa using he
    rw [if_neg he] at HE
    have HR' := hid_ (HR.out.trans (if_neg (by rw [HE.out]; exact he)))
    generalize textE L t = x at *
    clear he
    go_enter Try.func20, Try.ntmps20
    go_wp2_with (go_at_call 26; (with_reducible refine HV.out.mono ?_); rintro e w2 ⟨rfl, hb2⟩)
    go_ret3
    exact ⟨by rw [HR'.out, HE.out]; rfl, Hc1.out.trans (hb2.mono Hc1.out.size)⟩
end Go.Proofs.Ytgpenbajhndhiaa
namespace Go.Proofs.Ytgpenbajhndhiaa
open Go.RowKit Go.Proofs.Kv Go

/-! ### CheckProof of the document -/
theorem begT_endB (L : Lx) (t : List Int) {i j : Nat} (h : ln L j ≤ i) (hi : i ≤ t.length) : begT (wd L j) (t.drop (i - ln L j)) = endB L t i j := by
  unfold begT endB
  have e : (wd L j).length = ln L j := rfl
  rw [e, List.length_drop, List.drop_take, decide_eq_true h, decide_eq_true (show ln L j ≤ t.length - (i - ln L j) by omega), show i - (i - ln L j) = ln L j by omega]
  rfl
set_option maxRecDepth 100000 in
set_option maxHeartbeats 4000000 in
theorem comes_end (v : Value) (L : Lx) (a : Option Addr) (n c : Nat) (t : List Int) (i j : Nat) (z : Int) (w : World) (h : LexAt w v L) (ht : IntsAt w a n c t) (g : GoodL L) (hj : j < L.items.length) (hi : i ≤ n) (hn : n ≤ 1000) (hz : (i : Int) - (ln L j : Int) = z) :
    Calls Try.prog 53 #[v, .slice a n c, .int .i64 z, .int .i64 (j : Int)] w fun e w' => e = .returned (.bool (endB L t i j)) ∧ Below w.heap.size w w' := by
  by_cases hl : ln L j ≤ i
  · have hz2 : z = ((i - ln L j : Nat) : Int) := by omega
    have := comes_calls v L a n c t (i - ln L j) j w h ht g hj (by omega) hn
    rw [begT_endB L t hl (by rw [ht.len]; exact hi), ← hz2] at this
    exact this
  · have he : endB L t i j = false := by unfold endB; rw [decide_eq_false hl, Bool.false_and]
    rw [he]
    have HP := hid_ h
    obtain ⟨a1, n1, c1, a2, n2, c2, rfl, h1, h2⟩ := h
    obtain ⟨w1, hw1⟩ : ∃ w1, w.alloc (.cells #[.slice a1 n1 c1, .slice a2 n2 c2] 25) = w1 := ⟨_, rfl⟩
    have cb : Below w.heap.size w w1 := by rw [← hw1]; exact below_alloc _ _
    have q0 : w1.cell? ⟨w.heap.size, 0, none⟩ = some (.slice a1 n1 c1) := by rw [← hw1]; exact cells_alloc _ _ _ 0
    have q1 : w1.cell? ⟨w.heap.size, 1, none⟩ = some (.slice a2 n2 c2) := by rw [← hw1]; exact cells_alloc _ _ _ 1
    have HP1 := hid_ (HP.out.below cb (Nat.le_refl _)); have Hc1 := hid_ cb
    have hl1 := h1.len
    obtain ⟨b, off, a3, m, c3, rfl, -, k0, k1, k2, hw⟩ := (h1.below cb (Nat.le_refl _)).cells j (by omega)
    have hge : decide (z ≥ 0) = false := decide_eq_false (by omega)
    have hj1 : j < n1 := by omega
    clear h1 h2 HP HP1 cb ht hl1 hw g hz hl hi hj he
    go_enter Try.func53, Try.ntmps53
    go_wp2
    go_ret
    exact ⟨rfl, Hc1.out⟩
theorem gP_ge {L : Lx} {P : List (List Int)} {fr j : Nat} {x : Int} (hx : x ≤ 100000) : ∀ k, (∀ k', k' < k → 0 ≤ follV L k' j → ¬ pv P fr k' + follV L k' j + (L.items.getD j I0).cost < x) → ¬ gP L P fr j k < x
  | 0, _ => by simp only [gP]; omega
  | k + 1, h => by
    have ih := gP_ge hx k (fun k' hk' => h k' (by omega))
    have := h k (by omega)
    rw [gP]
    split
    · rename_i hf
      have := this hf
      omega
    · exact ih
theorem gP_lt {L : Lx} {P : List (List Int)} {fr j k' : Nat} {x : Int} (hf : 0 ≤ follV L k' j) (h : pv P fr k' + follV L k' j + (L.items.getD j I0).cost < x) : ∀ k, k' < k → gP L P fr j k < x
  | 0, hk => absurd hk (by omega)
  | k + 1, hk => by
    by_cases e : k' = k
    · subst e
      rw [gP, if_pos hf]; omega
    · have ih := gP_lt hf h k (by omega)
      rw [gP]
      split
      · omega
      · exact ih
theorem okE_off {L : Lx} {t : List Int} {P : List (List Int)} {i j : Nat} (h : endB L t i j = false) : okE L t P i j = true := by unfold okE; rw [h]; rfl
theorem okE_z {L : Lx} {t : List Int} {P : List (List Int)} {i j : Nat} (h : endB L t i j = true) (h0 : i - ln L j = 0) : okE L t P i j = !decide ((L.items.getD j I0).cost < pv P i j) := by
  unfold okE greatV; rw [h, h0, if_pos rfl]; rfl
theorem okE_yes {L : Lx} {t : List Int} {P : List (List Int)} {i j fr : Nat} (h : endB L t i j = true) (h0 : i - ln L j = fr) (hfr : fr ≠ 0) (hx : pv P i j ≤ 100000)
    (hk : ∀ k', k' < L.items.length → 0 ≤ follV L k' j → ¬ pv P fr k' + follV L k' j + (L.items.getD j I0).cost < pv P i j) : okE L t P i j = true := by
  unfold okE greatV; rw [h, h0, if_neg hfr, decide_eq_false (gP_ge hx _ hk)]; rfl
theorem okE_no {L : Lx} {t : List Int} {P : List (List Int)} {i j fr k' : Nat} (h : endB L t i j = true) (h0 : i - ln L j = fr) (hfr : fr ≠ 0) (hk : k' < L.items.length) (hf : 0 ≤ follV L k' j)
    (hl : pv P fr k' + follV L k' j + (L.items.getD j I0).cost < pv P i j) : okE L t P i j = false := by
  unfold okE greatV; rw [h, h0, if_neg hfr, decide_eq_true (gP_lt hf hl _ hk)]; rfl
theorem rowOk_no {m : Nat} {r : List Int} {n : Nat} (h : r.length = n) (hn : n ≠ m) : rowOk8 (m : Int) (-100000) 100000 r = false := by
  unfold rowOk8; rw [h, decide_eq_false (by omega), Bool.false_and]
theorem rowOk_bad {m : Nat} {r : List Int} {n k : Nat} (h : r.length = n) (hk : k < n) (hw : Within (r.getD k 0) (-100000) 100000 = false) : rowOk8 (m : Int) (-100000) 100000 r = false := by
  unfold rowOk8; rw [areB_no (by omega) hw, Bool.and_false]
theorem rowOk_yes {m : Nat} {r : List Int} (h : r.length = m) (hw : ∀ k, k < m → Within (r.getD k 0) (-100000) 100000 = true) : rowOk8 (m : Int) (-100000) 100000 r = true := by
  unfold rowOk8; rw [h, decide_eq_true rfl, areB_yes h hw]; rfl
theorem proofE_1 {L : Lx} {t : List Int} {P : List (List Int)} (h : textE L t = 0) (hr : rowsP L t P = false) : proofE L t P = 1 ∧ prfP L t P = (0, false) := by
  have : proofE L t P = 1 := by unfold proofE; rw [if_pos h, hr, if_neg (by decide)]
  exact ⟨this, by unfold prfP; rw [this]; rfl⟩
theorem proofE_7 {L : Lx} {t : List Int} {P : List (List Int)} (h : textE L t = 0) (hr : rowsP L t P = true) (hh : holdsB L t P = false) : proofE L t P = 7 ∧ prfP L t P = (0, false) := by
  have : proofE L t P = 7 := by unfold proofE; rw [if_pos h, hr, if_pos rfl, hh, if_neg (by decide)]
  exact ⟨this, by unfold prfP; rw [this]; rfl⟩
theorem proofE_0 {L : Lx} {t : List Int} {P : List (List Int)} (h : textE L t = 0) (hr : rowsP L t P = true) (hh : holdsB L t P = true) : proofE L t P = 0 ∧ prfP L t P = wthP L t P := by
  have : proofE L t P = 0 := by unfold proofE; rw [if_pos h, hr, if_pos rfl, hh, if_pos rfl]
  exact ⟨this, by unfold prfP; rw [this, if_pos rfl]⟩
end Go.Proofs.Ytgpenbajhndhiaa
