import Derived.Test.YtliheejcfkhghaaVA
namespace Go.Proofs.Ytliheejcfkhghaa
open Go.RowKit Go.Proofs.Kv Go

/-! ### proofs -/
def pv (P : List (List Int)) (i j : Nat) : Int := (P.getD i []).getD j 0
def gP (L : Lx) (P : List (List Int)) (fr j : Nat) : Nat → Int
  | 0 => 100000
  | k + 1 => if 0 ≤ follV L k j then min (gP L P fr j k) (pv P fr k + follV L k j + (L.items.getD j I0).cost) else gP L P fr j k
def greatV (L : Lx) (P : List (List Int)) (fr j : Nat) : Int := if fr = 0 then (L.items.getD j I0).cost else gP L P fr j L.items.length
def okE (L : Lx) (t : List Int) (P : List (List Int)) (i j : Nat) : Bool := !(endB L t i j && decide (greatV L P (i - ln L j) j < pv P i j))
def holdsB (L : Lx) (t : List Int) (P : List (List Int)) : Bool := (List.range P.length).all fun i => (List.range L.items.length).all fun j => okE L t P i j
theorem holdsB_no {L : Lx} {t : List Int} {P : List (List Int)} {i j : Nat} (hi : i < P.length) (hj : j < L.items.length) (h : okE L t P i j = false) : holdsB L t P = false := by
  rw [holdsB, List.all_eq_false]
  refine ⟨i, List.mem_range.2 hi, ?_⟩
  rw [Bool.not_eq_true, List.all_eq_false]
  exact ⟨j, List.mem_range.2 hj, by rw [h]; decide⟩
theorem holdsB_yes {L : Lx} {t : List Int} {P : List (List Int)} {n n1 : Nat} (hn : P.length = n) (hn1 : L.items.length = n1) (h : ∀ i, i < n → ∀ j, j < n1 → okE L t P i j = true) : holdsB L t P = true := by
  rw [holdsB, List.all_eq_true]; intro i hi
  rw [List.all_eq_true]; intro j hj
  exact h i (by have := List.mem_range.1 hi; omega) j (by have := List.mem_range.1 hj; omega)
theorem holdsB_at {L : Lx} {t : List Int} {P : List (List Int)} (h : holdsB L t P = true) {i j : Nat} (hi : i < P.length) (hj : j < L.items.length) : okE L t P i j = true := by
  rw [holdsB, List.all_eq_true] at h
  have := h i (List.mem_range.2 hi)
  rw [List.all_eq_true] at this
  exact this j (List.mem_range.2 hj)
/-- a proof of the right form -/
structure GoodP (L : Lx) (t : List Int) (P : List (List Int)) : Prop where
  len : P.length = t.length + 1
  row : ∀ i, i < t.length + 1 → (P.getD i []).length = L.items.length ∧ areB (P.getD i []) (-100000) 100000 = true
theorem GoodP.at_ {L : Lx} {t : List Int} {P : List (List Int)} (h : GoodP L t P) {i j : Nat} (hi : i < t.length + 1) (hj : j < L.items.length) : -100000 ≤ pv P i j ∧ pv P i j ≤ 100000 := by
  obtain ⟨h1, h2⟩ := h.row i hi
  exact areB_at h2 (by omega)
theorem gP_in {L : Lx} (g : GoodL L) {t : List Int} {P : List (List Int)} (hP : GoodP L t P) {fr j : Nat} (hf : fr < t.length + 1) (hj : j < L.items.length) : ∀ k, k ≤ L.items.length → -100000 ≤ gP L P fr j k ∧ gP L P fr j k ≤ 100000
  | 0, _ => by simp [gP]
  | k + 1, hk => by
    have ih := gP_in g hP hf hj k (by omega)
    have h1 := hP.at_ hf (show k < L.items.length by omega)
    have h2 := g.cost j hj
    rw [gP]
    split
    · omega
    · exact ih
theorem gP_yes {L : Lx} {P : List (List Int)} {fr j k : Nat} (h : 0 ≤ follV L k j) : gP L P fr j (k + 1) = min (gP L P fr j k) (pv P fr k + follV L k j + (L.items.getD j I0).cost) := by rw [gP, if_pos h]
theorem gP_no {L : Lx} {P : List (List Int)} {fr j k : Nat} (h : ¬ 0 ≤ follV L k j) : gP L P fr j (k + 1) = gP L P fr j k := by rw [gP, if_neg h]
theorem run_slice_high (a : Option Addr) (n c hi : Nat) (h2 : hi ≤ n) (h3 : n ≤ c) (W : World) :
    (Instr.slice 26 (.slice a n c) none (some (.int .i64 (hi : Int))) none).run Try.prog W = .ok (.slice a hi c) W := by
  have hu := Try.underlying26
  have h4 : hi ≤ c := by omega
  simp [Instr.slice, run_underlying hu, go_sem, Instr.sliceBounds, Instr.sliceBound, h4]
  try (intros; cases a <;> simp_all [Addr.add])
set_option maxRecDepth 100000 in
set_option maxHeartbeats 4000000 in
theorem greatest_calls (v : Value) (L : Lx) (t : List Int) (a : Option Addr) (n c : Nat) (P : List (List Int)) (fr j : Nat) (w : World) (h : LexAt w v L) (hL : ListsAt w a n c P) (g : GoodL L) (hP : GoodP L t P) (hf : fr < t.length + 1) (hj : j < L.items.length) :
    Calls Try.prog 100 #[v, .slice a n c, .int .i64 (fr : Int), .int .i64 (j : Int)] w fun e w' => e = .returned (.int .i64 (greatV L P fr j)) ∧ Below w.heap.size w w' := by
  have HP := hid_ h
  obtain ⟨a1, n1, c1, a2, n2, c2, rfl, h1, h2⟩ := h
  obtain ⟨w1, hw1⟩ : ∃ w1, w.alloc (.cells #[.slice a1 n1 c1, .slice a2 n2 c2] 25) = w1 := ⟨_, rfl⟩
  have cb : Below w.heap.size w w1 := by rw [← hw1]; exact below_alloc _ _
  have q0 : w1.cell? ⟨w.heap.size, 0, none⟩ = some (.slice a1 n1 c1) := by rw [← hw1]; exact cells_alloc _ _ _ 0
  have q1 : w1.cell? ⟨w.heap.size, 1, none⟩ = some (.slice a2 n2 c2) := by rw [← hw1]; exact cells_alloc _ _ _ 1
  have HP1 := hid_ (HP.out.below cb (Nat.le_refl _)); have Hc1 := hid_ cb
  have hl1 := h1.len
  have HV : Hid (greatV L P fr j = if fr = 0 then (L.items.getD j I0).cost else gP L P fr j L.items.length) := hid_ rfl
  have hnf : fr < n := by rw [← hL.len, hP.len]; exact hf
  obtain ⟨bp, op, ar, nr, cr, rfl, -, hcP, hrow⟩ := (hL.below cb (Nat.le_refl _)).cells fr hnf
  have hrl : nr = n1 := by rw [← hl1, ← (hP.row fr hf).1, hrow.len]
  subst hrl
  have HF := hid_ (fun W (hW : Below w1.heap.size w1 W) k (hk : k < L.items.length) => tafollow_calls _ L k j W (HP1.out.below hW (Nat.le_refl _)) g hk hj)
  have HI := hid_ (fun W (hW : Below w1.heap.size w1 W) => (h1.below cb (Nat.le_refl _)).below hW (Nat.le_refl _))
  have HR := hid_ (fun W (hW : Below w1.heap.size w1 W) => hrow.below hW (Nat.le_refl _))
  have hcj := g.cost j hj
  have HFi := hid_ (fun k (hk : k < L.items.length) => @follV_in L g k j hk hj)
  have HG := hid_ (fun k (hk : k ≤ L.items.length) => gP_in g hP hf hj k hk)
  have HA := hid_ (fun k (hk : k < L.items.length) => hP.at_ hf hk)
  have hn1 : nr ≤ 1000 := by have := g.le; omega
  have hnn : n ≤ 9223372036854775807 := Nat.le_trans hL.le hL.small
  rw [hl1] at HF HFi HG HA HV hj
  generalize greatV L P fr j = V at *
  clear h1 h2 HP HP1 cb hL g hP hf hl1 hrow
  obtain ⟨bj, offj, aj, nj, cj, rfl, -, j0, j1, j2, -⟩ := (HI.out w1 (Below.refl _ _)).cells j hj
  by_cases h0 : fr = 0
  · subst h0
    have HV' := hid_ (HV.out.trans (if_pos rfl))
    generalize (L.items.getD j I0).cost = cost at *
    clear HV
    go_enter Try.func100, Try.ntmps100
    go_wp2
    go_ret
    exact ⟨by rw [HV'.out]; rfl, Hc1.out⟩
  · have HV' := hid_ (HV.out.trans (if_neg h0))
    have hq : ((fr : Int) == 0) = false := by simpa using (fun e : (fr : Int) = 0 => h0 (by omega))
    clear HV h0
    go_enter Try.func100, Try.ntmps100
    go_wp2
    go_loopw [9, 26] (fun m i wr => ∃ k : Nat, k ≤ nr ∧ m = .int .i64 (gP L P fr j k) ∧ i = .int .i64 k ∧ Below w1.heap.size w1 wr) (fun _ i _ => nr - (intOf i).toNat)
    case atStart => exact ⟨0, Nat.zero_le _, rfl, rfl, Below.refl _ _⟩
    case round =>
      obtain ⟨k, hk, rfl, rfl, hb⟩ := hrel
      by_cases hlt : k < nr
      · obtain ⟨br, offr, er, -, hck⟩ := (HR.out wr hb).cells k hlt
        have hck' : wr.cell? ⟨br, offr + k, none⟩ = some (.int .i64 (pv P fr k)) := hck
        subst er
        have q0r := cell_below q0 hb; have q1r := cell_below q1 hb
        have hFo := HF.out wr hb k hlt
        have hfi := HFi.out k hlt
        obtain ⟨g0, g1⟩ := HG.out k hk
        obtain ⟨p0, p1⟩ := HA.out k hlt
        have hy := @gP_yes L P fr j k
        have hno := @gP_no L P fr j k
        obtain ⟨m, hm⟩ : ∃ m, gP L P fr j k = m := ⟨_, rfl⟩
        rw [hm] at g0 g1 hy hno ⊢
        clear hm hck
        generalize (L.items.getD j I0).cost = cost at *
        generalize pv P fr k = p at *
        generalize follV L k j = f at *
        have HFo := hid_ hFo; have Hb := hid_ hb
        clear hFo hb
        by_cases hf : 0 ≤ f
        · have hfd : decide (f ≥ 0) = true := decide_eq_true hf
          have Hn := hid_ (hy hf)
          have hw1 : IntKind.i64.wrap (p + f) = p + f := IntWalk.i64_in _ (by omega)
          have hw2 : IntKind.i64.wrap (p + f + cost) = p + f + cost := IntWalk.i64_in _ (by omega)
          clear hy hno
          go_wp2_with (go_at_call 90; (with_reducible refine HFo.out.mono ?_); rintro e w4 ⟨rfl, hb4'⟩; have hb4 := below_then8 Hb.out hb4'; have q0c := cell_below q0 hb4; have q1c := cell_below q1 hb4; have j2c := cell_below j2 hb4)
          go_roundw
          case rel => exact ⟨k + 1, by omega, by rw [Hn.out]; first | rfl | (congr 1; simp only [IntKind.wrap_i64] at hw2; first | (rw [hw2]; rw [Int.min_def]; split <;> split <;> omega) | (rw [Int.min_def]; split <;> split <;> omega)), by go_num, hb4⟩
          case measure => simp [intOf]; omega
        · have hfd : decide (f ≥ 0) = false := decide_eq_false hf
          have Hn := hid_ (hno hf)
          clear hy hno
          go_wp2_with (go_at_call 90; (with_reducible refine HFo.out.mono ?_); rintro e w4 ⟨rfl, hb4'⟩; have hb4 := below_then8 Hb.out hb4')
          go_roundw
          case rel => exact ⟨k + 1, by omega, by rw [Hn.out], by go_num, hb4⟩
          case measure => simp [intOf]; omega
      · obtain rfl : nr = k := by omega
        go_wp2
        go_ret
        exact ⟨by rw [HV'.out]; rfl, Hc1.out.trans (hb.mono Hc1.out.size)⟩
end Go.Proofs.Ytliheejcfkhghaa
