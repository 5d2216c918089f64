import Derived.Test.YtgpenbajhndhiaaVe
namespace Go.Proofs.Ytgpenbajhndhiaa
open Go.RowKit Go.Proofs.Kv Go

/-! ### what items cost one after another -/
def costI (L : Lx) (j : Int) : Int := (L.items.getD j.toNat I0).cost
def fvI (L : Lx) (k j : Int) : Int := follV L k.toNat j.toNat
def okC (L : Lx) (l : List Int) (i : Nat) : Bool := decide (i = 0) || decide (0 ≤ fvI L (l.getD (i - 1) 0) (l.getD i 0))
def stepC (L : Lx) (l : List Int) (i : Nat) : Int := costI L (l.getD i 0) + if i = 0 then 0 else fvI L (l.getD (i - 1) 0) (l.getD i 0)
def okF (L : Lx) (l : List Int) : Bool := (List.range l.length).all (okC L l)
def sumK (L : Lx) (l : List Int) : Nat → Int
  | 0 => 0
  | k + 1 => sumK L l k + stepC L l k
def sumC (L : Lx) (l : List Int) : Int := sumK L l l.length
def costV (L : Lx) (l : List Int) : Int := if okF L l = true then sumC L l else 0
theorem okF_no {L : Lx} {l : List Int} {k : Nat} (hk : k < l.length) (h : okC L l k = false) : okF L l = false := by
  rw [okF, List.all_eq_false]; exact ⟨k, List.mem_range.2 hk, by rw [h]; decide⟩
theorem okF_yes {L : Lx} {l : List Int} {n : Nat} (hn : l.length = n) (h : ∀ k, k < n → okC L l k = true) : okF L l = true := by
  rw [okF, List.all_eq_true]; intro k hk; exact h k (by have := List.mem_range.1 hk; omega)
theorem sumK_in {L : Lx} (g : GoodL L) {l : List Int} (hi : itemsB L l = true) : ∀ k, k ≤ l.length → (∀ j, j < k → okC L l j = true) → 0 ≤ sumK L l k ∧ sumK L l k ≤ 198 * k
  | 0, _, _ => by simp [sumK]
  | k + 1, hk, h => by
    obtain ⟨h1, h2⟩ := sumK_in g hi k (by omega) (fun j hj => h j (by omega))
    obtain ⟨x, ex, hx⟩ := itemsB_at hi (k := k) (by omega)
    have hc := g.cost x hx
    have ho := h k (by omega)
    have hs : sumK L l (k + 1) = sumK L l k + stepC L l k := rfl
    rw [hs, stepC, costI, ex, Int.toNat_natCast]
    by_cases h0 : k = 0
    · rw [if_pos h0]; omega
    · obtain ⟨y, ey, hy⟩ := itemsB_at hi (k := k - 1) (by omega)
      rw [okC, decide_eq_false h0, Bool.false_or, decide_eq_true_eq, fvI, ex, ey, Int.toNat_natCast, Int.toNat_natCast] at ho
      have := follV_in g hy hx
      rw [if_neg h0, fvI, ey, Int.toNat_natCast, Int.toNat_natCast]; omega
set_option maxRecDepth 100000 in
set_option maxHeartbeats 4000000 in
theorem tacost_calls (v : Value) (L : Lx) (a : Option Addr) (n c : Nat) (l : List Int) (w : World) (h : LexAt w v L) (ht : IntsAt w a n c l) (g : GoodL L) (hi : itemsB L l = true) (hs : n ≤ 1000) :
    Calls Try.prog 39 #[v, .slice a n c] w fun e w' => e = .returned (.tuple #[.int .i64 (costV L l), .bool (okF L l)]) ∧ Below w.heap.size w w' := by
  have HP := hid_ h
  obtain ⟨a1, n1, c1, a2, n2, c2, rfl, h1, h2⟩ := h
  obtain ⟨w1, hw1⟩ : ∃ w1, w.alloc (.cells #[.slice a1 n1 c1, .slice a2 n2 c2] 25) = w1 := ⟨_, rfl⟩
  have cb : Below w.heap.size w w1 := by rw [← hw1]; exact below_alloc _ _
  have q0 : w1.cell? ⟨w.heap.size, 0, none⟩ = some (.slice a1 n1 c1) := by rw [← hw1]; exact cells_alloc _ _ _ 0
  have q1 : w1.cell? ⟨w.heap.size, 1, none⟩ = some (.slice a2 n2 c2) := by rw [← hw1]; exact cells_alloc _ _ _ 1
  have HP1 := hid_ (HP.out.below cb (Nat.le_refl _)); have Hc1 := hid_ cb
  have hl1 := h1.len
  have HT := hid_ (fun W (hW : Below w1.heap.size w1 W) => (ht.below cb (Nat.le_refl _)).below hW (Nat.le_refl _))
  have H1 := hid_ (fun W (hW : Below w1.heap.size w1 W) => (h1.below cb (Nat.le_refl _)).below hW (Nat.le_refl _))
  have HAt := hid_ (fun k (hk : k < n) => @itemsB_at L l hi k (by rw [ht.len]; exact hk))
  have HF := hid_ (fun W (hW : Below w1.heap.size w1 W) k j (hk : k < L.items.length) (hj : j < L.items.length) => tafollow_calls _ L k j W (HP1.out.below hW (Nat.le_refl _)) g hk hj)
  have HC := hid_ (fun j (hj : j < L.items.length) => g.cost j hj)
  have HFi := hid_ (fun k j (hk : k < L.items.length) (hj : j < L.items.length) => @follV_in L g k j hk hj)
  have HS := hid_ (fun k (hk : k ≤ n) ha => sumK_in g hi k (by rw [ht.len]; exact hk) ha)
  have HSs : Hid (∀ k, sumK L l (k + 1) = sumK L l k + stepC L l k) := hid_ (fun _ => rfl)
  have HSt : Hid (∀ k, stepC L l k = costI L (l.getD k 0) + if k = 0 then 0 else fvI L (l.getD (k - 1) 0) (l.getD k 0)) := hid_ (fun _ => rfl)
  have HOk : Hid (∀ k, okC L l k = (decide (k = 0) || decide (0 ≤ fvI L (l.getD (k - 1) 0) (l.getD k 0)))) := hid_ (fun _ => rfl)
  have HNo := hid_ (fun k (hk : k < n) => @okF_no L l k (by rw [ht.len]; exact hk))
  have HYe := hid_ (@okF_yes L l n ht.len)
  have HSum : Hid (sumC L l = sumK L l n) := hid_ (by rw [sumC, ht.len])
  rw [hl1] at HAt HF HC HFi
  have hn1 : n1 ≤ 9223372036854775807 := Nat.le_trans h1.le h1.small
  have hn : n ≤ 9223372036854775807 := by omega
  clear cb h1 h2 HP HP1 ht g hi hl1
  have HV : Hid (costV L l = if okF L l = true then sumC L l else 0) := hid_ rfl
  generalize costV L l = CV at *
  generalize okF L l = R at *
  generalize sumC L l = S0 at *
  go_enter Try.func39, Try.ntmps39
  go_wp2
  go_loopw [6, 12] (fun v i wr => ∃ k : Nat, k ≤ n ∧ i = .int .i64 k ∧ v = .int .i64 (sumK L l k) ∧ (∀ j, j < k → okC L l j = true) ∧ Below w1.heap.size w1 wr) (fun _ i _ => n - (intOf i).toNat)
  case atStart => exact ⟨0, Nat.zero_le _, rfl, rfl, fun _ h => absurd h (by omega), Below.refl _ _⟩
  case round =>
    obtain ⟨k, hk, rfl, rfl, hall, hbr⟩ := hrel
    have hsz := hbr.size
    have q0r := cell_below q0 hbr
    have q1r := cell_below q1 hbr
    have hS := HS.out k hk hall
    have Hall := hid_ hall
    clear hall
    by_cases hlt : k < n
    · obtain ⟨b, off, rfl, -, hcell⟩ := (HT.out wr hbr).cells k hlt
      obtain ⟨j, hj, hjn⟩ := HAt.out k hlt
      have hcell' := hcell
      rw [hj] at hcell
      obtain ⟨b2, off2, a3, n3, c3, rfl, -, k0, k1, k2, -⟩ := (H1.out wr hbr).cells j hjn
      have hcj := HC.out j hjn
      have hst := HSt.out k
      have hss := HSs.out k
      have hok := HOk.out k
      rw [costI, hj, Int.toNat_natCast] at hst
      generalize (L.items.getD j I0).cost = cj at *
      generalize sumK L l k = S at *
      by_cases h0 : k = 0
      · rw [if_pos h0, Int.add_zero] at hst
        rw [decide_eq_true h0, Bool.true_or] at hok
        have hkq : ((k : Int) == 0) = true := by simp; omega
        clear h0
        have hw1 : IntKind.i64.wrap (S + cj) = S + cj := IntWalk.i64_in _ (by omega)
        have Hf := hid_ (lt_snoc (p := fun j => okC L l j = true) Hall.out hok)
        have Hs : Hid (sumK L l (k + 1) = S + cj) := hid_ (by rw [hss, hst])
        clear hst hss hok hj hcell'
        go_wp2
        go_roundw
        case rel => exact ⟨k + 1, by omega, by go_num, by rw [Hs.out], Hf.out, hbr⟩
        case measure => simp [intOf]; omega
      · obtain ⟨y, hy, hyn⟩ := HAt.out (k - 1) (by omega)
        obtain ⟨bb, ooff, e, -, hcellp⟩ := (HT.out wr hbr).cells (k - 1) (by omega)
        injection e with e; injection e with e1 e2; subst e1; subst e2
        rw [hy] at hcellp
        rw [if_neg h0, fvI, hy, Int.toNat_natCast, Int.toNat_natCast] at hst
        rw [decide_eq_false h0, Bool.false_or, fvI, hj, hy, Int.toNat_natCast, Int.toNat_natCast] at hok
        have hfi := HFi.out y j hyn hjn
        have HFo := hid_ (fun d os => HF.out _ (hbr.trans ((below_regrown wr d os).mono hsz)) y j hyn hjn)
        generalize follV L y j = f at *
        have hk1 : (0 : Int) ≤ (k : Int) - 1 := by omega
        have hk2 : (k : Int) - 1 < (n : Int) := by omega
        have hk3 : ((k : Int) - 1).toNat = k - 1 := by omega
        have hwk : IntKind.i64.wrap ((k : Int) - 1) = (k : Int) - 1 := IntWalk.i64_in _ (by omega)
        have hw1 : IntKind.i64.wrap (S + cj) = S + cj := IntWalk.i64_in _ (by omega)
        have hw2 : IntKind.i64.wrap (S + cj + f) = S + cj + f := IntWalk.i64_in _ (by omega)
        have hkq : ((k : Int) == 0) = false := by simp; omega
        have gA := cell_regrown q0r; have gB := cell_regrown q1r; have gC := cell_regrown hcellp
        have Hbr := hid_ hbr
        by_cases hf : f < 0
        · have Hno := hid_ (HNo.out k hlt (by rw [hok]; exact decide_eq_false (by omega)))
          clear hst hss hok hj hcell' hbr hy
          go_wp2
          refine wp_region_quiet_below (by kernel_rfl) (by kernel_rfl) ?_
          repeat (first | go_big_quiet_skip | (go_big_quiet_want; go_big_quiet_op; first | go_big_quiet_on | go_big_quiet_call ((go_at_call 61; with_reducible exact Calls.regrown_of (HFo.out _ _)))))
          refine wpQuiet_nil ?_
          rintro wq ⟨pq, hpq⟩
          have hbq := below_wq hpq
          clear hpq gA gB gC
          go_wp2
          go_ret2
          exact ⟨by rw [HV.out, Hno.out]; rfl, Hc1.out.trans ((Hbr.out.trans (hbq.mono hsz)).mono Hc1.out.size)⟩
        · have Hf := hid_ (lt_snoc (p := fun j => okC L l j = true) Hall.out (by rw [hok]; exact decide_eq_true (by omega)))
          have Hs : Hid (sumK L l (k + 1) = S + cj + f) := hid_ (by rw [hss, hst]; omega)
          clear hst hss hok hj hcell' hbr hy
          go_wp2
          refine wp_region_quiet_below (by kernel_rfl) (by kernel_rfl) ?_
          repeat (first | go_big_quiet_skip | (go_big_quiet_want; go_big_quiet_op; first | go_big_quiet_on | go_big_quiet_call ((go_at_call 61; with_reducible exact Calls.regrown_of (HFo.out _ _)))))
          refine wpQuiet_nil ?_
          rintro wq ⟨pq, hpq⟩
          have hbq := below_wq hpq
          clear hpq gA gB gC
          go_wp2
          go_roundw
          case rel => exact ⟨k + 1, by omega, by go_num, by rw [Hs.out], Hf.out, Hbr.out.trans (hbq.mono hsz)⟩
          case measure => simp [intOf]; omega
    · obtain rfl : n = k := by omega
      have Hye := hid_ (HYe.out Hall.out)
      have Hbr := hid_ hbr
      clear hbr
      go_wp2
      go_ret2
      exact ⟨by rw [HV.out, Hye.out, HSum.out]; rfl, Hc1.out.trans (Hbr.out.mono Hc1.out.size)⟩
end Go.Proofs.Ytgpenbajhndhiaa
