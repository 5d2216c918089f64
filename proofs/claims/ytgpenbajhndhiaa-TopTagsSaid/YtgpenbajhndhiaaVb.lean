import Derived.Test.YtgpenbajhndhiaaVa
namespace Go.Proofs.Ytgpenbajhndhiaa
open Go.RowKit Go.Proofs.Kv Go

theorem any_no {α : Type} {l : List α} {p : α → Bool} {n : Nat} (d : α) (hn : l.length = n) (h : ∀ j, j < n → p (l.getD j d) = false) : l.any p = false := by
  rw [List.any_eq_false]
  intro x hx
  obtain ⟨i, hi, rfl⟩ := List.mem_iff_getElem.1 hx
  have := h i (by omega)
  rw [show l.getD i d = l[i] by simp [List.getD, List.getElem?_eq_getElem hi]] at this
  rw [this]; simp
theorem any_hit {α : Type} {l : List α} {p : α → Bool} {k : Nat} (d : α) (hk : k < l.length) (h : p (l.getD k d) = true) : l.any p = true := by
  rw [List.any_eq_true]
  refine ⟨l[k], List.getElem_mem hk, ?_⟩
  rw [show l.getD k d = l[k] by simp [List.getD, List.getElem?_eq_getElem hk]] at h
  exact h
/-! ### the checks of the program -/
def itemOk (x : It) : Bool := Within x.word.length 1 6 && (areB x.word 0 5 && (Within x.kind 0 3 && Within x.cost 0 99))
def rowOk8 (m : Int) (lo hi : Int) (r : List Int) : Bool := decide ((r.length : Int) = m) && areB r lo hi
def rowsB (R : List (List Int)) (h m lo hi : Int) : Bool := R.all (rowOk8 m lo hi) && decide ((R.length : Int) = h)
def validL (L : Lx) : Int := if Within L.items.length 1 8 = true then (if L.items.any (fun x => !itemOk x) = true then 1 else if rowsB L.follow 4 4 (-1) 99 = true then 0 else 1) else 3
def textE (L : Lx) (t : List Int) : Int := if validL L = 0 then (if 12 < t.length then 3 else if areB t 0 5 = true then 0 else 1) else validL L
theorem rowsB_no {R : List (List Int)} {h m lo hi : Int} {k : Nat} (hk : k < R.length) (hb : rowOk8 m lo hi (R.getD k []) = false) : rowsB R h m lo hi = false := by
  rw [rowsB, Bool.and_eq_false_iff]
  refine .inl (List.all_eq_false.2 ⟨R.getD k [], by simp [List.getD, List.getElem?_eq_getElem hk], by rw [hb]; decide⟩)
theorem rowsB_all {R : List (List Int)} {h m lo hi : Int} {n : Nat} (hn : R.length = n) (hb : ∀ k, k < n → rowOk8 m lo hi (R.getD k []) = true) : rowsB R h m lo hi = decide ((n : Int) = h) := by
  rw [rowsB, hn, show R.all (rowOk8 m lo hi) = true from List.all_eq_true.2 fun x hx => by
    obtain ⟨i, hi, rfl⟩ := List.mem_iff_getElem.1 hx
    have := hb i (by omega)
    simpa [List.getD, List.getElem?_eq_getElem hi] using this, Bool.true_and]
/-- v is the item X -/
def ItemAt (w : World) (v : Value) (X : It) : Prop := ∃ a n c, v = .agg #[.slice a n c, .int .i64 X.kind, .int .i64 X.cost] ∧ IntsAt w a n c X.word
set_option maxRecDepth 100000 in
set_option maxHeartbeats 2000000 in
theorem isItem_calls (a : Option Addr) (n c : Nat) (X : It) (w : World) (h : IntsAt w a n c X.word) :
    Calls Try.prog 65 #[.agg #[.slice a n c, .int .i64 X.kind, .int .i64 X.cost]] w fun e w' => e = .returned (.bool (itemOk X)) ∧ Below w.heap.size w w' := by
  have HI : Hid (itemOk X = (Within n 1 6 && (areB X.word 0 5 && (Within X.kind 0 3 && Within X.cost 0 99)))) := hid_ (by rw [itemOk, h.len])
  obtain ⟨wd, k, t⟩ := X
  simp only at h HI ⊢
  obtain ⟨w1, hw1⟩ : ∃ w1, w.alloc (.cells #[.slice a n c, .int .i64 k, .int .i64 t] 42) = w1 := ⟨_, rfl⟩
  have cb : Below w.heap.size w w1 := by rw [← hw1]; exact below_alloc _ _
  have q0 : w1.cell? ⟨w.heap.size, 0, none⟩ = some (.slice a n c) := by rw [← hw1]; exact cells_alloc _ _ _ 0
  have q1 : w1.cell? ⟨w.heap.size, 1, none⟩ = some (.int .i64 k) := by rw [← hw1]; exact cells_alloc _ _ _ 1
  have q2 : w1.cell? ⟨w.heap.size, 2, none⟩ = some (.int .i64 t) := by rw [← hw1]; exact cells_alloc _ _ _ 2
  have HA := hid_ (isBetween_calls n 1 6 w1)
  have HB := hid_ (areSounds8_calls a n c wd w1 (h.below cb (Nat.le_refl _)))
  have HC := hid_ (fun W => isBetween_calls k 0 3 W)
  have HD := hid_ (fun W => isBetween_calls t 0 99 W)
  have Hcb := hid_ cb
  clear h cb
  generalize itemOk ⟨wd, k, t⟩ = R at *
  generalize Within n 1 6 = b1 at *
  generalize areB wd 0 5 = b2 at *
  generalize Within k 0 3 = b3 at *
  generalize Within t 0 99 = b4 at *
  cases b1 with
  | false =>
    go_enter Try.func65, Try.ntmps65
    go_wp2_with (go_at_call 64; (with_reducible refine HA.out.mono ?_); rintro e w2 ⟨rfl, rfl⟩)
    go_ret
    exact ⟨by rw [HI.out]; rfl, Hcb.out⟩
  | true =>
    cases b2 with
    | false =>
      go_enter Try.func65, Try.ntmps65
      go_wp2_with (first
        | (go_at_call 64; (with_reducible refine HA.out.mono ?_); rintro e w2 ⟨rfl, rfl⟩)
        | (go_at_call 47; (with_reducible refine HB.out.mono ?_); rintro e w2 ⟨rfl, hb2⟩))
      go_ret
      exact ⟨by rw [HI.out]; rfl, Hcb.out.trans (hb2.mono Hcb.out.size)⟩
    | true =>
      cases b3 with
      | false =>
        go_enter Try.func65, Try.ntmps65
        go_wp2_with (first
          | (go_at_call 64; (with_reducible refine HA.out.mono ?_); rintro e w2 ⟨rfl, rfl⟩)
          | (go_at_call 47; (with_reducible refine HB.out.mono ?_); rintro e w2 ⟨rfl, hb2⟩; have q1b := cell_below q1 hb2; have q2b := cell_below q2 hb2)
          | (go_at_call 64; (with_reducible refine (HC.out _).mono ?_); rintro e w3 ⟨rfl, rfl⟩))
        go_ret
        exact ⟨by rw [HI.out]; rfl, Hcb.out.trans (hb2.mono Hcb.out.size)⟩
      | true =>
        go_enter Try.func65, Try.ntmps65
        go_wp2_with (first
          | (go_at_call 64; (with_reducible refine HA.out.mono ?_); rintro e w2 ⟨rfl, rfl⟩)
          | (go_at_call 47; (with_reducible refine HB.out.mono ?_); rintro e w2 ⟨rfl, hb2⟩; have q1b := cell_below q1 hb2; have q2b := cell_below q2 hb2)
          | (go_at_call 64; (with_reducible refine (HC.out _).mono ?_); rintro e w3 ⟨rfl, rfl⟩)
          | (go_at_call 64; (with_reducible refine (HD.out _).mono ?_); rintro e w3 ⟨rfl, rfl⟩))
        go_ret
        exact ⟨by rw [HI.out]; rfl, Hcb.out.trans (hb2.mono Hcb.out.size)⟩
set_option maxRecDepth 100000 in
set_option maxHeartbeats 2000000 in
theorem areRows_calls (a : Option Addr) (n c : Nat) (R : List (List Int)) (hh mm lo hi : Int) (w : World) (h : ListsAt w a n c R) :
    Calls Try.prog 41 #[.slice a n c, .int .i64 hh, .int .i64 mm, .int .i64 lo, .int .i64 hi] w fun e w' => e = .returned (.bool (rowsB R hh mm lo hi)) ∧ Below w.heap.size w w' := by
  have hn : n ≤ 9223372036854775807 := Nat.le_trans h.le h.small
  have HL := hid_ h
  have HN := hid_ (fun k (hk : k < n) => @rowsB_no R hh mm lo hi k (by rw [h.len]; exact hk))
  have HY := hid_ (@rowsB_all R hh mm lo hi n h.len)
  clear h
  generalize rowsB R hh mm lo hi = V at *
  go_enter Try.func41, Try.ntmps41
  go_wp2
  go_loopw [15] (fun i wr => ∃ k : Nat, k ≤ n ∧ i = .int .i64 k ∧ Below w.heap.size w wr ∧ ∀ j, j < k → rowOk8 mm lo hi (R.getD j []) = true) (fun i _ => n - (intOf i).toNat)
  case atStart => exact ⟨0, Nat.zero_le _, rfl, Below.refl _ _, fun _ h => absurd h (by omega)⟩
  case round =>
    obtain ⟨k, hk, rfl, hb, hall⟩ := hrel
    have Hall := hid_ hall
    clear hall
    by_cases hlt : k < n
    · obtain ⟨b, off, a1, n1, c1, rfl, -, hcell, hrow⟩ := (HL.out.below hb (Nat.le_refl _)).cells k hlt
      have hno := HN.out k hlt
      have hy := fun hx => lt_snoc (p := fun j => rowOk8 mm lo hi (R.getD j []) = true) Hall.out hx
      have hy' : rowOk8 mm lo hi (R.getD k []) = true → ∀ j, j < k + 1 → rowOk8 mm lo hi (R.getD j []) = true := hy
      have ho : rowOk8 mm lo hi (R.getD k []) = (decide ((n1 : Int) = mm) && areB (R.getD k []) lo hi) := by rw [rowOk8, hrow.len]
      have HA := hid_ (areBetween_calls a1 n1 c1 (R.getD k []) lo hi wr hrow)
      have Hb := hid_ hb
      clear hy hrow hb
      generalize rowOk8 mm lo hi (R.getD k []) = x at *
      generalize areB (R.getD k []) lo hi = y at *
      by_cases he : (n1 : Int) = mm
      · subst he
        rw [decide_eq_true rfl, Bool.true_and] at ho
        subst ho
        cases x with
        | true =>
          have Hf := hid_ (hy' rfl)
          clear hy' hno
          go_wp2_with (go_at_call 60; (with_reducible refine HA.out.mono ?_); rintro e w2 ⟨rfl, hb2⟩)
          go_roundw
          case rel => exact ⟨k + 1, by omega, by go_num, Hb.out.trans (hb2.mono Hb.out.size), Hf.out⟩
          case measure => simp [intOf]; omega
        | false =>
          have Hf := hid_ (hno rfl)
          clear hy' hno
          go_wp2_with (go_at_call 60; (with_reducible refine HA.out.mono ?_); rintro e w2 ⟨rfl, hb2⟩)
          go_ret
          exact ⟨by rw [Hf.out]; rfl, Hb.out.trans (hb2.mono Hb.out.size)⟩
      · have hq : ((n1 : Int) != mm) = true := by simpa using he
        rw [decide_eq_false he, Bool.false_and] at ho
        have Hf := hid_ (hno ho)
        clear hy' hno ho he
        go_wp2
        go_ret
        exact ⟨by rw [Hf.out]; rfl, Hb.out⟩
    · obtain rfl : n = k := by omega
      have HR := hid_ (HY.out Hall.out)
      by_cases he : (n : Int) = hh
      · have hq : ((n : Int) == hh) = true := by simpa using he
        have Hr := hid_ (HR.out.trans (decide_eq_true he))
        clear he
        go_wp2
        go_ret
        exact ⟨by rw [Hr.out]; rfl, hb⟩
      · have hq : ((n : Int) == hh) = false := by simpa using he
        have Hr := hid_ (HR.out.trans (decide_eq_false he))
        clear he
        go_wp2
        go_ret
        exact ⟨by rw [Hr.out]; rfl, hb⟩
set_option maxRecDepth 100000 in
set_option maxHeartbeats 4000000 in
theorem taValidate_calls (v : Value) (L : Lx) (w : World) (h : LexAt w v L) :
    Calls Try.prog 44 #[v] w fun e w' => e = .returned (.int .i64 (validL L)) ∧ Below w.heap.size w w' := by
  have HP := hid_ h
  obtain ⟨a1, n1, c1, a2, n2, c2, rfl, h1, h2⟩ := h
  obtain ⟨w1, hw1⟩ : ∃ w1, w.alloc (.cells #[.slice a1 n1 c1, .slice a2 n2 c2] 25) = w1 := ⟨_, rfl⟩
  have cb : Below w.heap.size w w1 := by rw [← hw1]; exact below_alloc _ _
  have q0 : w1.cell? ⟨w.heap.size, 0, none⟩ = some (.slice a1 n1 c1) := by rw [← hw1]; exact cells_alloc _ _ _ 0
  have q1 : w1.cell? ⟨w.heap.size, 1, none⟩ = some (.slice a2 n2 c2) := by rw [← hw1]; exact cells_alloc _ _ _ 1
  have HP1 := hid_ (HP.out.below cb (Nat.le_refl _)); have Hc1 := hid_ cb
  have HV : Hid (validL L = if Within n1 1 8 = true then (if L.items.any (fun x => !itemOk x) = true then 1 else if rowsB L.follow 4 4 (-1) 99 = true then 0 else 1) else 3) := hid_ (by rw [validL, h1.len])
  have HA := hid_ (isBetween_calls n1 1 8 w1)
  have H1 := hid_ (h1.below cb (Nat.le_refl _)); have H2 := hid_ (h2.below cb (Nat.le_refl _))
  have hn1 : n1 ≤ 9223372036854775807 := Nat.le_trans h1.le h1.small
  have HNo := hid_ (fun hall => any_no (p := fun x => !itemOk x) I0 h1.len hall)
  have HHi := hid_ (fun k (hk : k < n1) hh => any_hit (p := fun x => !itemOk x) (k := k) I0 (by rw [h1.len]; exact hk) hh)
  clear cb h1 h2 HP HP1
  generalize validL L = R at *
  cases hw : Within n1 1 8 with
  | false =>
    rw [hw] at HA HV
    clear hw
    go_enter Try.func44, Try.ntmps44
    go_wp2_with (go_at_call 64; (with_reducible refine HA.out.mono ?_); rintro e w2 ⟨rfl, rfl⟩)
    go_ret
    exact ⟨by rw [HV.out]; rfl, Hc1.out⟩
  | true =>
    rw [hw, if_pos rfl] at HV
    rw [hw] at HA
    clear hw
    go_enter Try.func44, Try.ntmps44
    go_wp2_with (go_at_call 64; (with_reducible refine HA.out.mono ?_); rintro e w2 ⟨rfl, rfl⟩)
    go_loopw [13] (fun i wr => ∃ k : Nat, k ≤ n1 ∧ i = .int .i64 k ∧ Below w1.heap.size w1 wr ∧ ∀ j, j < k → (!itemOk (L.items.getD j I0)) = false) (fun i _ => n1 - (intOf i).toNat)
    case atStart => exact ⟨0, Nat.zero_le _, rfl, Below.refl _ _, fun _ h => absurd h (by omega)⟩
    case round =>
      obtain ⟨k, hk, rfl, hb, hall⟩ := hrel
      have Hall := hid_ hall
      clear hall
      have q0r := cell_below q0 hb; have q1r := cell_below q1 hb
      by_cases hlt : k < n1
      · obtain ⟨b, off, a3, n3, c3, rfl, -, k0, k1, k2, hi⟩ := (H1.out.below hb (Nat.le_refl _)).cells k hlt
        have hhi := HHi.out k hlt
        have hy := fun hx => lt_snoc (p := fun j => (!itemOk (L.items.getD j I0)) = false) Hall.out hx
        have hy' : (!itemOk (L.items.getD k I0)) = false → ∀ j, j < k + 1 → (!itemOk (L.items.getD j I0)) = false := hy
        clear hy
        generalize L.items.getD k I0 = X at *
        obtain ⟨wb, hwb⟩ : ∃ wb, wr.alloc (.cells #[.slice a3 n3 c3, .int .i64 X.kind, .int .i64 X.cost] 42) = wb := ⟨_, rfl⟩
        have hcb : Below wr.heap.size wr wb := by rw [← hwb]; exact below_alloc _ _
        have u0 : wb.cell? ⟨wr.heap.size, 0, none⟩ = some (.slice a3 n3 c3) := by rw [← hwb]; exact cells_alloc _ _ _ 0
        have u1 : wb.cell? ⟨wr.heap.size, 1, none⟩ = some (.int .i64 X.kind) := by rw [← hwb]; exact cells_alloc _ _ _ 1
        have u2 : wb.cell? ⟨wr.heap.size, 2, none⟩ = some (.int .i64 X.cost) := by rw [← hwb]; exact cells_alloc _ _ _ 2
        have HI := hid_ (isItem_calls a3 n3 c3 X wb (hi.below hcb (Nat.le_refl _)))
        have Hb := hid_ (hb.trans (hcb.mono hb.size))
        clear hb hi hcb
        cases hx : itemOk X with
        | true =>
          have Hf := hid_ (hy' (by rw [hx]; rfl))
          rw [hx] at HI
          clear hx hy' hhi
          go_wp2_with (go_at_call 65; (with_reducible refine HI.out.mono ?_); rintro e w2 ⟨rfl, hb2⟩)
          go_roundw
          case rel => exact ⟨k + 1, by omega, by go_num, Hb.out.trans (hb2.mono Hb.out.size), Hf.out⟩
          case measure => simp [intOf]; omega
        | false =>
          have Hf := hid_ (hhi (by rw [hx]; rfl))
          rw [hx] at HI
          clear hx hy' hhi
          go_wp2_with (go_at_call 65; (with_reducible refine HI.out.mono ?_); rintro e w2 ⟨rfl, hb2⟩)
          go_ret
          exact ⟨by rw [HV.out, Hf.out]; rfl, Hc1.out.trans ((Hb.out.trans (hb2.mono Hb.out.size)).mono Hc1.out.size)⟩
      · obtain rfl : n1 = k := by omega
        have HV2 := HV.out
        rw [HNo.out Hall.out, if_neg (by decide)] at HV2
        have HV3 := hid_ HV2
        have HR := hid_ (areRows_calls a2 n2 c2 L.follow 4 4 (-1) 99 wr (H2.out.below hb (Nat.le_refl _)))
        have Hb := hid_ hb
        clear HV2 hb
        generalize rowsB L.follow 4 4 (-1) 99 = x at *
        cases x with
        | true =>
          go_wp2_with (go_at_call 41; (with_reducible refine HR.out.mono ?_); rintro e w2 ⟨rfl, hb2⟩)
          go_ret
          exact ⟨by rw [HV3.out]; rfl, Hc1.out.trans ((Hb.out.trans (hb2.mono Hb.out.size)).mono Hc1.out.size)⟩
        | false =>
          go_wp2_with (go_at_call 41; (with_reducible refine HR.out.mono ?_); rintro e w2 ⟨rfl, hb2⟩)
          go_ret
          exact ⟨by rw [HV3.out]; rfl, Hc1.out.trans ((Hb.out.trans (hb2.mono Hb.out.size)).mono Hc1.out.size)⟩
set_option maxRecDepth 100000 in
set_option maxHeartbeats 2000000 in
theorem tavalidate_calls (v : Value) (L : Lx) (a : Option Addr) (n c : Nat) (t : List Int) (w : World) (h : LexAt w v L) (ht : IntsAt w a n c t) :
    Calls Try.prog 26 #[v, .slice a n c] w fun e w' => e = .returned (.int .i64 (textE L t)) ∧ Below w.heap.size w w' := by
  have HP := hid_ h
  obtain ⟨a1, n1, c1, a2, n2, c2, rfl, h1, h2⟩ := h
  obtain ⟨w1, hw1⟩ : ∃ w1, w.alloc (.cells #[.slice a1 n1 c1, .slice a2 n2 c2] 25) = w1 := ⟨_, rfl⟩
  have cb : Below w.heap.size w w1 := by rw [← hw1]; exact below_alloc _ _
  have q0 : w1.cell? ⟨w.heap.size, 0, none⟩ = some (.slice a1 n1 c1) := by rw [← hw1]; exact cells_alloc _ _ _ 0
  have q1 : w1.cell? ⟨w.heap.size, 1, none⟩ = some (.slice a2 n2 c2) := by rw [← hw1]; exact cells_alloc _ _ _ 1
  have HP1 := hid_ (HP.out.below cb (Nat.le_refl _)); have Hc1 := hid_ cb
  have HV : Hid (textE L t = if validL L = 0 then (if 12 < n then 3 else if areB t 0 5 = true then 0 else 1) else validL L) := hid_ (by rw [textE, ht.len])
  have HA := hid_ (taValidate_calls _ L w1 HP1.out)
  have HT := hid_ (fun W (hW : Below w1.heap.size w1 W) => areSounds8_calls a n c t W ((ht.below cb (Nat.le_refl _)).below hW (Nat.le_refl _)))
  clear cb h1 h2 HP HP1 ht
  generalize textE L t = R at *
  generalize areB t 0 5 = b1 at *
  by_cases he : validL L = 0
  · rw [he, if_pos rfl] at HV
    rw [he] at HA
    clear he
    by_cases hl : 12 < n
    · rw [if_pos hl] at HV
      go_enter Try.func26, Try.ntmps26
      go_wp2_with (go_at_call 44; (with_reducible refine HA.out.mono ?_); rintro e w2 ⟨rfl, hb2⟩)
      go_ret
      exact ⟨by rw [HV.out]; rfl, Hc1.out.trans (hb2.mono Hc1.out.size)⟩
    · rw [if_neg hl] at HV
      cases b1 with
      | true =>
        go_enter Try.func26, Try.ntmps26
        go_wp2_with (first
          | (go_at_call 44; (with_reducible refine HA.out.mono ?_); rintro e w2 ⟨rfl, hb2⟩)
          | (go_at_call 47; (with_reducible refine (HT.out _ hb2).mono ?_); rintro e w3 ⟨rfl, hb3⟩))
        go_ret
        exact ⟨by rw [HV.out]; rfl, Hc1.out.trans ((hb2.trans (hb3.mono hb2.size)).mono Hc1.out.size)⟩
      | false =>
        go_enter Try.func26, Try.ntmps26
        go_wp2_with (first
          | (go_at_call 44; (with_reducible refine HA.out.mono ?_); rintro e w2 ⟨rfl, hb2⟩)
          | (go_at_call 47; (with_reducible refine (HT.out _ hb2).mono ?_); rintro e w3 ⟨rfl, hb3⟩))
        go_ret
        exact ⟨by rw [HV.out]; rfl, Hc1.out.trans ((hb2.trans (hb3.mono hb2.size)).mono Hc1.out.size)⟩
  · have hq : (validL L != 0) = true := by simpa using he
    rw [if_neg he] at HV
    generalize validL L = x at *
    clear he
    go_enter Try.func26, Try.ntmps26
    go_wp2_with (go_at_call 44; (with_reducible refine HA.out.mono ?_); rintro e w2 ⟨rfl, hb2⟩)
    go_ret
    exact ⟨by rw [HV.out]; rfl, Hc1.out.trans (hb2.mono Hc1.out.size)⟩
end Go.Proofs.Ytgpenbajhndhiaa
