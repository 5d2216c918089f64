import Derived.Test.YtdnlpikfibdjoaaZ6
import Derived.Test.YtdnlpikfibdjoaaZ3
namespace Go.Proofs.Ytdnlpikfibdjoaa
open Go.RowKit Go.Proofs.Kv

/-! ### Cells, Clashes, Empty, Homes of the program -/
set_option maxRecDepth 100000 in
set_option maxHeartbeats 4000000 in
theorem ceCells_calls (v : Value) (P : Par) (w : World) (h : ParAt w v P) :
    Calls Try.prog 29 #[v] w fun e w' => ∃ v', e = .returned (.tuple #[v', .int .i64 (validP P)]) ∧ MadeL 22 w w' v' (resCells P) := by
  have HP := hid_ h
  obtain ⟨a1, n1, c1, a2, n2, c2, rfl, h1, h2⟩ := h
  obtain ⟨w1, hw1⟩ : ∃ w1, w.alloc (.cells #[.slice a1 n1 c1, .slice a2 n2 c2] 25) = w1 := ⟨_, rfl⟩
  have cb : Below w.heap.size w w1 := by rw [← hw1]; exact below_alloc _ _
  have q0 : w1.cell? ⟨w.heap.size, 0, none⟩ = some (.slice a1 n1 c1) := by rw [← hw1]; exact cells_alloc _ _ _ 0
  have q1 : w1.cell? ⟨w.heap.size, 1, none⟩ = some (.slice a2 n2 c2) := by rw [← hw1]; exact cells_alloc _ _ _ 1
  have HP1 := hid_ (HP.out.below cb (Nat.le_refl _)); have Hc1 := hid_ cb
  have HI := hid_ (h1.below cb (Nat.le_refl _))
  have HE := hid_ (ceValidate_calls _ P w1 HP1.out)
  clear h1 h2 cb
  by_cases he : validP P = 0
  · have Hf : Hid (resCells P = cellsL P.sizes) := hid_ (if_pos he)
    have HM := hid_ (fun W (hW : Below w1.heap.size w1 W) => collect_calls P a1 n1 c1 W.heap.size (W.alloc (.cells #[.slice a1 n1 c1] 22)) (cells_alloc _ _ _ 0) ((HI.out.below hW (Nat.le_refl _)).below (below_alloc _ _) (Nat.le_refl _)) he)
    rw [he] at HE ⊢
    rw [Hf.out]
    clear he
    go_enter Try.func29, Try.ntmps29
    go_wp2_with (first
      | (go_at_call 52; (with_reducible refine HE.out.mono ?_); rintro e w2 ⟨rfl, hb3⟩; have q0b := cell_below q0 hb3; have q1b := cell_below q1 hb3)
      | (go_at_call 75; (with_reducible refine (cellsOf_calls _ _ _ _).mono ?_); rintro e w5 ⟨rfl, rfl⟩)
      | (go_at_call 74; (with_reducible refine (HM.out _ hb3).mono ?_); rintro e w4 ⟨v4, rfl, hm⟩))
    go_ret2
    exact ⟨_, rfl, (hm.after (below_alloc w2 (.cells #[.slice a1 n1 c1] 22))).after (Hc1.out.trans (hb3.mono Hc1.out.size))⟩
  · have Hf : Hid (resCells P = []) := hid_ (if_neg he)
    have hq : (validP P != 0) = true := by simpa using he
    rw [Hf.out]
    generalize validP P = x at *
    clear he Hf
    go_enter Try.func29, Try.ntmps29
    go_wp2_with (go_at_call 52; (with_reducible refine HE.out.mono ?_); rintro e w2 ⟨rfl, hb3⟩)
    go_ret2
    exact ⟨_, rfl, MadeL.none_ _ (Hc1.out.trans (hb3.mono Hc1.out.size))⟩
def clashB (P : Par) (l : List Int) : Bool := decide (formR P l = -1) && decide (0 < (matL P l).length)
def emptyB (P : Par) (l : List Int) : Bool := decide ((matL P l).length = 0)
def homeB (P : Par) (n : Int) (l : List Int) : Bool := decide (formR P l = n)
set_option maxRecDepth 100000 in
set_option maxHeartbeats 4000000 in
theorem clashes1_calls (P : Par) (pb : Nat) (a1 : Option Addr) (n1 c1 : Nat) (a2 : Option Addr) (n2 c2 : Nat) (a : Option Addr) (n c : Nat) (l : List Int) (w : World)
    (q0 : w.cell? ⟨pb, 0, none⟩ = some (.slice a1 n1 c1)) (q1 : w.cell? ⟨pb, 1, none⟩ = some (.slice a2 n2 c2)) (h : ParAt w (.agg #[.slice a1 n1 c1, .slice a2 n2 c2]) P) (hv : validP P = 0) (hl : IntsAt w a n c l) (hs : P.sizes.length = n) :
    Calls Try.prog 78 #[.slice a n c, .pointer (some ⟨pb, 0, none⟩)] w fun e w' => e = .returned (.bool (clashB P l)) ∧ Below w.heap.size w w' := by
  have HB : Hid (clashB P l = (decide (formR P l = -1) && decide (0 < (matL P l).length))) := hid_ rfl
  have HF := hid_ (ceformOf_calls _ P a n c l w h hl hv hs)
  have HM := hid_ (fun W (hW : Below w.heap.size w W) => cematches_calls _ P a n c l W (h.below hW (Nat.le_refl _)) (hl.below hW (Nat.le_refl _)) hv hs)
  have hle : (matL P l).length ≤ 10 := Nat.le_trans (matK_le P l _) (validP_ok hv).2.2.1
  clear h hl hs hv
  generalize formR P l = y at *
  generalize matL P l = M at *
  obtain ⟨m, hm⟩ : ∃ m, M.length = m := ⟨_, rfl⟩
  rw [hm] at HB hle
  have Hlm := hid_ hm
  clear hm
  by_cases hy : y = -1
  · subst hy
    have Hf : Hid (clashB P l = decide (0 < m)) := hid_ (by rw [HB.out]; rfl)
    go_enter Try.func78, Try.ntmps78
    go_wp2_with (first
      | (go_at_call 79; (with_reducible refine HF.out.mono ?_); rintro e w2 ⟨rfl, hb2⟩; have q02 := cell_below q0 hb2; have q12 := cell_below q1 hb2)
      | (go_at_call 80; (with_reducible refine (HM.out _ hb2).mono ?_); rintro e w3 ⟨v3, rfl, hm3⟩; obtain ⟨a3, c3, rfl, -⟩ := hm3.at_; have hb3 := hb2.trans (hm3.bel.mono hb2.size); rw [Hlm.out]))
    go_ret
    exact ⟨retB Hf.out, hb3⟩
  · have Hf : Hid (clashB P l = false) := hid_ (by rw [HB.out, decide_eq_false hy]; rfl)
    have hy' : (y == -1) = false := by simpa using hy
    clear hy
    go_enter Try.func78, Try.ntmps78
    go_wp2_with (go_at_call 79; (with_reducible refine HF.out.mono ?_); rintro e w2 ⟨rfl, hb2⟩)
    go_ret
    exact ⟨retB Hf.out, hb2⟩
set_option maxRecDepth 100000 in
set_option maxHeartbeats 4000000 in
theorem empty1_calls (P : Par) (pb : Nat) (a1 : Option Addr) (n1 c1 : Nat) (a2 : Option Addr) (n2 c2 : Nat) (a : Option Addr) (n c : Nat) (l : List Int) (w : World)
    (q0 : w.cell? ⟨pb, 0, none⟩ = some (.slice a1 n1 c1)) (q1 : w.cell? ⟨pb, 1, none⟩ = some (.slice a2 n2 c2)) (h : ParAt w (.agg #[.slice a1 n1 c1, .slice a2 n2 c2]) P) (hv : validP P = 0) (hl : IntsAt w a n c l) (hs : P.sizes.length = n) :
    Calls Try.prog 81 #[.slice a n c, .pointer (some ⟨pb, 0, none⟩)] w fun e w' => e = .returned (.bool (emptyB P l)) ∧ Below w.heap.size w w' := by
  have HB : Hid (emptyB P l = decide ((matL P l).length = 0)) := hid_ rfl
  have HM := hid_ (cematches_calls _ P a n c l w h hl hv hs)
  have hle : (matL P l).length ≤ 10 := Nat.le_trans (matK_le P l _) (validP_ok hv).2.2.1
  clear h hl hs hv
  generalize matL P l = M at *
  obtain ⟨m, hm⟩ : ∃ m, M.length = m := ⟨_, rfl⟩
  rw [hm] at HB hle
  have Hlm := hid_ hm
  clear hm
  by_cases h0 : m = 0
  · have Hf : Hid (emptyB P l = true) := hid_ (by rw [HB.out, decide_eq_true h0])
    have h0' : ((m : Int) == 0) = true := by simpa using h0
    clear h0
    go_enter Try.func81, Try.ntmps81
    go_wp2_with (go_at_call 80; (with_reducible refine HM.out.mono ?_); rintro e w3 ⟨v3, rfl, hm3⟩; obtain ⟨a3, c3, rfl, -⟩ := hm3.at_; have hb3 := hm3.bel; rw [Hlm.out])
    go_ret
    exact ⟨retB Hf.out, hb3⟩
  · have Hf : Hid (emptyB P l = false) := hid_ (by rw [HB.out, decide_eq_false h0])
    have h0' : ((m : Int) == 0) = false := by simpa using h0
    clear h0
    go_enter Try.func81, Try.ntmps81
    go_wp2_with (go_at_call 80; (with_reducible refine HM.out.mono ?_); rintro e w3 ⟨v3, rfl, hm3⟩; obtain ⟨a3, c3, rfl, -⟩ := hm3.at_; have hb3 := hm3.bel; rw [Hlm.out])
    go_ret
    exact ⟨retB Hf.out, hb3⟩
set_option maxRecDepth 100000 in
set_option maxHeartbeats 4000000 in
theorem homes1_calls (P : Par) (pb nb : Nat) (y : Int) (a1 : Option Addr) (n1 c1 : Nat) (a2 : Option Addr) (n2 c2 : Nat) (a : Option Addr) (n c : Nat) (l : List Int) (w : World)
    (q0 : w.cell? ⟨pb, 0, none⟩ = some (.slice a1 n1 c1)) (q1 : w.cell? ⟨pb, 1, none⟩ = some (.slice a2 n2 c2)) (q2 : w.cell? ⟨nb, 0, none⟩ = some (.int .i64 y)) (h : ParAt w (.agg #[.slice a1 n1 c1, .slice a2 n2 c2]) P) (hv : validP P = 0) (hl : IntsAt w a n c l) (hs : P.sizes.length = n) :
    Calls Try.prog 83 #[.slice a n c, .pointer (some ⟨pb, 0, none⟩), .pointer (some ⟨nb, 0, none⟩)] w fun e w' => e = .returned (.bool (homeB P y l)) ∧ Below w.heap.size w w' := by
  have HB : Hid (homeB P y l = decide (formR P l = y)) := hid_ rfl
  have HF := hid_ (fun d os => ceformOf_calls _ P a n c l (Go.Sort.grow (redrawn w d) os) (h.below (below_regrown w d os) (Nat.le_refl _)) (hl.grown d os) hv hs)
  have g0 := cell_regrown q0; have g1 := cell_regrown q1; have g2 := cell_regrown q2
  clear h hl hs hv
  generalize formR P l = z at *
  by_cases h0 : z = y
  · have Hf : Hid (homeB P y l = true) := hid_ (by rw [HB.out, decide_eq_true h0])
    have h0' : (z == y) = true := by simpa using h0
    clear h0
    go_enter Try.func83, Try.ntmps83
    go_wp2_with fail
    refine wp_region_quiet_below (by kernel_rfl) (by kernel_rfl) ?_
    repeat (first | go_big_quiet_skip | (go_big_quiet_want; go_big_quiet_op; first | go_big_quiet_on | go_big_quiet_call ((go_at_call 79; with_reducible exact Calls.regrown_of (HF.out _ _)))))
    refine wpQuiet_nil ?_
    rintro wq ⟨pq, hpq⟩
    have hbq := below_wq hpq; clear hpq
    go_wp2
    go_ret
    exact ⟨retB (by rw [Hf.out]), hbq⟩
  · have Hf : Hid (homeB P y l = false) := hid_ (by rw [HB.out, decide_eq_false h0])
    have h0' : (z == y) = false := by simpa using h0
    clear h0
    go_enter Try.func83, Try.ntmps83
    go_wp2_with fail
    refine wp_region_quiet_below (by kernel_rfl) (by kernel_rfl) ?_
    repeat (first | go_big_quiet_skip | (go_big_quiet_want; go_big_quiet_op; first | go_big_quiet_on | go_big_quiet_call ((go_at_call 79; with_reducible exact Calls.regrown_of (HF.out _ _)))))
    refine wpQuiet_nil ?_
    rintro wq ⟨pq, hpq⟩
    have hbq := below_wq hpq; clear hpq
    go_wp2
    go_ret
    exact ⟨retB (by rw [Hf.out]), hbq⟩
def resClash (P : Par) : List (List Int) := if validP P = 0 then withL P (clashB P) else []
set_option maxRecDepth 100000 in
set_option maxHeartbeats 4000000 in
theorem ceClashes_calls (v : Value) (P : Par) (w : World) (h : ParAt w v P) :
    Calls Try.prog 31 #[v] w fun e w' => ∃ v', e = .returned (.tuple #[v', .int .i64 (validP P)]) ∧ MadeL 22 w w' v' (resClash P) := by
  have HP := hid_ h
  obtain ⟨a1, n1, c1, a2, n2, c2, rfl, h1, h2⟩ := h
  obtain ⟨w1, hw1⟩ : ∃ w1, w.alloc (.cells #[.slice a1 n1 c1, .slice a2 n2 c2] 25) = w1 := ⟨_, rfl⟩
  have cb : Below w.heap.size w w1 := by rw [← hw1]; exact below_alloc _ _
  have q0 : w1.cell? ⟨w.heap.size, 0, none⟩ = some (.slice a1 n1 c1) := by rw [← hw1]; exact cells_alloc _ _ _ 0
  have q1 : w1.cell? ⟨w.heap.size, 1, none⟩ = some (.slice a2 n2 c2) := by rw [← hw1]; exact cells_alloc _ _ _ 1
  have HP1 := hid_ (HP.out.below cb (Nat.le_refl _)); have Hc1 := hid_ cb
  have HE := hid_ (ceValidate_calls _ P w1 HP1.out)
  have hmf : ∀ (fn : Fn) (first cap : Array Value) (w : World), (Instr.makeFunc fn first cap).run Try.prog w = .ok (.func fn first cap) w := fun _ _ _ _ => rfl
  have hent : ∀ args W, (callFunc 78 args).run Try.prog W = .ok (.enter 78 args) W := enters_of Try.func78 (by kernel_rfl) rfl
  clear h1 h2 cb
  by_cases he : validP P = 0
  · have Hf : Hid (resClash P = withL P (clashB P)) := hid_ (if_pos he)
    have HM := hid_ (fun W (hW : Below w1.heap.size w1 W) => cellsWith_calls 78 #[.pointer (some ⟨w.heap.size, 0, none⟩)] (clashB P) _ P W (HP1.out.below hW (Nat.le_refl _)) he hent (fun W2 a c l hb hl hs => clashes1_calls P w.heap.size _ _ _ _ _ _ a P.sizes.length c l W2 (cell_below (cell_below q0 hW) hb) (cell_below (cell_below q1 hW) hb) ((HP1.out.below hW (Nat.le_refl _)).below hb (Nat.le_refl _)) he hl rfl))
    rw [he] at HE ⊢
    rw [Hf.out]
    clear he hent
    go_enter Try.func31, Try.ntmps31
    go_wp2_with (first
      | (go_at_call 52; (with_reducible refine HE.out.mono ?_); rintro e w2 ⟨rfl, hb3⟩; have q0b := cell_below q0 hb3; have q1b := cell_below q1 hb3)
      | (go_at_call 77; (with_reducible refine (HM.out _ hb3).mono ?_); rintro e w4 ⟨v4, rfl, hm⟩))
    go_ret2
    exact ⟨_, rfl, hm.after (Hc1.out.trans (hb3.mono Hc1.out.size))⟩
  · have Hf : Hid (resClash P = []) := hid_ (if_neg he)
    have hq : (validP P != 0) = true := by simpa using he
    rw [Hf.out]
    generalize validP P = x at *
    clear he Hf hent
    go_enter Try.func31, Try.ntmps31
    go_wp2_with (go_at_call 52; (with_reducible refine HE.out.mono ?_); rintro e w2 ⟨rfl, hb3⟩)
    go_ret2
    exact ⟨_, rfl, MadeL.none_ _ (Hc1.out.trans (hb3.mono Hc1.out.size))⟩
def resEmpty (P : Par) : List (List Int) := if validP P = 0 then withL P (emptyB P) else []
set_option maxRecDepth 100000 in
set_option maxHeartbeats 4000000 in
theorem ceEmpty_calls (v : Value) (P : Par) (w : World) (h : ParAt w v P) :
    Calls Try.prog 32 #[v] w fun e w' => ∃ v', e = .returned (.tuple #[v', .int .i64 (validP P)]) ∧ MadeL 22 w w' v' (resEmpty P) := by
  have HP := hid_ h
  obtain ⟨a1, n1, c1, a2, n2, c2, rfl, h1, h2⟩ := h
  obtain ⟨w1, hw1⟩ : ∃ w1, w.alloc (.cells #[.slice a1 n1 c1, .slice a2 n2 c2] 25) = w1 := ⟨_, rfl⟩
  have cb : Below w.heap.size w w1 := by rw [← hw1]; exact below_alloc _ _
  have q0 : w1.cell? ⟨w.heap.size, 0, none⟩ = some (.slice a1 n1 c1) := by rw [← hw1]; exact cells_alloc _ _ _ 0
  have q1 : w1.cell? ⟨w.heap.size, 1, none⟩ = some (.slice a2 n2 c2) := by rw [← hw1]; exact cells_alloc _ _ _ 1
  have HP1 := hid_ (HP.out.below cb (Nat.le_refl _)); have Hc1 := hid_ cb
  have HE := hid_ (ceValidate_calls _ P w1 HP1.out)
  have hmf : ∀ (fn : Fn) (first cap : Array Value) (w : World), (Instr.makeFunc fn first cap).run Try.prog w = .ok (.func fn first cap) w := fun _ _ _ _ => rfl
  have hent : ∀ args W, (callFunc 81 args).run Try.prog W = .ok (.enter 81 args) W := enters_of Try.func81 (by kernel_rfl) rfl
  clear h1 h2 cb
  by_cases he : validP P = 0
  · have Hf : Hid (resEmpty P = withL P (emptyB P)) := hid_ (if_pos he)
    have HM := hid_ (fun W (hW : Below w1.heap.size w1 W) => cellsWith_calls 81 #[.pointer (some ⟨w.heap.size, 0, none⟩)] (emptyB P) _ P W (HP1.out.below hW (Nat.le_refl _)) he hent (fun W2 a c l hb hl hs => empty1_calls P w.heap.size _ _ _ _ _ _ a P.sizes.length c l W2 (cell_below (cell_below q0 hW) hb) (cell_below (cell_below q1 hW) hb) ((HP1.out.below hW (Nat.le_refl _)).below hb (Nat.le_refl _)) he hl rfl))
    rw [he] at HE ⊢
    rw [Hf.out]
    clear he hent
    go_enter Try.func32, Try.ntmps32
    go_wp2_with (first
      | (go_at_call 52; (with_reducible refine HE.out.mono ?_); rintro e w2 ⟨rfl, hb3⟩; have q0b := cell_below q0 hb3; have q1b := cell_below q1 hb3)
      | (go_at_call 77; (with_reducible refine (HM.out _ hb3).mono ?_); rintro e w4 ⟨v4, rfl, hm⟩))
    go_ret2
    exact ⟨_, rfl, hm.after (Hc1.out.trans (hb3.mono Hc1.out.size))⟩
  · have Hf : Hid (resEmpty P = []) := hid_ (if_neg he)
    have hq : (validP P != 0) = true := by simpa using he
    rw [Hf.out]
    generalize validP P = x at *
    clear he Hf hent
    go_enter Try.func32, Try.ntmps32
    go_wp2_with (go_at_call 52; (with_reducible refine HE.out.mono ?_); rintro e w2 ⟨rfl, hb3⟩)
    go_ret2
    exact ⟨_, rfl, MadeL.none_ _ (Hc1.out.trans (hb3.mono Hc1.out.size))⟩
def errH (P : Par) (n : Int) : Int := if validP P = 0 then (if Within n 0 9 then 0 else 1) else validP P
def resHomes (P : Par) (n : Int) : List (List Int) := if errH P n = 0 then withL P (homeB P n) else []
set_option maxRecDepth 100000 in
set_option maxHeartbeats 4000000 in
theorem ceHomes_calls (v : Value) (P : Par) (y : Int) (w : World) (h : ParAt w v P) :
    Calls Try.prog 33 #[v, .int .i64 y] w fun e w' => ∃ v', e = .returned (.tuple #[v', .int .i64 (errH P y)]) ∧ MadeL 22 w w' v' (resHomes P y) := by
  have HP := hid_ h
  obtain ⟨a1, n1, c1, a2, n2, c2, rfl, h1, h2⟩ := h
  obtain ⟨w1, hw1⟩ : ∃ w1, w.alloc (.cells #[.slice a1 n1 c1, .slice a2 n2 c2] 25) = w1 := ⟨_, rfl⟩
  have cb : Below w.heap.size w w1 := by rw [← hw1]; exact below_alloc _ _
  have q0 : w1.cell? ⟨w.heap.size, 0, none⟩ = some (.slice a1 n1 c1) := by rw [← hw1]; exact cells_alloc _ _ _ 0
  have q1 : w1.cell? ⟨w.heap.size, 1, none⟩ = some (.slice a2 n2 c2) := by rw [← hw1]; exact cells_alloc _ _ _ 1
  have HP1 := hid_ (HP.out.below cb (Nat.le_refl _)); have Hc1 := hid_ cb
  obtain ⟨u1, hu1⟩ : ∃ u1, w1.alloc (.cells #[.int .i64 y] 3) = u1 := ⟨_, rfl⟩
  have z1 : w1.heap.size = w.heap.size + 1 := by rw [← hw1]; simp
  have ub : Below w1.heap.size w1 u1 := by rw [← hu1]; exact below_alloc _ _
  have q0 := cell_below q0 ub; have q1 := cell_below q1 ub
  have q2 : u1.cell? ⟨w.heap.size + 1, 0, none⟩ = some (.int .i64 y) := by rw [← z1, ← hu1]; exact cells_alloc _ _ _ 0
  have HP2 := hid_ (HP1.out.below ub (Nat.le_refl _))
  have Hc2 : Hid (Below w.heap.size w u1) := hid_ (Hc1.out.trans (ub.mono Hc1.out.size))
  have HE := hid_ (ceValidate_calls _ P u1 HP2.out)
  have HI := hid_ (fun W => isForm_calls y W)
  have hmf : ∀ (fn : Fn) (first cap : Array Value) (w : World), (Instr.makeFunc fn first cap).run Try.prog w = .ok (.func fn first cap) w := fun _ _ _ _ => rfl
  have hent : ∀ args W, (callFunc 83 args).run Try.prog W = .ok (.enter 83 args) W := enters_of Try.func83 (by kernel_rfl) rfl
  have HEr : Hid (errH P y = if validP P = 0 then (if Within y 0 9 then 0 else 1) else validP P) := hid_ rfl
  have HRr : Hid (resHomes P y = if errH P y = 0 then withL P (homeB P y) else []) := hid_ rfl
  clear h1 h2 cb ub
  by_cases he : validP P = 0
  · cases hw : Within y 0 9 with
    | false =>
      rw [hw] at HI
      have Hf : Hid (errH P y = 1) := hid_ (by rw [HEr.out, if_pos he, hw]; rfl)
      have Hr : Hid (resHomes P y = []) := hid_ (by rw [HRr.out, Hf.out]; rfl)
      rw [he] at HE
      rw [Hf.out, Hr.out]
      clear he hw hent
      go_enter Try.func33, Try.ntmps33
      go_wp2_with (first
        | (go_at_call 52; (with_reducible refine HE.out.mono ?_); rintro e w2 ⟨rfl, hb3⟩; have q0b := cell_below q0 hb3; have q1b := cell_below q1 hb3; have q2b := cell_below q2 hb3)
        | (go_at_call 82; (with_reducible refine (HI.out _).mono ?_); rintro e w5 ⟨rfl, rfl⟩))
      go_ret2
      exact ⟨_, rfl, MadeL.none_ _ (Hc2.out.trans (hb3.mono Hc2.out.size))⟩
    | true =>
      rw [hw] at HI
      have Hf : Hid (errH P y = 0) := hid_ (by rw [HEr.out, if_pos he, hw]; rfl)
      have Hr : Hid (resHomes P y = withL P (homeB P y)) := hid_ (by rw [HRr.out, Hf.out]; rfl)
      have HM := hid_ (fun W (hW : Below u1.heap.size u1 W) => cellsWith_calls 83 #[.pointer (some ⟨w.heap.size, 0, none⟩), .pointer (some ⟨w.heap.size + 1, 0, none⟩)] (homeB P y) _ P W (HP2.out.below hW (Nat.le_refl _)) he hent (fun W2 a c l hb hl hs => homes1_calls P w.heap.size (w.heap.size + 1) y _ _ _ _ _ _ a P.sizes.length c l W2 (cell_below (cell_below q0 hW) hb) (cell_below (cell_below q1 hW) hb) (cell_below (cell_below q2 hW) hb) ((HP2.out.below hW (Nat.le_refl _)).below hb (Nat.le_refl _)) he hl rfl))
      rw [he] at HE
      rw [Hf.out, Hr.out]
      clear he hw hent
      go_enter Try.func33, Try.ntmps33
      go_wp2_with (first
        | (go_at_call 52; (with_reducible refine HE.out.mono ?_); rintro e w2 ⟨rfl, hb3⟩; have q0b := cell_below q0 hb3; have q1b := cell_below q1 hb3; have q2b := cell_below q2 hb3)
        | (go_at_call 82; (with_reducible refine (HI.out _).mono ?_); rintro e w5 ⟨rfl, rfl⟩)
        | (go_at_call 77; (with_reducible refine (HM.out _ hb3).mono ?_); rintro e w4 ⟨v4, rfl, hm⟩))
      go_ret2
      exact ⟨_, rfl, hm.after (Hc2.out.trans (hb3.mono Hc2.out.size))⟩
  · have hq : (validP P != 0) = true := by simpa using he
    have Hf : Hid (errH P y = validP P) := hid_ (by rw [HEr.out, if_neg he])
    have Hr : Hid (resHomes P y = []) := hid_ (by rw [HRr.out, Hf.out, if_neg he])
    rw [Hf.out, Hr.out]
    generalize validP P = x at *
    clear he hent
    go_enter Try.func33, Try.ntmps33
    go_wp2_with (go_at_call 52; (with_reducible refine HE.out.mono ?_); rintro e w2 ⟨rfl, hb3⟩)
    go_ret2
    exact ⟨_, rfl, MadeL.none_ _ (Hc2.out.trans (hb3.mono Hc2.out.size))⟩
end Go.Proofs.Ytdnlpikfibdjoaa
