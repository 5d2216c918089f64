import Derived.Test.YtnpdhmejnoplcaaPh
import Derived.Deep.RegionHeld3
namespace Go.Proofs.Ytnpdhmejnoplcaa
open Go.RowKit Go.Proofs.Kv

/-! ### apply, Apply -/
def apE (R : Rl) (l : List Int) (p : Int) : Int := if plB R.f R.le R.ri l p then putErr R [p] l else 6
def apV (R : Rl) (l : List Int) (p : Int) : List Int := if plB R.f R.le R.ri l p then putRes R [p] l else []
set_option maxRecDepth 100000 in
set_option maxHeartbeats 1000000 in
theorem applyP_calls (v : Value) (R : Rl) (a : Option Addr) (n c : Nat) (l : List Int) (p : Int) (w : World) (hr : RuleAt w v R) (h : IntsAt w a n c l) (hn : n ≤ 100) (ho : R.o.length ≤ 2) (hsl : setN R.le = true) (hsr : setN R.ri = true) (hw : isWord l = true) :
    Calls Try.prog 120 #[v, .slice a n c, .int .i64 p] w fun e w' => ∃ v', e = .returned (.tuple #[v', .int .i64 (apE R l p)]) ∧ Made 3 w w' v' (apV R l p) := by
  have Hr := hid_ hr
  obtain ⟨a1, n1, c1, a2, n2, c2, a3, n3, c3, rfl, h1, h2, h3⟩ := hr
  clear h1 h2 h3
  obtain ⟨w1, hw1⟩ : ∃ w1, w.alloc (.cells #[.int .i64 R.f, .slice a1 n1 c1, .slice a2 n2 c2, .slice a3 n3 c3] 24) = w1 := ⟨_, rfl⟩
  have Hb1 : Hid (Below w.heap.size w w1) := hid_ (by rw [← hw1]; exact below_alloc _ _)
  obtain ⟨k0, k1, k2, k3⟩ := box4 hw1 (Below.refl _ _)
  have HR1 := hid_ (Hr.out.below Hb1.out (Nat.le_refl _))
  have HI1 := hid_ (h.below Hb1.out (Nat.le_refl _))
  have HW1 := hid_ hw1
  have e0 := cell_regrown k0
  have e1 := cell_regrown k1
  have e2 := cell_regrown k2
  have e3 := cell_regrown k3
  have Hso := hid_ (fun d os => sidesOf_calls _ R _ (HR1.out.grown d os) hsl hsr)
  have Hip := hid_ (fun d os => isPlaceP_calls R.f R.le R.ri a n c l p _ (HI1.out.grown d os) hw hn)
  have Hone := hid_ (@one_ok R l p)
  have HaE : Hid (apE R l p = if plB R.f R.le R.ri l p then putErr R [p] l else 6) := hid_ rfl
  have HaV : Hid (apV R l p = if plB R.f R.le R.ri l p then putRes R [p] l else []) := hid_ rfl
  generalize hp : plB R.f R.le R.ri l p = b at Hip HaE HaV
  have Hp := hid_ hp; clear hp
  cases b with
  | false =>
    clear k0 k1 k2 k3
    go_enter Try.func120, Try.ntmps120
    go_wp2
    refine wp_region_quiet_below (by kernel_rfl) (by kernel_rfl) ?_
    repeat (first
      | go_big_quiet_skip
      | (go_big_quiet_want; go_big_quiet_op; first | go_big_quiet_on | go_big_quiet_call ((first
        | (go_at_call 127; exact Calls.regrown_of (Hso.out _ _))
        | (go_at_call 128; exact Calls.regrown_of (Hip.out _ _)))))) 
    refine wpQuiet_nil ?_
    rintro wq ⟨pq, hpq⟩
    have Hq := hid_ (Hb1.out.trans ((below_wq hpq).mono Hb1.out.size))
    go_wp2
    go_ret2
    exact ⟨_, by rw [HaE.out] <;> rfl, by rw [HaV.out]; exact Made.none_ _ Hq.out⟩
  | true =>
    have Hput := hid_ (fun W (hW : Below w1.heap.size w1 W) (A : Option Addr) (hA : IntsAt W A 1 1 [p]) => put_calls _ R a n c l A 1 1 [p] W (HR1.out.below hW (Nat.le_refl _)) (HI1.out.below hW (Nat.le_refl _)) hA (by omega) (by omega) ho (Hone.out Hp.out))
    clear k0 k1 k2 k3
    go_enter Try.func120, Try.ntmps120
    go_wp2
    refine wp_region_quiet_below (by kernel_rfl) (by kernel_rfl) ?_
    repeat (first
      | go_big_quiet_skip
      | (go_big_quiet_want; go_big_quiet_op; first | go_big_quiet_on | go_big_quiet_call ((first
        | (go_at_call 127; exact Calls.regrown_of (Hso.out _ _))
        | (go_at_call 128; exact Calls.regrown_of (Hip.out _ _)))))) 
    refine wpQuiet_nil ?_
    rintro wq ⟨pq, hpq⟩
    have hbq := below_wq hpq; clear hpq
    obtain ⟨q0, q1, q2, q3⟩ := box4 HW1.out hbq
    clear e0 e1 e2 e3
    go_wp2_with fail
    obtain ⟨w3, hw3⟩ : ∃ w3, wq.alloc (.cells #[.int .i64 p] 3) = w3 := ⟨_, rfl⟩
    have hI3 : IntsAt w3 (some ⟨wq.heap.size, 0, none⟩) 1 1 [p] := by rw [← hw3]; exact IntsAt.one _ _ _
    have hb3 : Below w1.heap.size w1 w3 := by rw [← hw3]; exact hbq.trans ((below_alloc wq _).mono hbq.size)
    rw [hw3]
    refine (Hput.out w3 hb3 _ hI3).mono ?_
    rintro e w6 ⟨v4, rfl, hm⟩
    clear q0 q1 q2 q3 hw3
    go_wp2
    go_ret2
    exact ⟨_, by rw [HaE.out] <;> rfl, by rw [HaV.out]; exact hm.after (Hb1.out.trans (hb3.mono Hb1.out.size))⟩
def errApply (R : Rl) (l : List Int) (p : Int) : Int := if err2 R l = 0 then apE R l p else err2 R l
def resApply (R : Rl) (l : List Int) (p : Int) : List Int := if err2 R l = 0 then apV R l p else []
set_option maxRecDepth 100000 in
theorem ruApply_calls (v : Value) (R : Rl) (a : Option Addr) (n c : Nat) (l : List Int) (p : Int) (w : World) (hr : RuleAt w v R) (h : IntsAt w a n c l) :
    Calls Try.prog 38 #[v, .slice a n c, .int .i64 p] w fun e w' => ∃ v', e = .returned (.tuple #[v', .int .i64 (errApply R l p)]) ∧ Made 3 w w' v' (resApply R l p) := by
  have Hr := hid_ hr
  obtain ⟨a1, n1, c1, a2, n2, c2, a3, n3, c3, rfl, h1, h2, h3⟩ := hr
  clear h1 h2 h3
  obtain ⟨w1, hw1⟩ : ∃ w1, w.alloc (.cells #[.int .i64 R.f, .slice a1 n1 c1, .slice a2 n2 c2, .slice a3 n3 c3] 24) = w1 := ⟨_, rfl⟩
  have Hb1 : Hid (Below w.heap.size w w1) := hid_ (by rw [← hw1]; exact below_alloc _ _)
  obtain ⟨k0, k1, k2, k3⟩ := box4 hw1 (Below.refl _ _)
  have HR1 := hid_ (Hr.out.below Hb1.out (Nat.le_refl _))
  have HI1 := hid_ (h.below Hb1.out (Nat.le_refl _))
  have HW1 := hid_ hw1
  have Hv1 := hid_ (ruValidate_calls _ R w1 HR1.out)
  have Hv2 := hid_ (fun w2 (hb : Below w1.heap.size w1 w2) => ruValidateWord_calls a n c l w2 (HI1.out.below hb (Nat.le_refl _)))
  have Hor := hid_ (show ∀ (w : World) (T : TypeId), Calls Try.prog 109 #[.slice (some ⟨w.heap.size, 0, none⟩) 2 2] (w.alloc (.cells #[.int .i64 (validR R), .int .i64 (validW l)] T)) fun e w' => e = .returned (.int .i64 (err2 R l)) ∧ w.alloc (.cells #[.int .i64 (validR R), .int .i64 (validW l)] T) = w' from fun w T => or2_calls _ _ w T)
  have Hok := hid_ (@err2_ok R l)
  by_cases he : err2 R l = 0
  · obtain ⟨e1, e2⟩ := Hok.out he
    obtain ⟨g1, g2, g3, g4, g5, g6⟩ := validR_ok e1
    obtain ⟨g7, g8⟩ := validW_ok e2
    have hn8 : n ≤ 8 := by rw [← h.len]; exact g7
    have Hf : Hid (resApply R l p = apV R l p) := hid_ (if_pos he)
    have HE : Hid (errApply R l p = apE R l p) := hid_ (if_pos he)
    have Hap := hid_ (fun W (hW : Below w1.heap.size w1 W) => applyP_calls _ R a n c l p W (HR1.out.below hW (Nat.le_refl _)) (HI1.out.below hW (Nat.le_refl _)) (by omega) g3 g5 g6 g8)
    rw [he] at Hor
    try rw [he]
    clear g1 g2 g3 g4 g5 g6 g7 g8 e1 e2 he
    generalize validR R = x1 at *
    generalize validW l = x2 at *
    go_enter Try.func38, Try.ntmps38
    go_wp2_with (first
      | (go_at_call 33; refine Hv1.out.mono ?_; rintro e w4 ⟨rfl, hb2⟩)
      | (go_at_call 35; refine (Hv2.out _ hb2).mono ?_; rintro e w' ⟨rfl, rfl⟩)
      | (go_at_call 109; refine (Hor.out _ _).mono ?_; rintro e w5 ⟨rfl, hw5⟩; have hb3 : Below w1.heap.size w1 w5 := (by rw [← hw5]; exact hb2.trans ((below_alloc w4 _).mono hb2.size)); clear hw5; obtain ⟨q0, q1, q2, q3⟩ := box4 HW1.out hb3))
    refine (Hap.out _ hb3).mono ?_
    rintro e w6 ⟨v4, rfl, hm⟩
    go_wp2
    go_ret2
    exact ⟨_, by rw [HE.out] <;> rfl, by rw [Hf.out]; exact hm.after (Hb1.out.trans (hb3.mono Hb1.out.size))⟩
  ·
    have Hf : Hid (resApply R l p = []) := hid_ (if_neg he)
    have HE : Hid (errApply R l p = err2 R l) := hid_ (if_neg he)
    generalize validR R = x1 at *
    generalize validW l = x2 at *
    generalize err2 R l = er at *
    have hq : (er != 0) = true := by simpa using he
    clear he
    go_enter Try.func38, Try.ntmps38
    go_wp2_with (first
      | (go_at_call 33; refine Hv1.out.mono ?_; rintro e w4 ⟨rfl, hb2⟩)
      | (go_at_call 35; refine (Hv2.out _ hb2).mono ?_; rintro e w' ⟨rfl, rfl⟩)
      | (go_at_call 109; refine (Hor.out _ _).mono ?_; rintro e w5 ⟨rfl, hw5⟩; have hb3 : Below w1.heap.size w1 w5 := (by rw [← hw5]; exact hb2.trans ((below_alloc w4 _).mono hb2.size)); clear hw5; obtain ⟨q0, q1, q2, q3⟩ := box4 HW1.out hb3))
    go_ret2
    exact ⟨_, by rw [HE.out] <;> rfl, by rw [Hf.out]; exact Made.none_ _ (Hb1.out.trans (hb3.mono Hb1.out.size))⟩

/-! ### First -/
def firP (R : Rl) (l : List Int) : Option Int := (plP R l).head?
def errFirst (R : Rl) (l : List Int) : Int := if err2 R l = 0 then (if plP R l = [] then 0 else putErr R [(plP R l).headD 0] l) else err2 R l
def resFirst (R : Rl) (l : List Int) : List Int := if err2 R l = 0 then (if plP R l = [] then [] else putRes R [(plP R l).headD 0] l) else []
def isFirst (R : Rl) (l : List Int) : Bool := decide (err2 R l = 0) && !(decide (plP R l = [])) && decide (putErr R [(plP R l).headD 0] l = 0)
set_option maxRecDepth 100000 in
set_option maxHeartbeats 1000000 in
theorem ruFirst_calls (v : Value) (R : Rl) (a : Option Addr) (n c : Nat) (l : List Int) (w : World) (hr : RuleAt w v R) (h : IntsAt w a n c l) :
    Calls Try.prog 40 #[v, .slice a n c] w fun e w' => ∃ v', e = .returned (.tuple #[v', .bool (isFirst R l), .int .i64 (errFirst R l)]) ∧ Made 3 w w' v' (resFirst R l) := by
  have Hr := hid_ hr
  obtain ⟨a1, n1, c1, a2, n2, c2, a3, n3, c3, rfl, h1, h2, h3⟩ := hr
  clear h1 h2 h3
  obtain ⟨w1, hw1⟩ : ∃ w1, w.alloc (.cells #[.int .i64 R.f, .slice a1 n1 c1, .slice a2 n2 c2, .slice a3 n3 c3] 24) = w1 := ⟨_, rfl⟩
  have Hb1 : Hid (Below w.heap.size w w1) := hid_ (by rw [← hw1]; exact below_alloc _ _)
  obtain ⟨k0, k1, k2, k3⟩ := box4 hw1 (Below.refl _ _)
  have HR1 := hid_ (Hr.out.below Hb1.out (Nat.le_refl _))
  have HI1 := hid_ (h.below Hb1.out (Nat.le_refl _))
  have HW1 := hid_ hw1
  have Hv1 := hid_ (ruValidate_calls _ R w1 HR1.out)
  have Hv2 := hid_ (fun w2 (hb : Below w1.heap.size w1 w2) => ruValidateWord_calls a n c l w2 (HI1.out.below hb (Nat.le_refl _)))
  have Hor := hid_ (show ∀ (w : World) (T : TypeId), Calls Try.prog 109 #[.slice (some ⟨w.heap.size, 0, none⟩) 2 2] (w.alloc (.cells #[.int .i64 (validR R), .int .i64 (validW l)] T)) fun e w' => e = .returned (.int .i64 (err2 R l)) ∧ w.alloc (.cells #[.int .i64 (validR R), .int .i64 (validW l)] T) = w' from fun w T => or2_calls _ _ w T)
  have Hok := hid_ (@err2_ok R l)
  by_cases he : err2 R l = 0
  · obtain ⟨e1, e2⟩ := Hok.out he
    obtain ⟨g1, g2, g3, g4, g5, g6⟩ := validR_ok e1
    obtain ⟨g7, g8⟩ := validW_ok e2
    have hn8 : n ≤ 8 := by rw [← h.len]; exact g7
    have Hpl := hid_ (fun W (hW : Below w1.heap.size w1 W) => placesP_calls _ R a n c l W (HR1.out.below hW (Nat.le_refl _)) (HI1.out.below hW (Nat.le_refl _)) (by omega) g5 g6 g8)
    have Hput := hid_ (fun W (hW : Below w1.heap.size w1 W) p (A : Option Addr) (hA : IntsAt W A 1 1 [p]) (hk : PutOk R [p] l) => put_calls _ R a n c l A 1 1 [p] W (HR1.out.below hW (Nat.le_refl _)) (HI1.out.below hW (Nat.le_refl _)) hA (by omega) (by omega) g3 hk)
    have Hone : Hid (∀ p, p ∈ plP R l → PutOk R [p] l) := hid_ (fun p hp => one_ok (mem_pl.1 hp).2.2)
    have Hf : Hid (resFirst R l = if plP R l = [] then [] else putRes R [(plP R l).headD 0] l) := hid_ (if_pos he)
    have HE : Hid (errFirst R l = if plP R l = [] then 0 else putErr R [(plP R l).headD 0] l) := hid_ (if_pos he)
    have HT : Hid (isFirst R l = (!(decide (plP R l = [])) && decide (putErr R [(plP R l).headD 0] l = 0))) := hid_ (by rw [isFirst, he]; rfl)
    generalize plP R l = P at *
    rw [he] at Hor
    try rw [he]
    clear g1 g2 g3 g4 g5 g6 g7 g8 e1 e2 he
    generalize validR R = x1 at *
    generalize validW l = x2 at *
    go_enter Try.func40, Try.ntmps40
    go_wp2_with (first
      | (go_at_call 33; refine Hv1.out.mono ?_; rintro e w4 ⟨rfl, hb2⟩)
      | (go_at_call 35; refine (Hv2.out _ hb2).mono ?_; rintro e w' ⟨rfl, rfl⟩)
      | (go_at_call 109; refine (Hor.out _ _).mono ?_; rintro e w5 ⟨rfl, hw5⟩; have hb3 : Below w1.heap.size w1 w5 := (by rw [← hw5]; exact hb2.trans ((below_alloc w4 _).mono hb2.size)); clear hw5; obtain ⟨q0, q1, q2, q3⟩ := box4 HW1.out hb3))
    refine (Hpl.out _ hb3).mono ?_
    rintro e w6 ⟨v4, rfl, hm⟩
    obtain ⟨a7, c7, rfl, hI7⟩ := hm.at_
    have hb6 := hb3.trans (hm.bel.mono hb3.size)
    clear hm q0 q1 q2 q3
    obtain ⟨q0, q1, q2, q3⟩ := box4 HW1.out hb6
    cases P with
    | nil =>
      go_wp2
      go_ret3
      exact ⟨_, by rw [HE.out, HT.out]; rfl, by rw [Hf.out]; exact Made.none_ _ (Hb1.out.trans (hb6.mono Hb1.out.size))⟩
    | cons p P =>
      have hk := Hone.out p (by simp)
      obtain ⟨b, off, rfl, hbl, hcell⟩ := hI7.cells 0 (by simp)
      have hcell' : w6.cell? ⟨b, off, none⟩ = some (.int .i64 p) := hcell
      have hln : (((p :: P).length : Int) == 0) = false := by simp; omega
      have hln2 : (0 : Int) < ((p :: P).length : Int) := by simp only [List.length_cons]; omega
      have HE' : Hid (errFirst R l = putErr R [p] l) := hid_ (by rw [HE.out]; rfl)
      have Hf' : Hid (resFirst R l = putRes R [p] l) := hid_ (by rw [Hf.out]; rfl)
      have HT' : Hid (isFirst R l = (putErr R [p] l == 0)) := hid_ (by rw [HT.out]; show (!decide (p :: P = []) && decide (putErr R [p] l = 0)) = _; rw [Bool.eq_iff_iff]; simp)
      have hln3 : 0 < (p :: P).length := by simp
      generalize hN : (p :: P).length = N at *
      clear hN hcell HE Hf HT
      go_wp2_with fail
      have hz5 : w.heap.size < w6.heap.size := World.block_lt_of_cell? w6 ⟨w.heap.size, 0, none⟩ q0
      have HS : Hid (∀ W, Below w6.heap.size w6 W → W.cell? ⟨w.heap.size, 0, none⟩ = some (.int .i64 R.f) ∧ W.cell? ⟨w.heap.size, 1, none⟩ = some (.slice a1 n1 c1) ∧ W.cell? ⟨w.heap.size, 2, none⟩ = some (.slice a2 n2 c2) ∧ W.cell? ⟨w.heap.size, 3, none⟩ = some (.slice a3 n3 c3) ∧ W.cell? ⟨b, off, none⟩ = some (.int .i64 p) ∧ Below w6.heap.size w6 W) := hid_ (fun W hW =>
        ⟨(hW.cell hz5).trans q0, (hW.cell hz5).trans q1, (hW.cell hz5).trans q2, (hW.cell hz5).trans q3, (hW.cell hbl).trans hcell', hW⟩)
      have hbd : Below w6.heap.size w6 w6.drew := Below.drew (Below.refl _ _)
      have hI1 : IntsAt ((w6.alloc (.cells #[.int .i64 p] 3)).drew) (some ⟨w6.heap.size, 0, none⟩) 1 1 [p] := (IntsAt.one w6 p 3).drewN 1
      have hb66 : Below w6.heap.size w6 ((w6.alloc (.cells #[.int .i64 p] 3)).drew) := Below.drew (below_alloc _ _)
      have hbw : Below w1.heap.size w1 ((w6.alloc (.cells #[.int .i64 p] 3)).drew) := hb6.trans (hb66.mono hb6.size)
      go_region_held3 (fun W => W.cell? ⟨w.heap.size, 0, none⟩ = some (.int .i64 R.f) ∧ W.cell? ⟨w.heap.size, 1, none⟩ = some (.slice a1 n1 c1) ∧ W.cell? ⟨w.heap.size, 2, none⟩ = some (.slice a2 n2 c2) ∧ W.cell? ⟨w.heap.size, 3, none⟩ = some (.slice a3 n3 c3) ∧ W.cell? ⟨b, off, none⟩ = some (.int .i64 p) ∧ Below w6.heap.size w6 W) (first | exact HS.out _ (by assumption) | exact HS.out _ (Below.alloc (by assumption) (Below.size (by assumption)) _) | fail)
        (first
          | (go_at_call 124; refine (Hput.out _ hbw p _ hI1 hk).mono ?_; rintro e w7 ⟨v8, rfl, hm8⟩; have hb7 : Below w6.heap.size w6 w7 := hb66.trans (hm8.bel.mono hb66.size)))
      go_wp2_with fail
      go_ret3
      exact ⟨_, by rw [HE'.out, HT'.out]; rfl, by rw [Hf'.out]; exact hm8.after (Hb1.out.trans (hbw.mono Hb1.out.size))⟩
  ·
    have Hf : Hid (resFirst R l = []) := hid_ (if_neg he)
    have HE : Hid (errFirst R l = err2 R l) := hid_ (if_neg he)
    have HT : Hid (isFirst R l = false) := hid_ (by rw [isFirst, decide_eq_false he]; rfl)
    generalize validR R = x1 at *
    generalize validW l = x2 at *
    generalize err2 R l = er at *
    have hq : (er != 0) = true := by simpa using he
    clear he
    go_enter Try.func40, Try.ntmps40
    go_wp2_with (first
      | (go_at_call 33; refine Hv1.out.mono ?_; rintro e w4 ⟨rfl, hb2⟩)
      | (go_at_call 35; refine (Hv2.out _ hb2).mono ?_; rintro e w' ⟨rfl, rfl⟩)
      | (go_at_call 109; refine (Hor.out _ _).mono ?_; rintro e w5 ⟨rfl, hw5⟩; have hb3 : Below w1.heap.size w1 w5 := (by rw [← hw5]; exact hb2.trans ((below_alloc w4 _).mono hb2.size)); clear hw5; obtain ⟨q0, q1, q2, q3⟩ := box4 HW1.out hb3))
    go_ret3
    exact ⟨_, by rw [HE.out, HT.out] <;> rfl, by rw [Hf.out]; exact Made.none_ _ (Hb1.out.trans (hb3.mono Hb1.out.size))⟩
end Go.Proofs.Ytnpdhmejnoplcaa
