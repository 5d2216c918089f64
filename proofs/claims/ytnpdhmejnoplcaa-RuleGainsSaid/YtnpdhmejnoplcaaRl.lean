import Derived.Test.YtnpdhmejnoplcaaRk
import Derived.Test.YtnpdhmejnoplcaaPj
import Derived.Deep.RegionHeld3
namespace Go.Proofs.Ytnpdhmejnoplcaa
open Go.RowKit Go.Proofs.Kv

/-! ### First -/
set_option maxRecDepth 100000 in
set_option maxHeartbeats 2000000 in
theorem refFirst_calls (v : Value) (R : Rl) (a : Option Addr) (n c : Nat) (l : List Int) (w : World) (hr : RuleAt w v R) (h : IntsAt w a n c l) :
    Calls Try.prog 41 #[v, .slice a n c] w fun e w' => ∃ v', e = .returned (.tuple #[v', .bool (isFirst R l), .int .i64 (errFirst R l)]) ∧ Made 3 w w' v' (resFirst R l) := by
  have Hr := hid_ hr
  obtain ⟨a1, n1, c1, a2, n2, c2, a3, n3, c3, rfl, h1, h2, h3⟩ := hr
  clear h1 h2 h3
  obtain ⟨w1, hw1⟩ : ∃ w1, w.alloc (.cells #[.int .i64 R.f, .slice a1 n1 c1, .slice a2 n2 c2, .slice a3 n3 c3] 24) = w1 := ⟨_, rfl⟩
  have Hb1 : Hid (Below w.heap.size w w1) := hid_ (by rw [← hw1]; exact below_alloc _ _)
  obtain ⟨k0, k1, k2, k3⟩ := box4 hw1 (Below.refl _ _)
  have HW1 := hid_ hw1
  have HR1 := hid_ (fun W (hW : Below w1.heap.size w1 W) => (Hr.out.below Hb1.out (Nat.le_refl _)).below hW (Nat.le_refl _))
  have HI1 := hid_ (fun W (hW : Below w1.heap.size w1 W) => (h.below Hb1.out (Nat.le_refl _)).below hW (Nat.le_refl _))
  have HV := hid_ (refPlaces_calls _ R a n c l w1 (HR1.out w1 (Below.refl _ _)) (HI1.out w1 (Below.refl _ _)))
  have HL := hid_ h.len
  clear h
  by_cases he : err2 R l = 0
  · have HE : Hid (errFirst R l = if plP R l = [] then 0 else putErr R [(plP R l).headD 0] l) := hid_ (if_pos he)
    have HF : Hid (resFirst R l = if plP R l = [] then [] else putRes R [(plP R l).headD 0] l) := hid_ (if_pos he)
    have HT : Hid (isFirst R l = (!(decide (plP R l = [])) && decide (putErr R [(plP R l).headD 0] l = 0))) := hid_ (by rw [isFirst, he]; rfl)
    obtain ⟨e1, e2⟩ := err2_ok he
    obtain ⟨g1, g2, g3, g4, g5, g6⟩ := validR_ok e1
    obtain ⟨g7, g8⟩ := validW_ok e2
    have hn8 : n ≤ 8 := by rw [← HL.out]; exact g7
    have Hone : Hid (∀ p, p ∈ plP R l → 0 ≤ p ∧ plB R.f R.le R.ri l p = true) := hid_ (fun p hp => ⟨(mem_pl.1 hp).1, (mem_pl.1 hp).2.2⟩)
    have hres : resPlaces R l = plP R l := if_pos he
    rw [he, hres] at HV
    have HPut := hid_ (fun W hW i (hi : i + tkN R ≤ n) => putR_calls _ R a n c l i W (HR1.out W hW) (HI1.out W hW) (by omega) g1 g3 hi)
    have HT2 := hid_ told_calls
    clear hres he e1 e2 g1 g2 g3 g4 g5 g6 g7 g8
    generalize plP R l = P at *
    cases P with
    | nil =>
      have HE' : Hid (errFirst R l = 0) := hid_ (by rw [HE.out]; rfl)
      have HF' : Hid (resFirst R l = []) := hid_ (by rw [HF.out]; rfl)
      have HT' : Hid (isFirst R l = false) := hid_ (by rw [HT.out]; rfl)
      go_enter Try.func41, Try.ntmps41
      go_wp2_with (go_at_call 32; refine HV.out.mono ?_; rintro e w4 ⟨v4, rfl, hm⟩; obtain ⟨a7, c7, rfl, hI7⟩ := hm.at_; have hb6 := hm.bel; clear hm)
      go_ret3
      exact ⟨_, by rw [HE'.out, HT'.out]; rfl, by rw [HF'.out]; exact Made.none_ _ (Hb1.out.trans (hb6.mono Hb1.out.size))⟩
    | cons p P =>
      have hk := Hone.out p (by simp)
      obtain ⟨i, rfl⟩ : ∃ i : Nat, p = (i : Int) := ⟨p.toNat, by omega⟩
      have hfit := pl_fit0 hk.2
      have HE' : Hid (errFirst R l = toldE (putL l i (i + tkN R) R.o)) := hid_ (by rw [HE.out]; rfl)
      have HF' : Hid (resFirst R l = toldV (putL l i (i + tkN R) R.o)) := hid_ (by rw [HF.out]; rfl)
      have HT' : Hid (isFirst R l = (toldE (putL l i (i + tkN R) R.o) == 0)) := hid_ (by rw [HT.out]; show (!decide ((i : Int) :: P = []) && decide (putErr R [(i : Int)] l = 0)) = (putErr R [(i : Int)] l == 0); rw [Bool.eq_iff_iff]; simp)
      have hPut := hid_ (fun W hW => HPut.out W hW i (by rw [← HL.out]; exact hfit))
      generalize putL l i (i + tkN R) R.o = m at *
      have hln : (((((i : Int) :: P).length : Nat) : Int) == 0) = false := by simp; omega
      have hln2 : (0 : Int) < ((((i : Int) :: P).length : Nat) : Int) := by simp only [List.length_cons]; omega
      have hln3 : 0 < ((i : Int) :: P).length := by simp
      clear hk hfit HE HF HT
      go_enter Try.func41, Try.ntmps41
      go_wp2_with (go_at_call 32; refine HV.out.mono ?_; rintro e w6 ⟨v4, rfl, hm⟩; obtain ⟨a7, c7, rfl, hI7⟩ := hm.at_; have hb6 := hm.bel; clear hm; obtain ⟨b, off, rfl, hbl, hcell⟩ := hI7.cells 0 hln3; obtain ⟨q0, q1, q2, q3⟩ := box4 HW1.out hb6; generalize hN : ((i : Int) :: P).length = N at *)
      have hcell' : w6.cell? ⟨b, off, none⟩ = some (.int .i64 (i : Int)) := hcell
      clear hcell
      have hz5 : w.heap.size < w6.heap.size := World.block_lt_of_cell? w6 ⟨w.heap.size, 0, none⟩ q0
      have HS : Hid (∀ W, Below w6.heap.size w6 W → W.cell? ⟨w.heap.size, 0, none⟩ = some (.int .i64 R.f) ∧ W.cell? ⟨w.heap.size, 1, none⟩ = some (.slice a1 n1 c1) ∧ W.cell? ⟨w.heap.size, 2, none⟩ = some (.slice a2 n2 c2) ∧ W.cell? ⟨w.heap.size, 3, none⟩ = some (.slice a3 n3 c3) ∧ W.cell? ⟨b, off, none⟩ = some (.int .i64 (i : Int)) ∧ Below w6.heap.size w6 W) := hid_ (fun W hW =>
        ⟨(hW.cell hz5).trans q0, (hW.cell hz5).trans q1, (hW.cell hz5).trans q2, (hW.cell hz5).trans q3, (hW.cell hbl).trans hcell', hW⟩)
      have hbd : Below w6.heap.size w6 w6.drew := Below.drew (Below.refl _ _)
      have hbw : Below w1.heap.size w1 w6.drew := hb6.trans (hbd.mono hb6.size)
      go_region_held3 (fun W => W.cell? ⟨w.heap.size, 0, none⟩ = some (.int .i64 R.f) ∧ W.cell? ⟨w.heap.size, 1, none⟩ = some (.slice a1 n1 c1) ∧ W.cell? ⟨w.heap.size, 2, none⟩ = some (.slice a2 n2 c2) ∧ W.cell? ⟨w.heap.size, 3, none⟩ = some (.slice a3 n3 c3) ∧ W.cell? ⟨b, off, none⟩ = some (.int .i64 (i : Int)) ∧ Below w6.heap.size w6 W) (first | exact HS.out _ (by assumption) | fail)
        (first
          | (go_at_call 123; refine (hPut.out _ hbw).mono ?_; rintro e w7 ⟨v8, rfl, hm8⟩; have hb7 : Below w6.heap.size w6 w7 := hbd.trans (hm8.bel.mono hbd.size))
          | (go_at_call 122; refine (HT2.out _ _ _ _ hm8).mono ?_; rintro e w9 ⟨v9, rfl, hm9⟩; have hb9 : Below w6.heap.size w6 w9 := hbd.trans (hm9.bel.mono hbd.size)))
      go_wp2_with fail
      go_ret3
      exact ⟨_, by rw [HE'.out, HT'.out]; rfl, by rw [HF'.out]; exact hm9.after (Hb1.out.trans (hbw.mono Hb1.out.size))⟩
  · have HE : Hid (errFirst R l = err2 R l) := hid_ (if_neg he)
    have HF : Hid (resFirst R l = []) := hid_ (if_neg he)
    have HT : Hid (isFirst R l = false) := hid_ (by rw [isFirst, decide_eq_false he]; rfl)
    generalize err2 R l = er at *
    have hq : (er != 0) = true := by simpa using he
    clear he
    go_enter Try.func41, Try.ntmps41
    go_wp2_with (go_at_call 32; refine HV.out.mono ?_; rintro e w4 ⟨v4, rfl, hm⟩; obtain ⟨a7, c7, rfl, hI7⟩ := hm.at_; have hb6 := hm.bel; clear hm)
    go_ret3
    exact ⟨_, by rw [HE.out, HT.out] <;> rfl, by rw [HF.out]; exact Made.none_ _ (Hb1.out.trans (hb6.mono Hb1.out.size))⟩
end Go.Proofs.Ytnpdhmejnoplcaa
