import Derived.Test.YtnpdhmejnoplcaaPi
import Derived.Deep.RegionHeld3
namespace Go.Proofs.Ytnpdhmejnoplcaa
open Go.RowKit Go.Proofs.Kv

/-! ### AtAll -/
def errAll (R : Rl) (l : List Int) : Int := if err2 R l = 0 then putErr R (plP R l) l else err2 R l
def resAll (R : Rl) (l : List Int) : List Int := if err2 R l = 0 then putRes R (plP R l) l else []
theorem plP_len {R : Rl} {l : List Int} : (plP R l).length ≤ l.length + 1 := pl_le _ _
set_option maxRecDepth 100000 in
set_option maxHeartbeats 1000000 in
theorem ruAtAll_calls (v : Value) (R : Rl) (a : Option Addr) (n c : Nat) (l : List Int) (w : World) (hr : RuleAt w v R) (h : IntsAt w a n c l) :
    Calls Try.prog 42 #[v, .slice a n c] w fun e w' => ∃ v', e = .returned (.tuple #[v', .int .i64 (errAll R l)]) ∧ Made 3 w w' v' (resAll R l) := by
  have Hr := hid_ hr
  obtain ⟨a1, n1, c1, a2, n2, c2, a3, n3, c3, rfl, h1, h2, h3⟩ := hr
  clear h1 h2 h3
  obtain ⟨w1, hw1⟩ : ∃ w1, w.alloc (.cells #[.int .i64 R.f, .slice a1 n1 c1, .slice a2 n2 c2, .slice a3 n3 c3] 24) = w1 := ⟨_, rfl⟩
  have Hb1 : Hid (Below w.heap.size w w1) := hid_ (by rw [← hw1]; exact below_alloc _ _)
  obtain ⟨k0, k1, k2, k3⟩ := box4 hw1 (Below.refl _ _)
  have HR1 := hid_ (Hr.out.below Hb1.out (Nat.le_refl _))
  have HI1 := hid_ (h.below Hb1.out (Nat.le_refl _))
  have HW1 := hid_ hw1
  have Hv1 := hid_ (ruValidate_calls _ R w1 HR1.out)
  have Hv2 := hid_ (fun w2 (hb : Below w1.heap.size w1 w2) => ruValidateWord_calls a n c l w2 (HI1.out.below hb (Nat.le_refl _)))
  have Hor := hid_ (show ∀ (w : World) (T : TypeId), Calls Try.prog 109 #[.slice (some ⟨w.heap.size, 0, none⟩) 2 2] (w.alloc (.cells #[.int .i64 (validR R), .int .i64 (validW l)] T)) fun e w' => e = .returned (.int .i64 (err2 R l)) ∧ w.alloc (.cells #[.int .i64 (validR R), .int .i64 (validW l)] T) = w' from fun w T => or2_calls _ _ w T)
  have Hok := hid_ (@err2_ok R l)
  by_cases he : err2 R l = 0
  · obtain ⟨e1, e2⟩ := Hok.out he
    obtain ⟨g1, g2, g3, g4, g5, g6⟩ := validR_ok e1
    obtain ⟨g7, g8⟩ := validW_ok e2
    have hn8 : n ≤ 8 := by rw [← h.len]; exact g7
    have Hpl := hid_ (fun W (hW : Below w1.heap.size w1 W) => placesP_calls _ R a n c l W (HR1.out.below hW (Nat.le_refl _)) (HI1.out.below hW (Nat.le_refl _)) (by omega) g5 g6 g8)
    have Hput := hid_ (fun W (hW : Below w1.heap.size w1 W) (A : Option Addr) m k (hA : IntsAt W A m k (plP R l)) => put_calls _ R a n c l A m k (plP R l) W (HR1.out.below hW (Nat.le_refl _)) (HI1.out.below hW (Nat.le_refl _)) hA (by omega) (by have := plP_len (R := R) (l := l); have := hA.len; omega) g3 plP_ok)
    have Hf : Hid (resAll R l = putRes R (plP R l) l) := hid_ (if_pos he)
    have HE : Hid (errAll R l = putErr R (plP R l) l) := hid_ (if_pos he)
    rw [he] at Hor
    try rw [he]
    clear g1 g2 g3 g4 g5 g6 g7 g8 e1 e2 he
    generalize validR R = x1 at *
    generalize validW l = x2 at *
    go_enter Try.func42, Try.ntmps42
    go_wp2_with (first
      | (go_at_call 33; refine Hv1.out.mono ?_; rintro e w4 ⟨rfl, hb2⟩)
      | (go_at_call 35; refine (Hv2.out _ hb2).mono ?_; rintro e w' ⟨rfl, rfl⟩)
      | (go_at_call 109; refine (Hor.out _ _).mono ?_; rintro e w5 ⟨rfl, hw5⟩; have hb3 : Below w1.heap.size w1 w5 := (by rw [← hw5]; exact hb2.trans ((below_alloc w4 _).mono hb2.size)); clear hw5; obtain ⟨q0, q1, q2, q3⟩ := box4 HW1.out hb3))
    have hz5 : w.heap.size < w5.heap.size := World.block_lt_of_cell? w5 ⟨w.heap.size, 0, none⟩ q0
    have HS : Hid (∀ W, Below w5.heap.size w5 W → W.cell? ⟨w.heap.size, 0, none⟩ = some (.int .i64 R.f) ∧ W.cell? ⟨w.heap.size, 1, none⟩ = some (.slice a1 n1 c1) ∧ W.cell? ⟨w.heap.size, 2, none⟩ = some (.slice a2 n2 c2) ∧ W.cell? ⟨w.heap.size, 3, none⟩ = some (.slice a3 n3 c3) ∧ Below w5.heap.size w5 W) := hid_ (fun W hW =>
      ⟨(hW.cell hz5).trans q0, (hW.cell hz5).trans q1, (hW.cell hz5).trans q2, (hW.cell hz5).trans q3, hW⟩)
    have hbd : Below w5.heap.size w5 w5.drew := Below.drew (Below.refl _ _)
    have hbd1 : Below w1.heap.size w1 w5.drew := hb3.trans (hbd.mono hb3.size)
    go_region_held3 (fun W => W.cell? ⟨w.heap.size, 0, none⟩ = some (.int .i64 R.f) ∧ W.cell? ⟨w.heap.size, 1, none⟩ = some (.slice a1 n1 c1) ∧ W.cell? ⟨w.heap.size, 2, none⟩ = some (.slice a2 n2 c2) ∧ W.cell? ⟨w.heap.size, 3, none⟩ = some (.slice a3 n3 c3) ∧ Below w5.heap.size w5 W) (first | exact HS.out _ (by assumption) | fail)
      (first
        | (go_at_call 110; refine (Hpl.out _ hbd1).mono ?_; rintro e w7 ⟨v8, rfl, hm8⟩; obtain ⟨a8, c8, rfl, hI8⟩ := hm8.at_; have hb7 : Below w5.heap.size w5 w7 := hbd.trans (hm8.bel.mono hbd.size); have hb71 : Below w1.heap.size w1 w7 := hbd1.trans (hm8.bel.mono hbd1.size); clear hm8)
        | (go_at_call 124; refine (Hput.out _ hb71 _ _ _ hI8).mono ?_; rintro e w9 ⟨v9, rfl, hm9⟩; have hb9 : Below w5.heap.size w5 w9 := hb7.trans (hm9.bel.mono hb7.size)))
    go_wp2_with fail
    go_ret2
    exact ⟨_, by rw [HE.out] <;> rfl, by rw [Hf.out]; exact hm9.after (Hb1.out.trans (hb71.mono Hb1.out.size))⟩
  ·
    have Hf : Hid (resAll R l = []) := hid_ (if_neg he)
    have HE : Hid (errAll R l = err2 R l) := hid_ (if_neg he)
    generalize validR R = x1 at *
    generalize validW l = x2 at *
    generalize err2 R l = er at *
    have hq : (er != 0) = true := by simpa using he
    clear he
    go_enter Try.func42, Try.ntmps42
    go_wp2_with (first
      | (go_at_call 33; refine Hv1.out.mono ?_; rintro e w4 ⟨rfl, hb2⟩)
      | (go_at_call 35; refine (Hv2.out _ hb2).mono ?_; rintro e w' ⟨rfl, rfl⟩)
      | (go_at_call 109; refine (Hor.out _ _).mono ?_; rintro e w5 ⟨rfl, hw5⟩; have hb3 : Below w1.heap.size w1 w5 := (by rw [← hw5]; exact hb2.trans ((below_alloc w4 _).mono hb2.size)); clear hw5; obtain ⟨q0, q1, q2, q3⟩ := box4 HW1.out hb3))
    go_ret2
    exact ⟨_, by rw [HE.out] <;> rfl, by rw [Hf.out]; exact Made.none_ _ (Hb1.out.trans (hb3.mono Hb1.out.size))⟩
end Go.Proofs.Ytnpdhmejnoplcaa
