import Derived.Test.YtdnlpikfibdjoaaZ3
import Derived.Test.YtdnlpikfibdjoaaZae
namespace Go.Proofs.Ytdnlpikfibdjoaa
open Go.RowKit Go.Proofs.Kv

/-! ### the same forms: the program -/
def orE (x y : Int) : Int := if x = 0 then y else x
set_option maxRecDepth 100000 in
set_option maxHeartbeats 2000000 in
theorem or_calls (a : Option Addr) (c : Nat) (x y : Int) (w : World) (h : IntsAt w a 2 c [x, y]) :
    Calls Try.prog 59 #[.slice a 2 c] w fun e w' => e = .returned (.int .i64 (orE x y)) ∧ w = w' := by
  obtain ⟨b, off, rfl, hb, hc0⟩ := h.cells 0 (by omega)
  obtain ⟨b', off', e, hb', hc1⟩ := h.cells 1 (by omega)
  injection e with e; injection e with e1 e2
  subst e1 e2
  rw [Nat.add_zero] at hc0
  have hg0 : ([x, y] : List Int).getD 0 0 = x := rfl
  have hg1 : ([x, y] : List Int).getD 1 0 = y := rfl
  rw [hg0] at hc0; rw [hg1] at hc1
  clear h hb hb' hg0 hg1
  have hor : Hid (orE x y = if x = 0 then y else x) := hid_ rfl
  by_cases hx : x = 0
  · subst hx
    by_cases hy : y = 0
    · subst hy
      have Hf : Hid (orE 0 0 = 0) := hid_ rfl
      go_enter Try.func59, Try.ntmps59
      go_wp2
      go_loopw [8] (fun i wr => ∃ k : Nat, k ≤ 2 ∧ i = .int .i64 k ∧ wr = w) (fun i _ => 2 - (intOf i).toNat)
      case atStart => exact ⟨0, by omega, rfl, rfl⟩
      case round =>
        obtain ⟨k, hk, rfl, rfl⟩ := hrel
        rcases (show k = 0 ∨ k = 1 ∨ k = 2 by omega) with rfl | rfl | rfl
        · go_wp2
          go_roundw
          case rel => exact ⟨1, by omega, by go_num, trivial⟩
          case measure => simp [intOf]
        · go_wp2
          go_roundw
          case rel => exact ⟨2, by omega, by go_num, trivial⟩
          case measure => simp [intOf]
        · go_wp2
          go_ret
          exact ⟨by rw [Hf.out]; rfl, rfl⟩
    · have Hf : Hid (orE 0 y = y) := hid_ rfl
      have hq : (y != 0) = true := by simpa using hy
      clear hy
      go_enter Try.func59, Try.ntmps59
      go_wp2
      go_loopw [8] (fun i wr => ∃ k : Nat, k ≤ 1 ∧ i = .int .i64 k ∧ wr = w) (fun i _ => 2 - (intOf i).toNat)
      case atStart => exact ⟨0, by omega, rfl, rfl⟩
      case round =>
        obtain ⟨k, hk, rfl, rfl⟩ := hrel
        rcases (show k = 0 ∨ k = 1 by omega) with rfl | rfl
        · go_wp2
          go_roundw
          case rel => exact ⟨1, by omega, by go_num, trivial⟩
          case measure => simp [intOf]
        · go_wp2
          go_ret
          exact ⟨by rw [Hf.out]; rfl, rfl⟩
  · have Hf : Hid (orE x y = x) := hid_ (if_neg hx)
    have hq : (x != 0) = true := by simpa using hx
    clear hx
    go_enter Try.func59, Try.ntmps59
    go_wp2
    go_loopw [8] (fun i wr => i = .int .i64 (0 : Nat) ∧ wr = w) (fun _ _ => 0)
    case atStart => exact ⟨rfl, rfl⟩
    case round =>
      obtain ⟨rfl, rfl⟩ := hrel
      go_wp2
      go_ret
      exact ⟨by rw [Hf.out]; rfl, rfl⟩
set_option maxRecDepth 100000 in
set_option maxHeartbeats 8000000 in
theorem sameFill_calls (v v' : Value) (P Q : Par) (w : World) (h : ParAt w v P) (h' : ParAt w v' Q) (hv : validP P = 0) (hu : validP Q = 0) :
    Calls Try.prog 61 #[v, v'] w fun e w' => e = .returned (.bool (Same (fillL P) (fillL Q))) ∧ Below w.heap.size w w' := by
  have HP := hid_ h; have HQQ := hid_ h'
  obtain ⟨a1, n1, c1, a2, n2, c2, rfl, h1, h2⟩ := h
  obtain ⟨b1, m1, d1, b2, m2, d2, rfl, k1, k2⟩ := h'
  obtain ⟨w1, hw1⟩ : ∃ w1, w.alloc (.cells #[.slice a1 n1 c1, .slice a2 n2 c2] 25) = w1 := ⟨_, rfl⟩
  obtain ⟨w2, hw2⟩ : ∃ w2, w1.alloc (.cells #[.slice b1 m1 d1, .slice b2 m2 d2] 25) = w2 := ⟨_, rfl⟩
  have z1 : w1.heap.size = w.heap.size + 1 := by rw [← hw1]; simp
  have cb1 : Below w.heap.size w w1 := by rw [← hw1]; exact below_alloc _ _
  have cb2 : Below w1.heap.size w1 w2 := by rw [← hw2]; exact below_alloc _ _
  have cb : Below w.heap.size w w2 := cb1.trans (cb2.mono cb1.size)
  have q0 : w2.cell? ⟨w.heap.size, 0, none⟩ = some (.slice a1 n1 c1) := cell_below (by rw [← hw1]; exact cells_alloc _ _ _ 0) cb2
  have q1 : w2.cell? ⟨w.heap.size, 1, none⟩ = some (.slice a2 n2 c2) := cell_below (by rw [← hw1]; exact cells_alloc _ _ _ 1) cb2
  have r0 : w2.cell? ⟨w.heap.size + 1, 0, none⟩ = some (.slice b1 m1 d1) := by rw [← z1, ← hw2]; exact cells_alloc _ _ _ 0
  have r1 : w2.cell? ⟨w.heap.size + 1, 1, none⟩ = some (.slice b2 m2 d2) := by rw [← z1, ← hw2]; exact cells_alloc _ _ _ 1
  have HP2 := hid_ (HP.out.below cb (Nat.le_refl _)); have HQ2 := hid_ (HQQ.out.below cb (Nat.le_refl _)); have Hc2 := hid_ cb
  clear cb1 cb2
  have HF := hid_ (fun W (hW : Below w2.heap.size w2 W) => cefill_calls _ P W (HP2.out.below hW (Nat.le_refl _)) hv)
  have HG := hid_ (fun W (hW : Below w2.heap.size w2 W) => cefill_calls _ Q W (HQ2.out.below hW (Nat.le_refl _)) hu)
  have HQ := hid_ (fun W (hW : Below w2.heap.size w2 W) => And.intro (cell_below q0 hW) (And.intro (cell_below q1 hW) (And.intro (cell_below r0 hW) (And.intro (cell_below r1 hW) hW))))
  have hbb : Below w2.heap.size w2 w2 := Below.refl _ _
  have HD : Hid (fillL P = fillL P ∧ fillL Q = fillL Q) := hid_ ⟨rfl, rfl⟩
  clear h1 h2 k1 k2 hv hu cb
  generalize fillL P = M at *
  generalize fillL Q = N at *
  obtain ⟨m, hm⟩ : ∃ m, M.length = m := ⟨_, rfl⟩
  obtain ⟨n, hn⟩ : ∃ n, N.length = n := ⟨_, rfl⟩
  have Hm := hid_ hm; have Hn := hid_ hn
  clear hm hn
  go_enter Try.func61, Try.ntmps61
  go_wp2_with fail
  go_region_held3 (fun W => W.cell? ⟨w.heap.size, 0, none⟩ = some (.slice a1 n1 c1) ∧ W.cell? ⟨w.heap.size, 1, none⟩ = some (.slice a2 n2 c2) ∧ W.cell? ⟨w.heap.size + 1, 0, none⟩ = some (.slice b1 m1 d1) ∧ W.cell? ⟨w.heap.size + 1, 1, none⟩ = some (.slice b2 m2 d2) ∧ Below w2.heap.size w2 W) ((refine HQ.out _ ?_; (repeat (first | assumption | (with_reducible refine Below.alloc ?_ (by first | omega | (simp; done) | (simp; omega)) _) | (with_reducible refine Below.setCell ?_ (by first | omega | (simp; done) | (simp; omega)) _) | (with_reducible refine Below.drew ?_) | (with_reducible refine below_drewN ?_ _)))))
    (first
      | (go_at_call 76; (with_reducible refine (HF.out _ ?_).mono ?_); (focus (repeat (first | assumption | (with_reducible refine Below.alloc ?_ (by first | omega | (simp; done) | (simp; omega)) _) | (with_reducible refine Below.setCell ?_ (by first | omega | (simp; done) | (simp; omega)) _) | (with_reducible refine Below.drew ?_) | (with_reducible refine below_drewN ?_ _)))); rintro e w5 ⟨v5, rfl, hm5⟩; obtain ⟨a5, c5, rfl, hi5⟩ := hm5.at_; have hb5 : Below w2.heap.size w2 w5 := below_then (by (repeat (first | assumption | (with_reducible refine Below.alloc ?_ (by first | omega | (simp; done) | (simp; omega)) _) | (with_reducible refine Below.setCell ?_ (by first | omega | (simp; done) | (simp; omega)) _) | (with_reducible refine Below.drew ?_) | (with_reducible refine below_drewN ?_ _)))) hm5.bel; rw [Hm.out] at hi5 ⊢; have Hi5 := hid_ hi5; clear hi5 hm5)
      | (go_at_call 76; (with_reducible refine (HG.out _ ?_).mono ?_); (focus (repeat (first | assumption | (with_reducible refine Below.alloc ?_ (by first | omega | (simp; done) | (simp; omega)) _) | (with_reducible refine Below.setCell ?_ (by first | omega | (simp; done) | (simp; omega)) _) | (with_reducible refine Below.drew ?_) | (with_reducible refine below_drewN ?_ _)))); rintro e w6 ⟨v6, rfl, hm6⟩; obtain ⟨a6, c6, rfl, hi6⟩ := hm6.at_; have hb6 : Below w2.heap.size w2 w6 := below_then (by (repeat (first | assumption | (with_reducible refine Below.alloc ?_ (by first | omega | (simp; done) | (simp; omega)) _) | (with_reducible refine Below.setCell ?_ (by first | omega | (simp; done) | (simp; omega)) _) | (with_reducible refine Below.drew ?_) | (with_reducible refine below_drewN ?_ _)))) hm6.bel; rw [Hn.out] at hi6 ⊢; have Hi6 := hid_ hi6; have Hi56 := hid_ (Hi5.out.below hm6.bel (Nat.le_refl _)); clear hi6 hm6)
      | (go_at_call 60; (with_reducible refine (equal_calls _ _ _ M _ _ _ N _ Hi56.out Hi6.out).mono ?_); rintro e w7 ⟨rfl, q7, rfl⟩))
  go_wp2
  go_ret
  exact ⟨rfl, below_drewN (Hc2.out.trans (hb6.mono Hc2.out.size)) _⟩
end Go.Proofs.Ytdnlpikfibdjoaa
