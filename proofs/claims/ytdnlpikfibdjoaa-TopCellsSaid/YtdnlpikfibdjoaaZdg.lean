import Derived.Test.YtdnlpikfibdjoaaZdf
namespace Go.Proofs.Ytdnlpikfibdjoaa
open Go.RowKit Go.Proofs.Kv Go

/-! ### equal paradigms are found equal -/
theorem same_yes8 (a : Option Addr) (n c : Nat) (M : List Int) (a' : Option Addr) (n' c' : Nat) (W : World) (h1 : IntsAt W a n c M) (h2 : IntsAt W a' n' c' M) :
    Calls Try.prog 15 #[.slice a n c, .slice a' n' c'] W fun e w' => e = .returned (.bool true) ∧ Below W.heap.size W w' :=
  (same_calls a n c M a' n' c' M W h1 h2).mono fun e w' ⟨he, q, hq⟩ => ⟨by rw [he]; simp [Same], by rw [hq]; exact below_drewN (Below.refl _ _) _⟩
set_option maxRecDepth 100000 in
set_option maxHeartbeats 8000000 in
theorem r6Equal_yes (v v' : Value) (P : Par) (w : World) (h : ParAt w v P) (h' : ParAt w v' P) :
    Calls Try.prog 16 #[v, v'] w fun e w' => e = .returned (.bool true) ∧ Below w.heap.size w w' := by
  obtain ⟨Q, hQ⟩ : ∃ Q, Q = P := ⟨P, rfl⟩
  have h'2 : ParAt w v' Q := by rw [hQ]; exact h'
  clear h'
  have h' := h'2
  clear h'2
  have HP := hid_ h; have HQQ := hid_ h'
  obtain ⟨a1, n1, c1, a2, n2, c2, rfl, h1, h2⟩ := h
  obtain ⟨b1, m1, d1, b2, m2, d2, rfl, k1, k2⟩ := h'
  obtain ⟨w1, hw1⟩ : ∃ w1, w.alloc (.cells #[.slice a1 n1 c1, .slice a2 n2 c2] 25) = w1 := ⟨_, rfl⟩
  obtain ⟨w2, hw2⟩ : ∃ w2, w1.alloc (.cells #[.slice b1 m1 d1, .slice b2 m2 d2] 25) = w2 := ⟨_, rfl⟩
  have z1 : w1.heap.size = w.heap.size + 1 := by rw [← hw1]; simp
  have cb1 : Below w.heap.size w w1 := by rw [← hw1]; exact below_alloc _ _
  have cb2 : Below w1.heap.size w1 w2 := by rw [← hw2]; exact below_alloc _ _
  have cb : Below w.heap.size w w2 := cb1.trans (cb2.mono cb1.size)
  have q0 : w2.cell? ⟨w.heap.size, 0, none⟩ = some (.slice a1 n1 c1) := cell_below (by rw [← hw1]; exact cells_alloc _ _ _ 0) cb2
  have q1 : w2.cell? ⟨w.heap.size, 1, none⟩ = some (.slice a2 n2 c2) := cell_below (by rw [← hw1]; exact cells_alloc _ _ _ 1) cb2
  have r0 : w2.cell? ⟨w.heap.size + 1, 0, none⟩ = some (.slice b1 m1 d1) := by rw [← z1, ← hw2]; exact cells_alloc _ _ _ 0
  have r1 : w2.cell? ⟨w.heap.size + 1, 1, none⟩ = some (.slice b2 m2 d2) := by rw [← z1, ← hw2]; exact cells_alloc _ _ _ 1
  have HP2 := hid_ (HP.out.below cb (Nat.le_refl _)); have HQ2 := hid_ (HQQ.out.below cb (Nat.le_refl _)); have Hc2 := hid_ cb
  clear cb1 cb2
  subst hQ
  have e1 : m1 = n1 := by rw [← h1.len, ← k1.len]
  have e2 : m2 = n2 := by rw [← h2.len, ← k2.len]
  subst e1; subst e2
  have hn2 : m2 ≤ 9223372036854775807 := Nat.le_trans h2.le h2.small
  have HA := hid_ (h1.below cb (Nat.le_refl _)); have HB := hid_ (k1.below cb (Nat.le_refl _))
  have HC := hid_ (h2.below cb (Nat.le_refl _)); have HD := hid_ (k2.below cb (Nat.le_refl _))
  clear h1 h2 k1 k2 cb
  go_enter Try.func16, Try.ntmps16
  go_wp2_with (go_at_call 15; (with_reducible refine (same_yes8 _ _ _ _ _ _ _ _ HA.out HB.out).mono ?_); rintro e w3 ⟨rfl, hb3⟩; have q03 := cell_below q0 hb3; have q13 := cell_below q1 hb3; have r03 := cell_below r0 hb3; have r13 := cell_below r1 hb3)
  have Hb3 := hid_ hb3
  have Hq := hid_ (And.intro q1 r1)
  clear hb3 q0 q1 r0 r1 q03 q13 r03 r13
  go_loopw [5] (fun i wr => ∃ k : Nat, k ≤ m2 ∧ i = .int .i64 k ∧ Below w2.heap.size w2 wr) (fun i _ => m2 - (intOf i).toNat)
  case atStart => exact ⟨0, Nat.zero_le _, rfl, Hb3.out⟩
  case round =>
    obtain ⟨k, hk, rfl, hb⟩ := hrel
    have p0 := cell_below Hq.out.1 hb; have p1 := cell_below Hq.out.2 hb
    by_cases hlt : k < m2
    · obtain ⟨b, off, a5, n5, c5, rfl, hbl, k0, k1, hi⟩ := (HC.out.below hb (Nat.le_refl _)).cells k hlt
      obtain ⟨b', off', a6, n6, c6, rfl, hbl', l0, l1, hj⟩ := (HD.out.below hb (Nat.le_refl _)).cells k hlt
      have hS := fun d os => same_yes8 a5 n5 c5 _ a6 n6 c6 (Go.Sort.grow (redrawn wr d) os) (hi.below (below_regrown wr d os) (Nat.le_refl _)) (hj.below (below_regrown wr d os) (Nat.le_refl _))
      have HS := hid_ hS
      generalize (Q.ents.getD k E0).form = fm at *
      have g0 := cell_regrown p0; have g1 := cell_regrown p1; have g2 := cell_regrown k0; have g3 := cell_regrown k1; have g4 := cell_regrown l0; have g5 := cell_regrown l1
      have Hb := hid_ hb
      clear hS hi hj hb
      go_wp2_with fail
      refine wp_region_quiet_below (by kernel_rfl) (by kernel_rfl) ?_
      repeat (first | go_big_quiet_skip | (go_big_quiet_want; go_big_quiet_op; first | go_big_quiet_on | go_big_quiet_call ((go_at_call 15; with_reducible exact Calls.regrown_of (HS.out _ _)))))
      refine wpQuiet_nil ?_
      rintro wq ⟨pq, hpq⟩
      have hbL := below_wq hpq; clear hpq
      go_wp2
      exact ⟨⟨k + 1, by omega, by go_num, Hb.out.trans (hbL.mono Hb.out.size)⟩, by simp [intOf]; omega⟩
    · obtain rfl : m2 = k := by omega
      go_wp2
      go_ret
      exact ⟨rfl, Hc2.out.trans (hb.mono Hc2.out.size)⟩
end Go.Proofs.Ytdnlpikfibdjoaa
