import Derived.Test.YtpcpmdokgdbonaaVS
namespace Go.Proofs.Ytpcpmdokgdbonaa
open Go.RowKit Go.Proofs.Kv Go

/-! ### Same of equal lexicons -/
set_option maxRecDepth 100000 in
set_option maxHeartbeats 4000000 in
theorem r8Same_yes (v v' : Value) (L : Lx) (w : World) (h : LexAt w v L) (h' : LexAt w v' L) :
    Calls Try.prog 28 #[v, v'] w fun e w' => e = .returned (.bool true) ∧ Below w.heap.size w w' := by
  have HP := hid_ h; have HQQ := hid_ h'
  obtain ⟨a1, n1, c1, a2, n2, c2, rfl, h1, h2⟩ := h
  obtain ⟨b1, m1, d1, b2, m2, d2, rfl, k1, k2⟩ := h'
  obtain rfl : n1 = m1 := by rw [← h1.len, ← k1.len]
  obtain rfl : n2 = m2 := by rw [← h2.len, ← k2.len]
  obtain ⟨w1, hw1⟩ : ∃ w1, w.alloc (.cells #[.slice a1 n1 c1, .slice a2 n2 c2] 25) = w1 := ⟨_, rfl⟩
  obtain ⟨w2, hw2⟩ : ∃ w2, w1.alloc (.cells #[.slice b1 n1 d1, .slice b2 n2 d2] 25) = w2 := ⟨_, rfl⟩
  have z1 : w1.heap.size = w.heap.size + 1 := by rw [← hw1]; simp
  have cb1 : Below w.heap.size w w1 := by rw [← hw1]; exact below_alloc _ _
  have cb2 : Below w1.heap.size w1 w2 := by rw [← hw2]; exact below_alloc _ _
  have cb : Below w.heap.size w w2 := cb1.trans (cb2.mono cb1.size)
  have q0 : w2.cell? ⟨w.heap.size, 0, none⟩ = some (.slice a1 n1 c1) := cell_below (by rw [← hw1]; exact cells_alloc _ _ _ 0) cb2
  have q1 : w2.cell? ⟨w.heap.size, 1, none⟩ = some (.slice a2 n2 c2) := cell_below (by rw [← hw1]; exact cells_alloc _ _ _ 1) cb2
  have r0 : w2.cell? ⟨w.heap.size + 1, 0, none⟩ = some (.slice b1 n1 d1) := by rw [← z1, ← hw2]; exact cells_alloc _ _ _ 0
  have r1 : w2.cell? ⟨w.heap.size + 1, 1, none⟩ = some (.slice b2 n2 d2) := by rw [← z1, ← hw2]; exact cells_alloc _ _ _ 1
  have HI := hid_ (h1.below cb (Nat.le_refl _)); have HJ := hid_ (k1.below cb (Nat.le_refl _))
  have HSl := hid_ (fun q => sameL8_calls a2 n2 c2 L.follow b2 n2 d2 L.follow (w2.drewN q) ((h2.below cb (Nat.le_refl _)).drewN q) ((k2.below cb (Nat.le_refl _)).drewN q))
  rw [decide_eq_true rfl] at HSl
  have hn : n1 ≤ 9223372036854775807 := Nat.le_trans h1.le h1.small
  have Hc := hid_ cb
  have hnn : ((n1 : Int) != (n1 : Int)) = false := by simp
  clear h1 h2 k1 k2 cb cb1 cb2 HP HQQ
  go_enter Try.func28, Try.ntmps28
  go_wp2
  clear hw1 hw2
  go_loopw [5] (fun i wr => ∃ k q : Nat, k ≤ n1 ∧ i = .int .i64 k ∧ wr = w2.drewN q) (fun i _ => n1 - (intOf i).toNat)
  case atStart => exact ⟨0, 0, Nat.zero_le _, rfl, rfl⟩
  case round =>
    obtain ⟨k, q, hk, rfl, hq⟩ := hrel
    have q0r : wr.cell? ⟨w.heap.size, 0, none⟩ = some (.slice a1 n1 c1) := by rw [hq]; exact q0
    have q1r : wr.cell? ⟨w.heap.size, 1, none⟩ = some (.slice a2 n2 c2) := by rw [hq]; exact q1
    have r0r : wr.cell? ⟨w.heap.size + 1, 0, none⟩ = some (.slice b1 n1 d1) := by rw [hq]; exact r0
    have r1r : wr.cell? ⟨w.heap.size + 1, 1, none⟩ = some (.slice b2 n2 d2) := by rw [hq]; exact r1
    by_cases hlt : k < n1
    · have HIr := HI.out.drewN q; have HJr := HJ.out.drewN q
      rw [← hq] at HIr HJr
      obtain ⟨b, off, a3, n3, c3, rfl, -, x0, x1, x2, hx⟩ := HIr.cells k hlt
      obtain ⟨b', off', a4, n4, c4, rfl, -, y0, y1, y2, hy⟩ := HJr.cells k hlt
      have HE := hid_ (fun q2 => sameI8_calls a3 n3 c3 _ a4 n4 c4 _ (wr.drewN q2) (hx.drewN q2) (hy.drewN q2))
      rw [decide_eq_true rfl] at HE
      have Hq := hid_ hq
      generalize (L.items.getD k I0).kind = kk at *
      generalize (L.items.getD k I0).cost = kc at *
      have e1 : (kk != kk) = false := by simp
      have e2 : (kc != kc) = false := by simp
      clear hx hy HIr HJr hq
      go_wp2_with fail
      go_wp2_with fail
      go_quiet ((go_at_call 38; exact quiet_more (HE.out _)))
      go_wp2
      go_roundw
      case rel => exact ⟨k + 1, _, by omega, by go_num, by rw [Hq.out, drewN2]⟩
      case measure => simp [intOf]; omega
    · obtain rfl : n1 = k := by omega
      have HSr := hid_ (HSl.out q)
      rw [← hq] at HSr
      have Hq := hid_ hq
      clear hq
      go_wp2_with (go_at_call 21; (with_reducible refine HSr.out.mono ?_); rintro e w6 ⟨rfl, q6, hw6⟩)
      go_ret
      exact ⟨rfl, by rw [Hq.out]; exact below_drewN (below_drewN Hc.out _) _⟩
end Go.Proofs.Ytpcpmdokgdbonaa
