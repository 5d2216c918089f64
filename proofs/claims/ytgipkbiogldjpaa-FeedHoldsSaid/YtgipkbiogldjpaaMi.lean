import Derived.Test.YtgipkbiogldjpaaRv
import Derived.Test.YtgipkbiogldjpaaLd
import Derived.Deep.RegionHeld3
import Derived.Laws.EntriesVeiled
namespace Go.Proofs.Ytgipkbiogldjpaa
open Go.RowKit Go.Proofs.Kv

/-! ### the reference's Mirror, Same -/
set_option maxRecDepth 100000 in
set_option maxHeartbeats 2000000 in
theorem sameR_calls (v u : Value) (R S : Rl) (w : World) (hr : RuleAt w v R) (hs : RuleAt w u S) (hRS : S = R) :
    Calls Try.prog 60 #[v, u] w fun e w' => e = .returned (.bool true) ∧ Below w.heap.size w w' := by
  have Hr := hid_ hr
  have Hs := hid_ hs
  obtain ⟨a1, n1, c1, a2, n2, c2, a3, n3, c3, rfl, h1, h2, h3⟩ := hr
  obtain ⟨b1, m1, d1, b2, m2, d2, b3, m3, d3, rfl, h4, h5, h6⟩ := hs
  obtain ⟨w0, hw0⟩ : ∃ w0, w.alloc (.cells #[.int .i64 R.f, .slice a1 n1 c1, .slice a2 n2 c2, .slice a3 n3 c3] 53) = w0 := ⟨_, rfl⟩
  have hz0 : w0.heap.size = w.heap.size + 1 := by rw [← hw0]; simp
  have Hb0 : Hid (Below w.heap.size w w0) := hid_ (by rw [← hw0]; exact below_alloc _ _)
  obtain ⟨w1, hw1⟩ : ∃ w1, w0.alloc (.cells #[.int .i64 S.f, .slice b1 m1 d1, .slice b2 m2 d2, .slice b3 m3 d3] 53) = w1 := ⟨_, rfl⟩
  have Hb01 : Hid (Below w0.heap.size w0 w1) := hid_ (by rw [← hw1]; exact below_alloc _ _)
  have Hb1 : Hid (Below w.heap.size w w1) := hid_ (Hb0.out.trans (Hb01.out.mono Hb0.out.size))
  have HW0 := hid_ hw0
  have HW1 := hid_ hw1
  have HZ0 := hid_ hz0
  have HZ1 : Hid (w1.heap.size = w.heap.size + 2) := hid_ (by rw [← hw1]; simp [HZ0.out])
  have HQ : Hid (∀ W, Below w1.heap.size w1 W → (W.cell? ⟨w.heap.size, 0, none⟩ = some (.int .i64 R.f) ∧ W.cell? ⟨w.heap.size, 1, none⟩ = some (.slice a1 n1 c1) ∧ W.cell? ⟨w.heap.size, 2, none⟩ = some (.slice a2 n2 c2) ∧ W.cell? ⟨w.heap.size, 3, none⟩ = some (.slice a3 n3 c3)) ∧ W.cell? ⟨w.heap.size + 1, 0, none⟩ = some (.int .i64 S.f) ∧ W.cell? ⟨w.heap.size + 1, 1, none⟩ = some (.slice b1 m1 d1) ∧ W.cell? ⟨w.heap.size + 1, 2, none⟩ = some (.slice b2 m2 d2) ∧ W.cell? ⟨w.heap.size + 1, 3, none⟩ = some (.slice b3 m3 d3)) := hid_ (fun W hW => ⟨box4 HW0.out (Hb01.out.trans (hW.mono Hb01.out.size)), by have := box4 HW1.out hW; rwa [HZ0.out] at this⟩)
  have HR := hid_ (fun W (hW : Below w1.heap.size w1 W) => (Hr.out.below Hb1.out (Nat.le_refl _)).below hW (Nat.le_refl _))
  have HS := hid_ (fun W (hW : Below w1.heap.size w1 W) => (Hs.out.below Hb1.out (Nat.le_refl _)).below hW (Nat.le_refl _))
  have hb1 : Below w1.heap.size w1 w1 := Below.refl _ _
  obtain ⟨⟨q0, q1, q2, q3⟩, s0, s1, s2, s3⟩ := HQ.out w1 hb1

  subst hRS
  have H1 := hid_ (fun W (hW : Below w1.heap.size w1 W) => sameT_calls a1 n1 c1 S.o b1 m1 d1 W ((h1.below Hb1.out (Nat.le_refl _)).below hW (Nat.le_refl _)) ((h4.below Hb1.out (Nat.le_refl _)).below hW (Nat.le_refl _)))
  have H2 := hid_ (fun W (hW : Below w1.heap.size w1 W) => sameT_calls a2 n2 c2 S.le b2 m2 d2 W ((h2.below Hb1.out (Nat.le_refl _)).below hW (Nat.le_refl _)) ((h5.below Hb1.out (Nat.le_refl _)).below hW (Nat.le_refl _)))
  have H3 := hid_ (fun W (hW : Below w1.heap.size w1 W) => sameT_calls a3 n3 c3 S.ri b3 m3 d3 W ((h3.below Hb1.out (Nat.le_refl _)).below hW (Nat.le_refl _)) ((h6.below Hb1.out (Nat.le_refl _)).below hW (Nat.le_refl _)))
  clear h1 h2 h3 h4 h5 h6
  go_enter Try.func60, Try.ntmps60
  go_wp2_with (first
    | (go_at_call 18; (with_reducible refine (H1.out _ hb1).mono ?_); rintro e w5 ⟨rfl, hc5⟩; have hb5 : Below w1.heap.size w1 w5 := hb1.trans (hc5.mono hb1.size); clear q0 q1 q2 q3 s0 s1 s2 s3; obtain ⟨⟨q0, q1, q2, q3⟩, s0, s1, s2, s3⟩ := HQ.out w5 hb5)
    | (go_at_call 18; (with_reducible refine (H2.out _ hb5).mono ?_); rintro e w6 ⟨rfl, hc6⟩; have hb6 : Below w1.heap.size w1 w6 := hb5.trans (hc6.mono hb5.size); clear q0 q1 q2 q3 s0 s1 s2 s3; obtain ⟨⟨q0, q1, q2, q3⟩, s0, s1, s2, s3⟩ := HQ.out w6 hb6)
    | (go_at_call 18; (with_reducible refine (H3.out _ hb6).mono ?_); rintro e w7 ⟨rfl, hc7⟩; have hb7 : Below w1.heap.size w1 w7 := hb6.trans (hc7.mono hb6.size); clear q0 q1 q2 q3 s0 s1 s2 s3; obtain ⟨⟨q0, q1, q2, q3⟩, s0, s1, s2, s3⟩ := HQ.out w7 hb7))
  go_ret
  exact ⟨rfl, Hb1.out.trans (hb7.mono Hb1.out.size)⟩
end Go.Proofs.Ytgipkbiogldjpaa
