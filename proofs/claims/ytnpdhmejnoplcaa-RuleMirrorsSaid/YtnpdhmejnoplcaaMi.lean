import Derived.Test.YtnpdhmejnoplcaaRv
import Derived.Test.YtnpdhmejnoplcaaLd
import Derived.Deep.RegionHeld3
import Derived.Laws.EntriesVeiled
namespace Go.Proofs.Ytnpdhmejnoplcaa
open Go.RowKit Go.Proofs.Kv

/-! ### the reference's Mirror, Same -/
set_option maxRecDepth 100000 in
set_option maxHeartbeats 4000000 in
theorem r2Mirror_calls (v : Value) (R : Rl) (w : World) (hr : RuleAt w v R) (l2 : R.le.length ≤ 100) (l3 : R.ri.length ≤ 100) :
    Calls Try.prog 60 #[v] w fun e w' => ∃ v', e = .returned (.tuple #[v', .int .i64 (validR R)]) ∧ RuleAt w' v' (mirR R) ∧ Below w.heap.size w w' := by
  have Hr := hid_ hr
  obtain ⟨a1, n1, c1, a2, n2, c2, a3, n3, c3, rfl, h1, h2, h3⟩ := hr
  obtain ⟨w1, hw1⟩ : ∃ w1, (w.alloc (.cells #[.int .i64 R.f, .slice a1 n1 c1, .slice a2 n2 c2, .slice a3 n3 c3] 24)).alloc (.cells #[.int .i64 0, .slice none 0 0, .slice none 0 0, .slice none 0 0] 24) = w1 := ⟨_, rfl⟩
  have hb1 : Below w.heap.size w w1 := by rw [← hw1]; exact (below_alloc _ _).alloc (by simp) _
  have hz : w1.heap.size = w.heap.size + 2 := by rw [← hw1]; simp
  have HS : Hid (∀ W, Below (w.heap.size + 1) w1 W → W.cell? ⟨w.heap.size, 0, none⟩ = some (.int .i64 R.f) ∧ W.cell? ⟨w.heap.size, 1, none⟩ = some (.slice a1 n1 c1) ∧ W.cell? ⟨w.heap.size, 2, none⟩ = some (.slice a2 n2 c2) ∧ W.cell? ⟨w.heap.size, 3, none⟩ = some (.slice a3 n3 c3) ∧ Below (w.heap.size + 1) w1 W) := hid_ (fun W hW => by
    have A : ∀ i, W.cell? ⟨w.heap.size, i, none⟩ = w1.cell? ⟨w.heap.size, i, none⟩ := fun i => hW.cell (by show w.heap.size < _; omega)
    refine ⟨?_, ?_, ?_, ?_, hW⟩ <;> (rw [A, ← hw1]; simp))
  have HRB : Hid (∀ W, Below w1.heap.size w1 W → (W.cell? ⟨w.heap.size + 1, 0, none⟩ = some (.int .i64 0) ∧ W.cell? ⟨w.heap.size + 1, 1, none⟩ = some (.slice none 0 0) ∧ W.cell? ⟨w.heap.size + 1, 2, none⟩ = some (.slice none 0 0) ∧ W.cell? ⟨w.heap.size + 1, 3, none⟩ = some (.slice none 0 0)) ∧ (W.frozen? ⟨w.heap.size + 1, 0, none⟩ = false ∧ W.frozen? ⟨w.heap.size + 1, 1, none⟩ = false ∧ W.frozen? ⟨w.heap.size + 1, 2, none⟩ = false ∧ W.frozen? ⟨w.heap.size + 1, 3, none⟩ = false)) := hid_ (fun W hW => by
    have C : ∀ i, W.cell? ⟨w.heap.size + 1, i, none⟩ = w1.cell? ⟨w.heap.size + 1, i, none⟩ := fun i => hW.cell (by show w.heap.size + 1 < _; omega)
    have F : ∀ i, W.frozen? ⟨w.heap.size + 1, i, none⟩ = w1.frozen? ⟨w.heap.size + 1, i, none⟩ := fun i => hW.frozen (by show w.heap.size + 1 < _; omega)
    have f0 : ∀ i, w1.frozen? ⟨w.heap.size + 1, i, none⟩ = false := fun i => by rw [← hw1]; exact World.frozen?_alloc_at _ _ _ _ (by simp)
    refine ⟨⟨?_, ?_, ?_, ?_⟩, (F _).trans (f0 _), (F _).trans (f0 _), (F _).trans (f0 _), (F _).trans (f0 _)⟩ <;> (rw [C, ← hw1]; simp [World.cell?_alloc_at]))
  have Hb1 := hid_ hb1
  have HV := hid_ (validate_calls _ R w1 (Hr.out.below hb1 (Nat.le_refl _)))
  have hbb : Below (w.heap.size + 1) w1 w1 := Below.refl _ _
  have hs1 : w.heap.size + 2 ≤ w1.heap.size := by rw [hz]; exact Nat.le_refl _
  obtain ⟨q0, q1, q2, q3, -⟩ := HS.out w1 hbb
  by_cases he : validR R = 0
  · have HM : Hid (mirR R = ⟨R.f, R.o.reverse, R.ri, R.le⟩) := hid_ (if_pos he)
    have ho := (validR_ok he).2.2.1
    have hn1 : n1 ≤ 2 := by have := h1.len; omega
    have HB := hid_ (fun W (hW : Below w1.heap.size w1 W) => refBack_calls a1 n1 c1 R.o W ((h1.below Hb1.out (Nat.le_refl _)).below hW (Nat.le_refl _)) (by omega))
    have HI2 := hid_ (fun W (hW : Below w1.heap.size w1 W) => (h2.below Hb1.out (Nat.le_refl _)).below hW (Nat.le_refl _))
    have HI3 := hid_ (fun W (hW : Below w1.heap.size w1 W) => (h3.below Hb1.out (Nat.le_refl _)).below hW (Nat.le_refl _))
    have HC := hid_ (fun W v (hv : RuleAt W v ⟨R.f, R.o.reverse, R.ri, R.le⟩) => copy_calls v ⟨R.f, R.o.reverse, R.ri, R.le⟩ W hv (by show R.o.reverse.length ≤ 1000; rw [List.length_reverse]; omega) (by show R.ri.length ≤ 1000; omega) (by show R.le.length ≤ 1000; omega))
    rw [he] at HV ⊢
    rw [HM.out]
    clear h1 h2 h3 hz hb1 he HM ho hn1
    go_enter Try.func60, Try.ntmps60
    go_wp2_with (go_at_call 34; (with_reducible refine HV.out.mono ?_); rintro e w4 ⟨rfl, hb4⟩; have hb41 : Below (w.heap.size + 1) w1 w4 := hb4.mono (by omega); clear q0 q1 q2 q3; obtain ⟨q0, q1, q2, q3, -⟩ := HS.out w4 hb41)
    have hbd : Below (w.heap.size + 1) w1 w4.drew := Below.drew hb41
    have hBd : Below w1.heap.size w1 w4.drew := Below.drew hb4
    go_region_held3 (fun W => W.cell? ⟨w.heap.size, 0, none⟩ = some (.int .i64 R.f) ∧ W.cell? ⟨w.heap.size, 1, none⟩ = some (.slice a1 n1 c1) ∧ W.cell? ⟨w.heap.size, 2, none⟩ = some (.slice a2 n2 c2) ∧ W.cell? ⟨w.heap.size, 3, none⟩ = some (.slice a3 n3 c3) ∧ Below (w.heap.size + 1) w1 W) ((refine HS.out _ ?_; (repeat (first | assumption | (with_reducible refine Below.setCell ?_ (by first | omega | (simp; done) | (simp; omega)) _)))))
      (first
        | ((go_at_call 141; (with_reducible refine (HB.out _ hBd).mono ?_); rintro e w5 ⟨v5, rfl, hm5⟩; have hB5 : Below w1.heap.size w1 w5 := hBd.trans (hm5.bel.mono hBd.size); have hb5 : Below (w.heap.size + 1) w1 w5 := hB5.mono (by omega); obtain ⟨a5, d5, e5, i5⟩ := hm5.at_; rw [List.length_reverse] at e5 i5; subst e5; have I5 := hid_ i5; have HR5 := hid_ (show RuleAt w5 (.agg #[.int .i64 R.f, .slice a5 R.o.length d5, .slice a3 n3 c3, .slice a2 n2 c2]) ⟨R.f, R.o.reverse, R.ri, R.le⟩ from ⟨_, _, _, _, _, _, _, _, _, rfl, I5.out, HI3.out _ hB5, HI2.out _ hB5⟩); clear hm5 i5))
        | ((go_at_call 140; (with_reducible refine (HC.out _ _ HR5.out).mono ?_); rintro e w6 ⟨v6, rfl, hr6, hc6⟩; have hB6 : Below w1.heap.size w1 w6 := hB5.trans (hc6.mono hB5.size); have hb6 : Below (w.heap.size + 1) w1 w6 := hB6.mono (by omega); have hs5 := hB5.size; obtain ⟨a7, n7, c7, a8, n8, c8, a9, n9, c9, rfl, i7, i8, i9⟩ := hr6; have I7 := hid_ i7; have I8 := hid_ i8; have I9 := hid_ i9; clear i7 i8 i9; obtain ⟨⟨r0, r1, r2, r3⟩, f0, f1, f2, f3⟩ := HRB.out w6 hB6)))
    go_wp2_with fail
    refine bodyPost_ret (v := .tuple #[.agg #[.int .i64 R.f, .slice a7 n7 c7, .slice a8 n8 c8, .slice a9 n9 c9], .int .i64 0]) ?_ rfl ⟨_, rfl, ?_, ?_⟩
    · simp [results, Try.results60, go_sem, r0, r1, r2, r3]
    · refine ⟨_, _, _, _, _, _, _, _, _, rfl, IntsNew.at_ (B := w.heap.size + 2) ?_, IntsNew.at_ (B := w.heap.size + 2) ?_, IntsNew.at_ (B := w.heap.size + 2) ?_⟩
      all_goals ((repeat (with_reducible refine IntsNew.setCell ?_ (by omega) _ _)); (first | refine IntsNew.base I7.out ?_ | refine IntsNew.base I8.out ?_ | refine IntsNew.base I9.out ?_); omega)
    · (repeat (with_reducible refine Below.setCell ?_ (by simp) _)); exact Hb1.out.trans (hB6.mono Hb1.out.size)
  · have HM : Hid (mirR R = ⟨0, [], [], []⟩) := hid_ (if_neg he)
    have hq : (validR R != 0) = true := by simpa using he
    rw [HM.out]
    clear h1 h2 h3 hz hb1
    generalize validR R = x1 at *
    clear he HM
    go_enter Try.func60, Try.ntmps60
    go_wp2_with (go_at_call 34; (with_reducible refine HV.out.mono ?_); rintro e w4 ⟨rfl, hb4⟩; obtain ⟨⟨r0, r1, r2, r3⟩, f0, f1, f2, f3⟩ := HRB.out w4 hb4)
    refine bodyPost_ret (v := .tuple #[.agg #[.int .i64 0, .slice none 0 0, .slice none 0 0, .slice none 0 0], .int .i64 x1]) ?_ rfl ⟨_, rfl, ?_, ?_⟩
    · simp [results, Try.results60, go_sem, r0, r1, r2, r3]
    · exact ⟨_, _, _, _, _, _, _, _, _, rfl, IntsAt.nil _ _ _ (by omega), IntsAt.nil _ _ _ (by omega), IntsAt.nil _ _ _ (by omega)⟩
    · (repeat (with_reducible refine Below.setCell ?_ (by simp) _)); exact Hb1.out.trans (hb4.mono Hb1.out.size)
set_option maxRecDepth 100000 in
set_option maxHeartbeats 2000000 in
theorem sameR_calls (v u : Value) (R S : Rl) (w : World) (hr : RuleAt w v R) (hs : RuleAt w u S) (hRS : S = R) :
    Calls Try.prog 63 #[v, u] w fun e w' => e = .returned (.bool true) ∧ Below w.heap.size w w' := by
  have Hr := hid_ hr
  have Hs := hid_ hs
  obtain ⟨a1, n1, c1, a2, n2, c2, a3, n3, c3, rfl, h1, h2, h3⟩ := hr
  obtain ⟨b1, m1, d1, b2, m2, d2, b3, m3, d3, rfl, h4, h5, h6⟩ := hs
  obtain ⟨w0, hw0⟩ : ∃ w0, w.alloc (.cells #[.int .i64 R.f, .slice a1 n1 c1, .slice a2 n2 c2, .slice a3 n3 c3] 24) = w0 := ⟨_, rfl⟩
  have hz0 : w0.heap.size = w.heap.size + 1 := by rw [← hw0]; simp
  have Hb0 : Hid (Below w.heap.size w w0) := hid_ (by rw [← hw0]; exact below_alloc _ _)
  obtain ⟨w1, hw1⟩ : ∃ w1, w0.alloc (.cells #[.int .i64 S.f, .slice b1 m1 d1, .slice b2 m2 d2, .slice b3 m3 d3] 24) = w1 := ⟨_, rfl⟩
  have Hb01 : Hid (Below w0.heap.size w0 w1) := hid_ (by rw [← hw1]; exact below_alloc _ _)
  have Hb1 : Hid (Below w.heap.size w w1) := hid_ (Hb0.out.trans (Hb01.out.mono Hb0.out.size))
  have HW0 := hid_ hw0
  have HW1 := hid_ hw1
  have HZ0 := hid_ hz0
  have HZ1 : Hid (w1.heap.size = w.heap.size + 2) := hid_ (by rw [← hw1]; simp [HZ0.out])
  have HQ : Hid (∀ W, Below w1.heap.size w1 W → (W.cell? ⟨w.heap.size, 0, none⟩ = some (.int .i64 R.f) ∧ W.cell? ⟨w.heap.size, 1, none⟩ = some (.slice a1 n1 c1) ∧ W.cell? ⟨w.heap.size, 2, none⟩ = some (.slice a2 n2 c2) ∧ W.cell? ⟨w.heap.size, 3, none⟩ = some (.slice a3 n3 c3)) ∧ W.cell? ⟨w.heap.size + 1, 0, none⟩ = some (.int .i64 S.f) ∧ W.cell? ⟨w.heap.size + 1, 1, none⟩ = some (.slice b1 m1 d1) ∧ W.cell? ⟨w.heap.size + 1, 2, none⟩ = some (.slice b2 m2 d2) ∧ W.cell? ⟨w.heap.size + 1, 3, none⟩ = some (.slice b3 m3 d3)) := hid_ (fun W hW => ⟨box4 HW0.out (Hb01.out.trans (hW.mono Hb01.out.size)), by have := box4 HW1.out hW; rwa [HZ0.out] at this⟩)
  have HR := hid_ (fun W (hW : Below w1.heap.size w1 W) => (Hr.out.below Hb1.out (Nat.le_refl _)).below hW (Nat.le_refl _))
  have HS := hid_ (fun W (hW : Below w1.heap.size w1 W) => (Hs.out.below Hb1.out (Nat.le_refl _)).below hW (Nat.le_refl _))
  have hb1 : Below w1.heap.size w1 w1 := Below.refl _ _
  obtain ⟨⟨q0, q1, q2, q3⟩, s0, s1, s2, s3⟩ := HQ.out w1 hb1

  subst hRS
  have H1 := hid_ (fun W (hW : Below w1.heap.size w1 W) => sameT_calls a1 n1 c1 S.o b1 m1 d1 W ((h1.below Hb1.out (Nat.le_refl _)).below hW (Nat.le_refl _)) ((h4.below Hb1.out (Nat.le_refl _)).below hW (Nat.le_refl _)))
  have H2 := hid_ (fun W (hW : Below w1.heap.size w1 W) => sameT_calls a2 n2 c2 S.le b2 m2 d2 W ((h2.below Hb1.out (Nat.le_refl _)).below hW (Nat.le_refl _)) ((h5.below Hb1.out (Nat.le_refl _)).below hW (Nat.le_refl _)))
  have H3 := hid_ (fun W (hW : Below w1.heap.size w1 W) => sameT_calls a3 n3 c3 S.ri b3 m3 d3 W ((h3.below Hb1.out (Nat.le_refl _)).below hW (Nat.le_refl _)) ((h6.below Hb1.out (Nat.le_refl _)).below hW (Nat.le_refl _)))
  clear h1 h2 h3 h4 h5 h6
  go_enter Try.func63, Try.ntmps63
  go_wp2_with (first
    | (go_at_call 37; (with_reducible refine (H1.out _ hb1).mono ?_); rintro e w5 ⟨rfl, hc5⟩; have hb5 : Below w1.heap.size w1 w5 := hb1.trans (hc5.mono hb1.size); clear q0 q1 q2 q3 s0 s1 s2 s3; obtain ⟨⟨q0, q1, q2, q3⟩, s0, s1, s2, s3⟩ := HQ.out w5 hb5)
    | (go_at_call 37; (with_reducible refine (H2.out _ hb5).mono ?_); rintro e w6 ⟨rfl, hc6⟩; have hb6 : Below w1.heap.size w1 w6 := hb5.trans (hc6.mono hb5.size); clear q0 q1 q2 q3 s0 s1 s2 s3; obtain ⟨⟨q0, q1, q2, q3⟩, s0, s1, s2, s3⟩ := HQ.out w6 hb6)
    | (go_at_call 37; (with_reducible refine (H3.out _ hb6).mono ?_); rintro e w7 ⟨rfl, hc7⟩; have hb7 : Below w1.heap.size w1 w7 := hb6.trans (hc7.mono hb6.size); clear q0 q1 q2 q3 s0 s1 s2 s3; obtain ⟨⟨q0, q1, q2, q3⟩, s0, s1, s2, s3⟩ := HQ.out w7 hb7))
  go_ret
  exact ⟨rfl, Hb1.out.trans (hb7.mono Hb1.out.size)⟩
end Go.Proofs.Ytnpdhmejnoplcaa
