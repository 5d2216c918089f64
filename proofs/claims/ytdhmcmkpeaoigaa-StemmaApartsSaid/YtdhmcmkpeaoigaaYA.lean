import Derived.Test.YtdhmcmkpeaoigaaY9
namespace Go.Proofs.Ytdhmcmkpeaoigaa
open Go.RowKit Go.Proofs.Kv

/-! ### the law StemmaChecks -/
def ClaimAt (w : World) (v : Value) (X : Tr) (p : Int) (R : List Int) : Prop :=
  ∃ a1 n1 c1 a2 n2 c2 a3 n3 c3, v = .agg #[.slice a1 n1 c1, .slice a2 n2 c2, .int .i64 p, .slice a3 n3 c3] ∧ IntsAt w a1 n1 c1 X.par ∧ IntsAt w a2 n2 c2 X.at_ ∧ IntsAt w a3 n3 c3 R
set_option maxRecDepth 100000 in
set_option maxHeartbeats 4000000 in
theorem stemmaChecks_calls (a : Option Addr) (n c : Nat) (T : List (List Int)) (v : Value) (X : Tr) (p : Int) (R : List Int) (w : World) (hT : ListsAt w a n c T) (h : ClaimAt w v X p R) :
    Calls Try.prog 8 #[.slice a n c, v] w fun e w' => e = .returned (.bool true) ∧ Below w.heap.size w w' := by
  obtain ⟨a1, n1, c1, a2, n2, c2, a3, n3, c3, rfl, h1, h2, h3⟩ := h
  obtain ⟨w1, hw1⟩ : ∃ w1, w.alloc (.cells #[.slice a1 n1 c1, .slice a2 n2 c2, .int .i64 p, .slice a3 n3 c3] 52) = w1 := ⟨_, rfl⟩
  have cb : Below w.heap.size w w1 := by rw [← hw1]; exact below_alloc _ _
  have q0 : w1.cell? ⟨w.heap.size, 0, none⟩ = some (.slice a1 n1 c1) := by rw [← hw1]; exact cells_alloc _ _ _ 0
  have q1 : w1.cell? ⟨w.heap.size, 1, none⟩ = some (.slice a2 n2 c2) := by rw [← hw1]; exact cells_alloc _ _ _ 1
  have q2 : w1.cell? ⟨w.heap.size, 2, none⟩ = some (.int .i64 p) := by rw [← hw1]; exact cells_alloc _ _ _ 2
  have q3 : w1.cell? ⟨w.heap.size, 3, none⟩ = some (.slice a3 n3 c3) := by rw [← hw1]; exact cells_alloc _ _ _ 3
  have Hc1 := hid_ cb
  have HT1 := hid_ (hT.below cb (Nat.le_refl _))
  have HP1 : Hid (TreeAt w1 (.agg #[.slice a1 n1 c1, .slice a2 n2 c2]) X) := hid_ ⟨_, _, _, _, _, _, rfl, h1.below cb (Nat.le_refl _), h2.below cb (Nat.le_refl _)⟩
  have HR1 := hid_ (h3.below cb (Nat.le_refl _))
  have hn3 := Nat.le_trans h3.le h3.small
  have HG := hid_ (long_calls a n c T w1 HT1.out)
  have HLa := hid_ (large_calls _ X w1 HP1.out)
  have HK := hid_ sane_calls
  have HA := hid_ (fun W (hW : Below w1.heap.size w1 W) => stCheck_calls a n c T _ X p a3 n3 c3 R W (HT1.out.below hW (Nat.le_refl _)) (HP1.out.below hW (Nat.le_refl _)) (HR1.out.below hW (Nat.le_refl _)))
  have HB := hid_ (fun W (hW : Below w1.heap.size w1 W) => r7Check_calls a n c T _ X p a3 n3 c3 R W (HT1.out.below hW (Nat.le_refl _)) (HP1.out.below hW (Nat.le_refl _)) (HR1.out.below hW (Nat.le_refl _)))
  have HD := hid_ (fun W (hW : Below w1.heap.size w1 W) => stTree_calls _ X W (HP1.out.below hW (Nat.le_refl _)))
  have HE := hid_ (fun W (hW : Below w1.heap.size w1 W) => r7Tree_calls _ X W (HP1.out.below hW (Nat.le_refl _)))
  have HF := hid_ (fun W (hW : Below w1.heap.size w1 W) => stFewest_calls a n c T _ X p W (HT1.out.below hW (Nat.le_refl _)) (HP1.out.below hW (Nat.le_refl _)))
  have hz := fun hh => (@check_least T X p R hh)
  clear h1 h2 h3 cb hT
  cases hg : longT T with
  | true =>
    rw [hg] at HG
    go_enter Try.func8, Try.ntmps8
    go_wp2_with (first
      | (go_at_call 18; refine (HG.out).mono ?_; rintro e w' ⟨rfl, rfl⟩)
      | (go_at_call 19; (with_reducible refine (HK.out _).mono ?_); rintro e w3 ⟨rfl, hb3⟩))
    go_ret
    exact ⟨rfl, Hc1.out.trans (hb3.mono Hc1.out.size)⟩
  | false =>
    rw [hg] at HG
    clear hg
    cases hx : largeX X with
    | true =>
      rw [hx] at HLa
      go_enter Try.func8, Try.ntmps8
      go_wp2_with (first
        | (go_at_call 18; refine (HG.out).mono ?_; rintro e w' ⟨rfl, rfl⟩)
        | (go_at_call 39; (with_reducible refine HLa.out.mono ?_); rintro e w2 ⟨rfl, hb2⟩)
        | (go_at_call 19; (with_reducible refine (HK.out _).mono ?_); rintro e w3 ⟨rfl, hb3⟩))
      go_ret
      exact ⟨rfl, Hc1.out.trans ((hb2.trans (hb3.mono hb2.size)).mono Hc1.out.size)⟩
    | false =>
      rw [hx] at HLa
      clear hx
      by_cases h100 : 100 < n3
      · have h100' : 100 < (n3 : Int) := by omega
        clear h100
        go_enter Try.func8, Try.ntmps8
        go_wp2_with (first
          | (go_at_call 18; refine (HG.out).mono ?_; rintro e w' ⟨rfl, rfl⟩)
          | (go_at_call 39; (with_reducible refine HLa.out.mono ?_); rintro e w2 ⟨rfl, hb2⟩; have q32 := cell_below q3 hb2)
          | (go_at_call 19; (with_reducible refine (HK.out _).mono ?_); rintro e w3 ⟨rfl, hb3⟩))
        go_ret
        exact ⟨rfl, Hc1.out.trans ((hb2.trans (hb3.mono hb2.size)).mono Hc1.out.size)⟩
      · have h100' : ¬ 100 < (n3 : Int) := by omega
        clear h100
        by_cases hE : errC T X p R = 0
        · obtain ⟨z1, z2, z3⟩ := hz hE
          rw [hE] at HA HB
          rw [z1, z2] at HF
          clear hE hz z1 z2
          generalize valC T X p R = y at *
          generalize fewR T X p = f at *
          generalize validX X = u at *
          have z3' : (f : Int) ≤ (y : Int) := by omega
          go_enter Try.func8, Try.ntmps8
          go_wp2_with (first
            | (go_at_call 18; refine (HG.out).mono ?_; rintro e w' ⟨rfl, rfl⟩)
            | (go_at_call 39; (with_reducible refine HLa.out.mono ?_); rintro e w2 ⟨rfl, hb2⟩; have q02 := cell_below q0 hb2; have q12 := cell_below q1 hb2; have q22 := cell_below q2 hb2; have q32 := cell_below q3 hb2)
            | (go_at_call 40; (with_reducible refine (HA.out _ hb2).mono ?_); rintro e w3 ⟨rfl, hc3⟩; have hb3 := hb2.trans (hc3.mono hb2.size); have q03 := cell_below q0 hb3; have q13 := cell_below q1 hb3; have q23 := cell_below q2 hb3; have q33 := cell_below q3 hb3)
            | (go_at_call 41; (with_reducible refine (HB.out _ hb3).mono ?_); rintro e w4 ⟨rfl, hc4⟩; have hb4 := hb3.trans (hc4.mono hb3.size); have q04 := cell_below q0 hb4; have q14 := cell_below q1 hb4; have q24 := cell_below q2 hb4; have q34 := cell_below q3 hb4))
          have g0 := cell_regrown q04; have g1 := cell_regrown q14
          have HDg := hid_ (fun d os => HD.out (Go.Sort.grow (redrawn w4 d) os) (hb4.trans ((below_regrown w4 d os).mono hb4.size)))
          have HEg := hid_ (fun d os => HE.out (Go.Sort.grow (redrawn w4 d) os) (hb4.trans ((below_regrown w4 d os).mono hb4.size)))
          refine wp_region_quiet_below (by kernel_rfl) (by kernel_rfl) ?_
          repeat (first
            | go_big_quiet_skip
            | (go_big_quiet_want; go_big_quiet_op; first | go_big_quiet_on | go_big_quiet_call ((first
              | (go_at_call 42; with_reducible exact Calls.regrown_of (HDg.out _ _))
              | (go_at_call 37; with_reducible exact Calls.regrown_of (HEg.out _ _)))))) 
          refine wpQuiet_nil ?_
          rintro wq ⟨pq, hpq⟩
          have hbq := below_wq hpq; clear hpq
          have hb5 := hb4.trans (hbq.mono hb4.size)
          have q05 := cell_below q0 hb5; have q15 := cell_below q1 hb5; have q25 := cell_below q2 hb5
          clear g0 g1
          go_wp2_with (first
            | (go_at_call 43; (with_reducible refine (HF.out _ hb5).mono ?_); rintro e w6 ⟨rfl, hc6⟩; have hb6 := hb5.trans (hc6.mono hb5.size))
            | (go_at_call 19; (with_reducible refine (HK.out _).mono ?_); rintro e w7 ⟨rfl, hb7⟩))
          go_ret
          exact ⟨rfl, Hc1.out.trans ((hb6.trans (hb7.mono hb6.size)).mono Hc1.out.size)⟩
        · have hq : (errC T X p R != 0) = true := by simpa using hE
          clear hz hE
          generalize errC T X p R = x at *
          generalize valC T X p R = y at *
          generalize fewR T X p = f at *
          generalize okRead T X p = o at *
          generalize errA T X p = x2 at *
          generalize validX X = u at *
          go_enter Try.func8, Try.ntmps8
          go_wp2_with (first
            | (go_at_call 18; refine (HG.out).mono ?_; rintro e w' ⟨rfl, rfl⟩)
            | (go_at_call 39; (with_reducible refine HLa.out.mono ?_); rintro e w2 ⟨rfl, hb2⟩; have q02 := cell_below q0 hb2; have q12 := cell_below q1 hb2; have q22 := cell_below q2 hb2; have q32 := cell_below q3 hb2)
            | (go_at_call 40; (with_reducible refine (HA.out _ hb2).mono ?_); rintro e w3 ⟨rfl, hc3⟩; have hb3 := hb2.trans (hc3.mono hb2.size); have q03 := cell_below q0 hb3; have q13 := cell_below q1 hb3; have q23 := cell_below q2 hb3; have q33 := cell_below q3 hb3)
            | (go_at_call 41; (with_reducible refine (HB.out _ hb3).mono ?_); rintro e w4 ⟨rfl, hc4⟩; have hb4 := hb3.trans (hc4.mono hb3.size); have q04 := cell_below q0 hb4; have q14 := cell_below q1 hb4; have q24 := cell_below q2 hb4; have q34 := cell_below q3 hb4))
          have g0 := cell_regrown q04; have g1 := cell_regrown q14
          have HDg := hid_ (fun d os => HD.out (Go.Sort.grow (redrawn w4 d) os) (hb4.trans ((below_regrown w4 d os).mono hb4.size)))
          have HEg := hid_ (fun d os => HE.out (Go.Sort.grow (redrawn w4 d) os) (hb4.trans ((below_regrown w4 d os).mono hb4.size)))
          refine wp_region_quiet_below (by kernel_rfl) (by kernel_rfl) ?_
          repeat (first
            | go_big_quiet_skip
            | (go_big_quiet_want; go_big_quiet_op; first | go_big_quiet_on | go_big_quiet_call ((first
              | (go_at_call 42; with_reducible exact Calls.regrown_of (HDg.out _ _))
              | (go_at_call 37; with_reducible exact Calls.regrown_of (HEg.out _ _)))))) 
          refine wpQuiet_nil ?_
          rintro wq ⟨pq, hpq⟩
          have hbq := below_wq hpq; clear hpq
          have hb5 := hb4.trans (hbq.mono hb4.size)
          have q05 := cell_below q0 hb5; have q15 := cell_below q1 hb5; have q25 := cell_below q2 hb5
          clear g0 g1
          go_wp2_with (first
            | (go_at_call 43; (with_reducible refine (HF.out _ hb5).mono ?_); rintro e w6 ⟨rfl, hc6⟩; have hb6 := hb5.trans (hc6.mono hb5.size))
            | (go_at_call 19; (with_reducible refine (HK.out _).mono ?_); rintro e w7 ⟨rfl, hb7⟩))
          go_ret
          exact ⟨rfl, Hc1.out.trans ((hb6.trans (hb7.mono hb6.size)).mono Hc1.out.size)⟩
end Go.Proofs.Ytdhmcmkpeaoigaa
