import Derived.Test.YtdhmcmkpeaoigaaY8
namespace Go.Proofs.Ytdhmcmkpeaoigaa
open Go.RowKit Go.Proofs.Kv

/-! ### the laws StemmaFewest, StemmaReadings -/
theorem okRead_zero {T : List (List Int)} {X : Tr} {p : Int} (h : okRead T X p = false) : fewR T X p = 0 ∧ readL T X p = [] := by
  constructor
  · rw [fewR, if_neg (by rw [h]; decide)]
  · rw [readL, if_neg (by rw [h]; decide)]
set_option maxRecDepth 100000 in
set_option maxHeartbeats 4000000 in
theorem stemmaFewest_calls (a : Option Addr) (n c : Nat) (T : List (List Int)) (v : Value) (X : Tr) (p : Int) (w : World) (hT : ListsAt w a n c T) (h : TreeAt w v X) :
    Calls Try.prog 9 #[.slice a n c, v, .int .i64 p] w fun e w' => e = .returned (.bool true) ∧ Below w.heap.size w w' := by
  have HP := hid_ h
  obtain ⟨a1, n1, c1, a2, n2, c2, rfl, h1, h2⟩ := h
  obtain ⟨w1, hw1⟩ : ∃ w1, w.alloc (.cells #[.slice a1 n1 c1, .slice a2 n2 c2] 45) = w1 := ⟨_, rfl⟩
  have cb : Below w.heap.size w w1 := by rw [← hw1]; exact below_alloc _ _
  have q0 : w1.cell? ⟨w.heap.size, 0, none⟩ = some (.slice a1 n1 c1) := by rw [← hw1]; exact cells_alloc _ _ _ 0
  have q1 : w1.cell? ⟨w.heap.size, 1, none⟩ = some (.slice a2 n2 c2) := by rw [← hw1]; exact cells_alloc _ _ _ 1
  have HP1 := hid_ (HP.out.below cb (Nat.le_refl _)); have Hc1 := hid_ cb
  have HT1 := hid_ (hT.below cb (Nat.le_refl _))
  have HG := hid_ (long_calls a n c T w1 HT1.out)
  have HLa := hid_ (large_calls _ X w1 HP1.out)
  have HK := hid_ sane_calls
  have HA := hid_ (fun W (hW : Below w1.heap.size w1 W) => stFewest_calls a n c T _ X p W (HT1.out.below hW (Nat.le_refl _)) (HP1.out.below hW (Nat.le_refl _)))
  have HB := hid_ (fun W (hW : Below w1.heap.size w1 W) => r7Fewest_calls a n c T _ X p W (HT1.out.below hW (Nat.le_refl _)) (HP1.out.below hW (Nat.le_refl _)))
  have HD := hid_ (fun W (hW : Below w1.heap.size w1 W) => stDifferent_calls a n c T p W (HT1.out.below hW (Nat.le_refl _)))
  have hz := fun hh => (@read_check T X p hh)
  have hpl : okRead T X p = true → placesE T [p] = 0 := fun hh => by
    obtain ⟨-, -, h1, -⟩ := hz hh
    exact (orE_zero h1).2
  have hdl : resDiff T p ≤ 100 ∧ 0 ≤ resDiff T p := by
    rw [resDiff]
    split
    · rename_i he
      have g := (placesE_one he).1
      have h1 := diffR_le T p.toNat
      have h2 := g.le
      omega
    · omega
  have hfl : fewR T X p ≤ 100 := by
    rw [fewR]
    split
    · rename_i ho
      rw [okRead, Bool.and_eq_true, decide_eq_true_eq] at ho
      obtain ⟨-, gX, -⟩ := errA_ok ho.1
      have h1 := chgI_le X (readL T X p) X.par.length
      have h2 := gX.le
      have e : chgI X (readL T X p) X.par.length = chgR X (readL T X p) := rfl
      omega
    · omega
  clear h1 h2 cb hT
  cases hg : longT T with
  | true =>
    rw [hg] at HG
    go_enter Try.func9, Try.ntmps9
    go_wp2_with (first
      | (go_at_call 18; refine (HG.out).mono ?_; rintro e w' ⟨rfl, rfl⟩)
      | (go_at_call 19; (with_reducible refine (HK.out _).mono ?_); rintro e w3 ⟨rfl, hb3⟩))
    go_ret
    exact ⟨rfl, Hc1.out.trans (hb3.mono Hc1.out.size)⟩
  | false =>
    rw [hg] at HG
    clear hg
    cases hx : largeX X with
    | true =>
      rw [hx] at HLa
      go_enter Try.func9, Try.ntmps9
      go_wp2_with (first
        | (go_at_call 18; refine (HG.out).mono ?_; rintro e w' ⟨rfl, rfl⟩)
        | (go_at_call 39; (with_reducible refine HLa.out.mono ?_); rintro e w2 ⟨rfl, hb2⟩)
        | (go_at_call 19; (with_reducible refine (HK.out _).mono ?_); rintro e w3 ⟨rfl, hb3⟩))
      go_ret
      exact ⟨rfl, Hc1.out.trans ((hb2.trans (hb3.mono hb2.size)).mono Hc1.out.size)⟩
    | false =>
      rw [hx] at HLa
      clear hx
      cases ho : okRead T X p with
      | false =>
        rw [ho] at HA HB
        clear hz hpl ho
        generalize resDiff T p = d at *
        generalize placesE T [p] = y at *
        generalize errA T X p = x at *
        generalize fewR T X p = f at *
        go_enter Try.func9, Try.ntmps9
        go_wp2_with (first
          | (go_at_call 18; refine (HG.out).mono ?_; rintro e w' ⟨rfl, rfl⟩)
          | (go_at_call 39; (with_reducible refine HLa.out.mono ?_); rintro e w2 ⟨rfl, hb2⟩; have q02 := cell_below q0 hb2; have q12 := cell_below q1 hb2)
          | (go_at_call 43; (with_reducible refine (HA.out _ hb2).mono ?_); rintro e w3 ⟨rfl, hc3⟩; have hb3 := hb2.trans (hc3.mono hb2.size); have q03 := cell_below q0 hb3; have q13 := cell_below q1 hb3)
          | (go_at_call 38; (with_reducible refine (HB.out _ hb3).mono ?_); rintro e w4 ⟨rfl, hc4⟩; have hb4 := hb3.trans (hc4.mono hb3.size); have q04 := cell_below q0 hb4; have q14 := cell_below q1 hb4)
          | (go_at_call 20; (with_reducible refine (HD.out _ hb4).mono ?_); rintro e w5 ⟨rfl, hc5⟩; have hb5 := hb4.trans (hc5.mono hb4.size))
          | (go_at_call 19; (with_reducible refine (HK.out _).mono ?_); rintro e w6 ⟨rfl, hb6⟩))
        go_ret
        exact ⟨rfl, Hc1.out.trans ((hb5.trans (hb6.mono hb5.size)).mono Hc1.out.size)⟩
      | true =>
        obtain ⟨-, -, he, hle⟩ := hz ho
        have hp0 := hpl ho
        rw [ho, he] at HA HB
        rw [hp0] at HD
        clear hz hpl ho he hp0
        generalize resDiff T p = d at *
        generalize fewR T X p = f at *
        obtain ⟨hd1, hd0⟩ := hdl
        have hge : d - 1 ≤ (f : Int) := by omega
        go_enter Try.func9, Try.ntmps9
        go_wp2_with (first
          | (go_at_call 18; refine (HG.out).mono ?_; rintro e w' ⟨rfl, rfl⟩)
          | (go_at_call 39; (with_reducible refine HLa.out.mono ?_); rintro e w2 ⟨rfl, hb2⟩; have q02 := cell_below q0 hb2; have q12 := cell_below q1 hb2)
          | (go_at_call 43; (with_reducible refine (HA.out _ hb2).mono ?_); rintro e w3 ⟨rfl, hc3⟩; have hb3 := hb2.trans (hc3.mono hb2.size); have q03 := cell_below q0 hb3; have q13 := cell_below q1 hb3)
          | (go_at_call 38; (with_reducible refine (HB.out _ hb3).mono ?_); rintro e w4 ⟨rfl, hc4⟩; have hb4 := hb3.trans (hc4.mono hb3.size); have q04 := cell_below q0 hb4; have q14 := cell_below q1 hb4)
          | (go_at_call 20; (with_reducible refine (HD.out _ hb4).mono ?_); rintro e w5 ⟨rfl, hc5⟩; have hb5 := hb4.trans (hc5.mono hb4.size))
          | (go_at_call 19; (with_reducible refine (HK.out _).mono ?_); rintro e w6 ⟨rfl, hb6⟩))
        go_ret
        exact ⟨rfl, Hc1.out.trans ((hb5.trans (hb6.mono hb5.size)).mono Hc1.out.size)⟩
set_option maxRecDepth 100000 in
set_option maxHeartbeats 4000000 in
theorem stemmaReadings_calls (a : Option Addr) (n c : Nat) (T : List (List Int)) (v : Value) (X : Tr) (p : Int) (w : World) (hT : ListsAt w a n c T) (h : TreeAt w v X) :
    Calls Try.prog 10 #[.slice a n c, v, .int .i64 p] w fun e w' => e = .returned (.bool true) ∧ Below w.heap.size w w' := by
  have HP := hid_ h
  obtain ⟨a1, n1, c1, a2, n2, c2, rfl, h1, h2⟩ := h
  obtain ⟨w1, hw1⟩ : ∃ w1, w.alloc (.cells #[.slice a1 n1 c1, .slice a2 n2 c2] 45) = w1 := ⟨_, rfl⟩
  have cb : Below w.heap.size w w1 := by rw [← hw1]; exact below_alloc _ _
  have q0 : w1.cell? ⟨w.heap.size, 0, none⟩ = some (.slice a1 n1 c1) := by rw [← hw1]; exact cells_alloc _ _ _ 0
  have q1 : w1.cell? ⟨w.heap.size, 1, none⟩ = some (.slice a2 n2 c2) := by rw [← hw1]; exact cells_alloc _ _ _ 1
  have HP1 := hid_ (HP.out.below cb (Nat.le_refl _)); have Hc1 := hid_ cb
  have HT1 := hid_ (hT.below cb (Nat.le_refl _))
  have HG := hid_ (long_calls a n c T w1 HT1.out)
  have HLa := hid_ (large_calls _ X w1 HP1.out)
  have HK := hid_ sane_calls
  have HA := hid_ (fun W (hW : Below w1.heap.size w1 W) => stReadings_calls a n c T _ X p W (HT1.out.below hW (Nat.le_refl _)) (HP1.out.below hW (Nat.le_refl _)))
  have HB := hid_ (fun W (hW : Below w1.heap.size w1 W) => r7Fewest_calls a n c T _ X p W (HT1.out.below hW (Nat.le_refl _)) (HP1.out.below hW (Nat.le_refl _)))
  have HC := hid_ (fun W (hW : Below w1.heap.size w1 W) ar m cr R (hR : IntsAt W ar m cr R) => r7Check_calls a n c T _ X p ar m cr R W (HT1.out.below hW (Nat.le_refl _)) (HP1.out.below hW (Nat.le_refl _)) hR)
  have hz := fun hh => (@read_check T X p hh)
  have hn := fun hh => (@okRead_zero T X p hh)
  clear h1 h2 cb hT
  cases hg : longT T with
  | true =>
    rw [hg] at HG
    go_enter Try.func10, Try.ntmps10
    go_wp2_with (first
      | (go_at_call 18; refine (HG.out).mono ?_; rintro e w' ⟨rfl, rfl⟩)
      | (go_at_call 19; (with_reducible refine (HK.out _).mono ?_); rintro e w3 ⟨rfl, hb3⟩))
    go_ret
    exact ⟨rfl, Hc1.out.trans (hb3.mono Hc1.out.size)⟩
  | false =>
    rw [hg] at HG
    clear hg
    cases hx : largeX X with
    | true =>
      rw [hx] at HLa
      go_enter Try.func10, Try.ntmps10
      go_wp2_with (first
        | (go_at_call 18; refine (HG.out).mono ?_; rintro e w' ⟨rfl, rfl⟩)
        | (go_at_call 39; (with_reducible refine HLa.out.mono ?_); rintro e w2 ⟨rfl, hb2⟩)
        | (go_at_call 19; (with_reducible refine (HK.out _).mono ?_); rintro e w3 ⟨rfl, hb3⟩))
      go_ret
      exact ⟨rfl, Hc1.out.trans ((hb2.trans (hb3.mono hb2.size)).mono Hc1.out.size)⟩
    | false =>
      rw [hx] at HLa
      clear hx
      cases ho : okRead T X p with
      | false =>
        obtain ⟨hf0, hr0⟩ := hn ho
        rw [ho] at HA HB
        rw [hr0] at HA
        clear hz hn ho hf0 hr0
        generalize errA T X p = x at *
        generalize fewR T X p = f at *
        go_enter Try.func10, Try.ntmps10
        go_wp2_with (first
          | (go_at_call 18; refine (HG.out).mono ?_; rintro e w' ⟨rfl, rfl⟩)
          | (go_at_call 39; (with_reducible refine HLa.out.mono ?_); rintro e w2 ⟨rfl, hb2⟩; have q02 := cell_below q0 hb2; have q12 := cell_below q1 hb2)
          | (go_at_call 44; (with_reducible refine (HA.out _ hb2).mono ?_); rintro e w3 ⟨v3, rfl, hm3⟩; have hb3 := hb2.trans (hm3.bel.mono hb2.size); have q03 := cell_below q0 hb3; have q13 := cell_below q1 hb3; obtain ⟨a3, c3, rfl, -⟩ := hm3.at_)
          | (go_at_call 38; (with_reducible refine (HB.out _ hb3).mono ?_); rintro e w4 ⟨rfl, hc4⟩; have hb4 := hb3.trans (hc4.mono hb3.size); have q04 := cell_below q0 hb4; have q14 := cell_below q1 hb4)
          | (go_at_call 19; (with_reducible refine (HK.out _).mono ?_); rintro e w6 ⟨rfl, hb6⟩))
        go_ret
        exact ⟨rfl, Hc1.out.trans ((hb4.trans (hb6.mono hb4.size)).mono Hc1.out.size)⟩
      | true =>
        obtain ⟨he, hv, hx, -⟩ := hz ho
        rw [ho, hx] at HA HB
        have HCR := hid_ (fun W hW ar cr hR => HC.out W hW ar (readL T X p).length cr (readL T X p) hR)
        rw [he, hv] at HCR
        clear hz hn ho he hv hx HC
        generalize readL T X p = R at *
        generalize fewR T X p = f at *
        obtain ⟨m, hm⟩ : ∃ m, R.length = m := ⟨_, rfl⟩
        rw [hm] at HCR
        have HLm := hid_ hm
        clear hm
        go_enter Try.func10, Try.ntmps10
        go_wp2_with (first
          | (go_at_call 18; refine (HG.out).mono ?_; rintro e w' ⟨rfl, rfl⟩)
          | (go_at_call 39; (with_reducible refine HLa.out.mono ?_); rintro e w2 ⟨rfl, hb2⟩; have q02 := cell_below q0 hb2; have q12 := cell_below q1 hb2)
          | (go_at_call 44; (with_reducible refine (HA.out _ hb2).mono ?_); rintro e w3 ⟨v3, rfl, hm3⟩; have hb3 := hb2.trans (hm3.bel.mono hb2.size); have q03 := cell_below q0 hb3; have q13 := cell_below q1 hb3; obtain ⟨a3, c3, rfl, hi3⟩ := hm3.at_; have Hi3 := hid_ hi3; rw [HLm.out] at Hi3 ⊢; clear hi3 hm3)
          | (go_at_call 38; (with_reducible refine (HB.out _ hb3).mono ?_); rintro e w4 ⟨rfl, hc4⟩; have hb4 := hb3.trans (hc4.mono hb3.size); have q04 := cell_below q0 hb4; have q14 := cell_below q1 hb4; have Hi4 := hid_ (Hi3.out.below hc4 (Nat.le_refl _)))
          | (go_at_call 41; (with_reducible refine (HCR.out _ hb4 _ _ Hi4.out).mono ?_); rintro e w5 ⟨rfl, hc5⟩; have hb5 := hb4.trans (hc5.mono hb4.size))
          | (go_at_call 19; (with_reducible refine (HK.out _).mono ?_); rintro e w6 ⟨rfl, hb6⟩))
        go_ret
        exact ⟨rfl, Hc1.out.trans ((hb5.trans (hb6.mono hb5.size)).mono Hc1.out.size)⟩
end Go.Proofs.Ytdhmcmkpeaoigaa
