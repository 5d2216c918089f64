import Derived.Test.YtahknodnjjmagaaZ8
import Derived.Test.YtahknodnjjmagaaZ3
namespace Go.Proofs.Ytahknodnjjmagaa
open Go.RowKit Go.Proofs.Kv

/-! ### the law CellHomes -/
theorem sameL_yes5 (a : Option Addr) (n c : Nat) (M : List (List Int)) (a' : Option Addr) (n' c' : Nat) (W : World) (h1 : ListsAt W a n c M) (h2 : ListsAt W a' n' c' M) :
    Calls Try.prog 23 #[.slice a n c, .slice a' n' c'] W fun e w' => e = .returned (.bool true) ∧ Below W.heap.size W w' :=
  (sameL_calls a n c M a' n' c' M W h1 h2).mono fun e w' ⟨he, q, hq⟩ => ⟨by rw [he]; simp [SameL], by rw [hq]; exact below_drewN (Below.refl _ _) _⟩
theorem homes_ok {P : Par} {y : Int} {k : Nat} (hk : k < (resHomes P y).length) : errC P [(resHomes P y).getD k []] = 0 ∧ resForm P ((resHomes P y).getD k []) = (y, true) := by
  have e : (resHomes P y).getD k [] = (resHomes P y)[k] := by simp [List.getD, List.getElem?_eq_getElem hk]
  rw [e]
  have hm := List.getElem_mem hk
  generalize (resHomes P y)[k] = l at *
  clear e hk
  rw [resHomes] at hm
  split at hm
  · rename_i he
    rw [errH] at he
    split at he
    · rename_i hv
      rw [withL, List.mem_filter, mem_cellsL, homeB, decide_eq_true_eq] at hm
      have h1 : errC P [l] = 0 := by rw [errC, if_pos hv]; simp [hm.1]
      refine ⟨h1, ?_⟩
      split at he
      · rename_i hw
        have : 0 ≤ y ∧ y ≤ 9 := by simpa [Within] using hw
        rw [resForm, if_pos h1, hm.2, if_pos this.1]
      · exact absurd he (by decide)
    · rename_i hv; exact absurd he hv
  · cases hm
theorem homes_le (P : Par) (y : Int) : (resHomes P y).length ≤ 27 := by
  rw [resHomes]
  split
  · rename_i he
    rw [errH] at he
    split at he
    · rename_i hv
      exact Nat.le_trans (List.length_filter_le _ _) (cells_chain hv).2.2.1
    · rename_i hv; exact absurd he hv
  · simp
set_option maxRecDepth 100000 in
set_option maxHeartbeats 8000000 in
theorem cellHomes_calls (v : Value) (P : Par) (y : Int) (w : World) (h : ParAt w v P) :
    Calls Try.prog 8 #[v, .int .i64 y] w fun e w' => e = .returned (.bool true) ∧ Below w.heap.size w w' := by
  have HP := hid_ h
  obtain ⟨a1, n1, c1, a2, n2, c2, rfl, h1, h2⟩ := h
  obtain ⟨w1, hw1⟩ : ∃ w1, w.alloc (.cells #[.slice a1 n1 c1, .slice a2 n2 c2] 25) = w1 := ⟨_, rfl⟩
  have cb : Below w.heap.size w w1 := by rw [← hw1]; exact below_alloc _ _
  have q0 : w1.cell? ⟨w.heap.size, 0, none⟩ = some (.slice a1 n1 c1) := by rw [← hw1]; exact cells_alloc _ _ _ 0
  have q1 : w1.cell? ⟨w.heap.size, 1, none⟩ = some (.slice a2 n2 c2) := by rw [← hw1]; exact cells_alloc _ _ _ 1
  have HP1 := hid_ (HP.out.below cb (Nat.le_refl _)); have Hc1 := hid_ cb
  have HK := hid_ known_calls
  have HG := hid_ (long_calls _ P w1 HP1.out)
  have HA := hid_ (fun W (hW : Below w1.heap.size w1 W) => ceHomes_calls _ P y W (HP1.out.below hW (Nat.le_refl _)))
  have HB := hid_ (fun W (hW : Below w1.heap.size w1 W) => r6Homes_calls _ P y W (HP1.out.below hW (Nat.le_refl _)))
  have HO := hid_ (fun k (hk : k < (resHomes P y).length) => @homes_ok P y k hk)
  have hm27 := homes_le P y
  clear h1 h2 cb
  cases hg : LongP P with
  | true =>
    rw [hg] at HG
    go_enter Try.func8, Try.ntmps8
    go_wp2_with (first
      | (go_at_call 17; (with_reducible refine HG.out.mono ?_); rintro e w2 ⟨rfl, hb2⟩)
      | (go_at_call 18; (with_reducible refine (HK.out _).mono ?_); rintro e w3 ⟨rfl, hb3⟩))
    go_ret
    exact ⟨rfl, Hc1.out.trans ((hb2.trans (hb3.mono hb2.size)).mono Hc1.out.size)⟩
  | false =>
    rw [hg] at HG
    clear hg
    generalize resHomes P y = M at *
    generalize errH P y = x at *
    obtain ⟨m, hm⟩ : ∃ m, M.length = m := ⟨_, rfl⟩
    rw [hm] at hm27 HO
    have HLm := hid_ hm
    clear hm
    go_enter Try.func8, Try.ntmps8
    go_wp2_with (first
      | (go_at_call 17; (with_reducible refine HG.out.mono ?_); rintro e w2 ⟨rfl, hb2⟩; have q02 := cell_below q0 hb2; have q12 := cell_below q1 hb2)
      | (go_at_call 45; (with_reducible refine (HA.out w2 hb2).mono ?_); rintro e w3 ⟨v3, rfl, hm3⟩; have hb3 := hb2.trans (hm3.bel.mono hb2.size); have q03 := cell_below q0 hb3; have q13 := cell_below q1 hb3; obtain ⟨a3, c3, rfl, hi3⟩ := hm3.at_; have Hi3 := hid_ hi3; rw [HLm.out] at Hi3 ⊢; clear hi3 hm3)
      | (go_at_call 46; (with_reducible refine (HB.out w3 hb3).mono ?_); rintro e w4 ⟨v4, rfl, hm4⟩; have hb4 := hb3.trans (hm4.bel.mono hb3.size); have q04 := cell_below q0 hb4; have q14 := cell_below q1 hb4; obtain ⟨a4, c4, rfl, hi4⟩ := hm4.at_; have Hj4 := hid_ hi4; rw [HLm.out] at Hj4 ⊢; have Hi4 := hid_ (Hi3.out.below hm4.bel (Nat.le_refl _)); clear hi4 hm4)
      | (go_at_call 23; (with_reducible refine (sameL_yes5 _ _ _ M _ _ _ w4 Hi4.out Hj4.out).mono ?_); rintro e w5 ⟨rfl, hc5⟩; have hb5 := hb4.trans (hc5.mono hb4.size); have q05 := cell_below q0 hb5; have q15 := cell_below q1 hb5; have Hi5 := hid_ (Hi4.out.below hc5 (Nat.le_refl _)); have Hj5 := hid_ (Hj4.out.below hc5 (Nat.le_refl _))))
    have HI := hid_ Hi5.out
    have Hb5 := hid_ hb5
    go_loopw [9] (fun i wr => ∃ k : Nat, k ≤ m ∧ i = .int .i64 k ∧ Below w5.heap.size w5 wr) (fun i _ => m - (intOf i).toNat)
    case atStart => exact ⟨0, Nat.zero_le _, rfl, Below.refl _ _⟩
    case round =>
      obtain ⟨k, hk, rfl, hb⟩ := hrel
      have hbr := Hb5.out.trans (hb.mono Hb5.out.size)
      by_cases hlt : k < m
      · obtain ⟨bl, off, a6, n6, c6, rfl, hbs, hcell, hrow⟩ := (HI.out.below hb (Nat.le_refl _)).cells k hlt
        obtain ⟨o1, o2⟩ := HO.out k hlt
        have hF := fun d os => ceForm_calls _ P a6 n6 c6 (M.getD k []) (Go.Sort.grow (redrawn wr d) os) (HP1.out.below (hbr.trans ((below_regrown wr d os).mono hbr.size)) (Nat.le_refl _)) (hrow.below (below_regrown wr d os) (Nat.le_refl _))
        rw [o1, o2] at hF
        have HF := hid_ hF
        have g0 := cell_regrown (cell_below q0 hbr); have g1 := cell_regrown (cell_below q1 hbr); have g2 := cell_regrown hcell
        have Hb := hid_ hb
        clear hF hrow o1 o2 hb hbr
        go_wp2_with fail
        refine wp_region_quiet_below (by kernel_rfl) (by kernel_rfl) ?_
        repeat (first | go_big_quiet_skip | (go_big_quiet_want; go_big_quiet_op; first | go_big_quiet_on | go_big_quiet_call ((go_at_call 29; with_reducible exact Calls.regrown_of (HF.out _ _)))))
        refine wpQuiet_nil ?_
        rintro wq ⟨pq, hpq⟩
        have hbL := below_wq hpq; clear hpq
        go_wp2
        exact ⟨⟨k + 1, by omega, by go_num, Hb.out.trans (hbL.mono Hb.out.size)⟩, by simp [intOf]; omega⟩
      · obtain rfl : m = k := by omega
        have Hbr := hid_ hbr
        clear hb hbr
        go_wp2_with (go_at_call 18; (with_reducible refine (HK.out _).mono ?_); rintro e wk ⟨rfl, hbk⟩)
        go_ret
        exact ⟨rfl, Hc1.out.trans ((Hbr.out.trans (hbk.mono Hbr.out.size)).mono Hc1.out.size)⟩
end Go.Proofs.Ytahknodnjjmagaa
