import Derived.Test.YtahknodnjjmagaaZ3
import Derived.Test.YtahknodnjjmagaaZag
namespace Go.Proofs.Ytahknodnjjmagaa
open Go.RowKit Go.Proofs.Kv

/-! ### the law CellHulls -/
theorem hull_holds {L : List (List Int)} : ∀ m, m ≤ L.length → ∀ k, k < m → ∀ j, j < (hullK L m).length → (hullK L m).getD j 0 = -1 ∨ (hullK L m).getD j 0 = (L.getD k []).getD j 0
  | 0, _, k, hk, _, _ => absurd hk (by omega)
  | m + 1, hm, k, hk, j, hj => by
    rw [hullK_succ (by omega), hs_len] at hj
    rw [hullK_succ (by omega), hs, hsK, map_getD _ hj, if_pos hj]
    split
    · rename_i he
      by_cases h : k = m
      · subst h; exact .inr he.symm
      · exact hull_holds m (by omega) k (by omega) j hj
    · exact .inl rfl
theorem hull_hB {L : List (List Int)} {k : Nat} (hk : k < L.length) : hB (hullL L) (L.getD k []) = true := hB_iff.2 fun j hj => hull_holds L.length (Nat.le_refl _) k hk j hj
def manyL (L : List (List Int)) : Bool := decide (100 < L.length) || L.any fun l => decide (100 < l.length)
set_option maxRecDepth 100000 in
set_option maxHeartbeats 4000000 in
theorem many_calls (a : Option Addr) (n c : Nat) (L : List (List Int)) (w : World) (h : ListsAt w a n c L) :
    Calls Try.prog 47 #[.slice a n c] w fun e w' => e = .returned (.bool (manyL L)) ∧ w = w' := by
  have hn : n ≤ 9223372036854775807 := Nat.le_trans h.le h.small
  have HL : Hid (manyL L = (decide (100 < n) || L.any fun l => decide (100 < l.length))) := hid_ (by rw [manyL, h.len])
  have HNo := hid_ (fun hall => any_no (p := fun l : List Int => decide (100 < l.length)) [] h.len hall)
  have HHi := hid_ (fun k (hk : k < n) hh => any_hit (p := fun l : List Int => decide (100 < l.length)) (k := k) [] (by rw [h.len]; exact hk) hh)
  have H2 := hid_ h
  clear h
  by_cases h5 : 100 < n
  · have Hf : Hid (manyL L = true) := hid_ (by rw [HL.out, decide_eq_true h5]; rfl)
    have h5' : 100 < (n : Int) := by omega
    clear h5
    go_enter Try.func47, Try.ntmps47
    go_wp2
    go_ret
    exact ⟨retB Hf.out, rfl⟩
  · have HL3 : Hid (manyL L = L.any fun l => decide (100 < l.length)) := hid_ (by rw [HL.out, decide_eq_false h5]; rfl)
    have h5' : ¬ 100 < (n : Int) := by omega
    clear h5
    go_enter Try.func47, Try.ntmps47
    go_wp2
    go_loop [3] (fun i => ∃ k : Nat, k ≤ n ∧ i = .int .i64 k ∧ ∀ j, j < k → decide (100 < (L.getD j []).length) = false) (fun i => n - (intOf i).toNat)
    case atStart => exact ⟨0, Nat.zero_le _, rfl, fun _ h => absurd h (by omega)⟩
    case round =>
      obtain ⟨k, hk, rfl, hall⟩ := hrel
      have Hall := hid_ hall
      clear hall
      by_cases hlt : k < n
      · obtain ⟨b, off, a3, n3, c3, rfl, -, k0, hi⟩ := H2.out.cells k hlt
        have HA := hid_ (large_calls a3 n3 c3 _ w hi)
        have Hl : Hid ((L.getD k []).length = n3) := hid_ hi.len
        have hhi := HHi.out k hlt
        rw [Hl.out] at hhi
        have hy := fun hx => lt_snoc (p := fun j => decide (100 < (L.getD j []).length) = false) Hall.out hx
        rw [Hl.out] at hy
        clear hi
        generalize decide (100 < n3) = z at *
        cases z with
        | true =>
          have Hf : Hid (manyL L = true) := hid_ (HL3.out.trans (hhi rfl))
          clear hhi hy
          go_wp2_with (go_at_call 24; (with_reducible refine HA.out.mono ?_); rintro e w2 ⟨rfl, rfl⟩)
          go_ret
          exact ⟨retB Hf.out, rfl⟩
        | false =>
          have Hf := hid_ (hy rfl)
          clear hhi hy
          go_wp2_with (go_at_call 24; (with_reducible refine HA.out.mono ?_); rintro e w2 ⟨rfl, rfl⟩)
          go_round
          case rel => exact ⟨k + 1, by omega, by go_num, Hf.out⟩
          case measure => simp [intOf]; omega
      · obtain rfl : n = k := by omega
        have Hf : Hid (manyL L = false) := hid_ (HL3.out.trans (HNo.out Hall.out))
        go_wp2
        go_ret
        exact ⟨retB Hf.out, rfl⟩
theorem same_yes7 (a : Option Addr) (n c : Nat) (M : List Int) (a' : Option Addr) (n' c' : Nat) (W : World) (h1 : IntsAt W a n c M) (h2 : IntsAt W a' n' c' M) :
    Calls Try.prog 31 #[.slice a n c, .slice a' n' c'] W fun e w' => e = .returned (.bool true) ∧ Below W.heap.size W w' :=
  (same_calls a n c M a' n' c' M W h1 h2).mono fun e w' ⟨he, q, hq⟩ => ⟨by rw [he]; simp [Same], by rw [hq]; exact below_drewN (Below.refl _ _) _⟩
theorem errHu_ok {P : Par} {L : List (List Int)} (h : errHu P L = 0) : errC P L = 0 ∧ 0 < L.length := by
  unfold errHu at h
  split at h
  · rename_i he
    refine ⟨he, ?_⟩
    split at h
    · exact absurd h (by decide)
    · omega
  · rename_i he; exact absurd h he
theorem resHull_ok {P : Par} {L : List (List Int)} (h : errHu P L = 0) : (resHull P L).length = P.sizes.length ∧ (∀ j, -1 ≤ (resHull P L).getD j 0) ∧ ∀ k, k < L.length → (L.getD k []).length = P.sizes.length ∧ hB (resHull P L) (L.getD k []) = true := by
  obtain ⟨he, h0⟩ := errHu_ok h
  rw [resHull, if_pos h]
  exact ⟨hull_len he h0, fun j => hull_min he j, fun k hk => ⟨errC_lens he k hk, hull_hB hk⟩⟩
set_option maxRecDepth 100000 in
set_option maxHeartbeats 8000000 in
theorem cellHulls_calls (v : Value) (P : Par) (a : Option Addr) (n c : Nat) (L : List (List Int)) (w : World) (h : ParAt w v P) (hl : ListsAt w a n c L) :
    Calls Try.prog 9 #[v, .slice a n c] w fun e w' => e = .returned (.bool true) ∧ Below w.heap.size w w' := by
  have HP := hid_ h
  obtain ⟨a1, n1, c1, a2, n2, c2, rfl, h1, h2⟩ := h
  obtain ⟨w1, hw1⟩ : ∃ w1, w.alloc (.cells #[.slice a1 n1 c1, .slice a2 n2 c2] 25) = w1 := ⟨_, rfl⟩
  have cb : Below w.heap.size w w1 := by rw [← hw1]; exact below_alloc _ _
  have q0 : w1.cell? ⟨w.heap.size, 0, none⟩ = some (.slice a1 n1 c1) := by rw [← hw1]; exact cells_alloc _ _ _ 0
  have q1 : w1.cell? ⟨w.heap.size, 1, none⟩ = some (.slice a2 n2 c2) := by rw [← hw1]; exact cells_alloc _ _ _ 1
  have HP1 := hid_ (HP.out.below cb (Nat.le_refl _)); have Hc1 := hid_ cb
  have hn : n ≤ 9223372036854775807 := Nat.le_trans hl.le hl.small
  have hlen := hl.len
  have HL := hid_ (hl.below cb (Nat.le_refl _))
  have HK := hid_ known_calls
  have HG := hid_ (long_calls _ P w1 HP1.out)
  have HMa := hid_ (fun W (hW : Below w1.heap.size w1 W) => many_calls a n c L W (HL.out.below hW (Nat.le_refl _)))
  have HA := hid_ (fun W (hW : Below w1.heap.size w1 W) => ceHull_calls _ P a n c L W (HP1.out.below hW (Nat.le_refl _)) (HL.out.below hW (Nat.le_refl _)))
  have HB := hid_ (fun W (hW : Below w1.heap.size w1 W) => r6Hull_calls _ P a n c L W (HP1.out.below hW (Nat.le_refl _)) (HL.out.below hW (Nat.le_refl _)))
  have HC := hid_ (fun W (hW : Below w1.heap.size w1 W) => ceIsBox_calls _ P a n c L W (HP1.out.below hW (Nat.le_refl _)) (HL.out.below hW (Nat.le_refl _)))
  have HD := hid_ (fun W (hW : Below w1.heap.size w1 W) => r6IsBox_calls _ P a n c L W (HP1.out.below hW (Nat.le_refl _)) (HL.out.below hW (Nat.le_refl _)))
  have hok := @resHull_ok P L
  rw [hlen] at hok
  clear h1 h2 hl cb hlen
  generalize resHull P L = M at *
  generalize resBox P L = f at *
  generalize errHu P L = x at *
  generalize errC P L = y at *
  cases hg : LongP P with
  | true =>
    rw [hg] at HG
    clear hok
    go_enter Try.func9, Try.ntmps9
    go_wp2_with (first
      | (go_at_call 17; (with_reducible refine HG.out.mono ?_); rintro e w2 ⟨rfl, hb2⟩)
      | (go_at_call 18; (with_reducible refine (HK.out _).mono ?_); rintro e w3 ⟨rfl, hb3⟩))
    go_ret
    exact ⟨rfl, Hc1.out.trans ((hb2.trans (hb3.mono hb2.size)).mono Hc1.out.size)⟩
  | false =>
    rw [hg] at HG
    clear hg
    cases hy : manyL L with
    | true =>
      rw [hy] at HMa
      clear hok hy
      go_enter Try.func9, Try.ntmps9
      go_wp2_with (first
        | (go_at_call 17; (with_reducible refine HG.out.mono ?_); rintro e w2 ⟨rfl, hb2⟩)
        | (go_at_call 47; (with_reducible refine (HMa.out _ hb2).mono ?_); rintro e w4 ⟨rfl, rfl⟩)
        | (go_at_call 18; (with_reducible refine (HK.out _).mono ?_); rintro e w3 ⟨rfl, hb3⟩))
      go_ret
      exact ⟨rfl, Hc1.out.trans ((hb2.trans (hb3.mono hb2.size)).mono Hc1.out.size)⟩
    | false =>
      rw [hy] at HMa
      clear hy
      obtain ⟨m, hm⟩ : ∃ m, M.length = m := ⟨_, rfl⟩
      rw [hm] at hok
      have HLm := hid_ hm
      clear hm
      by_cases hx : x = 0
      · subst hx
        obtain ⟨o1, o2, o3⟩ := hok rfl
        have HO := hid_ o3; have HGe := hid_ o2; have Ho1 := hid_ o1
        clear hok o1 o2 o3
        go_enter Try.func9, Try.ntmps9
        go_wp2_with (first
          | (go_at_call 17; (with_reducible refine HG.out.mono ?_); rintro e w2 ⟨rfl, hb2⟩; have q02 := cell_below q0 hb2; have q12 := cell_below q1 hb2)
          | (go_at_call 47; (with_reducible refine (HMa.out _ hb2).mono ?_); rintro e w2m ⟨rfl, rfl⟩)
          | (go_at_call 48; (with_reducible refine (HA.out w2 hb2).mono ?_); rintro e w3 ⟨v3, rfl, hm3⟩; have hb3 := hb2.trans (hm3.bel.mono hb2.size); have q03 := cell_below q0 hb3; have q13 := cell_below q1 hb3; obtain ⟨a3, c3, rfl, hi3⟩ := hm3.at_; have Hi3 := hid_ hi3; rw [HLm.out] at Hi3 ⊢; clear hi3 hm3)
          | (go_at_call 49; (with_reducible refine (HB.out w3 hb3).mono ?_); rintro e w4 ⟨v4, rfl, hm4⟩; have hb4 := hb3.trans (hm4.bel.mono hb3.size); have q04 := cell_below q0 hb4; have q14 := cell_below q1 hb4; obtain ⟨a4, c4, rfl, hi4⟩ := hm4.at_; have Hj4 := hid_ hi4; rw [HLm.out] at Hj4 ⊢; have Hi4 := hid_ (Hi3.out.below hm4.bel (Nat.le_refl _)); clear hi4 hm4)
          | (go_at_call 50; (with_reducible refine (HC.out w4 hb4).mono ?_); rintro e w5 ⟨rfl, hc5⟩; have hb5 := hb4.trans (hc5.mono hb4.size); have q05 := cell_below q0 hb5; have q15 := cell_below q1 hb5; have Hi5 := hid_ (Hi4.out.below hc5 (Nat.le_refl _)); have Hj5 := hid_ (Hj4.out.below hc5 (Nat.le_refl _)))
          | (go_at_call 51; (with_reducible refine (HD.out w5 hb5).mono ?_); rintro e w6 ⟨rfl, hc6⟩; have hb6 := hb5.trans (hc6.mono hb5.size); have q06 := cell_below q0 hb6; have q16 := cell_below q1 hb6; have Hi6 := hid_ (Hi5.out.below hc6 (Nat.le_refl _)); have Hj6 := hid_ (Hj5.out.below hc6 (Nat.le_refl _)))
          | (go_at_call 31; (with_reducible refine (same_yes7 _ _ _ M _ _ _ w6 Hi6.out Hj6.out).mono ?_); rintro e w7 ⟨rfl, hc7⟩; have hb7 := hb6.trans (hc7.mono hb6.size); have q07 := cell_below q0 hb7; have q17 := cell_below q1 hb7; have Hi7 := hid_ (Hi6.out.below hc7 (Nat.le_refl _)); have Hj7 := hid_ (Hj6.out.below hc7 (Nat.le_refl _))))
        have HI := hid_ Hi7.out
        have Hbw := hid_ hb7
        have HLw := hid_ (HL.out.below hb7 (Nat.le_refl _))
        go_loopw [13] (fun i wr => ∃ k q : Nat, k ≤ n ∧ i = .int .i64 k ∧ wr = w7.drewN q) (fun i _ => n - (intOf i).toNat)
        case atStart => exact ⟨0, 0, Nat.zero_le _, rfl, rfl⟩
        case round =>
          obtain ⟨k, q, hk, rfl, rfl⟩ := hrel
          by_cases hlt : k < n
          · obtain ⟨bl, off, a6, n6, c6, rfl, hbs, hcell, hrow⟩ := HLw.out.cells k hlt
            obtain ⟨o1, o2⟩ := HO.out k hlt
            have e6 : n6 = m := by rw [← hrow.len, o1, Ho1.out]
            subst e6
            have hH := holds_calls a6 n6 c6 (L.getD k []) _ _ _ M (w7.drewN q) (hrow.drewN q) (HI.out.drewN q) (Nat.le_refl _) (fun j _ => HGe.out j)
            rw [o2] at hH
            have HH := hid_ hH
            clear hH hrow o1 o2
            go_wp2_with (go_at_call 52; (with_reducible refine HH.out.mono ?_); rintro e w5 ⟨rfl, q1, rfl⟩)
            go_roundw
            case rel => exact ⟨k + 1, _, by omega, by go_num, rfl⟩
            case measure => simp [intOf]; omega
          · obtain rfl : n = k := by omega
            go_wp2_with (go_at_call 18; (with_reducible refine (HK.out _).mono ?_); rintro e wk ⟨rfl, hbk⟩)
            go_ret
            exact ⟨rfl, Hc1.out.trans (((below_drewN Hbw.out q).trans (hbk.mono (below_drewN Hbw.out q).size)).mono Hc1.out.size)⟩
      · have hq : (x == 0) = false := by simpa using hx
        clear hok hx
        go_enter Try.func9, Try.ntmps9
        go_wp2_with (first
          | (go_at_call 17; (with_reducible refine HG.out.mono ?_); rintro e w2 ⟨rfl, hb2⟩; have q02 := cell_below q0 hb2; have q12 := cell_below q1 hb2)
          | (go_at_call 47; (with_reducible refine (HMa.out _ hb2).mono ?_); rintro e w2m ⟨rfl, rfl⟩)
          | (go_at_call 48; (with_reducible refine (HA.out w2 hb2).mono ?_); rintro e w3 ⟨v3, rfl, hm3⟩; have hb3 := hb2.trans (hm3.bel.mono hb2.size); have q03 := cell_below q0 hb3; have q13 := cell_below q1 hb3; obtain ⟨a3, c3, rfl, hi3⟩ := hm3.at_; have Hi3 := hid_ hi3; rw [HLm.out] at Hi3 ⊢; clear hi3 hm3)
          | (go_at_call 49; (with_reducible refine (HB.out w3 hb3).mono ?_); rintro e w4 ⟨v4, rfl, hm4⟩; have hb4 := hb3.trans (hm4.bel.mono hb3.size); have q04 := cell_below q0 hb4; have q14 := cell_below q1 hb4; obtain ⟨a4, c4, rfl, hi4⟩ := hm4.at_; have Hj4 := hid_ hi4; rw [HLm.out] at Hj4 ⊢; have Hi4 := hid_ (Hi3.out.below hm4.bel (Nat.le_refl _)); clear hi4 hm4)
          | (go_at_call 50; (with_reducible refine (HC.out w4 hb4).mono ?_); rintro e w5 ⟨rfl, hc5⟩; have hb5 := hb4.trans (hc5.mono hb4.size); have q05 := cell_below q0 hb5; have q15 := cell_below q1 hb5; have Hi5 := hid_ (Hi4.out.below hc5 (Nat.le_refl _)); have Hj5 := hid_ (Hj4.out.below hc5 (Nat.le_refl _)))
          | (go_at_call 51; (with_reducible refine (HD.out w5 hb5).mono ?_); rintro e w6 ⟨rfl, hc6⟩; have hb6 := hb5.trans (hc6.mono hb5.size); have q06 := cell_below q0 hb6; have q16 := cell_below q1 hb6; have Hi6 := hid_ (Hi5.out.below hc6 (Nat.le_refl _)); have Hj6 := hid_ (Hj5.out.below hc6 (Nat.le_refl _)))
          | (go_at_call 31; (with_reducible refine (same_yes7 _ _ _ M _ _ _ w6 Hi6.out Hj6.out).mono ?_); rintro e w7 ⟨rfl, hc7⟩; have hb7 := hb6.trans (hc7.mono hb6.size); have q07 := cell_below q0 hb7; have q17 := cell_below q1 hb7; have Hi7 := hid_ (Hi6.out.below hc7 (Nat.le_refl _)); have Hj7 := hid_ (Hj6.out.below hc7 (Nat.le_refl _))))
        go_loopw [13] (fun i wr => i = .int .i64 (0 : Nat) ∧ wr = w7) (fun _ _ => 0)
        case atStart => exact ⟨rfl, rfl⟩
        case round =>
          obtain ⟨rfl, rfl⟩ := hrel
          by_cases hlt : 0 < n
          · go_wp2_with (go_at_call 18; (with_reducible refine (HK.out _).mono ?_); rintro e wk ⟨rfl, hbk⟩)
            go_ret
            exact ⟨rfl, Hc1.out.trans ((hb7.trans (hbk.mono hb7.size)).mono Hc1.out.size)⟩
          · go_wp2_with (go_at_call 18; (with_reducible refine (HK.out _).mono ?_); rintro e wk ⟨rfl, hbk⟩)
            go_ret
            exact ⟨rfl, Hc1.out.trans ((hb7.trans (hbk.mono hb7.size)).mono Hc1.out.size)⟩
end Go.Proofs.Ytahknodnjjmagaa
