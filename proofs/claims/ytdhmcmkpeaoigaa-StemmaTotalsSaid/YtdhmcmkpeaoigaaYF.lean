import Derived.Test.YtdhmcmkpeaoigaaYE
namespace Go.Proofs.Ytdhmcmkpeaoigaa
open Go.RowKit Go.Proofs.Kv

/-! ### the law StemmaTotals -/
theorem diff_two {T : List (List Int)} {p i k : Nat} (hi : i < T.length) (hk : k < T.length) (h : (T.getD i []).getD p 0 ≠ (T.getD k []).getD p 0) : 2 ≤ diffR T p := by
  have hn : [(T.getD i []).getD p 0, (T.getD k []).getD p 0].Nodup := List.nodup_cons.2 ⟨fun hm => h (List.mem_singleton.1 hm), by simp⟩
  have h1 : (T.getD i []).getD p 0 ∈ colR T p := by rw [← colR_get hi]; exact getD_mem (by rw [colR_len]; exact hi)
  have h2 : (T.getD k []).getD p 0 ∈ colR T p := by rw [← colR_get hk]; exact getD_mem (by rw [colR_len]; exact hk)
  exact len_le_sub (m := uq (colR T p)) hn fun x hx => by
    rw [mem_uq]
    rcases List.mem_cons.1 hx with rfl | hx
    · exact h1
    · rw [List.mem_singleton.1 hx]; exact h2
theorem apN_le_tot {T : List (List Int)} {X : Tr} {i k : Nat} (hi : i < T.length) (hk : k < T.length) : ∀ {m : Nat}, (∀ p, p < m → okRead T X (p : Nat) = true) → apN (T.getD i []) (T.getD k []) m ≤ sumN (fun p => fewR T X (p : Nat)) m
  | 0, _ => Nat.le_refl _
  | m + 1, h => by
    have ih := apN_le_tot (m := m) hi hk fun p hp => h p (by omega)
    have e : ne1 ((T.getD i []).getD m 0) ((T.getD k []).getD m 0) ≤ fewR T X (m : Nat) := by
      obtain ⟨-, gX, hl, -, -, hA, -, hf⟩ := read_agree (h m (by omega))
      rw [hf, ne1]
      split
      · omega
      · rename_i hne
        have h1 := diff_two (p := m) hi hk hne
        have h2 := agree_diff gX hl hA
        omega
    show apN _ _ m + ne1 _ _ ≤ sumN _ m + fewR T X (m : Nat)
    omega
theorem tot_apart {T : List (List Int)} {X : Tr} (ho : okTot T X = true) {i k : Nat} (hi : i < T.length) (hk : k < T.length) : copiesE T [(i : Int), (k : Int)] = 0 ∧ resApart T i k ≤ (resTot T X : Int) := by
  have h1 := ho
  rw [okTot, Bool.and_eq_true, decide_eq_true_eq] at h1
  obtain ⟨he, ha⟩ := h1
  have hv : validT T = 0 := by
    have g := he
    unfold errB at g
    split at g
    · rename_i hz; exact (orE_zero hz).1
    · rename_i hz; exact absurd g hz
  have hc : copiesE T [(i : Int), (k : Int)] = 0 := by
    rw [copiesE, if_pos hv, numE_two, if_pos ⟨isNum_iff.2 ⟨by omega, by omega⟩, isNum_iff.2 ⟨by omega, by omega⟩⟩]
  refine ⟨hc, ?_⟩
  rw [resApart, if_pos hc, resTot, if_pos ho, Int.toNat_natCast, Int.toNat_natCast]
  have := apN_le_tot (X := X) hi hk (m := n0 T) fun p hp => List.all_eq_true.1 ha p (List.mem_range.2 hp)
  omega
set_option maxRecDepth 100000 in
set_option maxHeartbeats 4000000 in
theorem stemmaTotals_calls (a : Option Addr) (n c : Nat) (T : List (List Int)) (v : Value) (X : Tr) (w : World) (hT : ListsAt w a n c T) (h : TreeAt w v X) :
    Calls Try.prog 11 #[.slice a n c, v] w fun e w' => e = .returned (.bool true) ∧ Below w.heap.size w w' := by
  have HP := hid_ h
  obtain ⟨a1, n1, c1, a2, n2, c2, rfl, h1, h2⟩ := h
  obtain ⟨w1, hw1⟩ : ∃ w1, w.alloc (.cells #[.slice a1 n1 c1, .slice a2 n2 c2] 45) = w1 := ⟨_, rfl⟩
  have cb : Below w.heap.size w w1 := by rw [← hw1]; exact below_alloc _ _
  have q0 : w1.cell? ⟨w.heap.size, 0, none⟩ = some (.slice a1 n1 c1) := by rw [← hw1]; exact cells_alloc _ _ _ 0
  have q1 : w1.cell? ⟨w.heap.size, 1, none⟩ = some (.slice a2 n2 c2) := by rw [← hw1]; exact cells_alloc _ _ _ 1
  have HP1 := hid_ (HP.out.below cb (Nat.le_refl _)); have Hc1 := hid_ cb
  have HT1 := hid_ (hT.below cb (Nat.le_refl _))
  have HG := hid_ (long_calls a n c T w1 HT1.out)
  have HLa := hid_ (large_calls _ X w1 HP1.out)
  have HK := hid_ sane_calls
  have HA := hid_ (fun W (hW : Below w1.heap.size w1 W) => stTotal_calls a n c T _ X W (HT1.out.below hW (Nat.le_refl _)) (HP1.out.below hW (Nat.le_refl _)))
  have HB := hid_ (fun W (hW : Below w1.heap.size w1 W) => r7Total_calls a n c T _ X W (HT1.out.below hW (Nat.le_refl _)) (HP1.out.below hW (Nat.le_refl _)))
  have hn : n ≤ 9223372036854775807 := Nat.le_trans hT.le hT.small
  have Hlen := hid_ hT.len
  clear h1 h2 cb hT
  cases hg : longT T with
  | true =>
    rw [hg] at HG
    go_enter Try.func11, Try.ntmps11
    go_wp2_with (first
      | (go_at_call 18; refine (HG.out).mono ?_; rintro e w' ⟨rfl, rfl⟩)
      | (go_at_call 19; (with_reducible refine (HK.out _).mono ?_); rintro e w3 ⟨rfl, hb3⟩))
    go_ret
    exact ⟨rfl, Hc1.out.trans (hb3.mono Hc1.out.size)⟩
  | false =>
    rw [hg] at HG
    clear hg
    cases hx : largeX X with
    | true =>
      rw [hx] at HLa
      go_enter Try.func11, Try.ntmps11
      go_wp2_with (first
        | (go_at_call 18; refine (HG.out).mono ?_; rintro e w' ⟨rfl, rfl⟩)
        | (go_at_call 39; (with_reducible refine HLa.out.mono ?_); rintro e w2 ⟨rfl, hb2⟩)
        | (go_at_call 19; (with_reducible refine (HK.out _).mono ?_); rintro e w3 ⟨rfl, hb3⟩))
      go_ret
      exact ⟨rfl, Hc1.out.trans ((hb2.trans (hb3.mono hb2.size)).mono Hc1.out.size)⟩
    | false =>
      rw [hx] at HLa
      clear hx
      cases ho : okTot T X with
      | false =>
        rw [ho] at HA HB
        clear ho
        generalize errB T X = x at *
        generalize resTot T X = f at *
        go_enter Try.func11, Try.ntmps11
        go_wp2_with (first
          | (go_at_call 18; refine (HG.out).mono ?_; rintro e w' ⟨rfl, rfl⟩)
          | (go_at_call 39; (with_reducible refine HLa.out.mono ?_); rintro e w2 ⟨rfl, hb2⟩; have q02 := cell_below q0 hb2; have q12 := cell_below q1 hb2)
          | (go_at_call 45; (with_reducible refine (HA.out _ hb2).mono ?_); rintro e w3 ⟨rfl, hc3⟩; have hb3 := hb2.trans (hc3.mono hb2.size); have q03 := cell_below q0 hb3; have q13 := cell_below q1 hb3)
          | (go_at_call 46; (with_reducible refine (HB.out _ hb3).mono ?_); rintro e w4 ⟨rfl, hc4⟩; have hb4 := hb3.trans (hc4.mono hb3.size)))
        go_loopw [11] (fun v wr => v = .int .i64 (0 : Nat) ∧ Below w1.heap.size w1 wr) (fun v _ => 0)
        case atStart => exact ⟨rfl, hb4⟩
        case round =>
          obtain ⟨rfl, hbr⟩ := hrel
          go_wp2_with (go_at_call 19; (with_reducible refine (HK.out _).mono ?_); rintro e w9 ⟨rfl, hb9⟩)
          go_ret
          exact ⟨rfl, Hc1.out.trans ((hbr.trans (hb9.mono hbr.size)).mono Hc1.out.size)⟩
      | true =>
        have HX := hid_ (fun (i k : Nat) (hi : i < n) (hk : k < n) => tot_apart ho (show i < T.length by rw [Hlen.out]; exact hi) (show k < T.length by rw [Hlen.out]; exact hk))
        have HY := hid_ (fun (i k : Nat) (hi : i < n) (hk : k < n) W (hW : Below w1.heap.size w1 W) => by
          have := stApart_calls a n c T i k W (HT1.out.below hW (Nat.le_refl _))
          rwa [(HX.out i k hi hk).1] at this)
        have HZ := hid_ (fun (i k : Nat) (hi : i < n) (hk : k < n) => (HX.out i k hi hk).2)
        have HL := hid_ (fun i k : Nat => resApart_le T i k)
        rw [ho] at HA HB
        clear ho HX
        generalize errB T X = x at *
        generalize resTot T X = f at *
        go_enter Try.func11, Try.ntmps11
        go_wp2_with (first
          | (go_at_call 18; refine (HG.out).mono ?_; rintro e w' ⟨rfl, rfl⟩)
          | (go_at_call 39; (with_reducible refine HLa.out.mono ?_); rintro e w2 ⟨rfl, hb2⟩; have q02 := cell_below q0 hb2; have q12 := cell_below q1 hb2)
          | (go_at_call 45; (with_reducible refine (HA.out _ hb2).mono ?_); rintro e w3 ⟨rfl, hc3⟩; have hb3 := hb2.trans (hc3.mono hb2.size); have q03 := cell_below q0 hb3; have q13 := cell_below q1 hb3)
          | (go_at_call 46; (with_reducible refine (HB.out _ hb3).mono ?_); rintro e w4 ⟨rfl, hc4⟩; have hb4 := hb3.trans (hc4.mono hb3.size)))
        go_loopw [11] (fun v wr => ∃ k : Nat, k ≤ n ∧ v = .int .i64 k ∧ Below w1.heap.size w1 wr) (fun v _ => n - (intOf v).toNat)
        case atStart => exact ⟨0, Nat.zero_le _, rfl, hb4⟩
        case round =>
          obtain ⟨i, hi, rfl, hbr⟩ := hrel
          by_cases hlt : i < n
          · go_wp2
            go_loopw [12] (fun v wr => ∃ k : Nat, k ≤ i ∧ v = .int .i64 k ∧ Below w1.heap.size w1 wr) (fun v _ => i - (intOf v).toNat)
            case atStart => exact ⟨0, Nat.zero_le _, rfl, hbr⟩
            case round =>
              obtain ⟨k, hk, rfl, hbk⟩ := hrel
              by_cases hki : k < i
              · have HYk := hid_ (HY.out i k hlt (by omega))
                have hzk := HZ.out i k hlt (by omega)
                have hlk := HL.out i k
                generalize resApart T i k = y at *
                go_wp2_with (go_at_call 47; (with_reducible refine (HYk.out _ hbk).mono ?_); rintro e w5 ⟨rfl, hc5⟩; have hb5 := hbk.trans (hc5.mono hbk.size))
                go_roundw
                case rel => exact ⟨k + 1, by omega, by go_num, hb5⟩
                case measure => simp [intOf]; omega
              · obtain rfl : k = i := by omega
                go_wp2
                go_roundw
                case rel => exact ⟨k + 1, by omega, by go_num, hbk⟩
                case measure => simp [intOf]; omega
          · obtain rfl : i = n := by omega
            go_wp2_with (go_at_call 19; (with_reducible refine (HK.out _).mono ?_); rintro e w9 ⟨rfl, hb9⟩)
            go_ret
            exact ⟨rfl, Hc1.out.trans ((hbr.trans (hb9.mono hbr.size)).mono Hc1.out.size)⟩
end Go.Proofs.Ytdhmcmkpeaoigaa
