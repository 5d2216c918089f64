import Derived.Test.YtebbmhlkdfmmcaaGreatJm
import Derived.Test.YtebbmhlkdfmmcaaGreatRgn
namespace Go.Proofs.YtebbmhlkdfmmcaaGreat
open Go.RowKit Go.Proofs.Kv

/-! ### Validate of a system -/
theorem firstE_zero (L : List Rl) : firstE L = firstE (L.drop 0) := rfl
set_option maxRecDepth 100000 in
set_option maxHeartbeats 4000000 in
theorem feValidate_calls (A : Option Addr) (N C : Nat) (L : List Rl) (w : World) (h : RulesAt w A N C L) :
    Calls Tryz.prog 47 #[.slice A N C] w fun e w' => e = .returned (.int .i64 (validS L)) ∧ Below w.heap.size w w' := by
  have hN : N ≤ 9223372036854775807 := Nat.le_trans h.le h.small
  have HLn := hid_ h.len
  by_cases h6 : 6 < N
  · have Hf : Hid (validS L = 3) := hid_ (by rw [validS, if_pos (by rw [HLn.out]; exact h6)])
    have h6' : (6 : Int) < (N : Int) := by omega
    clear h h6
    go_enter Tryz.func47, Tryz.ntmps47
    go_wp2
    go_ret
    exact ⟨retI Hf.out, Below.refl _ _⟩
  · have Hf : Hid (validS L = firstE L) := hid_ (by rw [validS, if_neg (by rw [HLn.out]; exact h6)])
    have HD := hid_ (fun k hk => @firstE_drop L k hk)
    have HE : Hid (firstE (L.drop N) = 0) := hid_ (by rw [List.drop_eq_nil_of_le (by rw [HLn.out]; exact Nat.le_refl _)]; rfl)
    have h6' : ¬ (6 : Int) < (N : Int) := by omega
    go_enter Tryz.func47, Tryz.ntmps47
    go_wp2
    go_loopw [11] (fun i wr => ∃ k : Nat, k ≤ N ∧ i = .int .i64 k ∧ firstE L = firstE (L.drop k) ∧ Below w.heap.size w wr) (fun i _ => N - (intOf i).toNat)
    case atStart => exact ⟨0, Nat.zero_le _, rfl, firstE_zero L, Below.refl _ _⟩
    case round =>
      obtain ⟨k, hk, rfl, hd, hb⟩ := hrel
      by_cases hlt : k < N
      · obtain ⟨b, off, a1, n1, c1, a2, n2, c2, a3, n3, c3, rfl, hbl, k0, k1, k2, k3, hr⟩ := (h.below hb (Nat.le_refl _)).at_ hlt
        have hdd := HD.out k (by rw [HLn.out]; exact hlt)
        rw [hdd] at hd
        clear hdd
        generalize L.getD k ⟨0, [], [], []⟩ = R at *
        have HV := hid_ (ruValidate_calls _ R (wr.alloc (.cells #[.int .i64 R.f, .slice a1 n1 c1, .slice a2 n2 c2, .slice a3 n3 c3] 44)) (hr.below (below_alloc _ _) (Nat.le_refl _)))
        have Hb := hid_ hb
        clear hr hb
        by_cases hv : validR R = 0
        · rw [if_pos hv] at hd
          rw [hv] at HV
          have Hd := hid_ hd
          clear hv hd
          go_wp2_with (go_at_call 66; (with_reducible refine HV.out.mono ?_); rintro e w6 ⟨rfl, hb6⟩)
          go_roundw
          case rel => exact ⟨k + 1, by omega, by go_num, Hd.out, Hb.out.trans (((below_alloc wr _).trans (hb6.mono (by simp))).mono Hb.out.size)⟩
          case measure => simp [intOf]; omega
        · rw [if_neg hv] at hd
          have hq : (validR R != 0) = true := by simpa using hv
          generalize validR R = x at *
          have Hd := hid_ hd
          clear hv hd
          go_wp2_with (go_at_call 66; (with_reducible refine HV.out.mono ?_); rintro e w6 ⟨rfl, hb6⟩)
          go_ret
          exact ⟨retI (by rw [Hf.out, Hd.out]), Hb.out.trans (((below_alloc wr _).trans (hb6.mono (by simp))).mono Hb.out.size)⟩
      · obtain rfl : N = k := by omega
        rw [HE.out] at hd
        have Hd := hid_ hd
        clear hd
        go_wp2
        go_ret
        exact ⟨retI (by rw [Hf.out, Hd.out]), hb⟩
set_option maxRecDepth 100000 in
set_option maxHeartbeats 4000000 in
theorem r3Validate_calls (A : Option Addr) (N C : Nat) (L : List Rl) (w : World) (h : RulesAt w A N C L) :
    Calls Tryz.prog 61 #[.slice A N C] w fun e w' => e = .returned (.int .i64 (validS L)) ∧ Below w.heap.size w w' := by
  have hN : N ≤ 9223372036854775807 := Nat.le_trans h.le h.small
  have HLn := hid_ h.len
  by_cases h6 : 6 < N
  · have Hf : Hid (validS L = 3) := hid_ (by rw [validS, if_pos (by rw [HLn.out]; exact h6)])
    have h6' : (6 : Int) < (N : Int) := by omega
    clear h h6
    go_enter Tryz.func61, Tryz.ntmps61
    go_wp2
    go_ret
    exact ⟨retI Hf.out, Below.refl _ _⟩
  · have Hf : Hid (validS L = firstE L) := hid_ (by rw [validS, if_neg (by rw [HLn.out]; exact h6)])
    have HD := hid_ (fun k hk => @firstE_drop L k hk)
    have HE : Hid (firstE (L.drop N) = 0) := hid_ (by rw [List.drop_eq_nil_of_le (by rw [HLn.out]; exact Nat.le_refl _)]; rfl)
    have h6' : ¬ (6 : Int) < (N : Int) := by omega
    go_enter Tryz.func61, Tryz.ntmps61
    go_wp2
    go_loopw [3] (fun i wr => ∃ k : Nat, k ≤ N ∧ i = .int .i64 k ∧ firstE L = firstE (L.drop k) ∧ Below w.heap.size w wr) (fun i _ => N - (intOf i).toNat)
    case atStart => exact ⟨0, Nat.zero_le _, rfl, firstE_zero L, Below.refl _ _⟩
    case round =>
      obtain ⟨k, hk, rfl, hd, hb⟩ := hrel
      by_cases hlt : k < N
      · obtain ⟨b, off, a1, n1, c1, a2, n2, c2, a3, n3, c3, rfl, hbl, k0, k1, k2, k3, hr⟩ := (h.below hb (Nat.le_refl _)).at_ hlt
        have hdd := HD.out k (by rw [HLn.out]; exact hlt)
        rw [hdd] at hd
        clear hdd
        generalize L.getD k ⟨0, [], [], []⟩ = R at *
        have HV := hid_ (validate_calls _ R wr hr)
        have Hb := hid_ hb
        clear hr hb
        by_cases hv : validR R = 0
        · rw [if_pos hv] at hd
          rw [hv] at HV
          have Hd := hid_ hd
          clear hv hd
          go_wp2_with (go_at_call 83; (with_reducible refine HV.out.mono ?_); rintro e w6 ⟨rfl, hb6⟩)
          go_roundw
          case rel => exact ⟨k + 1, by omega, by go_num, Hd.out, Hb.out.trans (hb6.mono Hb.out.size)⟩
          case measure => simp [intOf]; omega
        · rw [if_neg hv] at hd
          have hq : (validR R != 0) = true := by simpa using hv
          generalize validR R = x at *
          have Hd := hid_ hd
          clear hv hd
          go_wp2_with (go_at_call 83; (with_reducible refine HV.out.mono ?_); rintro e w6 ⟨rfl, hb6⟩)
          go_ret
          exact ⟨retI (by rw [Hf.out, Hd.out]), Hb.out.trans (hb6.mono Hb.out.size)⟩
      · obtain rfl : N = k := by omega
        rw [HE.out] at hd
        have Hd := hid_ hd
        clear hd
        go_wp2
        go_ret
        exact ⟨retI (by rw [Hf.out, Hd.out]), hb⟩

/-! ### the weight of a word -/
theorem wtOf_snoc {ws l : List Int} {k : Nat} (hk : k < l.length) : wtOf ws (l.take (k + 1)) = wtOf ws (l.take k) + ws.getD (l.getD k 0).toNat 0 := by
  rw [take_snoc l 0 k hk]; simp [wtOf]
set_option maxRecDepth 100000 in
set_option maxHeartbeats 4000000 in
theorem feWeigh_calls (a : Option Addr) (n c : Nat) (ws : List Int) (a' : Option Addr) (n' c' : Nat) (l : List Int) (w : World) (h : IntsAt w a n c ws) (h' : IntsAt w a' n' c' l) (hw : WtL ws) (hl : ∀ x ∈ l, 0 ≤ x ∧ x ≤ 5) (hn : n' ≤ 1000) :
    Calls Tryz.prog 49 #[.slice a n c, .slice a' n' c'] w fun e w' => e = .returned (.int .i64 (wtOf ws l)) ∧ w = w' := by
  have HLn := hid_ h'.len
  have HS := hid_ (fun k hk => @wtOf_snoc ws l k hk)
  have HR := hid_ (fun k => wtOf_range hw (l.take k))
  have HX : Hid (∀ k, k < n' → 0 ≤ l.getD k 0 ∧ l.getD k 0 ≤ 5) := hid_ (fun k hk => hl _ (getD_mem (by rw [h'.len]; exact hk)))
  have HE : Hid (wtOf ws (l.take n') = wtOf ws l) := hid_ (by rw [← h'.len, List.take_length])
  have h6 : n = 6 := by rw [← h.len]; exact hw.1
  subst h6
  go_enter Tryz.func49, Tryz.ntmps49
  go_wp2
  go_loop [5, 10] (fun s i => ∃ k : Nat, k ≤ n' ∧ i = .int .i64 k ∧ s = .int .i64 (wtOf ws (l.take k))) (fun _ i => n' - (intOf i).toNat)
  case atStart => exact ⟨0, Nat.zero_le _, rfl, rfl⟩
  case round =>
    obtain ⟨k, hk, rfl, rfl⟩ := hrel
    by_cases hlt : k < n'
    · obtain ⟨b, off, rfl, hb, hcell⟩ := h'.cells k hlt
      obtain ⟨x0, x5⟩ := HX.out k hlt
      have hs := HS.out k (by rw [HLn.out]; exact hlt)
      have hr := HR.out k
      have hy := hw.at_ (l.getD k 0).toNat
      rw [List.length_take] at hr
      obtain ⟨j, hj⟩ : ∃ j : Nat, l.getD k 0 = (j : Int) := ⟨(l.getD k 0).toNat, by omega⟩
      rw [hj] at hcell hs hy
      have hj6 : j < 6 := by omega
      obtain ⟨b2, off2, rfl, hb2, hcell2⟩ := h.cells j hj6
      simp only [Int.toNat_natCast] at hs hy
      generalize ws.getD j 0 = y at *
      generalize wtOf ws (l.take k) = S at *
      have hwr : IntKind.i64.wrap (S + y) = S + y := IntWalk.i64_in _ (by omega)
      have hji : (j : Int) < 6 := by omega
      have Hs := hid_ hs
      clear hs hr hy hj x0 x5
      go_wp2
      go_round
      case rel => exact ⟨k + 1, by omega, by go_num, by rw [Hs.out]⟩
      case measure => simp [intOf]; omega
    · obtain rfl : n' = k := by omega
      go_wp2
      go_ret
      exact ⟨retI HE.out.symm, rfl⟩
end Go.Proofs.YtebbmhlkdfmmcaaGreat
