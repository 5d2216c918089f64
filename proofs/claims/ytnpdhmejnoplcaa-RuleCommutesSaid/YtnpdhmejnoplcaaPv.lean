import Derived.Test.YtnpdhmejnoplcaaMbd
import Derived.Deep.RegionHeld3
import Derived.Laws.EntriesVeiled
namespace Go.Proofs.Ytnpdhmejnoplcaa
open Go.RowKit Go.Proofs.Kv

/-! ### inTurn, slices.Equal -/
def TurnPost (w : World) (er : Int) (m : List Int) (e : Ending) (w' : World) : Prop :=
  ∃ a n c, e = .returned (.tuple #[.slice a n c, .int .i64 er]) ∧ IntsAt w' a n c m ∧ Below w.heap.size w w'
set_option maxRecDepth 100000 in
set_option maxHeartbeats 4000000 in
theorem inTurn_calls (a : Option Addr) (n c : Nat) (l : List Int) (A : Option Addr) (N C : Nat) (Ls : List Rl) (w : World) (h : IntsAt w a n c l) (hL : RulesAt w A N C Ls) (hN : N ≤ 100) (hv : ∀ R ∈ Ls, validR R = 0) (hw : isWord l = true) (hn : l.length ≤ 8) :
    Calls Try.prog 137 #[.slice a n c, .slice A N C] w (TurnPost w (turnE Ls l) (turnV Ls l)) := by
  have HLn := hid_ hL.len
  have HIn := hid_ (show IntsAt w a n c l ∧ isWord l = true ∧ l.length ≤ 8 from ⟨h, hw, hn⟩)
  have HV := hid_ hv
  have HD := hid_ (fun k hk m => @turn_drop Ls k hk m)
  have H0 : Hid (Ls.drop 0 = Ls) := hid_ rfl
  have HE : Hid (Ls.drop N = []) := hid_ (List.drop_eq_nil_of_le (by rw [hL.len]; exact Nat.le_refl _))
  clear h hw hn hv
  go_enter Try.func137, Try.ntmps137
  go_wp2
  go_loopw [0, 12] (fun v i wr => ∃ (k n' c' : Nat) (a' : Option Addr) (m : List Int), k ≤ N ∧ i = .int .i64 k ∧ v = .slice a' n' c' ∧ (IntsAt wr a' n' c' m ∧ isWord m = true ∧ m.length ≤ 8) ∧ (turnE Ls l = turnE (Ls.drop k) m ∧ turnV Ls l = turnV (Ls.drop k) m) ∧ Below w.heap.size w wr) (fun _ i _ => N - (intOf i).toNat)
  case atStart => exact ⟨0, _, _, _, l, Nat.zero_le _, rfl, rfl, HIn.out, ⟨by rw [H0.out], by rw [H0.out]⟩, Below.refl _ _⟩
  case round =>
    obtain ⟨k, n', c', a', m, hk, rfl, rfl, ⟨hi, hmw, hml⟩, ⟨ht1, ht2⟩, hb⟩ := hrel
    by_cases hlt : k < N
    · obtain ⟨b, off, z1, y1, x1, z2, y2, x2, z3, y3, x3, rfl, hbl, k0, k1, k2, k3, hr⟩ := (hL.below hb (Nat.le_refl _)).at_ hlt
      have hval := HV.out (Ls.getD k ⟨0, [], [], []⟩) (by rw [show Ls.getD k ⟨0, [], [], []⟩ = Ls[k]'(by rw [HLn.out]; exact hlt) by simp [List.getD, show k < Ls.length by rw [HLn.out]; exact hlt]]; exact List.getElem_mem _)
      obtain ⟨d1, d2⟩ := HD.out k (by rw [HLn.out]; exact hlt) m
      rw [d1] at ht1
      rw [d2] at ht2
      generalize Ls.getD k ⟨0, [], [], []⟩ = R at *
      obtain ⟨g1, g2, g3, g4, g5, g6⟩ := validR_ok hval
      have hn8 : n' ≤ 8 := by rw [← hi.len]; exact hml
      have hlenm : m.length = n' := hi.len
      have hsw := hid_ (stp_word (R := R) g4 hmw)
      obtain ⟨wb, hwb⟩ : ∃ wb, wr.alloc (.cells #[.int .i64 R.f, .slice z1 y1 x1, .slice z2 y2 x2, .slice z3 y3 x3] 24) = wb := ⟨_, rfl⟩
      have hbb : Below wr.heap.size wr wb := by rw [← hwb]; exact below_alloc _ _
      have HW := hid_ hwb
      have HQ := hid_ (fun W (hW : Below wb.heap.size wb W) => (⟨box4 HW.out hW, hW⟩ : (W.cell? ⟨wr.heap.size, 0, none⟩ = some (.int .i64 R.f) ∧ W.cell? ⟨wr.heap.size, 1, none⟩ = some (.slice z1 y1 x1) ∧ W.cell? ⟨wr.heap.size, 2, none⟩ = some (.slice z2 y2 x2) ∧ W.cell? ⟨wr.heap.size, 3, none⟩ = some (.slice z3 y3 x3)) ∧ Below wb.heap.size wb W))
      have HPl := hid_ (fun W (hW : Below wb.heap.size wb W) => placesP_calls _ R a' n' c' m W ((hr.below hbb (Nat.le_refl _)).below hW (Nat.le_refl _)) ((hi.below hbb (Nat.le_refl _)).below hW (Nat.le_refl _)) (by omega) g5 g6 hmw)
      have HPu := hid_ (fun W (hW : Below wb.heap.size wb W) a2 c2 (h2 : IntsAt W a2 (plP R m).length c2 (plP R m)) => put_calls _ R a' n' c' m a2 _ c2 (plP R m) W ((hr.below hbb (Nat.le_refl _)).below hW (Nat.le_refl _)) ((hi.below hbb (Nat.le_refl _)).below hW (Nat.le_refl _)) h2 (by omega) (by have := plP_len (R := R) (l := m); omega) g3 plP_ok)
      rw [stp_err, stp_res] at HPu
      generalize plP R m = P at *
      generalize stp R m = M at *
      have Ht1 := hid_ ht1
      have Ht2 := hid_ ht2
      have Hbb := hid_ hbb
      have Hb := hid_ hb
      have Hr := hid_ hr
      clear hr hi hmw hml ht1 ht2 d1 d2 hval g1 g2 g3 g4 g5 g6 hb hbb hwb hlenm
      by_cases h8 : 8 < M.length
      · rw [if_pos h8, if_pos h8] at HPu
        rw [if_pos h8] at Ht1 Ht2
        clear h8
        go_wp2_with fail
        rw [HW.out]
        have hbd : Below wb.heap.size wb wb.drew := Below.drew (Below.refl _ _)
        obtain ⟨⟨q0, q1, q2, q3⟩, -⟩ := HQ.out wb (Below.refl _ _)
        go_region_held3 (fun W => (W.cell? ⟨wr.heap.size, 0, none⟩ = some (.int .i64 R.f) ∧ W.cell? ⟨wr.heap.size, 1, none⟩ = some (.slice z1 y1 x1) ∧ W.cell? ⟨wr.heap.size, 2, none⟩ = some (.slice z2 y2 x2) ∧ W.cell? ⟨wr.heap.size, 3, none⟩ = some (.slice z3 y3 x3)) ∧ Below wb.heap.size wb W) ((refine HQ.out _ ?_; assumption))
          (first
            | ((go_at_call 110; (with_reducible refine (HPl.out _ hbd).mono ?_); rintro e w6 ⟨v6, rfl, hm6⟩; have hb6 := hbd.trans (hm6.bel.mono hbd.size); obtain ⟨a6, k6, rfl, hi6⟩ := hm6.at_; have Hx := hid_ hi6; clear hm6 hi6))
            | ((go_at_call 124; (with_reducible refine (HPu.out _ hb6 _ _ Hx.out).mono ?_); rintro e w7 ⟨v7, rfl, hm7⟩; have hb7 := hb6.trans (hm7.bel.mono hb6.size); obtain ⟨a7, k7, rfl, hi7⟩ := hm7.at_; have Hy := hid_ hi7; clear hm7 hi7)))
        have Hbw := hid_ (Hb.out.trans ((Hbb.out.trans (hb7.mono Hbb.out.size)).mono Hb.out.size))
        go_wp2
        go_ret2
        rw [Ht1.out, Ht2.out]
        exact ⟨_, _, _, rfl, IntsAt.nil _ _ _ (by omega), Hbw.out⟩
      · have H8 : Hid (M.length ≤ 8) := hid_ (by omega)
        rw [if_neg h8, if_neg h8] at HPu
        rw [if_neg h8] at Ht1 Ht2
        clear h8
        go_wp2_with fail
        rw [HW.out]
        have hbd : Below wb.heap.size wb wb.drew := Below.drew (Below.refl _ _)
        obtain ⟨⟨q0, q1, q2, q3⟩, -⟩ := HQ.out wb (Below.refl _ _)
        go_region_held3 (fun W => (W.cell? ⟨wr.heap.size, 0, none⟩ = some (.int .i64 R.f) ∧ W.cell? ⟨wr.heap.size, 1, none⟩ = some (.slice z1 y1 x1) ∧ W.cell? ⟨wr.heap.size, 2, none⟩ = some (.slice z2 y2 x2) ∧ W.cell? ⟨wr.heap.size, 3, none⟩ = some (.slice z3 y3 x3)) ∧ Below wb.heap.size wb W) ((refine HQ.out _ ?_; assumption))
          (first
            | ((go_at_call 110; (with_reducible refine (HPl.out _ hbd).mono ?_); rintro e w6 ⟨v6, rfl, hm6⟩; have hb6 := hbd.trans (hm6.bel.mono hbd.size); obtain ⟨a6, k6, rfl, hi6⟩ := hm6.at_; have Hx := hid_ hi6; clear hm6 hi6))
            | ((go_at_call 124; (with_reducible refine (HPu.out _ hb6 _ _ Hx.out).mono ?_); rintro e w7 ⟨v7, rfl, hm7⟩; have hb7 := hb6.trans (hm7.bel.mono hb6.size); obtain ⟨a7, k7, rfl, hi7⟩ := hm7.at_; have Hy := hid_ hi7; clear hm7 hi7)))
        have Hbw := hid_ (Hb.out.trans ((Hbb.out.trans (hb7.mono Hbb.out.size)).mono Hb.out.size))
        go_wp2
        go_roundw
        case rel => exact ⟨k + 1, _, _, _, M, by omega, by go_num, rfl, ⟨Hy.out, hsw.out, H8.out⟩, ⟨Ht1.out, Ht2.out⟩, Hbw.out⟩
        case measure => simp [intOf]; omega
    · obtain rfl : k = N := by omega
      rw [HE.out] at ht1 ht2
      have Ht1 : Hid (turnE Ls l = 0) := hid_ ht1
      have Ht2 : Hid (turnV Ls l = m) := hid_ ht2
      clear ht1 ht2 hmw hml
      go_wp2
      go_ret2
      rw [Ht1.out, Ht2.out]
      exact ⟨_, _, _, rfl, hi, hb⟩
set_option maxRecDepth 100000 in
theorem equal_calls (a : Option Addr) (n c : Nat) (l : List Int) (a' : Option Addr) (n' c' : Nat) (l' : List Int) (w : World) (h : IntsAt w a n c l) (h' : IntsAt w a' n' c' l') :
    Calls Try.prog 138 #[.slice a n c, .slice a' n' c'] w fun e w' => e = .returned (.bool (Same l l')) ∧ ∃ q, w' = w.drewN q := by
  have hn : n ≤ 9223372036854775807 := Nat.le_trans h.le h.small
  by_cases hnn : n = n'
  · subst hnn
    have hb1 : ((n : Int) != (n : Int)) = false := by simp
    go_enter Try.func138, Try.ntmps138
    go_wp2
    go_loopw [13] (fun i wr => ∃ k q : Nat, k ≤ n ∧ i = .int .i64 k ∧ wr = w.drewN q ∧ ∀ j, j < k → l.getD j 0 = l'.getD j 0) (fun i _ => n - (intOf i).toNat)
    case atStart => exact ⟨0, 0, Nat.zero_le _, rfl, rfl, fun _ h => absurd h (by omega)⟩
    case round =>
      obtain ⟨k, q, hk, rfl, rfl, hall⟩ := hrel
      have Hall := hid_ hall; clear hall
      by_cases hlt : k < n
      · obtain ⟨b, off, rfl, hb, hcell⟩ := h.cells k hlt
        obtain ⟨b', off', rfl, hb', hcell'⟩ := h'.cells k hlt
        generalize hy : l.getD k 0 = y at hcell
        have Hy := hid_ hy; clear hy
        generalize hy' : l'.getD k 0 = y' at hcell'
        have Hy' := hid_ hy'; clear hy'
        by_cases he : y = y'
        · have hq : (y != y') = false := by simpa using he
          have He := hid_ he; clear he
          go_wp2
          go_quiet (fail)
          go_wp2
          go_roundw
          case rel => exact ⟨k + 1, _, by omega, by go_num, rfl, lt_snoc Hall.out (by rw [Hy.out, Hy'.out]; exact He.out)⟩
          case measure => simp [intOf]; omega
        · have hq : (y != y') = true := by simpa using he
          have Hf : Hid (Same l l' = false) := by
            refine hid_ (decide_eq_false fun e => he ?_)
            rw [← Hy.out, ← Hy'.out, e]
          have He := hid_ he; clear he
          go_wp2
          go_quiet (fail)
          go_wp2
          go_ret
          exact ⟨retB Hf.out, _, drewN2 _ _ _⟩
      · have Hf : Hid (Same l l' = true) := hid_ (decide_eq_true (ext_getD h.len h'.len fun j hj => Hall.out j (by omega)))
        go_wp2
        go_ret
        exact ⟨retB Hf.out, _, rfl⟩
  · have hb1 : ((n : Int) != (n' : Int)) = true := by simp; omega
    have Hf : Hid (Same l l' = false) := hid_ (decide_eq_false fun e => hnn (by rw [← h.len, ← h'.len, e]))
    have Hn := hid_ hnn; clear hnn
    go_enter Try.func138, Try.ntmps138
    go_wp2
    go_ret
    exact ⟨retB Hf.out, 0, rfl⟩
end Go.Proofs.Ytnpdhmejnoplcaa
