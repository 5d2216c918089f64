import Derived.Test.YthmnmpglnaegfaaYk
import Derived.ChangeKeysEq
namespace Go.Proofs.Ythmnmpglnaegfaa
open Go.RowKit Go.Proofs.Kv

/-! ### Conflicts, CanTree of the document -/
set_option maxRecDepth 100000 in
set_option maxHeartbeats 1000000 in
theorem r7Conflicts_calls (a : Option Addr) (n c : Nat) (T : List (List Int)) (w : World) (h : ListsAt w a n c T) :
    Calls Try.prog 38 #[.slice a n c] w fun e w' => ∃ v, e = .returned (.tuple #[v, .int .i64 (validT T)]) ∧ MadeP 83 w w' v (resConfs T) := by
  have HV := hid_ (r7Validate_calls a n c T w h)
  have HR : Hid (resConfs T = if validT T = 0 then confR T else []) := hid_ rfl
  generalize resConfs T = R at *
  by_cases he : validT T = 0
  · have Hf := hid_ (HR.out.trans (if_pos he))
    have g := validT_ok he
    rw [he] at HV ⊢
    clear he HR
    rw [Hf.out]
    clear Hf
    obtain ⟨i0, hi0, hz0, hz1, hz2⟩ := info_parts Try.infoPair
    have h0 : 0 < n := by have := g.ge; have := h.len; omega
    obtain ⟨b, off, a0, m, c0, rfl, hb0, hc0, hr0⟩ := h.cells 0 h0
    rw [Nat.add_zero] at hc0
    have Hm : Hid (n0 T = m) := hid_ hr0.len
    have hm6 := g.w6
    have HA := hid_ (fun p q (hp : p < m) (hq : q < m) W (hW : Below w.heap.size w W) => r7conflict_calls _ n c T p q W (h.below hW (Nat.le_refl _)) g (by rw [Hm.out]; exact hp) (by rw [Hm.out]; exact hq))
    have HR : Hid (confR T = allC (cfR T) m m) := hid_ (by rw [confR, Hm.out])
    have HZ : Hid (allC (cfR T) m 0 = []) := hid_ rfl
    rw [Hm.out] at hm6
    have hle := fun p (hp : p ≤ m) => Nat.le_trans (allC_le (cfR T) m p) (Nat.mul_le_mul hp (Nat.le_refl m))
    have hmm36 : m * m ≤ 36 := Nat.mul_le_mul hm6 hm6
    have Hle := hid_ hle
    have Hcr := hid_ (fun p j => rowC_le (cfR T) p j)
    have Hsu := hid_ (fun p => allC_succ (cfR T) m p)
    have Hhit := hid_ (fun p j hp hh => @rowC_hit (cfR T) p j hp hh)
    have Hmis := hid_ (fun p j hh => @rowC_miss (cfR T) p j hh)
    have Hz1 := hid_ (fun p => rowC_zero (cfR T) p)
    have Hcell := hid_ (fun W (hW : Below w.heap.size w W) => cell_below hc0 hW)
    clear hr0 g hle h
    generalize confR T = R at *
    generalize cfR T = cf at *
    go_enter Try.func38, Try.ntmps38
    go_wp2_with (go_at_call 33; (with_reducible refine HV.out.mono ?_); rintro e w2 ⟨rfl, q, rfl⟩)
    go_loopw [5, 6] (fun v i wr => ∃ p : Nat, p ≤ m ∧ i = .int .i64 p ∧ wr.ownsRow w.heap.size 83 2 v (allC cf m p).length ((allC cf m p).flatMap encN) ∧ Below w.heap.size w wr) (fun _ i _ => m - (intOf i).toNat)
    case atStart => exact ⟨0, Nat.zero_le _, rfl, by rw [HZ.out]; exact World.ownsRow_nil _ _ _ _, below_drewN (Below.refl _ _) _⟩
    case round =>
      obtain ⟨p, hp, rfl, hown, hb⟩ := hrel
      by_cases hlt : p < m
      · have Hown := hid_ hown
        have Hb := hid_ hb
        have hc1 := Hcell.out _ hb
        clear hown hb
        go_wp2
        obtain ⟨wo, hwo⟩ : ∃ wo, wo = wr := ⟨_, rfl⟩
        rw [← hwo] at Hown Hb hc1 ⊢
        clear hwo
        go_loopw [5, 7] (fun v i wr => ∃ j : Nat, p < j ∧ j ≤ m ∧ i = .int .i64 j ∧ wr.ownsRow w.heap.size 83 2 v (allC cf m p ++ rowC cf p j).length ((allC cf m p ++ rowC cf p j).flatMap encN) ∧ Below w.heap.size w wr) (fun _ i _ => m - (intOf i).toNat)
        case atStart => exact ⟨p + 1, by omega, by omega, by go_num, by rw [Hz1.out, List.append_nil]; exact Hown.out, Hb.out⟩
        case round =>
          obtain ⟨j, hpj, hj, rfl, hown, hb⟩ := hrel
          have Hown := hid_ hown
          have Hb2 := hid_ hb
          have hc2 := Hcell.out _ hb
          by_cases hltj : j < m
          · have HC := hid_ (HA.out p j hlt hltj _ hb)
            clear hown hb
            cases hh : cf p j with
            | false =>
              have Hf := hid_ (Hmis.out p j hh)
              rw [hh] at HC
              clear hh
              go_wp2_with (go_at_call 35; (with_reducible refine HC.out.mono ?_); rintro e w2 ⟨rfl, hb2⟩)
              go_roundw
              case rel => exact ⟨j + 1, by omega, by omega, by go_num, by rw [Hf.out]; exact own_below Hown.out hb2 (Nat.le_refl _), Hb2.out.trans (hb2.mono Hb2.out.size)⟩
              case measure => simp [intOf]; omega
            | true =>
              have Hf := hid_ (Hhit.out p j hpj hh)
              rw [hh] at HC
              clear hh
              have hL : (allC cf m p ++ rowC cf p j).length + 1 ≤ 1000000 := by
                have := Hle.out p hp
                have := Hcr.out p j
                rw [List.length_append]; omega
              go_wp2_with (first
                | (go_at_call 35; (with_reducible refine HC.out.mono ?_); rintro e w2 ⟨rfl, hb2⟩; have hown2 := own_below Hown.out hb2 (Nat.le_refl _); have Hown2 := hid_ hown2; have Hb3 := hid_ (Hb2.out.trans (hb2.mono Hb2.out.size)); clear hown2)
                | (at_builtin; refine wpList_append_pair w2 rfl (.tmp 35) (.tmp 39) _ rfl w.heap.size 83 i0 Try.underlying44 hi0 hz0 hz1 hz2 u5 _ (allC cf m p ++ rowC cf p j) rfl Hown2.out (p : Int) (j : Int) 83 rfl hL Hb3.out.size ?_; intro v3 w3 hown3 hg3))
              go_roundw
              case rel => exact ⟨j + 1, by omega, by omega, by go_num, by rw [Hf.out, ← List.append_assoc, List.length_append (bs := [_])]; exact hown3, below_app Hb3.out Hb3.out.size Hown2.out hg3⟩
              case measure => simp [intOf]; omega
          · obtain rfl : j = m := by omega
            clear hown hb
            go_wp2
            go_roundw
            case rel => exact ⟨p + 1, by omega, by go_num, by rw [Hsu.out]; exact Hown.out, Hb2.out⟩
            case measure => simp [intOf]; omega
      · obtain rfl : p = m := by omega
        have hc1 := Hcell.out _ hb
        have Hown := hid_ hown
        have Hb := hid_ hb
        clear hown hb
        go_wp2
        go_ret2
        exact ⟨_, rfl, by rw [HR.out]; exact ⟨Hown.out, Hb.out⟩⟩
  · have Hf := hid_ (HR.out.trans (if_neg he))
    have hq : (validT T != 0) = true := by simpa using he
    generalize validT T = x at *
    clear he HR
    rw [Hf.out]
    go_enter Try.func38, Try.ntmps38
    go_wp2_with (go_at_call 33; (with_reducible refine HV.out.mono ?_); rintro e w2 ⟨rfl, q, rfl⟩)
    go_ret2
    exact ⟨_, rfl, MadeP.none_ _ (below_drewN (Below.refl _ _) _)⟩
set_option maxRecDepth 100000 in
theorem r7CanTree_calls (a : Option Addr) (n c : Nat) (T : List (List Int)) (w : World) (h : ListsAt w a n c T) :
    Calls Try.prog 12 #[.slice a n c] w fun e w' => e = .returned (.tuple #[.bool (resCan T), .int .i64 (validT T)]) ∧ Below w.heap.size w w' := by
  have HC := hid_ (r7Conflicts_calls a n c T w h)
  have HR : Hid (resCan T = (decide (validT T = 0) && decide ((confR T).length = 0))) := hid_ rfl
  have HS : Hid (resConfs T = if validT T = 0 then confR T else []) := hid_ rfl
  generalize resCan T = R at *
  by_cases he : validT T = 0
  · have Hf := hid_ (HR.out.trans (by rw [decide_eq_true he, Bool.true_and]))
    rw [HS.out, if_pos he, he] at HC
    rw [he]
    clear he HR HS
    rw [Hf.out]
    clear Hf
    generalize confR T = C at *
    obtain ⟨m, hm⟩ : ∃ m, C.length = m := ⟨_, rfl⟩
    have Hm := hid_ hm
    rw [hm]
    clear hm
    by_cases h0 : m = 0
    · subst h0
      go_enter Try.func12, Try.ntmps12
      go_wp2_with (go_at_call 38; (with_reducible refine HC.out.mono ?_); rintro e w3 ⟨v3, rfl, hm⟩; obtain ⟨a3, c3, rfl, -⟩ := hm.at_; rw [Hm.out])
      go_ret2
      exact ⟨rfl, hm.bel⟩
    · have hq : ((m : Int) == 0) = false := by simp; omega
      have Hd : Hid (decide (m = 0) = false) := hid_ (decide_eq_false h0)
      clear h0
      rw [Hd.out]
      go_enter Try.func12, Try.ntmps12
      go_wp2_with (go_at_call 38; (with_reducible refine HC.out.mono ?_); rintro e w3 ⟨v3, rfl, hm⟩; obtain ⟨a3, c3, rfl, -⟩ := hm.at_; rw [Hm.out])
      go_ret2
      exact ⟨rfl, hm.bel⟩
  · have Hf := hid_ (HR.out.trans (by rw [decide_eq_false he, Bool.false_and]))
    have hq : (validT T == 0) = false := by simpa using he
    rw [HS.out, if_neg he] at HC
    generalize validT T = x at *
    clear he HR HS
    rw [Hf.out]
    go_enter Try.func12, Try.ntmps12
    go_wp2_with (go_at_call 38; (with_reducible refine HC.out.mono ?_); rintro e w3 ⟨v3, rfl, hm⟩; obtain ⟨a3, c3, rfl, -⟩ := hm.at_)
    go_ret2
    exact ⟨rfl, hm.bel⟩
/-! ### equal lists -/
set_option maxRecDepth 100000 in
theorem same7_calls (a : Option Addr) (n c : Nat) (l : List Int) (a' : Option Addr) (n' c' : Nat) (w : World) (h : IntsAt w a n c l) (h' : IntsAt w a' n' c' l) :
    Calls Try.prog 10 #[.slice a n c, .slice a' n' c'] w fun e w' => e = .returned (.bool true) ∧ ∃ q, w' = w.drewN q := by
  have hn : n ≤ 9223372036854775807 := Nat.le_trans h.le h.small
  obtain rfl : n' = n := h'.len.symm.trans h.len
  have hb1 : ((n' : Int) != (n' : Int)) = false := by simp
  go_enter Try.func10, Try.ntmps10
  go_wp2
  go_loopw [5] (fun i wr => ∃ k q : Nat, k ≤ n' ∧ i = .int .i64 k ∧ wr = w.drewN q) (fun i _ => n' - (intOf i).toNat)
  case atStart => exact ⟨0, 0, Nat.zero_le _, rfl, rfl⟩
  case round =>
    obtain ⟨k, q, hk, rfl, rfl⟩ := hrel
    by_cases hlt : k < n'
    · obtain ⟨b, off, rfl, hb, hcell⟩ := h.cells k hlt
      obtain ⟨b', off', rfl, hb', hcell'⟩ := h'.cells k hlt
      generalize l.getD k 0 = y at *
      have hq : (y != y) = false := by simp
      go_wp2_with fail
      go_quiet (fail)
      go_wp2
      go_roundw
      case rel => exact ⟨k + 1, _, by omega, by go_num, rfl⟩
      case measure => simp [intOf]; omega
    · go_wp2
      go_ret
      exact ⟨rfl, _, rfl⟩
theorem pair_same7 (y z : Int) (W : World) : (Op.equalIn 10000 83 (.agg #[.int .i64 y, .int .i64 z]) (.agg #[.int .i64 y, .int .i64 z])).run Try.prog W = .ok true W := by
  obtain ⟨i0, hi0, hz0, hz1, hz2⟩ := info_parts Try.infoInt
  rw [run_equalIn_array W 9999 _ _ Try.underlying83 hi0]
  have hc : Try.prog.cellsOf 3 = 1 := by kernel_rfl
  rw [hc]
  simp [Op.eqItems, List.range_succ, part, go_sem]
end Go.Proofs.Ythmnmpglnaegfaa
