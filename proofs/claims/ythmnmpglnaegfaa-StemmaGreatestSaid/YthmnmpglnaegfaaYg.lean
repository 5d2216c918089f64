import Derived.Test.YthmnmpglnaegfaaYf
namespace Go.Proofs.Ythmnmpglnaegfaa
open Go.RowKit Go.Proofs.Kv

/-! ### conflicts -/
theorem cell_below {w w' : World} {p : Addr} {v : Value} (h : w.cell? p = some v) (hb : Below w.heap.size w w') : w'.cell? p = some v := (hb.cell (World.block_lt_of_cell? w p h)).trans h
def rowC (cf : Nat → Nat → Bool) (p j : Nat) : List (Int × Int) := ((List.range j).filter fun q => decide (p < q) && cf p q).map fun q : Nat => ((p : Int), (q : Int))
def allC (cf : Nat → Nat → Bool) (m p : Nat) : List (Int × Int) := (List.range p).flatMap fun i => rowC cf i m
theorem rowC_zero (cf : Nat → Nat → Bool) (p : Nat) : rowC cf p (p + 1) = [] := by
  rw [rowC, List.map_eq_nil_iff, List.filter_eq_nil_iff]
  intro q hq
  have := List.mem_range.1 hq
  simp; omega
theorem rowC_hit {cf : Nat → Nat → Bool} {p j : Nat} (hp : p < j) (h : cf p j = true) : rowC cf p (j + 1) = rowC cf p j ++ [((p : Int), (j : Int))] := by
  simp [rowC, List.range_succ, hp, h]
theorem rowC_miss {cf : Nat → Nat → Bool} {p j : Nat} (h : cf p j = false) : rowC cf p (j + 1) = rowC cf p j := by
  simp [rowC, List.range_succ, h]
theorem rowC_le (cf : Nat → Nat → Bool) (p j : Nat) : (rowC cf p j).length ≤ j := by
  rw [rowC, List.length_map]
  exact Nat.le_trans (List.length_filter_le _ _) (by simp)
theorem allC_succ (cf : Nat → Nat → Bool) (m p : Nat) : allC cf m (p + 1) = allC cf m p ++ rowC cf p m := by simp [allC, List.range_succ]
theorem allC_le (cf : Nat → Nat → Bool) (m : Nat) : ∀ p, (allC cf m p).length ≤ p * m
  | 0 => by simp [allC]
  | p + 1 => by
    have := allC_le cf m p
    have := rowC_le cf p m
    rw [allC_succ, List.length_append, Nat.succ_mul]; omega
def confR (T : List (List Int)) : List (Int × Int) := allC (cfR T) (n0 T) (n0 T)
theorem confR_le {T : List (List Int)} (g : GoodT T) : (confR T).length ≤ 36 := by
  have := allC_le (cfR T) (n0 T) (n0 T)
  have h := g.w6
  have : n0 T * n0 T ≤ 6 * 6 := Nat.mul_le_mul h h
  rw [confR]; omega
theorem Try.infoPair : (Try.prog.info? 83).map (fun i => (i.zero, i.size, i.bytes)) = some (some (.agg #[.int .i64 0, .int .i64 0]), 2, 16) := by kernel_rfl
set_option maxRecDepth 100000 in
set_option maxHeartbeats 1000000 in
theorem conflicts_calls (a : Option Addr) (n c : Nat) (T : List (List Int)) (w : World) (h : ListsAt w a n c T) (g : GoodT T) :
    Calls Try.prog 44 #[.slice a n c] w fun e w' => ∃ v, e = .returned v ∧ MadeP 83 w w' v (confR T) := by
  obtain ⟨i0, hi0, hz0, hz1, hz2⟩ := info_parts Try.infoPair
  have h0 : 0 < n := by have := g.ge; have := h.len; omega
  obtain ⟨b, off, a0, m, c0, rfl, hb0, hc0, hr0⟩ := h.cells 0 h0
  rw [Nat.add_zero] at hc0
  have Hm : Hid (n0 T = m) := hid_ hr0.len
  have hm6 := g.w6
  have HA := hid_ (fun p q (hp : p < m) (hq : q < m) W (hW : Below w.heap.size w W) => conflict_calls _ n c T p q W (h.below hW (Nat.le_refl _)) g (by rw [Hm.out]; exact hp) (by rw [Hm.out]; exact hq))
  have HR : Hid (confR T = allC (cfR T) m m) := hid_ (by rw [confR, Hm.out])
  have HZ : Hid (allC (cfR T) m 0 = []) := hid_ rfl
  rw [Hm.out] at hm6
  have hle := fun p (hp : p ≤ m) => Nat.le_trans (allC_le (cfR T) m p) (Nat.mul_le_mul hp (Nat.le_refl m))
  have hmm36 : m * m ≤ 36 := Nat.mul_le_mul hm6 hm6
  have Hle := hid_ hle
  have Hcr := hid_ (fun p j => rowC_le (cfR T) p j)
  have Hsu := hid_ (fun p => allC_succ (cfR T) m p)
  have Hhit := hid_ (fun p j hp hh => @rowC_hit (cfR T) p j hp hh)
  have Hmis := hid_ (fun p j hh => @rowC_miss (cfR T) p j hh)
  have Hz1 := hid_ (fun p => rowC_zero (cfR T) p)
  have Hcell := hid_ (fun W (hW : Below w.heap.size w W) => cell_below hc0 hW)
  clear hr0 g hle h
  generalize confR T = R at *
  generalize cfR T = cf at *
  go_enter Try.func44, Try.ntmps44
  go_wp2
  go_loopw [3, 10] (fun v i wr => ∃ p : Nat, p ≤ m ∧ i = .int .i64 p ∧ wr.ownsRow w.heap.size 83 2 v (allC cf m p).length ((allC cf m p).flatMap encN) ∧ Below w.heap.size w wr) (fun _ i _ => m - (intOf i).toNat)
  case atStart => exact ⟨0, Nat.zero_le _, rfl, by rw [HZ.out]; exact World.ownsRow_nil _ _ _ _, Below.refl _ _⟩
  case round =>
    obtain ⟨p, hp, rfl, hown, hb⟩ := hrel
    by_cases hlt : p < m
    · have Hown := hid_ hown
      have Hb := hid_ hb
      have hc1 := Hcell.out _ hb
      clear hown hb
      go_wp2
      obtain ⟨wo, hwo⟩ : ∃ wo, wo = wr := ⟨_, rfl⟩
      rw [← hwo] at Hown Hb hc1 ⊢
      clear hwo
      go_loopw [3, 5] (fun v i wr => ∃ j : Nat, p < j ∧ j ≤ m ∧ i = .int .i64 j ∧ wr.ownsRow w.heap.size 83 2 v (allC cf m p ++ rowC cf p j).length ((allC cf m p ++ rowC cf p j).flatMap encN) ∧ Below w.heap.size w wr) (fun _ i _ => m - (intOf i).toNat)
      case atStart => exact ⟨p + 1, by omega, by omega, by go_num, by rw [Hz1.out, List.append_nil]; exact Hown.out, Hb.out⟩
      case round =>
        obtain ⟨j, hpj, hj, rfl, hown, hb⟩ := hrel
        have Hown := hid_ hown
        have Hb2 := hid_ hb
        have hc2 := Hcell.out _ hb
        by_cases hltj : j < m
        · have HC := hid_ (HA.out p j hlt hltj _ hb)
          clear hown hb
          cases hh : cf p j with
          | false =>
            have Hf := hid_ (Hmis.out p j hh)
            rw [hh] at HC
            clear hh
            go_wp2_with (go_at_call 56; (with_reducible refine HC.out.mono ?_); rintro e w2 ⟨rfl, hb2⟩)
            go_roundw
            case rel => exact ⟨j + 1, by omega, by omega, by go_num, by rw [Hf.out]; exact own_below Hown.out hb2 (Nat.le_refl _), Hb2.out.trans (hb2.mono Hb2.out.size)⟩
            case measure => simp [intOf]; omega
          | true =>
            have Hf := hid_ (Hhit.out p j hpj hh)
            rw [hh] at HC
            clear hh
            have hL : (allC cf m p ++ rowC cf p j).length + 1 ≤ 1000000 := by
              have := Hle.out p hp
              have := Hcr.out p j
              rw [List.length_append]; omega
            go_wp2_with (first
              | (go_at_call 56; (with_reducible refine HC.out.mono ?_); rintro e w2 ⟨rfl, hb2⟩; have hown2 := own_below Hown.out hb2 (Nat.le_refl _); have Hown2 := hid_ hown2; have Hb3 := hid_ (Hb2.out.trans (hb2.mono Hb2.out.size)); clear hown2)
              | (at_builtin; refine wpList_append_pair w2 rfl (.tmp 27) (.tmp 31) _ rfl w.heap.size 83 i0 Try.underlying44 hi0 hz0 hz1 hz2 u3 _ (allC cf m p ++ rowC cf p j) rfl Hown2.out (p : Int) (j : Int) 83 rfl hL Hb3.out.size ?_; intro v3 w3 hown3 hg3))
            go_roundw
            case rel => exact ⟨j + 1, by omega, by omega, by go_num, by rw [Hf.out, ← List.append_assoc, List.length_append (bs := [_])]; exact hown3, below_app Hb3.out Hb3.out.size Hown2.out hg3⟩
            case measure => simp [intOf]; omega
        · obtain rfl : j = m := by omega
          clear hown hb
          go_wp2
          go_roundw
          case rel => exact ⟨p + 1, by omega, by go_num, by rw [Hsu.out]; exact Hown.out, Hb2.out⟩
          case measure => simp [intOf]; omega
    · obtain rfl : p = m := by omega
      go_wp2
      go_ret
      exact ⟨_, rfl, by rw [HR.out]; exact ⟨hown, hb⟩⟩
end Go.Proofs.Ythmnmpglnaegfaa
