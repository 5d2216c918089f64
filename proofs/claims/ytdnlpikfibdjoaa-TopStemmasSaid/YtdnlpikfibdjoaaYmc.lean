import Derived.Test.YtdnlpikfibdjoaaYmb
import Derived.ChangeKeysEq
import Derived.Deep.RegionHeld3
namespace Go.Proofs.Ytdnlpikfibdjoaa
open Go.RowKit Go.Proofs.Kv

/-! ### Different, Side, Conflict of the document -/
set_option maxRecDepth 100000 in
theorem r7Different_calls (a : Option Addr) (n c : Nat) (T : List (List Int)) (p : Int) (w : World) (h : ListsAt w a n c T) :
    Calls Try.prog 26 #[.slice a n c, .int .i64 p] w fun e w' => e = .returned (.tuple #[.int .i64 (resDiff T p), .int .i64 (placesE T [p])]) ∧ Below w.heap.size w w' := by
  have HV := hid_ (placed_calls a n c T p w h)
  have HR : Hid (resDiff T p = if placesE T [p] = 0 then (diffR T p.toNat : Int) else 0) := hid_ rfl
  generalize resDiff T p = R at *
  by_cases he : placesE T [p] = 0
  · have Hf := hid_ (HR.out.trans (if_pos he))
    obtain ⟨g, hp0, hp1⟩ := placesE_one he
    rw [he] at HV ⊢
    clear he HR
    rw [Hf.out]
    clear Hf
    obtain ⟨k, rfl⟩ := nat_of hp0
    have HD := hid_ (fun q => r7diff_calls a n c T k (w.drewN q) (h.drewN q) g (by omega))
    rw [Int.toNat_natCast]
    clear hp0 hp1 g
    go_enter Try.func26, Try.ntmps26
    go_wp2_with (first
      | (go_at_call 68; (with_reducible refine HV.out.mono ?_); rintro e w2 ⟨rfl, q, rfl⟩)
      | (go_at_call 69; (with_reducible refine (HD.out _).mono ?_); rintro e w3 ⟨rfl, hb⟩))
    go_ret2
    exact ⟨rfl, (below_drewN (Below.refl _ _) _).trans hb⟩
  · have Hf := hid_ (HR.out.trans (if_neg he))
    have hq : (placesE T [p] != 0) = true := by simpa using he
    generalize placesE T [p] = x at *
    clear he HR
    rw [Hf.out]
    go_enter Try.func26, Try.ntmps26
    go_wp2_with (go_at_call 68; (with_reducible refine HV.out.mono ?_); rintro e w2 ⟨rfl, q, rfl⟩)
    go_ret2
    exact ⟨rfl, below_drewN (Below.refl _ _) _⟩
theorem placesE_pair (T : List (List Int)) (p q : Int) : placesE T [p, q] = if placesE T [p] = 0 then placesE T [q] else placesE T [p] := by
  simp only [placesE, numE_one, numE_two]
  by_cases hv : validT T = 0
  · simp only [hv, if_true]
    cases isNum (n0 T) p <;> cases isNum (n0 T) q <;> rfl
  · simp [hv]
end Go.Proofs.Ytdnlpikfibdjoaa
namespace Go.Proofs.Ytdnlpikfibdjoaa
open Go.RowKit Go.Proofs.Kv

/-! ### Conflicts, CanTree of the document -/
set_option maxRecDepth 100000 in
set_option maxHeartbeats 1000000 in
theorem r7Conflicts_calls (a : Option Addr) (n c : Nat) (T : List (List Int)) (w : World) (h : ListsAt w a n c T) :
    Calls Try.prog 66 #[.slice a n c] w fun e w' => ∃ v, e = .returned (.tuple #[v, .int .i64 (validT T)]) ∧ MadeP 128 w w' v (resConfs T) := by
  have HV := hid_ (r7Validate_calls a n c T w h)
  have HR : Hid (resConfs T = if validT T = 0 then confR T else []) := hid_ rfl
  generalize resConfs T = R at *
  by_cases he : validT T = 0
  · have Hf := hid_ (HR.out.trans (if_pos he))
    have g := validT_ok he
    rw [he] at HV ⊢
    clear he HR
    rw [Hf.out]
    clear Hf
    obtain ⟨i0, hi0, hz0, hz1, hz2⟩ := info_parts Try.infoPair
    have h0 : 0 < n := by have := g.ge; have := h.len; omega
    obtain ⟨b, off, a0, m, c0, rfl, hb0, hc0, hr0⟩ := h.cells 0 h0
    rw [Nat.add_zero] at hc0
    have Hm : Hid (n0 T = m) := hid_ hr0.len
    have hm6 := g.w6
    have HA := hid_ (fun p q (hp : p < m) (hq : q < m) W (hW : Below w.heap.size w W) => r7conflict_calls _ n c T p q W (h.below hW (Nat.le_refl _)) g (by rw [Hm.out]; exact hp) (by rw [Hm.out]; exact hq))
    have HR : Hid (confR T = allC (cfR T) m m) := hid_ (by rw [confR, Hm.out])
    have HZ : Hid (allC (cfR T) m 0 = []) := hid_ rfl
    rw [Hm.out] at hm6
    have hle := fun p (hp : p ≤ m) => Nat.le_trans (allC_le (cfR T) m p) (Nat.mul_le_mul hp (Nat.le_refl m))
    have hmm36 : m * m ≤ 36 := Nat.mul_le_mul hm6 hm6
    have Hle := hid_ hle
    have Hcr := hid_ (fun p j => rowC_le (cfR T) p j)
    have Hsu := hid_ (fun p => allC_succ (cfR T) m p)
    have Hhit := hid_ (fun p j hp hh => @rowC_hit (cfR T) p j hp hh)
    have Hmis := hid_ (fun p j hh => @rowC_miss (cfR T) p j hh)
    have Hz1 := hid_ (fun p => rowC_zero (cfR T) p)
    have Hcell := hid_ (fun W (hW : Below w.heap.size w W) => cell_below hc0 hW)
    clear hr0 g hle h
    generalize confR T = R at *
    generalize cfR T = cf at *
    go_enter Try.func66, Try.ntmps66
    go_wp2_with (go_at_call 115; (with_reducible refine HV.out.mono ?_); rintro e w2 ⟨rfl, q, rfl⟩)
    go_loopw [5, 6] (fun v i wr => ∃ p : Nat, p ≤ m ∧ i = .int .i64 p ∧ wr.ownsRow w.heap.size 128 2 v (allC cf m p).length ((allC cf m p).flatMap encN) ∧ Below w.heap.size w wr) (fun _ i _ => m - (intOf i).toNat)
    case atStart => exact ⟨0, Nat.zero_le _, rfl, by rw [HZ.out]; exact World.ownsRow_nil _ _ _ _, below_drewN (Below.refl _ _) _⟩
    case round =>
      obtain ⟨p, hp, rfl, hown, hb⟩ := hrel
      by_cases hlt : p < m
      · have Hown := hid_ hown
        have Hb := hid_ hb
        have hc1 := Hcell.out _ hb
        clear hown hb
        go_wp2
        obtain ⟨wo, hwo⟩ : ∃ wo, wo = wr := ⟨_, rfl⟩
        rw [← hwo] at Hown Hb hc1 ⊢
        clear hwo
        go_loopw [5, 7] (fun v i wr => ∃ j : Nat, p < j ∧ j ≤ m ∧ i = .int .i64 j ∧ wr.ownsRow w.heap.size 128 2 v (allC cf m p ++ rowC cf p j).length ((allC cf m p ++ rowC cf p j).flatMap encN) ∧ Below w.heap.size w wr) (fun _ i _ => m - (intOf i).toNat)
        case atStart => exact ⟨p + 1, by omega, by omega, by go_num, by rw [Hz1.out, List.append_nil]; exact Hown.out, Hb.out⟩
        case round =>
          obtain ⟨j, hpj, hj, rfl, hown, hb⟩ := hrel
          have Hown := hid_ hown
          have Hb2 := hid_ hb
          have hc2 := Hcell.out _ hb
          by_cases hltj : j < m
          · have HC := hid_ (HA.out p j hlt hltj _ hb)
            clear hown hb
            cases hh : cf p j with
            | false =>
              have Hf := hid_ (Hmis.out p j hh)
              rw [hh] at HC
              clear hh
              go_wp2_with (go_at_call 116; (with_reducible refine HC.out.mono ?_); rintro e w2 ⟨rfl, hb2⟩)
              go_roundw
              case rel => exact ⟨j + 1, by omega, by omega, by go_num, by rw [Hf.out]; exact own_below Hown.out hb2 (Nat.le_refl _), Hb2.out.trans (hb2.mono Hb2.out.size)⟩
              case measure => simp [intOf]; omega
            | true =>
              have Hf := hid_ (Hhit.out p j hpj hh)
              rw [hh] at HC
              clear hh
              have hL : (allC cf m p ++ rowC cf p j).length + 1 ≤ 1000000 := by
                have := Hle.out p hp
                have := Hcr.out p j
                rw [List.length_append]; omega
              go_wp2_with (first
                | (go_at_call 116; (with_reducible refine HC.out.mono ?_); rintro e w2 ⟨rfl, hb2⟩; have hown2 := own_below Hown.out hb2 (Nat.le_refl _); have Hown2 := hid_ hown2; have Hb3 := hid_ (Hb2.out.trans (hb2.mono Hb2.out.size)); clear hown2)
                | (at_builtin; refine wpList_append_pair w2 rfl (.tmp 35) (.tmp 39) _ rfl w.heap.size 128 i0 Try.underlying68 hi0 hz0 hz1 hz2 u5 _ (allC cf m p ++ rowC cf p j) rfl Hown2.out (p : Int) (j : Int) 128 rfl hL Hb3.out.size ?_; intro v3 w3 hown3 hg3))
              go_roundw
              case rel => exact ⟨j + 1, by omega, by omega, by go_num, by rw [Hf.out, ← List.append_assoc, List.length_append (bs := [_])]; exact hown3, below_app Hb3.out Hb3.out.size Hown2.out hg3⟩
              case measure => simp [intOf]; omega
          · obtain rfl : j = m := by omega
            clear hown hb
            go_wp2
            go_roundw
            case rel => exact ⟨p + 1, by omega, by go_num, by rw [Hsu.out]; exact Hown.out, Hb2.out⟩
            case measure => simp [intOf]; omega
      · obtain rfl : p = m := by omega
        have hc1 := Hcell.out _ hb
        have Hown := hid_ hown
        have Hb := hid_ hb
        clear hown hb
        go_wp2
        go_ret2
        exact ⟨_, rfl, by rw [HR.out]; exact ⟨Hown.out, Hb.out⟩⟩
  · have Hf := hid_ (HR.out.trans (if_neg he))
    have hq : (validT T != 0) = true := by simpa using he
    generalize validT T = x at *
    clear he HR
    rw [Hf.out]
    go_enter Try.func66, Try.ntmps66
    go_wp2_with (go_at_call 115; (with_reducible refine HV.out.mono ?_); rintro e w2 ⟨rfl, q, rfl⟩)
    go_ret2
    exact ⟨_, rfl, MadeP.none_ _ (below_drewN (Below.refl _ _) _)⟩
set_option maxRecDepth 100000 in
theorem r7CanTree_calls (a : Option Addr) (n c : Nat) (T : List (List Int)) (w : World) (h : ListsAt w a n c T) :
    Calls Try.prog 24 #[.slice a n c] w fun e w' => e = .returned (.tuple #[.bool (resCan T), .int .i64 (validT T)]) ∧ Below w.heap.size w w' := by
  have HC := hid_ (r7Conflicts_calls a n c T w h)
  have HR : Hid (resCan T = (decide (validT T = 0) && decide ((confR T).length = 0))) := hid_ rfl
  have HS : Hid (resConfs T = if validT T = 0 then confR T else []) := hid_ rfl
  generalize resCan T = R at *
  by_cases he : validT T = 0
  · have Hf := hid_ (HR.out.trans (by rw [decide_eq_true he, Bool.true_and]))
    rw [HS.out, if_pos he, he] at HC
    rw [he]
    clear he HR HS
    rw [Hf.out]
    clear Hf
    generalize confR T = C at *
    obtain ⟨m, hm⟩ : ∃ m, C.length = m := ⟨_, rfl⟩
    have Hm := hid_ hm
    rw [hm]
    clear hm
    by_cases h0 : m = 0
    · subst h0
      go_enter Try.func24, Try.ntmps24
      go_wp2_with (go_at_call 66; (with_reducible refine HC.out.mono ?_); rintro e w3 ⟨v3, rfl, hm⟩; obtain ⟨a3, c3, rfl, -⟩ := hm.at_; rw [Hm.out])
      go_ret2
      exact ⟨rfl, hm.bel⟩
    · have hq : ((m : Int) == 0) = false := by simp; omega
      have Hd : Hid (decide (m = 0) = false) := hid_ (decide_eq_false h0)
      clear h0
      rw [Hd.out]
      go_enter Try.func24, Try.ntmps24
      go_wp2_with (go_at_call 66; (with_reducible refine HC.out.mono ?_); rintro e w3 ⟨v3, rfl, hm⟩; obtain ⟨a3, c3, rfl, -⟩ := hm.at_; rw [Hm.out])
      go_ret2
      exact ⟨rfl, hm.bel⟩
  · have Hf := hid_ (HR.out.trans (by rw [decide_eq_false he, Bool.false_and]))
    have hq : (validT T == 0) = false := by simpa using he
    rw [HS.out, if_neg he] at HC
    generalize validT T = x at *
    clear he HR HS
    rw [Hf.out]
    go_enter Try.func24, Try.ntmps24
    go_wp2_with (go_at_call 66; (with_reducible refine HC.out.mono ?_); rintro e w3 ⟨v3, rfl, hm⟩; obtain ⟨a3, c3, rfl, -⟩ := hm.at_)
    go_ret2
    exact ⟨rfl, hm.bel⟩
/-! ### equal lists -/
theorem pair_same7 (y z : Int) (W : World) : (Op.equalIn 10000 128 (.agg #[.int .i64 y, .int .i64 z]) (.agg #[.int .i64 y, .int .i64 z])).run Try.prog W = .ok true W := by
  obtain ⟨i0, hi0, hz0, hz1, hz2⟩ := info_parts Try.infoInt
  rw [run_equalIn_array W 9999 _ _ Try.underlying128 hi0]
  have hc : Try.prog.cellsOf 3 = 1 := by kernel_rfl
  rw [hc]
  simp [Op.eqItems, List.range_succ, part, go_sem]
end Go.Proofs.Ytdnlpikfibdjoaa
namespace Go.Proofs.Ytdnlpikfibdjoaa
open Go.RowKit Go.Proofs.Kv

/-! ### trees -/
structure Tr where
  par : List Int
  at_ : List Int
/-- the value v reads as the tree X -/
def TreeAt (w : World) (v : Value) (X : Tr) : Prop :=
  ∃ a1 n1 c1 a2 n2 c2, v = .agg #[.slice a1 n1 c1, .slice a2 n2 c2] ∧ IntsAt w a1 n1 c1 X.par ∧ IntsAt w a2 n2 c2 X.at_
theorem TreeAt.below {w w' : World} {B : Nat} {v : Value} {X : Tr} (h : TreeAt w v X) (hb : Below B w w') (hB : w.heap.size ≤ B) : TreeAt w' v X := by
  obtain ⟨a1, n1, c1, a2, n2, c2, e, h1, h2⟩ := h
  exact ⟨a1, n1, c1, a2, n2, c2, e, h1.below hb hB, h2.below hb hB⟩
theorem TreeAt.drewN {w : World} {v : Value} {X : Tr} (h : TreeAt w v X) (q : Nat) : TreeAt (w.drewN q) v X := by
  obtain ⟨a1, n1, c1, a2, n2, c2, e, h1, h2⟩ := h
  exact ⟨a1, n1, c1, a2, n2, c2, e, h1.drewN q, h2.drewN q⟩
def parB (i : Nat) (p : Int) : Bool := if i = 0 then decide (p = -1) else decide (0 ≤ p) && decide (p < i)
def parsB (l : List Int) : Bool := (List.range l.length).all fun i => parB i (l.getD i 0)
def validX (X : Tr) : Int := if X.par.length < 1 ∨ 16 < X.par.length ∨ 6 < X.at_.length then 3 else if parsB X.par = true ∧ X.at_.all (isNum X.par.length) = true then 0 else 1
theorem validX_large {X : Tr} (h : X.par.length < 1 ∨ 16 < X.par.length ∨ 6 < X.at_.length) : validX X = 3 := if_pos h
theorem validX_eq {X : Tr} (h : ¬ (X.par.length < 1 ∨ 16 < X.par.length ∨ 6 < X.at_.length)) : validX X = if parsB X.par = true ∧ X.at_.all (isNum X.par.length) = true then 0 else 1 := if_neg h
theorem parsB_yes {l : List Int} {n : Nat} (hl : l.length = n) (h : ∀ j, j < n → parB j (l.getD j 0) = true) : parsB l = true := by
  simp only [parsB, List.all_eq_true, List.mem_range, hl]; exact h
theorem parsB_no {l : List Int} {k : Nat} (hk : k < l.length) (h : parB k (l.getD k 0) = false) : parsB l = false := by
  rw [parsB, List.all_eq_false]
  exact ⟨k, List.mem_range.2 hk, by rw [h]; simp⟩
theorem allNum_yes {m : Nat} {l : List Int} {n : Nat} (hl : l.length = n) (h : ∀ j, j < n → isNum m (l.getD j 0) = true) : l.all (isNum m) = true := by
  rw [List.all_eq_true]
  intro x hx
  obtain ⟨k, hk, rfl⟩ := mem_getD hx
  exact h k (by omega)
theorem allNum_no {m : Nat} {l : List Int} {k : Nat} (hk : k < l.length) (h : isNum m (l.getD k 0) = false) : l.all (isNum m) = false := by
  rw [List.all_eq_false]
  exact ⟨_, getD_mem hk, by rw [h]; simp⟩
theorem validX_no1 {X : Tr} (h : ¬ (X.par.length < 1 ∨ 16 < X.par.length ∨ 6 < X.at_.length)) (k : Nat) (hk : k < X.par.length) (hb : parB k (X.par.getD k 0) = false) : validX X = 1 := by
  rw [validX_eq h, if_neg]; rw [parsB_no hk hb]; simp
theorem validX_no2 {X : Tr} (h : ¬ (X.par.length < 1 ∨ 16 < X.par.length ∨ 6 < X.at_.length)) (k : Nat) (hk : k < X.at_.length) (hb : isNum X.par.length (X.at_.getD k 0) = false) : validX X = 1 := by
  rw [validX_eq h, if_neg]; rw [allNum_no hk hb]; simp
theorem validX_yes {X : Tr} (h : ¬ (X.par.length < 1 ∨ 16 < X.par.length ∨ 6 < X.at_.length)) {n m : Nat} (hn : X.par.length = n) (hm : X.at_.length = m) (h1 : ∀ j, j < n → parB j (X.par.getD j 0) = true) (h2 : ∀ j, j < m → isNum n (X.at_.getD j 0) = true) : validX X = 0 := by
  rw [validX_eq h, if_pos ⟨parsB_yes hn h1, by rw [hn]; exact allNum_yes hm h2⟩]
structure GoodX (X : Tr) : Prop where
  ge : 1 ≤ X.par.length
  le : X.par.length ≤ 16
  a6 : X.at_.length ≤ 6
  root : X.par.getD 0 0 = -1
  par : ∀ i, 0 < i → i < X.par.length → 0 ≤ X.par.getD i 0 ∧ X.par.getD i 0 < i
  at_ : ∀ i, i < X.at_.length → 0 ≤ X.at_.getD i 0 ∧ X.at_.getD i 0 < X.par.length
theorem validX_ok {X : Tr} (h : validX X = 0) : GoodX X := by
  by_cases h1 : X.par.length < 1 ∨ 16 < X.par.length ∨ 6 < X.at_.length
  · rw [validX_large h1] at h; cases h
  · rw [validX_eq h1] at h
    split at h
    · rename_i hall
      obtain ⟨hp, ha⟩ := hall
      simp only [parsB, List.all_eq_true, List.mem_range] at hp
      rw [List.all_eq_true] at ha
      refine ⟨by omega, by omega, by omega, ?_, fun i h0 hi => ?_, fun i hi => isNum_iff.1 (ha _ (getD_mem hi))⟩
      · have := hp 0 (by omega)
        simpa [parB] using this
      · have := hp i hi
        rw [parB, if_neg (by omega)] at this
        simpa using this
    · cases h
theorem isParent_calls (p : Int) (i : Nat) (hi : i ≤ 1000) (w : World) :
    Calls Try.prog 136 #[.int .i64 p, .int .i64 (i : Int)] w fun e w' => e = .returned (.bool (parB i p)) ∧ w = w' := by
  by_cases h0 : i = 0
  · subst h0
    have hf : Hid (parB 0 p = decide (p = -1)) := hid_ rfl
    by_cases hp : p = -1
    · subst hp
      go_enter Try.func136, Try.ntmps136
      go_wp2
      go_ret
      exact ⟨retB (by rw [hf.out]; rfl), rfl⟩
    · have hq : (p == -1) = false := by simpa using hp
      have hg := hid_ (hf.out.trans (decide_eq_false hp))
      clear hp
      go_enter Try.func136, Try.ntmps136
      go_wp2
      go_ret
      exact ⟨retB hg.out, rfl⟩
  · have hf : Hid (parB i p = (decide (0 ≤ p) && decide (p < i))) := hid_ (if_neg h0)
    have hq0 : ((i : Int) == 0) = false := by simpa using h0
    by_cases h1 : 0 ≤ p
    · by_cases h2 : p < i
      · have hg := hid_ (hf.out.trans (show (decide (0 ≤ p) && decide (p < (i : Int))) = true by simp [h1, h2]))
        go_enter Try.func136, Try.ntmps136
        go_wp2
        go_ret
        exact ⟨retB hg.out, rfl⟩
      · have hg := hid_ (hf.out.trans (show (decide (0 ≤ p) && decide (p < (i : Int))) = false by simp [h2]))
        go_enter Try.func136, Try.ntmps136
        go_wp2
        go_ret
        exact ⟨retB hg.out, rfl⟩
    · have hg := hid_ (hf.out.trans (show (decide (0 ≤ p) && decide (p < (i : Int))) = false by simp [h1]))
      go_enter Try.func136, Try.ntmps136
      go_wp2
      go_ret
      exact ⟨retB hg.out, rfl⟩
set_option maxRecDepth 100000 in
set_option maxHeartbeats 2000000 in
theorem stTree_calls (v : Value) (X : Tr) (w : World) (h : TreeAt w v X) :
    Calls Try.prog 123 #[v] w fun e w' => e = .returned (.int .i64 (validX X)) ∧ Below w.heap.size w w' := by
  have HP := hid_ h
  obtain ⟨a1, n1, c1, a2, n2, c2, rfl, h1, h2⟩ := h
  obtain ⟨w1, hw1⟩ : ∃ w1, w.alloc (.cells #[.slice a1 n1 c1, .slice a2 n2 c2] 46) = w1 := ⟨_, rfl⟩
  have cb : Below w.heap.size w w1 := by rw [← hw1]; exact below_alloc _ _
  have q0 : w1.cell? ⟨w.heap.size, 0, none⟩ = some (.slice a1 n1 c1) := by rw [← hw1]; exact cells_alloc _ _ _ 0
  have q1 : w1.cell? ⟨w.heap.size, 1, none⟩ = some (.slice a2 n2 c2) := by rw [← hw1]; exact cells_alloc _ _ _ 1
  have HP1 := hid_ (HP.out.below cb (Nat.le_refl _)); have Hc1 := hid_ cb
  have hn1 : n1 ≤ 9223372036854775807 := Nat.le_trans h1.le h1.small
  have hn2 : n2 ≤ 9223372036854775807 := Nat.le_trans h2.le h2.small
  have H1 := hid_ (h1.below cb (Nat.le_refl _))
  have H2 := hid_ (h2.below cb (Nat.le_refl _))
  have L1 := hid_ h1.len
  have L2 := hid_ h2.len
  have HL := hid_ (fun hx => @validX_large X hx)
  have HNo1 := hid_ (fun hx => @validX_no1 X hx)
  have HNo2 := hid_ (fun hx => @validX_no2 X hx)
  have HYes := hid_ (fun hx => @validX_yes X hx n1 n2 h1.len h2.len)
  clear h1 h2 cb
  generalize hV : validX X = V at *
  clear hV
  by_cases h1 : n1 < 1
  · have Hf := hid_ (HL.out (.inl (by rw [L1.out]; exact h1)))
    have h1' : (n1 : Int) < 1 := by omega
    clear h1
    go_enter Try.func123, Try.ntmps123
    go_wp2
    go_ret
    exact ⟨retI Hf.out, Hc1.out⟩
  · by_cases h16 : 16 < n1
    · have Hf := hid_ (HL.out (.inr (.inl (by rw [L1.out]; exact h16))))
      go_enter Try.func123, Try.ntmps123
      go_wp2
      go_ret
      exact ⟨retI Hf.out, Hc1.out⟩
    · by_cases h6 : 6 < n2
      · have Hf := hid_ (HL.out (.inr (.inr (by rw [L2.out]; exact h6))))
        go_enter Try.func123, Try.ntmps123
        go_wp2
        go_ret
        exact ⟨retI Hf.out, Hc1.out⟩
      · have hx : ¬ (X.par.length < 1 ∨ 16 < X.par.length ∨ 6 < X.at_.length) := by rw [L1.out, L2.out]; omega
        have HNoA := hid_ (HNo1.out hx)
        have HNoB := hid_ (HNo2.out hx)
        have HYesH := hid_ (HYes.out hx)
        clear HNo1 HNo2 HYes HL hx
        rw [L1.out] at HNoB
        go_enter Try.func123, Try.ntmps123
        go_wp2
        go_loop [23] (fun i => ∃ k : Nat, k ≤ n1 ∧ i = .int .i64 k ∧ ∀ j, j < k → parB j (X.par.getD j 0) = true) (fun i => n1 - (intOf i).toNat)
        case atStart => exact ⟨0, Nat.zero_le _, rfl, fun _ h => absurd h (by omega)⟩
        case round =>
          obtain ⟨k, hk, rfl, hall⟩ := hrel
          have Hall := hid_ hall; clear hall
          by_cases hlt : k < n1
          · obtain ⟨b, off, rfl, hb, hcell⟩ := H1.out.cells k hlt
            have hl : k < X.par.length := by rw [L1.out]; exact hlt
            have hNo := HNoA.out k hl
            have hYes := fun hx => lt_snoc (p := fun j => parB j (X.par.getD j 0) = true) Hall.out hx
            generalize X.par.getD k 0 = y at hcell hNo hYes
            have HP := hid_ (isParent_calls y k (by omega) w1)
            generalize parB k y = z at *
            cases z with
            | false =>
              have Hf := hid_ (hNo rfl)
              clear hNo hYes
              go_wp2_with (go_at_call 136; refine (HP.out).mono ?_; rintro e w' ⟨rfl, rfl⟩)
              go_ret
              exact ⟨retI Hf.out, Hc1.out⟩
            | true =>
              have Hf := hid_ (hYes rfl)
              clear hNo hYes
              go_wp2_with (go_at_call 136; refine (HP.out).mono ?_; rintro e w' ⟨rfl, rfl⟩)
              go_round
              case rel => exact ⟨k + 1, by omega, by go_num, Hf.out⟩
              case measure => simp [intOf]; omega
          · obtain rfl : n1 = k := by omega
            go_wp2
            go_loop [38] (fun i => ∃ k : Nat, k ≤ n2 ∧ i = .int .i64 k ∧ ∀ j, j < k → isNum n1 (X.at_.getD j 0) = true) (fun i => n2 - (intOf i).toNat)
            case atStart => exact ⟨0, Nat.zero_le _, rfl, fun _ h => absurd h (by omega)⟩
            case round =>
              obtain ⟨k, hk, rfl, hall⟩ := hrel
              have Hall2 := hid_ hall; clear hall
              by_cases hlt2 : k < n2
              · obtain ⟨b, off, rfl, hb, hcell⟩ := H2.out.cells k hlt2
                have hl : k < X.at_.length := by rw [L2.out]; exact hlt2
                have hNo := HNoB.out k hl
                have hYes := fun hx => lt_snoc (p := fun j => isNum n1 (X.at_.getD j 0) = true) Hall2.out hx
                generalize X.at_.getD k 0 = y at hcell hNo hYes
                by_cases h0 : y < 0
                · have Hf := hid_ (hNo (by simp [isNum]; omega))
                  clear hNo hYes
                  go_wp2
                  go_ret
                  exact ⟨retI Hf.out, Hc1.out⟩
                · by_cases h3 : (n1 : Int) ≤ y
                  · have Hf := hid_ (hNo (by simp [isNum]; omega))
                    clear hNo hYes
                    go_wp2
                    go_ret
                    exact ⟨retI Hf.out, Hc1.out⟩
                  · have Hf := hid_ (hYes (by simp [isNum]; omega))
                    clear hNo hYes
                    go_wp2
                    go_round
                    case rel => exact ⟨k + 1, by omega, by go_num, Hf.out⟩
                    case measure => simp [intOf]; omega
              · obtain rfl : n2 = k := by omega
                have Hf := hid_ (HYesH.out Hall.out Hall2.out)
                go_wp2
                go_ret
                exact ⟨retI Hf.out, Hc1.out⟩
end Go.Proofs.Ytdnlpikfibdjoaa
namespace Go.Proofs.Ytdnlpikfibdjoaa
open Go.RowKit Go.Proofs.Kv

/-! ### the errors of readings and a tree -/
def orE (x y : Int) : Int := if x = 0 then y else x
set_option maxRecDepth 100000 in
set_option maxHeartbeats 2000000 in
theorem or_calls (a : Option Addr) (c : Nat) (x y : Int) (w : World) (h : IntsAt w a 2 c [x, y]) :
    Calls Try.prog 59 #[.slice a 2 c] w fun e w' => e = .returned (.int .i64 (orE x y)) ∧ w = w' := by
  obtain ⟨b, off, rfl, hb, hc0⟩ := h.cells 0 (by omega)
  obtain ⟨b', off', e, hb', hc1⟩ := h.cells 1 (by omega)
  injection e with e; injection e with e1 e2
  subst e1 e2
  rw [Nat.add_zero] at hc0
  have hg0 : ([x, y] : List Int).getD 0 0 = x := rfl
  have hg1 : ([x, y] : List Int).getD 1 0 = y := rfl
  rw [hg0] at hc0; rw [hg1] at hc1
  clear h hb hb' hg0 hg1
  have hor : Hid (orE x y = if x = 0 then y else x) := hid_ rfl
  by_cases hx : x = 0
  · subst hx
    by_cases hy : y = 0
    · subst hy
      have Hf : Hid (orE 0 0 = 0) := hid_ rfl
      go_enter Try.func59, Try.ntmps59
      go_wp2
      go_loopw [8] (fun i wr => ∃ k : Nat, k ≤ 2 ∧ i = .int .i64 k ∧ wr = w) (fun i _ => 2 - (intOf i).toNat)
      case atStart => exact ⟨0, by omega, rfl, rfl⟩
      case round =>
        obtain ⟨k, hk, rfl, rfl⟩ := hrel
        rcases (show k = 0 ∨ k = 1 ∨ k = 2 by omega) with rfl | rfl | rfl
        · go_wp2
          go_roundw
          case rel => exact ⟨1, by omega, by go_num, trivial⟩
          case measure => simp [intOf]
        · go_wp2
          go_roundw
          case rel => exact ⟨2, by omega, by go_num, trivial⟩
          case measure => simp [intOf]
        · go_wp2
          go_ret
          exact ⟨by rw [Hf.out]; rfl, rfl⟩
    · have Hf : Hid (orE 0 y = y) := hid_ rfl
      have hq : (y != 0) = true := by simpa using hy
      clear hy
      go_enter Try.func59, Try.ntmps59
      go_wp2
      go_loopw [8] (fun i wr => ∃ k : Nat, k ≤ 1 ∧ i = .int .i64 k ∧ wr = w) (fun i _ => 2 - (intOf i).toNat)
      case atStart => exact ⟨0, by omega, rfl, rfl⟩
      case round =>
        obtain ⟨k, hk, rfl, rfl⟩ := hrel
        rcases (show k = 0 ∨ k = 1 by omega) with rfl | rfl
        · go_wp2
          go_roundw
          case rel => exact ⟨1, by omega, by go_num, trivial⟩
          case measure => simp [intOf]
        · go_wp2
          go_ret
          exact ⟨by rw [Hf.out]; rfl, rfl⟩
  · have Hf : Hid (orE x y = x) := hid_ (if_neg hx)
    have hq : (x != 0) = true := by simpa using hx
    clear hx
    go_enter Try.func59, Try.ntmps59
    go_wp2
    go_loopw [8] (fun i wr => i = .int .i64 (0 : Nat) ∧ wr = w) (fun _ _ => 0)
    case atStart => exact ⟨rfl, rfl⟩
    case round =>
      obtain ⟨rfl, rfl⟩ := hrel
      go_wp2
      go_ret
      exact ⟨by rw [Hf.out]; rfl, rfl⟩
theorem orE_zero {x y : Int} (h : orE x y = 0) : x = 0 ∧ y = 0 := by
  unfold orE at h
  split at h
  · exact ⟨by assumption, h⟩
  · contradiction
def errB (T : List (List Int)) (X : Tr) : Int := if orE (validT T) (validX X) = 0 then (if X.at_.length = T.length then 0 else 9) else orE (validT T) (validX X)
theorem errB_ok {T : List (List Int)} {X : Tr} (h : errB T X = 0) : GoodT T ∧ GoodX X ∧ X.at_.length = T.length := by
  unfold errB at h
  split at h
  · rename_i hz
    obtain ⟨h1, h2⟩ := orE_zero hz
    split at h
    · rename_i hl; exact ⟨validT_ok h1, validX_ok h2, hl⟩
    · cases h
  · contradiction
set_option maxRecDepth 100000 in
set_option maxHeartbeats 2000000 in
theorem both_calls (a : Option Addr) (n c : Nat) (T : List (List Int)) (v : Value) (X : Tr) (w : World) (hT : ListsAt w a n c T) (h : TreeAt w v X) :
    Calls Try.prog 86 #[.slice a n c, v] w fun e w' => e = .returned (.int .i64 (errB T X)) ∧ Below w.heap.size w w' := by
  have HP := hid_ h
  obtain ⟨a1, n1, c1, a2, n2, c2, rfl, h1, h2⟩ := h
  obtain ⟨w1, hw1⟩ : ∃ w1, w.alloc (.cells #[.slice a1 n1 c1, .slice a2 n2 c2] 46) = w1 := ⟨_, rfl⟩
  have cb : Below w.heap.size w w1 := by rw [← hw1]; exact below_alloc _ _
  have q0 : w1.cell? ⟨w.heap.size, 0, none⟩ = some (.slice a1 n1 c1) := by rw [← hw1]; exact cells_alloc _ _ _ 0
  have q1 : w1.cell? ⟨w.heap.size, 1, none⟩ = some (.slice a2 n2 c2) := by rw [← hw1]; exact cells_alloc _ _ _ 1
  have HP1 := hid_ (HP.out.below cb (Nat.le_refl _)); have Hc1 := hid_ cb
  have HT1 := hid_ (hT.below cb (Nat.le_refl _))
  have HV := hid_ (fun W (hW : Below w1.heap.size w1 W) => stValidate_calls a n c T W (HT1.out.below hW (Nat.le_refl _)))
  have HU := hid_ (fun W (hW : Below w1.heap.size w1 W) => stTree_calls _ X W (HP1.out.below hW (Nat.le_refl _)))
  have HO := hid_ (fun a c W h => or_calls a c (validT T) (validX X) W h)
  have HQ := hid_ (fun W (hW : Below w1.heap.size w1 W) => And.intro (cell_below q0 hW) (And.intro (cell_below q1 hW) hW))
  have hbb : Below w1.heap.size w1 w1 := Below.refl _ _
  have L2 := hid_ h2.len
  have LT := hid_ hT.len
  have HR : Hid (errB T X = if orE (validT T) (validX X) = 0 then (if X.at_.length = T.length then 0 else 9) else orE (validT T) (validX X)) := hid_ rfl
  rw [L2.out, LT.out] at HR
  clear h1 h2 cb hT
  generalize errB T X = R at *
  generalize validT T = x at *
  generalize validX X = y at *
  by_cases hz : orE x y = 0
  · have Hf := hid_ (HR.out.trans (if_pos hz))
    rw [hz] at HO
    clear hz HR
    by_cases hl : n2 = n
    · have Hg := hid_ (Hf.out.trans (if_pos hl))
      have hq : ((n2 : Int) != (n : Int)) = false := by subst hl; simp
      clear hl Hf
      go_enter Try.func86, Try.ntmps86
      go_wp2_with fail
      go_region_held3 (fun W => W.cell? ⟨w.heap.size, 0, none⟩ = some (.slice a1 n1 c1) ∧ W.cell? ⟨w.heap.size, 1, none⟩ = some (.slice a2 n2 c2) ∧ Below w1.heap.size w1 W) ((refine HQ.out _ ?_; (repeat (first | assumption | (with_reducible refine Below.alloc ?_ (by first | omega | (simp; done) | (simp; omega)) _) | (with_reducible refine Below.setCell ?_ (by first | omega | (simp; done) | (simp; omega)) _) | (with_reducible refine Below.drew ?_) | (with_reducible refine below_drewN ?_ _)))))
        (first
          | (go_at_call 41; (with_reducible refine (HV.out _ ?_).mono ?_); (focus (repeat (first | assumption | (with_reducible refine Below.alloc ?_ (by first | omega | (simp; done) | (simp; omega)) _) | (with_reducible refine Below.setCell ?_ (by first | omega | (simp; done) | (simp; omega)) _) | (with_reducible refine Below.drew ?_) | (with_reducible refine below_drewN ?_ _)))); rintro e w5 ⟨rfl, rfl⟩)
          | (go_at_call 123; (with_reducible refine (HU.out _ ?_).mono ?_); (focus (repeat (first | assumption | (with_reducible refine Below.alloc ?_ (by first | omega | (simp; done) | (simp; omega)) _) | (with_reducible refine Below.setCell ?_ (by first | omega | (simp; done) | (simp; omega)) _) | (with_reducible refine Below.drew ?_) | (with_reducible refine below_drewN ?_ _)))); rintro e w6 ⟨rfl, hc6⟩; have hb6 : Below w1.heap.size w1 w6 := below_then (by (repeat (first | assumption | (with_reducible refine Below.alloc ?_ (by first | omega | (simp; done) | (simp; omega)) _) | (with_reducible refine Below.setCell ?_ (by first | omega | (simp; done) | (simp; omega)) _) | (with_reducible refine Below.drew ?_) | (with_reducible refine below_drewN ?_ _)))) hc6; clear hc6; have hs6 := hb6.size)
          | (go_at_call 59; (with_reducible refine (HO.out _ _ _ (ints_two7 _ _ _ _)).mono ?_); rintro e w7 ⟨rfl, rfl⟩))
      all_goals
        have hb7 := (hb6.alloc hb6.size (.cells #[.int .i64 x, .int .i64 y] 28))
        obtain ⟨g0, g1, -⟩ := HQ.out _ hb7
        go_wp2
        go_ret
        exact ⟨retI Hg.out, Hc1.out.trans (hb7.mono Hc1.out.size)⟩
    · have Hg := hid_ (Hf.out.trans (if_neg hl))
      have hq : ((n2 : Int) != (n : Int)) = true := by simp; omega
      clear hl Hf
      go_enter Try.func86, Try.ntmps86
      go_wp2_with fail
      go_region_held3 (fun W => W.cell? ⟨w.heap.size, 0, none⟩ = some (.slice a1 n1 c1) ∧ W.cell? ⟨w.heap.size, 1, none⟩ = some (.slice a2 n2 c2) ∧ Below w1.heap.size w1 W) ((refine HQ.out _ ?_; (repeat (first | assumption | (with_reducible refine Below.alloc ?_ (by first | omega | (simp; done) | (simp; omega)) _) | (with_reducible refine Below.setCell ?_ (by first | omega | (simp; done) | (simp; omega)) _) | (with_reducible refine Below.drew ?_) | (with_reducible refine below_drewN ?_ _)))))
        (first
          | (go_at_call 41; (with_reducible refine (HV.out _ ?_).mono ?_); (focus (repeat (first | assumption | (with_reducible refine Below.alloc ?_ (by first | omega | (simp; done) | (simp; omega)) _) | (with_reducible refine Below.setCell ?_ (by first | omega | (simp; done) | (simp; omega)) _) | (with_reducible refine Below.drew ?_) | (with_reducible refine below_drewN ?_ _)))); rintro e w5 ⟨rfl, rfl⟩)
          | (go_at_call 123; (with_reducible refine (HU.out _ ?_).mono ?_); (focus (repeat (first | assumption | (with_reducible refine Below.alloc ?_ (by first | omega | (simp; done) | (simp; omega)) _) | (with_reducible refine Below.setCell ?_ (by first | omega | (simp; done) | (simp; omega)) _) | (with_reducible refine Below.drew ?_) | (with_reducible refine below_drewN ?_ _)))); rintro e w6 ⟨rfl, hc6⟩; have hb6 : Below w1.heap.size w1 w6 := below_then (by (repeat (first | assumption | (with_reducible refine Below.alloc ?_ (by first | omega | (simp; done) | (simp; omega)) _) | (with_reducible refine Below.setCell ?_ (by first | omega | (simp; done) | (simp; omega)) _) | (with_reducible refine Below.drew ?_) | (with_reducible refine below_drewN ?_ _)))) hc6; clear hc6; have hs6 := hb6.size)
          | (go_at_call 59; (with_reducible refine (HO.out _ _ _ (ints_two7 _ _ _ _)).mono ?_); rintro e w7 ⟨rfl, rfl⟩))
      all_goals
        have hb7 := (hb6.alloc hb6.size (.cells #[.int .i64 x, .int .i64 y] 28))
        obtain ⟨g0, g1, -⟩ := HQ.out _ hb7
        go_wp2
        go_ret
        exact ⟨retI Hg.out, Hc1.out.trans (hb7.mono Hc1.out.size)⟩
  · have Hg := hid_ (HR.out.trans (if_neg hz))
    have hq : (orE x y != 0) = true := by simpa using hz
    obtain ⟨z, hz'⟩ : ∃ z, orE x y = z := ⟨_, rfl⟩
    rw [hz'] at HO Hg hq
    clear hz HR hz'
    go_enter Try.func86, Try.ntmps86
    go_wp2_with fail
    go_region_held3 (fun W => W.cell? ⟨w.heap.size, 0, none⟩ = some (.slice a1 n1 c1) ∧ W.cell? ⟨w.heap.size, 1, none⟩ = some (.slice a2 n2 c2) ∧ Below w1.heap.size w1 W) ((refine HQ.out _ ?_; (repeat (first | assumption | (with_reducible refine Below.alloc ?_ (by first | omega | (simp; done) | (simp; omega)) _) | (with_reducible refine Below.setCell ?_ (by first | omega | (simp; done) | (simp; omega)) _) | (with_reducible refine Below.drew ?_) | (with_reducible refine below_drewN ?_ _)))))
      (first
        | (go_at_call 41; (with_reducible refine (HV.out _ ?_).mono ?_); (focus (repeat (first | assumption | (with_reducible refine Below.alloc ?_ (by first | omega | (simp; done) | (simp; omega)) _) | (with_reducible refine Below.setCell ?_ (by first | omega | (simp; done) | (simp; omega)) _) | (with_reducible refine Below.drew ?_) | (with_reducible refine below_drewN ?_ _)))); rintro e w5 ⟨rfl, rfl⟩)
        | (go_at_call 123; (with_reducible refine (HU.out _ ?_).mono ?_); (focus (repeat (first | assumption | (with_reducible refine Below.alloc ?_ (by first | omega | (simp; done) | (simp; omega)) _) | (with_reducible refine Below.setCell ?_ (by first | omega | (simp; done) | (simp; omega)) _) | (with_reducible refine Below.drew ?_) | (with_reducible refine below_drewN ?_ _)))); rintro e w6 ⟨rfl, hc6⟩; have hb6 : Below w1.heap.size w1 w6 := below_then (by (repeat (first | assumption | (with_reducible refine Below.alloc ?_ (by first | omega | (simp; done) | (simp; omega)) _) | (with_reducible refine Below.setCell ?_ (by first | omega | (simp; done) | (simp; omega)) _) | (with_reducible refine Below.drew ?_) | (with_reducible refine below_drewN ?_ _)))) hc6; clear hc6; have hs6 := hb6.size)
        | (go_at_call 59; (with_reducible refine (HO.out _ _ _ (ints_two7 _ _ _ _)).mono ?_); rintro e w7 ⟨rfl, rfl⟩))
    all_goals
      have hb7 := (hb6.alloc hb6.size (.cells #[.int .i64 x, .int .i64 y] 28))
      go_wp2
      go_ret
      exact ⟨retI Hg.out, Hc1.out.trans (hb7.mono Hc1.out.size)⟩
def errA (T : List (List Int)) (X : Tr) (p : Int) : Int := orE (errB T X) (placesE T [p])
theorem errA_ok {T : List (List Int)} {X : Tr} {p : Int} (h : errA T X p = 0) : GoodT T ∧ GoodX X ∧ X.at_.length = T.length ∧ 0 ≤ p ∧ p < n0 T := by
  obtain ⟨h1, h2⟩ := orE_zero h
  obtain ⟨g1, g2, g3⟩ := errB_ok h1
  exact ⟨g1, g2, g3, (placesE_one h2).2⟩
set_option maxRecDepth 100000 in
set_option maxHeartbeats 2000000 in
theorem vall_calls (a : Option Addr) (n c : Nat) (T : List (List Int)) (v : Value) (X : Tr) (p : Int) (w : World) (hT : ListsAt w a n c T) (h : TreeAt w v X) :
    Calls Try.prog 98 #[.slice a n c, v, .int .i64 p] w fun e w' => e = .returned (.int .i64 (errA T X p)) ∧ Below w.heap.size w w' := by
  have HP := hid_ h
  obtain ⟨a1, n1, c1, a2, n2, c2, rfl, h1, h2⟩ := h
  obtain ⟨w1, hw1⟩ : ∃ w1, w.alloc (.cells #[.slice a1 n1 c1, .slice a2 n2 c2] 46) = w1 := ⟨_, rfl⟩
  have cb : Below w.heap.size w w1 := by rw [← hw1]; exact below_alloc _ _
  have q0 : w1.cell? ⟨w.heap.size, 0, none⟩ = some (.slice a1 n1 c1) := by rw [← hw1]; exact cells_alloc _ _ _ 0
  have q1 : w1.cell? ⟨w.heap.size, 1, none⟩ = some (.slice a2 n2 c2) := by rw [← hw1]; exact cells_alloc _ _ _ 1
  have HP1 := hid_ (HP.out.below cb (Nat.le_refl _)); have Hc1 := hid_ cb
  have HT1 := hid_ (hT.below cb (Nat.le_refl _))
  have HV := hid_ (fun W (hW : Below w1.heap.size w1 W) => both_calls a n c T _ X W (HT1.out.below hW (Nat.le_refl _)) (HP1.out.below hW (Nat.le_refl _)))
  have HU := hid_ (fun W (hW : Below w1.heap.size w1 W) a' n' c' (h' : IntsAt W a' n' c' [p]) => places_calls a n c T a' n' c' [p] W (HT1.out.below hW (Nat.le_refl _)) h')
  have HO := hid_ (fun a c W h => or_calls a c (errB T X) (placesE T [p]) W h)
  have HQ := hid_ (fun W (hW : Below w1.heap.size w1 W) => And.intro (cell_below q0 hW) (And.intro (cell_below q1 hW) hW))
  have hbb : Below w1.heap.size w1 w1 := Below.refl _ _
  have HR : Hid (errA T X p = orE (errB T X) (placesE T [p])) := hid_ rfl
  clear h1 h2 cb hT
  generalize errA T X p = R at *
  generalize errB T X = x at *
  generalize placesE T [p] = y at *
  go_enter Try.func98, Try.ntmps98
  go_wp2_with (first
    | (go_at_call 86; (with_reducible refine (HV.out _ hbb).mono ?_); rintro e w5 ⟨rfl, hb5⟩; have hs5 := hb5.size)
    | (go_at_call 94; (with_reducible refine (HU.out _ ?_ _ _ _ (IntsAt.one _ _ _)).mono ?_); (focus (repeat (first | assumption | (with_reducible refine Below.alloc ?_ (by first | omega | (simp; done) | (simp; omega)) _) | (with_reducible refine Below.setCell ?_ (by first | omega | (simp; done) | (simp; omega)) _) | (with_reducible refine Below.drew ?_) | (with_reducible refine below_drewN ?_ _)))); rintro e w6 ⟨rfl, rfl⟩; obtain ⟨w7, hw7⟩ : ∃ w7, w5.alloc (.cells #[.int .i64 p] 3) = w7 := ⟨_, rfl⟩; have hb7 : Below w1.heap.size w1 w7 := (by rw [← hw7]; exact hb5.alloc hb5.size _); rw [hw7])
    | (go_at_call 59; (with_reducible refine (HO.out _ _ _ (ints_two7 _ _ _ _)).mono ?_); rintro e w8 ⟨rfl, rfl⟩))
  go_ret
  exact ⟨retI HR.out, Hc1.out.trans ((hb7.alloc hb7.size (.cells #[.int .i64 x, .int .i64 y] 28)).mono Hc1.out.size)⟩
end Go.Proofs.Ytdnlpikfibdjoaa
