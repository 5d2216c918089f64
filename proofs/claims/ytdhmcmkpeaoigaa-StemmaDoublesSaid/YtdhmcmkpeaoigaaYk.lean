import Derived.Test.YtdhmcmkpeaoigaaYj
namespace Go.Proofs.Ytdhmcmkpeaoigaa
open Go.RowKit Go.Proofs.Kv

/-! ### Different, Side, Conflict of the document -/
set_option maxRecDepth 100000 in
theorem r7Different_calls (a : Option Addr) (n c : Nat) (T : List (List Int)) (p : Int) (w : World) (h : ListsAt w a n c T) :
    Calls Try.prog 21 #[.slice a n c, .int .i64 p] w fun e w' => e = .returned (.tuple #[.int .i64 (resDiff T p), .int .i64 (placesE T [p])]) ∧ Below w.heap.size w w' := by
  have HV := hid_ (placed_calls a n c T p w h)
  have HR : Hid (resDiff T p = if placesE T [p] = 0 then (diffR T p.toNat : Int) else 0) := hid_ rfl
  generalize resDiff T p = R at *
  by_cases he : placesE T [p] = 0
  · have Hf := hid_ (HR.out.trans (if_pos he))
    obtain ⟨g, hp0, hp1⟩ := placesE_one he
    rw [he] at HV ⊢
    clear he HR
    rw [Hf.out]
    clear Hf
    obtain ⟨k, rfl⟩ := nat_of hp0
    have HD := hid_ (fun q => r7diff_calls a n c T k (w.drewN q) (h.drewN q) g (by omega))
    rw [Int.toNat_natCast]
    clear hp0 hp1 g
    go_enter Try.func21, Try.ntmps21
    go_wp2_with (first
      | (go_at_call 61; (with_reducible refine HV.out.mono ?_); rintro e w2 ⟨rfl, q, rfl⟩)
      | (go_at_call 62; (with_reducible refine (HD.out _).mono ?_); rintro e w3 ⟨rfl, hb⟩))
    go_ret2
    exact ⟨rfl, (below_drewN (Below.refl _ _) _).trans hb⟩
  · have Hf := hid_ (HR.out.trans (if_neg he))
    have hq : (placesE T [p] != 0) = true := by simpa using he
    generalize placesE T [p] = x at *
    clear he HR
    rw [Hf.out]
    go_enter Try.func21, Try.ntmps21
    go_wp2_with (go_at_call 61; (with_reducible refine HV.out.mono ?_); rintro e w2 ⟨rfl, q, rfl⟩)
    go_ret2
    exact ⟨rfl, below_drewN (Below.refl _ _) _⟩
set_option maxRecDepth 100000 in
set_option maxHeartbeats 1000000 in
theorem r7Side_calls (a : Option Addr) (n c : Nat) (T : List (List Int)) (p : Int) (w : World) (h : ListsAt w a n c T) :
    Calls Try.prog 23 #[.slice a n c, .int .i64 p] w fun e w' => ∃ v, e = .returned (.tuple #[v, .bool (okSide T p), .int .i64 (placesE T [p])]) ∧ Made 3 w w' v (resSide T p) := by
  obtain ⟨i0, hi0, hz0, hz1, hz2⟩ := info_parts Try.infoInt
  have hn : n ≤ 9223372036854775807 := Nat.le_trans h.le h.small
  have HV := hid_ (placed_calls a n c T p w h)
  have HO : Hid (okSide T p = (decide (placesE T [p] = 0) && splR T p.toNat)) := hid_ rfl
  have HR : Hid (resSide T p = if okSide T p = true then sideR T p.toNat else []) := hid_ rfl
  generalize resSide T p = R at *
  generalize okSide T p = O at *
  by_cases he : placesE T [p] = 0
  · obtain ⟨g, hp0, hp1⟩ := placesE_one he
    rw [he] at HV HO ⊢
    clear he
    obtain ⟨k, rfl⟩ := nat_of hp0
    rw [Int.toNat_natCast] at HO HR
    have hp : k < n0 T := by omega
    have HD := hid_ (fun q => r7diff_calls a n c T k (w.drewN q) (h.drewN q) g hp)
    have hs : splR T k = decide (diffR T k = 2) := rfl
    have hd1 := diffR_le T k
    rw [h.len] at hd1
    have hn6 : n ≤ 6 := by have := g.le; have := h.len; omega
    have h0 : 0 < n := by have := g.ge; have := h.len; omega
    have Hg := hid_ g
    have Hlen := hid_ h.len
    clear hp0 hp1 g
    by_cases h2 : diffR T k = 2
    · rw [h2] at HD
      rw [hs, h2] at HO
      have Ho : Hid (O = true) := hid_ (HO.out.trans rfl)
      have Hf := hid_ (HR.out.trans (if_pos Ho.out))
      clear hs HO HR h2 hd1
      rw [Ho.out, Hf.out]
      have HS : Hid (sideR T k = pl (sidB T k) n) := hid_ (by rw [sideR, h.len])
      have HZ : Hid (pl (sidB T k) 0 = []) := hid_ rfl
      generalize sideR T k = S at *
      go_enter Try.func23, Try.ntmps23
      go_wp2_with (first
        | (go_at_call 61; (with_reducible refine HV.out.mono ?_); rintro e w2 ⟨rfl, q, rfl⟩)
        | (go_at_call 62; (with_reducible refine (HD.out _).mono ?_); rintro e w3 ⟨rfl, hb⟩))
      have Hb3 : Hid (Below w.heap.size w w3) := hid_ ((below_drewN (Below.refl _ _) _).trans hb)
      clear hb
      go_loopw [8, 9] (fun v i wr => ∃ j : Nat, j ≤ n ∧ i = .int .i64 j ∧ wr.ownsRow w.heap.size 3 1 v (pl (sidB T k) j).length ((pl (sidB T k) j).map (Value.int .i64)) ∧ Below w.heap.size w wr) (fun _ i _ => n - (intOf i).toNat)
      case atStart => exact ⟨0, Nat.zero_le _, rfl, by rw [HZ.out]; exact World.ownsRow_nil _ _ _ _, Hb3.out⟩
      case round =>
        obtain ⟨j, hj, rfl, hown, hb⟩ := hrel
        have hsz := hb.size
        by_cases hlt : j < n
        · have hT := h.below hb (Nat.le_refl _)
          obtain ⟨b, off, a1, n1, c1, rfl, hb', hcell, hrow⟩ := hT.cells j hlt
          obtain ⟨b', off', a2, n2, c2, e, hb'', hcell2, hrow2⟩ := hT.cells 0 h0
          injection e with e; injection e with e1 e2; subst e1; subst e2
          rw [Nat.add_zero] at hcell2
          have hl : j < T.length := by rw [Hlen.out]; exact hlt
          have hpn : k < n1 := by rw [← hrow.len, Hg.out.len j hl]; exact hp
          have hpn2 : k < n2 := by rw [← hrow2.len, Hg.out.len 0 (by omega)]; exact hp
          have hrl := Nat.le_trans hrow.le hrow.small
          have hrl2 := Nat.le_trans hrow2.le hrow2.small
          obtain ⟨b1, off1, rfl, hb1, hcell1⟩ := hrow.cells k hpn
          obtain ⟨b3, off3, rfl, hb3, hcell3⟩ := hrow2.cells k hpn2
          have Hb := hid_ hb
          have hS : sidB T k (j : Int) = decide ((T.getD j []).getD k 0 ≠ (T.getD 0 []).getD k 0) := rfl
          have HH := hid_ (@pl_hit (sidB T k) j)
          have HM := hid_ (@pl_miss (sidB T k) j)
          have hle := pl_le (sidB T k) j
          clear hT hrow hrow2 hb
          generalize (T.getD j []).getD k 0 = y at *
          generalize (T.getD 0 []).getD k 0 = z at *
          have Hown := hid_ hown
          clear hown
          by_cases he : y = z
          · have Hf := hid_ (HM.out (by rw [hS]; simp [he]))
            have hq : (y != z) = false := by simpa using he
            clear he hS HH HM
            go_wp2_with fail
            go_quiet (fail)
            go_wp2
            go_roundw
            case rel => exact ⟨j + 1, by omega, by go_num, by rw [Hf.out]; exact own_drewN Hown.out _, below_drewN Hb.out _⟩
            case measure => simp [intOf]; omega
          · have Hf := hid_ (HH.out (by rw [hS]; simp [he]))
            have hq : (y != z) = true := by simpa using he
            clear he hS HH HM
            go_wp2_with fail
            go_quiet (fail)
            go_wp2_with (at_builtin; refine wpList_append_ints _ rfl (.tmp 40) (.tmp 42) _ rfl w.heap.size 3 i0 Try.underlying28 hi0 hz0 hz1 hz2 _ _ _ rfl ((own_drewN Hown.out nq).alloc _) _ 1 1 [(j : Int)] rfl (IntsAt.one _ _ _) (by omega) (le_alloc (w := wr.drewN nq) hsz) ?_; intro v' w1 hown1 hg1 hat1)
            go_roundw
            case rel => exact ⟨j + 1, by omega, by go_num, by rw [Hf.out, List.length_append]; exact hown1, below_app (below_drewN Hb.out nq) hsz (own_drewN Hown.out nq) hg1⟩
            case measure => simp [intOf]; omega
        · obtain rfl : n = j := by omega
          have Hown := hid_ hown
          clear hown
          go_wp2
          go_ret3
          exact ⟨_, rfl, by rw [HS.out]; exact ⟨Hown.out, hb⟩⟩
    · rw [hs, decide_eq_false h2, Bool.and_false] at HO
      have Ho : Hid (O = false) := hid_ HO.out
      have Hf := hid_ (HR.out.trans (if_neg (by rw [Ho.out]; decide)))
      generalize diffR T k = d at *
      have hqq : ((d : Int) != 2) = true := by simp; omega
      clear hs HO HR h2
      rw [Ho.out, Hf.out]
      go_enter Try.func23, Try.ntmps23
      go_wp2_with (first
        | (go_at_call 61; (with_reducible refine HV.out.mono ?_); rintro e w2 ⟨rfl, q, rfl⟩)
        | (go_at_call 62; (with_reducible refine (HD.out _).mono ?_); rintro e w3 ⟨rfl, hb⟩))
      go_ret3
      exact ⟨_, rfl, Made.none_ _ ((below_drewN (Below.refl _ _) _).trans hb)⟩
  · have Ho : Hid (O = false) := hid_ (HO.out.trans (by rw [decide_eq_false he, Bool.false_and]))
    have Hf := hid_ (HR.out.trans (if_neg (by rw [Ho.out]; decide)))
    have hq : (placesE T [p] != 0) = true := by simpa using he
    generalize placesE T [p] = x at *
    clear he HR HO
    rw [Ho.out, Hf.out]
    go_enter Try.func23, Try.ntmps23
    go_wp2_with (go_at_call 61; (with_reducible refine HV.out.mono ?_); rintro e w2 ⟨rfl, q, rfl⟩)
    go_ret3
    exact ⟨_, rfl, Made.none_ _ (below_drewN (Below.refl _ _) _)⟩
theorem placesE_pair (T : List (List Int)) (p q : Int) : placesE T [p, q] = if placesE T [p] = 0 then placesE T [q] else placesE T [p] := by
  simp only [placesE, numE_one, numE_two]
  by_cases hv : validT T = 0
  · simp only [hv, if_true]
    cases isNum (n0 T) p <;> cases isNum (n0 T) q <;> rfl
  · simp [hv]
set_option maxRecDepth 100000 in
theorem r7Conflict_calls (a : Option Addr) (n c : Nat) (T : List (List Int)) (p q : Int) (w : World) (h : ListsAt w a n c T) :
    Calls Try.prog 28 #[.slice a n c, .int .i64 p, .int .i64 q] w fun e w' => e = .returned (.tuple #[.bool (resConf T p q), .int .i64 (placesE T [p, q])]) ∧ Below w.heap.size w w' := by
  have HV := hid_ (placed_calls a n c T p w h)
  have HV2 := hid_ (fun k => placed_calls a n c T q (w.drewN k) (h.drewN k))
  have HR : Hid (resConf T p q = (decide (placesE T [p, q] = 0) && cfR T p.toNat q.toNat)) := hid_ rfl
  have HP : Hid (placesE T [p, q] = if placesE T [p] = 0 then placesE T [q] else placesE T [p]) := hid_ (placesE_pair T p q)
  generalize resConf T p q = R at *
  by_cases he : placesE T [p] = 0
  · rw [if_pos he] at HP
    by_cases hf : placesE T [q] = 0
    · rw [HP.out, hf] at HR ⊢
      obtain ⟨g, hp0, hp1⟩ := placesE_one he
      obtain ⟨-, hq0, hq1⟩ := placesE_one hf
      rw [he] at HV
      rw [hf] at HV2
      have Hf := hid_ (HR.out.trans (by rw [decide_eq_true rfl, Bool.true_and]))
      clear he hf HR HP
      rw [Hf.out]
      clear Hf
      obtain ⟨k, rfl⟩ := nat_of hp0
      obtain ⟨l, rfl⟩ := nat_of hq0
      have HD := hid_ (fun x => r7conflict_calls a n c T k l (w.drewN x) (h.drewN x) g (by omega) (by omega))
      rw [Int.toNat_natCast, Int.toNat_natCast]
      clear hp0 hp1 hq0 hq1 g
      go_enter Try.func28, Try.ntmps28
      go_wp2_with (first
        | (go_at_call 61; (with_reducible refine HV.out.mono ?_); rintro e w2 ⟨rfl, x, rfl⟩)
        | (go_at_call 61; (with_reducible refine (HV2.out _).mono ?_); rintro e w3 ⟨rfl, y, rfl⟩; simp only [drewN2])
        | (go_at_call 68; (with_reducible refine (HD.out _).mono ?_); rintro e w3 ⟨rfl, hb⟩))
      go_ret2
      exact ⟨rfl, (below_drewN (Below.refl _ _) _).trans hb⟩
    · have hq : (placesE T [q] != 0) = true := by simpa using hf
      have Hf := hid_ (HR.out.trans (show (decide (placesE T [p, q] = 0) && _) = false by rw [HP.out, decide_eq_false hf, Bool.false_and]))
      rw [HP.out]
      rw [he] at HV
      generalize placesE T [q] = x at *
      clear he hf HR HP
      rw [Hf.out]
      go_enter Try.func28, Try.ntmps28
      go_wp2_with (first
        | (go_at_call 61; (with_reducible refine HV.out.mono ?_); rintro e w2 ⟨rfl, y, rfl⟩)
        | (go_at_call 61; (with_reducible refine (HV2.out _).mono ?_); rintro e w3 ⟨rfl, y, rfl⟩; simp only [drewN2]))
      go_ret2
      exact ⟨rfl, below_drewN (Below.refl _ _) _⟩
  · rw [if_neg he] at HP
    have hq : (placesE T [p] != 0) = true := by simpa using he
    have Hf := hid_ (HR.out.trans (show (decide (placesE T [p, q] = 0) && _) = false by rw [HP.out, decide_eq_false he, Bool.false_and]))
    rw [HP.out]
    generalize placesE T [p] = x at *
    clear he HR HP
    rw [Hf.out]
    go_enter Try.func28, Try.ntmps28
    go_wp2_with (go_at_call 61; (with_reducible refine HV.out.mono ?_); rintro e w2 ⟨rfl, y, rfl⟩)
    go_ret2
    exact ⟨rfl, below_drewN (Below.refl _ _) _⟩
end Go.Proofs.Ytdhmcmkpeaoigaa
