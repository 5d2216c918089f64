import Derived.Test.YtoopgmoopmbfnaaSndO
import Derived.Test.YtoopgmoopmbfnaaKitB
namespace Go.Proofs.Ytoopgmoopmbfnaa
open Go.RowKit Go.Proofs.Kv Go.Proofs.Snd

/-! ### slices.Equal -/
theorem equal_calls (a : Option Addr) (n c : Nat) (l : List Int) (a' : Option Addr) (n' c' : Nat) (l' : List Int) (w : World) (h : IntsAt w a n c l) (h' : IntsAt w a' n' c' l') :
    Calls Try.prog 97 #[.slice a n c, .slice a' n' c'] w fun e w' => e = .returned (.bool (Same l l')) ∧ ∃ q, w' = w.drewN q := by
  have hn : n ≤ 9223372036854775807 := Nat.le_trans h.le h.small
  by_cases hnn : n = n'
  · subst hnn
    have hb1 : ((n : Int) != (n : Int)) = false := by simp
    go_enter Try.func97, Try.ntmps97
    go_wp2
    go_loopw [13] (fun i wr => ∃ k q : Nat, k ≤ n ∧ i = .int .i64 k ∧ wr = w.drewN q ∧ ∀ j, j < k → l.getD j 0 = l'.getD j 0) (fun i _ => n - (intOf i).toNat)
    case atStart => exact ⟨0, 0, Nat.zero_le _, rfl, rfl, fun _ h => absurd h (by omega)⟩
    case round =>
      obtain ⟨k, q, hk, rfl, rfl, hall⟩ := hrel
      have Hall := hid_ hall; clear hall
      by_cases hlt : k < n
      · obtain ⟨b, off, rfl, hb, hcell⟩ := h.cells k hlt
        obtain ⟨b', off', rfl, hb', hcell'⟩ := h'.cells k hlt
        generalize hy : l.getD k 0 = y at hcell
        have Hy := hid_ hy; clear hy
        generalize hy' : l'.getD k 0 = y' at hcell'
        have Hy' := hid_ hy'; clear hy'
        by_cases he : y = y'
        · have hq : (y != y') = false := by simpa using he
          have He := hid_ he; clear he
          go_wp2
          go_quiet (fail)
          go_wp2
          go_roundw
          case rel => exact ⟨k + 1, _, by omega, by go_num, rfl, lt_snoc Hall.out (by rw [Hy.out, Hy'.out]; exact He.out)⟩
          case measure => simp [intOf]; omega
        · have hq : (y != y') = true := by simpa using he
          have Hf : Hid (Same l l' = false) := by
            refine hid_ (decide_eq_false fun e => he ?_)
            rw [← Hy.out, ← Hy'.out, e]
          have He := hid_ he; clear he
          go_wp2
          go_quiet (fail)
          go_wp2
          go_ret
          exact ⟨retB Hf.out, _, drewN2 _ _ _⟩
      · have Hf : Hid (Same l l' = true) := hid_ (decide_eq_true (ext_getD h.len h'.len fun j hj => Hall.out j (by omega)))
        go_wp2
        go_ret
        exact ⟨retB Hf.out, _, rfl⟩
  · have hb1 : ((n : Int) != (n' : Int)) = true := by simp; omega
    have Hf : Hid (Same l l' = false) := hid_ (decide_eq_false fun e => hnn (by rw [← h.len, ← h'.len, e]))
    have Hn := hid_ hnn; clear hnn
    go_enter Try.func97, Try.ntmps97
    go_wp2
    go_ret
    exact ⟨retB Hf.out, 0, rfl⟩

/-! ### the program's Stand -/
theorem rowTo_has {L : List (List Int)} {x : Int} (h : 0 ≤ rowTo L x) : ∃ i : Nat, rowTo L x = i ∧ i < L.length ∧ x ∈ L.getD i [] := by
  unfold rowTo at h ⊢
  split
  · rename_i hlt
    refine ⟨_, rfl, hlt, ?_⟩
    rw [List.getD, List.getElem?_eq_getElem hlt, Option.getD_some]
    have := List.findIdx_getElem (w := hlt)
    exact Has_iff.1 this
  · rename_i hge
    rw [if_neg hge] at h; omega
theorem stand_err_yes {L : List (List Int)} {x y : Int} {i : Nat} (h : validT L = 0) (hr : rowTo L x = i) (h1 : (i : Int) ≤ y) (h2 : y < L.length) : standErr L x y = 0 := by
  rw [standErr, if_pos h, hr, if_neg (by omega), if_pos]
  simp [Within]; omega
theorem stand_err_no {L : List (List Int)} {x y : Int} {i : Nat} (h : validT L = 0) (hr : rowTo L x = i) (h1 : y < i ∨ (L.length : Int) ≤ y) : standErr L x y = 4 := by
  rw [standErr, if_pos h, hr, if_neg (by omega), if_neg]
  simp [Within]; omega
theorem stand_res_no {L : List (List Int)} {x y : Int} (h : standErr L x y ≠ 0) : standRes L x y = [] := if_neg h
set_option maxRecDepth 100000 in
theorem sndStandX_calls (a : Option Addr) (n c : Nat) (L : List (List Int)) (x y : Int) (w : World) (h : ListsAt w a n c L) (hs : L.flatten.length ≤ 100000) :
    Calls Try.prog 48 #[.slice a n c, .agg #[.int .i64 x, .int .i64 y]] w fun e w' => ∃ v, e = .returned (.tuple #[v, .int .i64 (standErr L x y)]) ∧ Made 3 w w' v (standRes L x y) := by
  have hb0 : Below w.heap.size w (w.alloc (.cells #[.int .i64 x, .int .i64 y] 71)) := (Below.refl _ w).alloc (Nat.le_refl _) _
  have hc0 : (w.alloc (.cells #[.int .i64 x, .int .i64 y] 71)).cell? ⟨w.heap.size, 0, none⟩ = some (.int .i64 x) := by rw [World.cell?_alloc_at _ _ _ _ (by rfl)]; rfl
  have hc1 : (w.alloc (.cells #[.int .i64 x, .int .i64 y] 71)).cell? ⟨w.heap.size, 1, none⟩ = some (.int .i64 y) := by rw [World.cell?_alloc_at _ _ _ _ (by rfl)]; rfl
  have Hb0 := hid_ hb0; clear hb0
  have Hc0 := hid_ hc0; clear hc0
  have Hc1 := hid_ hc1; clear hc1
  have h1 := h.below Hb0.out (Nat.le_refl _)
  have hval := sndValidate_calls a n c L _ h1
  have Hn : Hid (L.length = n) := hid_ h.len
  by_cases he : validT L = 0
  · rw [he] at hval
    have Hv := hid_ hval; clear hval
    have hg := good_of he
    have hn6 : n ≤ 6 := by have := hg.n6; rw [Hn.out] at this; exact this
    by_cases hr : rowTo L x < 0
    · have He : Hid (standErr L x y = 4) := hid_ (by rw [standErr, if_pos he, if_pos hr])
      have Hf : Hid (standRes L x y = []) := hid_ (stand_res_no (by rw [He.out]; decide))
      have Hrow : Hid (∀ W, ListsAt W a n c L → Calls Try.prog 99 #[.slice a n c, .int .i64 x] W fun e w' => e = .returned (.tuple #[.int .i64 0, .bool false]) ∧ W = w') := hid_ fun W hW => by
        have := rowOf_calls a n c L x W hW
        rwa [rowP, if_pos hr] at this
      clear hr he
      go_enter Try.func48, Try.ntmps48
      go_wp2_with fail
      refine Hv.out.mono ?_
      rintro e w1 ⟨rfl, hb1⟩
      have g0 := (hb1.cell (p := ⟨w.heap.size, 0, none⟩) (by simp)).trans Hc0.out
      go_wp2_with fail
      refine (Hrow.out _ (h1.below hb1 (Nat.le_refl _))).mono ?_
      rintro e w2 ⟨rfl, rfl⟩
      go_wp2
      go_ret2
      exact ⟨_, by rw [He.out]; rfl, by rw [Hf.out]; exact Made.none_ _ (Hb0.out.trans (hb1.mono (by simp)))⟩
    · obtain ⟨i, hri, hil, hxi⟩ := rowTo_has (show 0 ≤ rowTo L x by omega)
      have Hrow : Hid (∀ W, ListsAt W a n c L → Calls Try.prog 99 #[.slice a n c, .int .i64 x] W fun e w' => e = .returned (.tuple #[.int .i64 i, .bool true]) ∧ W = w') := hid_ fun W hW => by
        have := rowOf_calls a n c L x W hW
        rwa [rowP, if_neg hr, hri] at this
      have Hno : Hid (y < i ∨ (n : Int) ≤ y → standErr L x y = 4 ∧ standRes L x y = []) := hid_ fun hh => by
        have := stand_err_no he hri (by rw [Hn.out]; exact hh)
        exact ⟨this, stand_res_no (by rw [this]; decide)⟩
      rw [Hn.out] at hil
      by_cases hy1 : y < i
      · have He : Hid (standErr L x y = 4) := hid_ (Hno.out (.inl hy1)).1
        have Hf : Hid (standRes L x y = []) := hid_ (Hno.out (.inl hy1)).2
        clear hr he hri hxi Hno
        go_enter Try.func48, Try.ntmps48
        go_wp2_with fail
        refine Hv.out.mono ?_
        rintro e w1 ⟨rfl, hb1⟩
        have g0 := (hb1.cell (p := ⟨w.heap.size, 0, none⟩) (by simp)).trans Hc0.out
        have g1 := (hb1.cell (p := ⟨w.heap.size, 1, none⟩) (by simp)).trans Hc1.out
        go_wp2_with fail
        refine (Hrow.out _ (h1.below hb1 (Nat.le_refl _))).mono ?_
        rintro e w2 ⟨rfl, rfl⟩
        go_wp2
        go_ret2
        exact ⟨_, by rw [He.out]; rfl, by rw [Hf.out]; exact Made.none_ _ (Hb0.out.trans (hb1.mono (by simp)))⟩
      · by_cases hy2 : (n : Int) ≤ y
        · have He : Hid (standErr L x y = 4) := hid_ (Hno.out (.inr hy2)).1
          have Hf : Hid (standRes L x y = []) := hid_ (Hno.out (.inr hy2)).2
          clear hr he hri hxi Hno
          go_enter Try.func48, Try.ntmps48
          go_wp2_with fail
          refine Hv.out.mono ?_
          rintro e w1 ⟨rfl, hb1⟩
          have g0 := (hb1.cell (p := ⟨w.heap.size, 0, none⟩) (by simp)).trans Hc0.out
          have g1 := (hb1.cell (p := ⟨w.heap.size, 1, none⟩) (by simp)).trans Hc1.out
          go_wp2_with fail
          refine (Hrow.out _ (h1.below hb1 (Nat.le_refl _))).mono ?_
          rintro e w2 ⟨rfl, rfl⟩
          go_wp2
          go_ret2
          exact ⟨_, by rw [He.out]; rfl, by rw [Hf.out]; exact Made.none_ _ (Hb0.out.trans (hb1.mono (by simp)))⟩
        · have He : Hid (standErr L x y = 0) := hid_ (stand_err_yes he hri (by omega) (by rw [Hn.out]; omega))
          have Hf : Hid (standRes L x y = standL L x y) := hid_ (by rw [standRes, He.out]; rfl)
          obtain ⟨y', rfl⟩ := Int.eq_ofNat_of_zero_le (show 0 ≤ y by omega)
          have Hst : Hid (∀ W, ListsAt W a n c L → Calls Try.prog 98 #[.slice a n c, .agg #[.int .i64 x, .int .i64 y']] W fun e w' => ∃ v, e = .returned v ∧ Made 3 W w' v (standL L x y')) := hid_ fun W hW =>
            sndStand_calls a n c L x y' W hW hs (by omega) (mem_take_flatten (by rw [Hn.out]; exact hil) (by omega) hxi) hg.nd hg.rg
          clear hr he hri hxi Hno
          go_enter Try.func48, Try.ntmps48
          go_wp2_with fail
          refine Hv.out.mono ?_
          rintro e w1 ⟨rfl, hb1⟩
          have g0 := (hb1.cell (p := ⟨w.heap.size, 0, none⟩) (by simp)).trans Hc0.out
          have g1 := (hb1.cell (p := ⟨w.heap.size, 1, none⟩) (by simp)).trans Hc1.out
          have hI := h1.below hb1 (Nat.le_refl _)
          go_wp2_with fail
          refine (Hrow.out _ hI).mono ?_
          rintro e w2 ⟨rfl, rfl⟩
          go_wp2_with fail
          refine (Hst.out _ hI).mono ?_
          rintro e w3 ⟨v, rfl, hm⟩
          go_wp2
          go_ret2
          exact ⟨v, by rw [He.out]; rfl, by rw [Hf.out]; exact hm.after (Hb0.out.trans (hb1.mono (by simp)))⟩
  · have He : Hid (standErr L x y = validT L) := hid_ (if_neg he)
    have Hf : Hid (standRes L x y = []) := hid_ (by rw [standRes, if_neg (by rw [He.out]; exact he)])
    generalize validT L = er at hval he He
    have hq : (er != 0) = true := by simpa using he
    have Hv := hid_ hval; clear hval he
    go_enter Try.func48, Try.ntmps48
    go_wp2_with fail
    refine Hv.out.mono ?_
    rintro e w1 ⟨rfl, hb1⟩
    go_wp2
    go_ret2
    exact ⟨_, by rw [He.out]; rfl, by rw [Hf.out]; exact Made.none_ _ (Hb0.out.trans (hb1.mono (by simp)))⟩
end Go.Proofs.Ytoopgmoopmbfnaa
