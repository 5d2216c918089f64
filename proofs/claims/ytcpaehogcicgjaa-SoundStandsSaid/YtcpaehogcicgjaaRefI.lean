import Derived.Test.YtcpaehogcicgjaaRefH
namespace Go.Proofs.Ytcpaehogcicgjaa
open Go.RowKit Go.Proofs.Kv Go.Proofs.Snd

theorem validT_ok {L : List (List Int)} (h : validT L = 0) : (1 ≤ L.length ∧ L.length ≤ 6) ∧ L.all okRow = true ∧ L.flatten.Nodup := by
  unfold validT at h
  by_cases h1 : L.length = 0 ∨ 6 < L.length
  · rw [if_pos h1] at h; cases h
  · rw [if_neg h1] at h
    cases h2 : L.all okRow with
    | false => rw [h2] at h; simp at h
    | true =>
      rw [h2] at h
      cases h3 : dup L.flatten with
      | true => rw [h3] at h; simp at h
      | false => exact ⟨by omega, rfl, (dup_iff _).1 h3⟩

/-! ### Stand -/
def standErr (L : List (List Int)) (x y : Int) : Int := if validT L = 0 then (if rowTo L x < 0 then 4 else if Within y (rowTo L x) ((L.length : Int) - 1) then 0 else 4) else validT L
def standRes (L : List (List Int)) (x y : Int) : List Int := if standErr L x y = 0 then standL L x y else []
set_option maxRecDepth 100000 in
theorem refStand_calls (a : Option Addr) (n c : Nat) (L : List (List Int)) (x y : Int) (w : World) (h : ListsAt w a n c L) (hs : L.flatten.length ≤ 100000) :
    Calls Try.prog 26 #[.slice a n c, .agg #[.int .i64 x, .int .i64 y]] w fun e w' => ∃ v, e = .returned (.tuple #[v, .int .i64 (standErr L x y)]) ∧ Made 3 w w' v (standRes L x y) := by
  have hb0 : Below w.heap.size w (w.alloc (.cells #[.int .i64 x, .int .i64 y] 35)) := (Below.refl _ w).alloc (Nat.le_refl _) _
  have hc0 : (w.alloc (.cells #[.int .i64 x, .int .i64 y] 35)).cell? ⟨w.heap.size, 0, none⟩ = some (.int .i64 x) := by rw [World.cell?_alloc_at _ _ _ _ (by rfl)]; rfl
  have hc1 : (w.alloc (.cells #[.int .i64 x, .int .i64 y] 35)).cell? ⟨w.heap.size, 1, none⟩ = some (.int .i64 y) := by rw [World.cell?_alloc_at _ _ _ _ (by rfl)]; rfl
  have Hb0 := hid_ hb0; clear hb0
  have Hc0 := hid_ hc0; clear hc0
  have Hc1 := hid_ hc1; clear hc1
  have h1 := h.below Hb0.out (Nat.le_refl _)
  have hval := refValidate_calls a n c L _ h1 hs
  by_cases he : validT L = 0
  · rw [he] at hval
    have Hv := hid_ hval; clear hval
    obtain ⟨⟨hn1, hn6⟩, _, _⟩ := validT_ok he
    rw [h.len] at hn1 hn6
    have Hn : Hid (L.length = n) := hid_ h.len
    by_cases hr : rowTo L x < 0
    · have He : Hid (standErr L x y = 4) := hid_ (by rw [standErr, if_pos he, if_pos hr])
      have Hf : Hid (standRes L x y = []) := hid_ (by rw [standRes, He.out]; rfl)
      generalize hrr : rowTo L x = r at hr
      have Hr := hid_ hrr; clear hrr he
      go_enter Try.func26, Try.ntmps26
      go_wp2_with fail
      refine Hv.out.mono ?_
      rintro e w1 ⟨rfl, hb1⟩
      have g0 := (hb1.cell (p := ⟨w.heap.size, 0, none⟩) (by simp)).trans Hc0.out
      have hrow := row_calls a n c L x w1 (h1.below hb1 (Nat.le_refl _))
      rw [Hr.out] at hrow
      have Hrow := hid_ hrow; clear hrow
      go_wp2_with fail
      refine Hrow.out.mono ?_
      rintro e w2 ⟨rfl, rfl⟩
      go_wp2
      go_ret2
      exact ⟨_, by rw [He.out]; rfl, by rw [Hf.out]; exact Made.none_ _ (Hb0.out.trans (hb1.mono (by simp)))⟩
    · cases hw : Within y (rowTo L x) ((n : Int) - 1) with
      | false =>
        have He : Hid (standErr L x y = 4) := hid_ (by rw [standErr, if_pos he, if_neg hr, Hn.out, hw]; rfl)
        have Hf : Hid (standRes L x y = []) := hid_ (by rw [standRes, He.out]; rfl)
        generalize hrr : rowTo L x = r at hr hw
        have Hr := hid_ hrr; clear hrr he
        go_enter Try.func26, Try.ntmps26
        go_wp2_with fail
        refine Hv.out.mono ?_
        rintro e w1 ⟨rfl, hb1⟩
        have g0 := (hb1.cell (p := ⟨w.heap.size, 0, none⟩) (by simp)).trans Hc0.out
        have g1 := (hb1.cell (p := ⟨w.heap.size, 1, none⟩) (by simp)).trans Hc1.out
        have hrow := row_calls a n c L x w1 (h1.below hb1 (Nat.le_refl _))
        rw [Hr.out] at hrow
        have Hrow := hid_ hrow; clear hrow
        go_wp2_with fail
        refine Hrow.out.mono ?_
        rintro e w2 ⟨rfl, rfl⟩
        go_wp2_with (go_at_call 67; refine (within_calls _ _ _ _).mono ?_; rintro e w' ⟨rfl, rfl⟩)
        go_ret2
        exact ⟨_, by rw [He.out]; rfl, by rw [Hf.out]; exact Made.none_ _ (Hb0.out.trans (hb1.mono (by simp)))⟩
      | true =>
        have He : Hid (standErr L x y = 0) := hid_ (by rw [standErr, if_pos he, if_neg hr, Hn.out, hw]; rfl)
        have Hf : Hid (standRes L x y = standL L x y) := hid_ (by rw [standRes, He.out]; rfl)
        have hy : 0 ≤ y ∧ y < n := by simp [Within] at hw; omega
        obtain ⟨hy0, hyn⟩ := hy
        generalize hrr : rowTo L x = r at hr hw
        have Hr := hid_ hrr; clear hrr he
        go_enter Try.func26, Try.ntmps26
        go_wp2_with fail
        refine Hv.out.mono ?_
        rintro e w1 ⟨rfl, hb1⟩
        have g0 := (hb1.cell (p := ⟨w.heap.size, 0, none⟩) (by simp)).trans Hc0.out
        have g1 := (hb1.cell (p := ⟨w.heap.size, 1, none⟩) (by simp)).trans Hc1.out
        have hI := h1.below hb1 (Nat.le_refl _)
        have hrow := row_calls a n c L x w1 hI
        rw [Hr.out] at hrow
        have Hrow := hid_ hrow; clear hrow
        go_wp2_with fail
        refine Hrow.out.mono ?_
        rintro e w2 ⟨rfl, rfl⟩
        go_wp2_with (first | (go_at_call 67; refine (within_calls _ _ _ _).mono ?_; rintro e w' ⟨rfl, rfl⟩) | (go_at_call 70; refine (stand_calls _ _ _ _ _ _ _ hI hs hy0 hyn).mono ?_; rintro e w3 ⟨v, rfl, hmade⟩))
        go_ret2
        exact ⟨_, by rw [He.out]; rfl, by rw [Hf.out]; exact hmade.after (Hb0.out.trans (hb1.mono (by simp)))⟩
  · have He : Hid (standErr L x y = validT L) := hid_ (if_neg he)
    have Hf : Hid (standRes L x y = []) := hid_ (by rw [standRes, if_neg (by rw [He.out]; exact he)])
    generalize validT L = er at hval he He
    have hq : (er != 0) = true := by simpa using he
    have Hv := hid_ hval; clear hval he
    go_enter Try.func26, Try.ntmps26
    go_wp2_with fail
    refine Hv.out.mono ?_
    rintro e w1 ⟨rfl, hb1⟩
    go_wp2
    go_ret2
    exact ⟨_, by rw [He.out]; rfl, by rw [Hf.out]; exact Made.none_ _ (Hb0.out.trans (hb1.mono (by simp)))⟩

/-! ### Names -/
def namesRes (L : List (List Int)) : List (Int × Int) := if validT L = 0 then namesR L else []
set_option maxRecDepth 100000 in
theorem refNames_calls (a : Option Addr) (n c : Nat) (L : List (List Int)) (w : World) (h : ListsAt w a n c L) (hs : L.flatten.length ≤ 100000) :
    Calls Try.prog 30 #[.slice a n c] w fun e w' => ∃ v, e = .returned (.tuple #[v, .int .i64 (validT L)]) ∧ MadeP 35 w w' v (namesRes L) := by
  have hval := refValidate_calls a n c L w h hs
  by_cases he : validT L = 0
  · have Hf : Hid (namesRes L = namesR L) := hid_ (if_pos he)
    obtain ⟨⟨hn1, hn6⟩, _, _⟩ := validT_ok he
    rw [h.len] at hn1 hn6
    rw [he] at hval ⊢
    have Hv := hid_ hval; clear hval he
    go_enter Try.func30, Try.ntmps30
    go_wp2_with fail
    refine Hv.out.mono ?_
    rintro e w1 ⟨rfl, hb1⟩
    go_wp2_with (go_at_call 76; refine (names_calls _ _ _ _ _ (h.below hb1 (Nat.le_refl _)) (by omega)).mono ?_; rintro e w2 ⟨v, rfl, hm⟩)
    go_ret2
    exact ⟨v, rfl, by rw [Hf.out]; exact hm.after hb1⟩
  · have Hf : Hid (namesRes L = []) := hid_ (if_neg he)
    generalize validT L = er at hval he ⊢
    have hq : (er != 0) = true := by simpa using he
    have Hv := hid_ hval; clear hval he
    go_enter Try.func30, Try.ntmps30
    go_wp2_with fail
    refine Hv.out.mono ?_
    rintro e w1 ⟨rfl, hb1⟩
    go_wp2
    go_ret2
    exact ⟨_, rfl, by rw [Hf.out]; exact MadeP.none_ _ hb1⟩

/-! ### Sorted, IsOrder -/
theorem refSorted_calls (a : Option Addr) (n c : Nat) (l : List Int) (w : World) (h : IntsAt w a n c l) :
    Calls Try.prog 58 #[.slice a n c] w fun e w' => ∃ v, e = .returned v ∧ Made 3 w w' v (sorted l) := by
  go_enter Try.func58, Try.ntmps58
  go_wp2_with (go_at_call 98; refine (sorted_calls _ _ _ _ _ h).mono ?_; rintro e w2 ⟨v, rfl, hm⟩)
  go_ret
  exact ⟨v, rfl, hm⟩
theorem refIsOrder_calls (a : Option Addr) (n c : Nat) (l : List Int) (w : World) (h : IntsAt w a n c l) :
    Calls Try.prog 56 #[.slice a n c] w fun e w' => e = .returned (.bool (IsOrd l 6)) ∧ w = w' := by
  go_enter Try.func56, Try.ntmps56
  go_wp2_with (go_at_call 92; refine (isOrder_calls _ _ _ _ _ _ h).mono ?_; rintro e w' ⟨rfl, rfl⟩)
  go_ret
  exact ⟨rfl, rfl⟩
end Go.Proofs.Ytcpaehogcicgjaa
