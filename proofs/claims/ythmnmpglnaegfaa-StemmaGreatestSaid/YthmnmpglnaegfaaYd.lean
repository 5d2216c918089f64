import Derived.Test.YthmnmpglnaegfaaYc
namespace Go.Proofs.Ythmnmpglnaegfaa
open Go.RowKit Go.Proofs.Kv

/-! ### places and copies -/
def isNum (m : Nat) (x : Int) : Bool := decide (0 ≤ x) && decide (x < m)
def numE (m : Nat) (l : List Int) : Int := if l.all (isNum m) = true then 0 else 4
def placesE (T : List (List Int)) (l : List Int) : Int := if validT T = 0 then numE (n0 T) l else validT T
def copiesE (T : List (List Int)) (l : List Int) : Int := if validT T = 0 then numE T.length l else validT T
theorem numE_yes {m : Nat} {l : List Int} {n : Nat} (hl : l.length = n) (h : ∀ j, j < n → isNum m (l.getD j 0) = true) : numE m l = 0 := by
  rw [numE, if_pos]
  rw [List.all_eq_true]
  intro x hx
  obtain ⟨k, hk, rfl⟩ := mem_getD hx
  exact h k (by omega)
theorem numE_no {m : Nat} {l : List Int} {k : Nat} (hk : k < l.length) (h : isNum m (l.getD k 0) = false) : numE m l = 4 := by
  rw [numE, if_neg]
  rw [Bool.not_eq_true, List.all_eq_false]
  exact ⟨_, getD_mem hk, by rw [h]; simp⟩
theorem numE_one (m : Nat) (x : Int) : numE m [x] = if isNum m x = true then 0 else 4 := by simp [numE]
theorem numE_two (m : Nat) (x y : Int) : numE m [x, y] = if isNum m x = true ∧ isNum m y = true then 0 else 4 := by simp [numE]
theorem isNum_iff {m : Nat} {x : Int} : isNum m x = true ↔ 0 ≤ x ∧ x < m := by simp [isNum]
theorem placesE_one {T : List (List Int)} {p : Int} (h : placesE T [p] = 0) : GoodT T ∧ 0 ≤ p ∧ p < n0 T := by
  rw [placesE] at h
  split at h
  · rename_i hv
    rw [numE_one] at h
    split at h
    · rename_i hp; exact ⟨validT_ok hv, isNum_iff.1 hp⟩
    · cases h
  · rename_i hv; exact absurd h hv
theorem placesE_two {T : List (List Int)} {p q : Int} (h : placesE T [p, q] = 0) : GoodT T ∧ (0 ≤ p ∧ p < n0 T) ∧ 0 ≤ q ∧ q < n0 T := by
  rw [placesE] at h
  split at h
  · rename_i hv
    rw [numE_two] at h
    split at h
    · rename_i hp; exact ⟨validT_ok hv, isNum_iff.1 hp.1, isNum_iff.1 hp.2⟩
    · cases h
  · rename_i hv; exact absurd h hv
theorem copiesE_one {T : List (List Int)} {p : Int} (h : copiesE T [p] = 0) : GoodT T ∧ 0 ≤ p ∧ p < T.length := by
  rw [copiesE] at h
  split at h
  · rename_i hv
    rw [numE_one] at h
    split at h
    · rename_i hp; exact ⟨validT_ok hv, isNum_iff.1 hp⟩
    · cases h
  · rename_i hv; exact absurd h hv
theorem copiesE_two {T : List (List Int)} {p q : Int} (h : copiesE T [p, q] = 0) : GoodT T ∧ (0 ≤ p ∧ p < T.length) ∧ 0 ≤ q ∧ q < T.length := by
  rw [copiesE] at h
  split at h
  · rename_i hv
    rw [numE_two] at h
    split at h
    · rename_i hp; exact ⟨validT_ok hv, isNum_iff.1 hp.1, isNum_iff.1 hp.2⟩
    · cases h
  · rename_i hv; exact absurd h hv
set_option maxRecDepth 100000 in
theorem num_calls (m : Nat) (a : Option Addr) (n c : Nat) (l : List Int) (w : World) (h : IntsAt w a n c l) :
    Calls Try.prog 64 #[.int .i64 (m : Int), .slice a n c] w fun e w' => e = .returned (.int .i64 (numE m l)) ∧ w = w' := by
  have hn : n ≤ 9223372036854775807 := Nat.le_trans h.le h.small
  go_enter Try.func64, Try.ntmps64
  go_wp2
  go_loop [9] (fun i => ∃ k : Nat, k ≤ n ∧ i = .int .i64 k ∧ ∀ j, j < k → isNum m (l.getD j 0) = true) (fun i => n - (intOf i).toNat)
  case atStart => exact ⟨0, Nat.zero_le _, rfl, fun _ h => absurd h (by omega)⟩
  case round =>
    obtain ⟨k, hk, rfl, hall⟩ := hrel
    have Hall := hid_ hall; clear hall
    by_cases hlt : k < n
    · obtain ⟨b, off, rfl, hb, hcell⟩ := h.cells k hlt
      have hl : k < l.length := by rw [h.len]; exact hlt
      have hNo := @numE_no m l k hl
      have hYes := fun hx => lt_snoc (p := fun j => isNum m (l.getD j 0) = true) Hall.out hx
      generalize l.getD k 0 = y at hcell hNo hYes
      by_cases h0 : y < 0
      · have Hf := hid_ (hNo (by simp [isNum]; omega))
        clear hNo hYes
        go_wp2
        go_ret
        exact ⟨retI Hf.out, rfl⟩
      · by_cases h2 : (m : Int) ≤ y
        · have Hf := hid_ (hNo (by simp [isNum]; omega))
          clear hNo hYes
          go_wp2
          go_ret
          exact ⟨retI Hf.out, rfl⟩
        · have Hf := hid_ (hYes (by simp [isNum]; omega))
          clear hNo hYes
          go_wp2
          go_round
          case rel => exact ⟨k + 1, by omega, by go_num, Hf.out⟩
          case measure => simp [intOf]; omega
    · have HH : Hid (numE m l = 0) := hid_ (numE_yes h.len fun j hj => Hall.out j (by omega))
      go_wp2
      go_ret
      exact ⟨retI HH.out, rfl⟩
set_option maxRecDepth 100000 in
theorem places_calls (a : Option Addr) (n c : Nat) (T : List (List Int)) (a' : Option Addr) (n' c' : Nat) (l : List Int) (w : World) (h : ListsAt w a n c T) (h' : IntsAt w a' n' c' l) :
    Calls Try.prog 46 #[.slice a n c, .slice a' n' c'] w fun e w' => e = .returned (.int .i64 (placesE T l)) ∧ w = w' := by
  have HV := hid_ (stValidate_calls a n c T w h)
  have HN := hid_ (num_calls (n0 T) a' n' c' l w h')
  have HR : Hid (placesE T l = if validT T = 0 then numE (n0 T) l else validT T) := hid_ rfl
  generalize placesE T l = R at *
  by_cases he : validT T = 0
  · have Hf := hid_ (HR.out.trans (if_pos he))
    have g := validT_ok he
    rw [he] at HV
    have h0 : 0 < n := by have := g.ge; have := h.len; omega
    obtain ⟨b, off, a0, m0, c0, rfl, hb, hc0, hr0⟩ := h.cells 0 h0
    rw [Nat.add_zero] at hc0
    have Hm : Hid (n0 T = m0) := hid_ hr0.len
    rw [Hm.out] at HN Hf
    clear he HR hr0 g
    go_enter Try.func46, Try.ntmps46
    go_wp2_with (first
      | (go_at_call 19; refine (HV.out).mono ?_; rintro e w' ⟨rfl, rfl⟩)
      | (go_at_call 64; refine (HN.out).mono ?_; rintro e w' ⟨rfl, rfl⟩))
    go_ret
    exact ⟨retI Hf.out, rfl⟩
  · have Hf := hid_ (HR.out.trans (if_neg he))
    have hq : (validT T != 0) = true := by simpa using he
    generalize validT T = x at *
    clear he HR
    go_enter Try.func46, Try.ntmps46
    go_wp2_with (go_at_call 19; refine (HV.out).mono ?_; rintro e w' ⟨rfl, rfl⟩)
    go_ret
    exact ⟨retI Hf.out, rfl⟩
set_option maxRecDepth 100000 in
theorem placed_calls (a : Option Addr) (n c : Nat) (T : List (List Int)) (p : Int) (w : World) (h : ListsAt w a n c T) :
    Calls Try.prog 40 #[.slice a n c, .int .i64 p] w fun e w' => e = .returned (.int .i64 (placesE T [p])) ∧ ∃ q, w' = w.drewN q := by
  have HV := hid_ (r7Validate_calls a n c T w h)
  have HR : Hid (placesE T [p] = if validT T = 0 then numE (n0 T) [p] else validT T) := hid_ rfl
  generalize placesE T [p] = R at *
  by_cases he : validT T = 0
  · have Hf := hid_ ((HR.out.trans (if_pos he)).trans (numE_one _ _))
    have g := validT_ok he
    rw [he] at HV
    have h0 : 0 < n := by have := g.ge; have := h.len; omega
    obtain ⟨b, off, a0, m0, c0, rfl, hb, hc0, hr0⟩ := h.cells 0 h0
    rw [Nat.add_zero] at hc0
    have Hm : Hid (n0 T = m0) := hid_ hr0.len
    have hm6 := g.w6
    rw [Hm.out] at Hf hm6
    have HW := hid_ (fun W => within7_calls p 0 ((m0 : Int) - 1) W)
    have HI : Hid (isNum m0 p = Within p 0 ((m0 : Int) - 1)) := hid_ (by rw [Bool.eq_iff_iff]; simp [isNum, Within]; omega)
    rw [HI.out] at Hf
    clear he HR hr0 g HI
    generalize Within p 0 ((m0 : Int) - 1) = z at *
    cases z with
    | false =>
      go_enter Try.func40, Try.ntmps40
      go_wp2_with (first
        | (go_at_call 33; refine (HV.out).mono ?_; rintro e w' ⟨rfl, q, rfl⟩)
        | (go_at_call 39; refine (HW.out _).mono ?_; rintro e w' ⟨rfl, rfl⟩))
      go_ret
      exact ⟨retI Hf.out, _, rfl⟩
    | true =>
      go_enter Try.func40, Try.ntmps40
      go_wp2_with (first
        | (go_at_call 33; refine (HV.out).mono ?_; rintro e w' ⟨rfl, q, rfl⟩)
        | (go_at_call 39; refine (HW.out _).mono ?_; rintro e w' ⟨rfl, rfl⟩))
      go_ret
      exact ⟨retI Hf.out, _, rfl⟩
  · have Hf := hid_ (HR.out.trans (if_neg he))
    have hq : (validT T != 0) = true := by simpa using he
    generalize validT T = x at *
    clear he HR
    go_enter Try.func40, Try.ntmps40
    go_wp2_with (go_at_call 33; refine (HV.out).mono ?_; rintro e w' ⟨rfl, q, rfl⟩)
    go_ret
    exact ⟨retI Hf.out, _, rfl⟩
end Go.Proofs.Ythmnmpglnaegfaa
