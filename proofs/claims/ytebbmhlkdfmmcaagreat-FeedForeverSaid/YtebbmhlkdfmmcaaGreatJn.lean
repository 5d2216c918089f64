import Derived.Test.YtebbmhlkdfmmcaaGreatJq
import Derived.Test.YtebbmhlkdfmmcaaGreatLae
namespace Go.Proofs.YtebbmhlkdfmmcaaGreat
open Go.RowKit Go.Proofs.Kv

/-! ### paths -/
def isRl (n : Nat) (x : Int) : Bool := decide (0 ≤ x) && decide (x < n)
def pathGo (L : List Rl) : List (Int × Int) → Nat → List Int → List Int × Nat × Int
  | [], i, v => (v, i, 0)
  | s :: P, i, v => if isRl L.length s.1 then (if errApply (L.getD s.1.toNat R0) v s.2 = 0 then pathGo L P (i + 1) (resApply (L.getD s.1.toNat R0) v s.2) else ([], i, 6)) else ([], i, 4)
def pathR (L : List Rl) (l : List Int) (P : List (Int × Int)) : List Int × Nat × Int := if errSW L [l] = 0 then (if 60 < P.length then ([], 0, 3) else pathGo L P 0 l) else ([], 0, errSW L [l])
theorem pathGo_drop (L : List Rl) {P : List (Int × Int)} {k : Nat} (hk : k < P.length) (v : List Int) : pathGo L (P.drop k) k v = if isRl L.length (P.getD k (0, 0)).1 then
    (if errApply (L.getD (P.getD k (0, 0)).1.toNat R0) v (P.getD k (0, 0)).2 = 0 then pathGo L (P.drop (k + 1)) (k + 1) (resApply (L.getD (P.getD k (0, 0)).1.toNat R0) v (P.getD k (0, 0)).2) else ([], k, 6)) else ([], k, 4) := by
  have e : P.getD k (0, 0) = P[k] := by simp [List.getD, List.getElem?_eq_getElem hk]
  rw [List.drop_eq_getElem_cons hk, pathGo, e]
set_option maxRecDepth 100000 in
set_option maxHeartbeats 4000000 in
theorem worded_calls (A : Option Addr) (N C : Nat) (L : List Rl) (a : Option Addr) (n c : Nat) (l : List Int) (a' : Option Addr) (n' c' : Nat) (m : List Int) (w : World) (h : RulesAt w A N C L) (h1 : IntsAt w a n c l) (h2 : IntsAt w a' n' c' m) :
    Calls Tryz.prog 41 #[.slice A N C, .slice a n c, .slice a' n' c'] w fun e w' => e = .returned (.int .i64 (errSW L [l, m])) ∧ Below w.heap.size w w' := by
  have HV := hid_ (r3Validate_calls A N C L w h)
  have H1 := hid_ (fun W (hW : Below w.heap.size w W) => validateWord_calls a n c l W (h1.below hW (Nat.le_refl _)))
  have H2 := hid_ (fun W (hW : Below w.heap.size w W) => validateWord_calls a' n' c' m W (h2.below hW (Nat.le_refl _)))
  have HD : Hid (errSW L [l, m] = if validS L = 0 then (if validW l = 0 then (if validW m = 0 then 0 else validW m) else validW l) else validS L) := hid_ rfl
  by_cases hs : validS L = 0
  · rw [hs] at HV
    rw [if_pos hs] at HD
    by_cases hl : validW l = 0
    · rw [hl] at H1
      rw [if_pos hl] at HD
      have HD2 : Hid (errSW L [l, m] = validW m) := hid_ (by rw [HD.out]; split <;> simp_all)
      generalize validW m = x at *
      clear hs hl HD
      go_enter Tryz.func41, Tryz.ntmps41
      go_wp2_with (first
        | (go_at_call 61; (with_reducible refine HV.out.mono ?_); rintro e w3 ⟨rfl, hb3⟩)
        | (go_at_call 62; (with_reducible refine (H1.out w3 hb3).mono ?_); rintro e w4 ⟨rfl, rfl⟩)
        | (go_at_call 62; (with_reducible refine (H2.out w3 hb3).mono ?_); rintro e w4 ⟨rfl, rfl⟩))
      go_ret
      exact ⟨retI HD2.out, hb3⟩
    · rw [if_neg hl] at HD
      have hq : (validW l != 0) = true := by simpa using hl
      generalize validW l = x at *
      clear hs hl
      go_enter Tryz.func41, Tryz.ntmps41
      go_wp2_with (first
        | (go_at_call 61; (with_reducible refine HV.out.mono ?_); rintro e w3 ⟨rfl, hb3⟩)
        | (go_at_call 62; (with_reducible refine (H1.out w3 hb3).mono ?_); rintro e w4 ⟨rfl, rfl⟩))
      go_ret
      exact ⟨retI HD.out, hb3⟩
  · rw [if_neg hs] at HD
    have hq : (validS L != 0) = true := by simpa using hs
    generalize validS L = x at *
    clear hs
    go_enter Tryz.func41, Tryz.ntmps41
    go_wp2_with (go_at_call 61; (with_reducible refine HV.out.mono ?_); rintro e w3 ⟨rfl, hb3⟩)
    go_ret
    exact ⟨retI HD.out, hb3⟩
theorem errSW_ok' {L : List Rl} {l : List Int} (h : errSW L [l] = 0) : validS L = 0 ∧ validW l = 0 := by
  unfold errSW firstW firstW at h
  by_cases h1 : validS L = 0
  · rw [if_pos h1] at h
    by_cases h2 : validW l = 0
    · exact ⟨h1, h2⟩
    · rw [if_neg h2] at h; exact absurd h h2
  · rw [if_neg h1] at h; exact absurd h h1
theorem ListsAt.one' {w w1 : World} {a : Option Addr} {n c : Nat} {l : List Int} {E : TypeId} (hw : w.alloc (.cells #[.slice a n c] E) = w1) (h : IntsAt w a n c l) : ListsAt w1 (some ⟨w.heap.size, 0, none⟩) 1 1 [l] := by
  subst hw
  exact ⟨rfl, Nat.le_refl _, by omega, fun i hi => ⟨w.heap.size, 0, a, n, c, rfl, by simp, by
    obtain rfl : i = 0 := by omega
    exact cells_alloc _ _ _ 0, by
    obtain rfl : i = 0 := by omega
    exact h.below (below_alloc _ _) (Nat.le_refl _)⟩⟩
theorem errSW_nil (L : List Rl) (l : List Int) : errSW L [l, []] = errSW L [l] := by
  unfold errSW firstW firstW firstW
  have : validW [] = 0 := by decide +kernel
  rw [this]; simp
end Go.Proofs.YtebbmhlkdfmmcaaGreat
