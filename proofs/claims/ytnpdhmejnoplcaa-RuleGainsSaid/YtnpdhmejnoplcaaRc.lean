import Derived.Test.YtnpdhmejnoplcaaRb
namespace Go.Proofs.Ytnpdhmejnoplcaa
open Go.RowKit Go.Proofs.Kv

/-! ### Validate -/
def setN (l : List Int) : Bool := IsSet l (-1) 5
def validR (R : Rl) : Int :=
  if Within R.f (-1) 5 then (if 2 < R.o.length then 3 else if isWord R.o then (if setN R.le then (if setN R.ri then (if R.f < 0 ∧ R.o.length = 0 ∨ R.o.length = 1 ∧ R.o.getD 0 0 = R.f then 6 else 0) else 1) else 1) else 1) else 1
set_option maxRecDepth 100000 in
set_option maxHeartbeats 2000000 in
theorem validate_calls (v : Value) (R : Rl) (w : World) (h : RuleAt w v R) :
    Calls Try.prog 34 #[v] w fun e w' => e = .returned (.int .i64 (validR R)) ∧ Below w.heap.size w w' := by
  obtain ⟨a, n, c, a', n', c', a'', n'', c'', rfl, h1, h2, h3⟩ := h
  obtain ⟨f, o, le, ri⟩ := R
  dsimp only at h1 h2 h3 ⊢
  have hn : n ≤ 9223372036854775807 := Nat.le_trans h1.le h1.small
  have hlen := hid_ h1.len
  cases hw : Within f (-1) 5 with
  | false =>
    have Hf : Hid (validR ⟨f, o, le, ri⟩ = 1) := hid_ (by simp [validR, hw])
    go_enter Try.func34, Try.ntmps34
    go_wp2_with (go_at_call 117; refine (within2_calls _ _ _ _).mono ?_; rintro e w' ⟨rfl, rfl⟩)
    go_ret
    exact ⟨retI Hf.out, below_alloc _ _⟩
  | true =>
    by_cases h2n : 2 < n
    · have Hf : Hid (validR ⟨f, o, le, ri⟩ = 3) := hid_ (by simp [validR, hw, hlen.out, h2n])
      go_enter Try.func34, Try.ntmps34
      go_wp2_with (go_at_call 117; refine (within2_calls _ _ _ _).mono ?_; rintro e w' ⟨rfl, rfl⟩)
      go_ret
      exact ⟨retI Hf.out, below_alloc _ _⟩
    · have Hv : Hid (validR ⟨f, o, le, ri⟩ = if isWord o then (if setN le then (if setN ri then (if f < 0 ∧ o.length = 0 ∨ o.length = 1 ∧ o.getD 0 0 = f then 6 else 0) else 1) else 1) else 1) := hid_ (by simp [validR, hw, hlen.out, h2n])
      have HB := hid_ (below_alloc w (.cells #[.int .i64 f, .slice a n c, .slice a' n' c', .slice a'' n'' c''] 24))
      have k1 := hid_ (isWord_calls _ _ _ _ _ (h1.below HB.out (Nat.le_refl _)))
      have k2 := hid_ (isSet_calls _ _ _ _ (-1) 5 _ (h2.below HB.out (Nat.le_refl _)))
      have k3 := hid_ (fun q => isSet_calls _ _ _ _ (-1) 5 _ ((h3.below HB.out (Nat.le_refl _)).drewN q))
      rw [show IsSet le (-1) 5 = setN le from rfl] at k2
      rw [show IsSet ri (-1) 5 = setN ri from rfl] at k3
      generalize isWord o = b1 at Hv k1
      generalize setN le = b2 at Hv k2
      generalize setN ri = b3 at Hv k3
      cases b1 with
      | false =>
        clear k2 k3
        go_enter Try.func34, Try.ntmps34
        go_wp2_with (first
          | (go_at_call 117; refine (within2_calls _ _ _ _).mono ?_; rintro e w' ⟨rfl, rfl⟩)
          | (go_at_call 118; refine (k1.out).mono ?_; rintro e w' ⟨rfl, rfl⟩))
        go_ret
        exact ⟨retI Hv.out, HB.out⟩
      | true =>
        cases b2 with
        | false =>
          clear k3
          go_enter Try.func34, Try.ntmps34
          go_wp2_with (first
            | (go_at_call 117; refine (within2_calls _ _ _ _).mono ?_; rintro e w' ⟨rfl, rfl⟩)
            | (go_at_call 118; refine (k1.out).mono ?_; rintro e w' ⟨rfl, rfl⟩)
            | (go_at_call 119; refine (k2.out).mono ?_; rintro e w' ⟨rfl, q, rfl⟩))
          go_ret
          exact ⟨retI Hv.out, below_drewN HB.out q⟩
        | true =>
          cases b3 with
          | false =>
            go_enter Try.func34, Try.ntmps34
            go_wp2_with (first
              | (go_at_call 117; refine (within2_calls _ _ _ _).mono ?_; rintro e w' ⟨rfl, rfl⟩)
              | (go_at_call 118; refine (k1.out).mono ?_; rintro e w' ⟨rfl, rfl⟩)
              | (go_at_call 119; with_reducible refine (k2.out).mono ?_; rintro e w' ⟨rfl, q, rfl⟩)
              | (go_at_call 119; refine (k3.out _).mono ?_; rintro e w' ⟨rfl, q', rfl⟩))
            go_ret
            exact ⟨retI Hv.out, below_drewN HB.out _⟩
          | true =>
            have Hv' : Hid (validR ⟨f, o, le, ri⟩ = if f < 0 ∧ o.length = 0 ∨ o.length = 1 ∧ o.getD 0 0 = f then 6 else 0) := hid_ (by rw [Hv.out]; rfl)
            clear Hv
            have hn3 : n = 0 ∨ n = 1 ∨ n = 2 := by omega
            clear h2n hn
            cases hd : decide (f < 0)
            all_goals
              rcases hn3 with rfl | rfl | rfl
              · have Hf : Hid (validR ⟨f, o, le, ri⟩ = bif decide (f < 0) then 6 else 0) := hid_ (by rw [Hv'.out, hlen.out]; cases hq : decide (f < 0) <;> simp_all)
                rw [hd] at Hf
                go_enter Try.func34, Try.ntmps34
                go_wp2_with (first
                  | (go_at_call 117; refine (within2_calls _ _ _ _).mono ?_; rintro e w' ⟨rfl, rfl⟩)
                  | (go_at_call 118; refine (k1.out).mono ?_; rintro e w' ⟨rfl, rfl⟩)
                  | (go_at_call 119; with_reducible refine (k2.out).mono ?_; rintro e w' ⟨rfl, q, rfl⟩)
                  | (go_at_call 119; refine (k3.out _).mono ?_; rintro e w' ⟨rfl, q', rfl⟩))
                go_quiet (fail)
                go_wp2
                go_ret
                exact ⟨retI Hf.out, below_drewN (below_drewN HB.out _) _⟩
              · obtain ⟨b, off, rfl, hb, hcell⟩ := (h1.below HB.out (Nat.le_refl _)).cells 0 (by omega)
                have Hf : Hid (validR ⟨f, o, le, ri⟩ = bif (o.getD 0 0 == f) then 6 else 0) := hid_ (by rw [Hv'.out, hlen.out]; cases hq : (o.getD 0 0 == f) <;> simp_all)
                generalize o.getD 0 0 = y at Hf hcell
                simp only [Nat.add_zero] at hcell
                cases hy : (y == f)
                all_goals
                  rw [hy] at Hf
                  go_enter Try.func34, Try.ntmps34
                  go_wp2_with (first
                    | (go_at_call 117; refine (within2_calls _ _ _ _).mono ?_; rintro e w' ⟨rfl, rfl⟩)
                    | (go_at_call 118; refine (k1.out).mono ?_; rintro e w' ⟨rfl, rfl⟩)
                    | (go_at_call 119; with_reducible refine (k2.out).mono ?_; rintro e w' ⟨rfl, q, rfl⟩)
                    | (go_at_call 119; refine (k3.out _).mono ?_; rintro e w' ⟨rfl, q', rfl⟩))
                  go_quiet (fail)
                  go_wp2
                  go_ret
                  exact ⟨retI Hf.out, below_drewN (below_drewN HB.out _) _⟩
              · have Hf : Hid (validR ⟨f, o, le, ri⟩ = 0) := hid_ (by rw [Hv'.out, hlen.out]; simp)
                go_enter Try.func34, Try.ntmps34
                go_wp2_with (first
                  | (go_at_call 117; refine (within2_calls _ _ _ _).mono ?_; rintro e w' ⟨rfl, rfl⟩)
                  | (go_at_call 118; refine (k1.out).mono ?_; rintro e w' ⟨rfl, rfl⟩)
                  | (go_at_call 119; with_reducible refine (k2.out).mono ?_; rintro e w' ⟨rfl, q, rfl⟩)
                  | (go_at_call 119; refine (k3.out _).mono ?_; rintro e w' ⟨rfl, q', rfl⟩))
                go_quiet (fail)
                go_wp2
                go_ret
                exact ⟨retI Hf.out, below_drewN (below_drewN HB.out _) _⟩
end Go.Proofs.Ytnpdhmejnoplcaa
