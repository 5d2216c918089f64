import Derived.Test.YthmnmpglnaegfaaYp
import Derived.Test.YthmnmpglnaegfaaYr
namespace Go.Proofs.Ythmnmpglnaegfaa
open Go.RowKit Go.Proofs.Kv

/-! ### the best reading of a node -/
def bf (c : Nat → Nat) (p : Int) : Nat → Nat × Nat
  | 0 => (0, 0)
  | k + 1 => if k = 0 ∨ c k + ne1 (k : Int) p < (bf c p k).2 then (k, c k + ne1 (k : Int) p) else bf c p k
theorem bf_all (c : Nat → Nat) (p : Int) : bf c p 3 = (am c p, mn c p) := by
  have h1 : bf c p 1 = (0, c 0 + ne1 0 p) := rfl
  have h2 : bf c p 2 = if c 1 + ne1 1 p < c 0 + ne1 0 p then (1, c 1 + ne1 1 p) else (0, c 0 + ne1 0 p) := by
    rw [bf, h1]; simp
  have h3 : bf c p 3 = if c 2 + ne1 2 p < (bf c p 2).2 then (2, c 2 + ne1 2 p) else bf c p 2 := by
    rw [bf]; simp
  rw [h3, h2]
  unfold am mn
  by_cases a : c 1 + ne1 1 p < c 0 + ne1 0 p
  · rw [if_pos a, if_pos a]
    by_cases b : c 2 + ne1 2 p < c 1 + ne1 1 p
    · rw [if_pos b, if_pos b]; congr 1; omega
    · rw [if_neg b, if_neg b]; congr 1; omega
  · rw [if_neg a, if_neg a]
    by_cases b : c 2 + ne1 2 p < c 0 + ne1 0 p
    · rw [if_pos b, if_pos b]; congr 1; omega
    · rw [if_neg b, if_neg b]; congr 1; omega
def cntV (c : Nat → Nat) : Value := .agg #[.int .i64 (c 0 : Int), .int .i64 (c 1 : Int), .int .i64 (c 2 : Int)]
set_option maxRecDepth 100000 in
set_option maxHeartbeats 2000000 in
theorem best_calls (c : Nat → Nat) (p : Int) (hc : ∀ s, s < 3 → c s ≤ 100000) (w : World) :
    Calls Try.prog 67 #[.agg #[.int .i64 (c 0 : Int), .int .i64 (c 1 : Int), .int .i64 (c 2 : Int)], .int .i64 p] w fun e w' => e = .returned (.tuple #[.int .i64 (am c p : Nat), .int .i64 (mn c p : Nat)]) ∧ Below w.heap.size w w' := by
  have h0 := hc 0 (by omega); have h1 := hc 1 (by omega); have h2 := hc 2 (by omega)
  have HB := hid_ (bf_all c p)
  have HS : Hid (∀ k, bf c p (k + 1) = if k = 0 ∨ c k + ne1 (k : Int) p < (bf c p k).2 then (k, c k + ne1 (k : Int) p) else bf c p k) := hid_ (fun k => rfl)
  have Hz : Hid (bf c p 0 = (0, 0)) := hid_ rfl
  have HL : Hid (∀ k, k ≤ 3 → (bf c p k).2 ≤ 100001) := hid_ (fun k hk => by
    have hn := fun s => ne1_le ((s : Nat) : Int) p
    induction k with
    | zero => exact Nat.zero_le _
    | succ k ih =>
      rw [bf]
      have := hc k (by omega)
      have := hn k
      split
      · show c k + ne1 (k : Int) p ≤ 100001; omega
      · exact ih (by omega))
  have i0 : ∀ w, (Instr.index 92 (.agg #[.int .i64 (c 0 : Int), .int .i64 (c 1 : Int), .int .i64 (c 2 : Int)]) (.int .i64 0)).run Try.prog w = .ok (.int .i64 (c 0 : Int)) w := fun _ => by kernel_rfl
  have i1 : ∀ w, (Instr.index 92 (.agg #[.int .i64 (c 0 : Int), .int .i64 (c 1 : Int), .int .i64 (c 2 : Int)]) (.int .i64 1)).run Try.prog w = .ok (.int .i64 (c 1 : Int)) w := fun _ => by kernel_rfl
  have i2 : ∀ w, (Instr.index 92 (.agg #[.int .i64 (c 0 : Int), .int .i64 (c 1 : Int), .int .i64 (c 2 : Int)]) (.int .i64 2)).run Try.prog w = .ok (.int .i64 (c 2 : Int)) w := fun _ => by kernel_rfl
  clear hc
  generalize am c p = A at *
  generalize mn c p = M at *
  go_enter Try.func67, Try.ntmps67
  go_wp2
  go_loop [6, 7, 11] (fun b f i => ∃ k : Nat, k ≤ 3 ∧ i = .int .i64 k ∧ b = .int .i64 ((bf c p k).1 : Nat) ∧ f = .int .i64 ((bf c p k).2 : Nat)) (fun _ _ i => 3 - (intOf i).toNat)
  case atStart => exact ⟨0, by omega, rfl, by rw [Hz.out]; rfl, by rw [Hz.out]; rfl⟩
  case round =>
    obtain ⟨k, hk, rfl, rfl, rfl⟩ := hrel
    have hl := HL.out k hk
    have hs := HS.out k
    rcases (show k = 0 ∨ k = 1 ∨ k = 2 ∨ k = 3 by omega) with rfl | rfl | rfl | rfl
    · obtain ⟨x, y, hxy⟩ : ∃ x y, bf c p 0 = (x, y) := ⟨_, _, rfl⟩
      rw [hxy] at hs hl
      have Hxy := hid_ hxy
      have hl' : y ≤ 100001 := hl
      have Hs := hid_ hs
      clear hxy hs hl
      rw [Hxy.out]
      by_cases he : p = 0
      · subst he
        have hn : Hid (c 0 + ne1 ((0 : Nat) : Int) 0 = c 0) := hid_ (by rw [show ((0 : Nat) : Int) = 0 from rfl, ne1_same]; rfl)
        have Ht := hid_ (by have := Hs.out; rw [hn.out] at this; exact this : bf c 0 (0 + 1) = if (0 : Nat) = 0 ∨ c 0 < y then (0, c 0) else (x, y))
        clear Hs
        have Hu := hid_ (Ht.out.trans (if_pos (.inl rfl)))
        go_wp2
        go_round
        case rel => exact ⟨1, by omega, by go_num, by rw [Hu.out], by rw [Hu.out]⟩
        case measure => simp [intOf]
      · have hq : ((0 : Int) != p) = true := by simp; omega
        have hn : Hid (c 0 + ne1 ((0 : Nat) : Int) p = c 0 + 1) := hid_ (by rw [ne1, if_neg (by simp; omega)])
        have Ht := hid_ (by have := Hs.out; rw [hn.out] at this; exact this : bf c p (0 + 1) = if (0 : Nat) = 0 ∨ c 0 + 1 < y then (0, c 0 + 1) else (x, y))
        clear Hs he
        have Hu := hid_ (Ht.out.trans (if_pos (.inl rfl)))
        go_wp2
        go_round
        case rel => exact ⟨1, by omega, by go_num, by rw [Hu.out], by rw [Hu.out]; go_num⟩
        case measure => simp [intOf]
    · obtain ⟨x, y, hxy⟩ : ∃ x y, bf c p 1 = (x, y) := ⟨_, _, rfl⟩
      rw [hxy] at hs hl
      have Hxy := hid_ hxy
      have hl' : y ≤ 100001 := hl
      have Hs := hid_ hs
      clear hxy hs hl
      rw [Hxy.out]
      by_cases he : p = 1
      · subst he
        have hn : Hid (c 1 + ne1 ((1 : Nat) : Int) 1 = c 1) := hid_ (by rw [show ((1 : Nat) : Int) = 1 from rfl, ne1_same]; rfl)
        have Ht := hid_ (by have := Hs.out; rw [hn.out] at this; exact this : bf c 1 (1 + 1) = if (1 : Nat) = 0 ∨ c 1 < y then (1, c 1) else (x, y))
        clear Hs
        by_cases hlt : c 1 < y
        · have Hu := hid_ (Ht.out.trans (if_pos (.inr hlt)))
          go_wp2
          go_round
          case rel => exact ⟨2, by omega, by go_num, by rw [Hu.out], by rw [Hu.out]⟩
          case measure => simp [intOf]
        · have Hu := hid_ (Ht.out.trans (if_neg (by omega)))
          go_wp2
          go_round
          case rel => exact ⟨2, by omega, by go_num, by rw [Hu.out], by rw [Hu.out]⟩
          case measure => simp [intOf]
      · have hq : ((1 : Int) != p) = true := by simp; omega
        have hn : Hid (c 1 + ne1 ((1 : Nat) : Int) p = c 1 + 1) := hid_ (by rw [ne1, if_neg (by simp; omega)])
        have Ht := hid_ (by have := Hs.out; rw [hn.out] at this; exact this : bf c p (1 + 1) = if (1 : Nat) = 0 ∨ c 1 + 1 < y then (1, c 1 + 1) else (x, y))
        clear Hs he
        by_cases hlt : c 1 + 1 < y
        · have Hu := hid_ (Ht.out.trans (if_pos (.inr hlt)))
          have hlt' : (c 1 : Int) + 1 < (y : Int) := by omega
          go_wp2
          go_round
          case rel => exact ⟨2, by omega, by go_num, by rw [Hu.out], by rw [Hu.out]; go_num⟩
          case measure => simp [intOf]
        · have Hu := hid_ (Ht.out.trans (if_neg (by omega)))
          have hlt' : ¬ (c 1 : Int) + 1 < (y : Int) := by omega
          go_wp2
          go_round
          case rel => exact ⟨2, by omega, by go_num, by rw [Hu.out], by rw [Hu.out]⟩
          case measure => simp [intOf]
    · obtain ⟨x, y, hxy⟩ : ∃ x y, bf c p 2 = (x, y) := ⟨_, _, rfl⟩
      rw [hxy] at hs hl
      have Hxy := hid_ hxy
      have hl' : y ≤ 100001 := hl
      have Hs := hid_ hs
      clear hxy hs hl
      rw [Hxy.out]
      by_cases he : p = 2
      · subst he
        have hn : Hid (c 2 + ne1 ((2 : Nat) : Int) 2 = c 2) := hid_ (by rw [show ((2 : Nat) : Int) = 2 from rfl, ne1_same]; rfl)
        have Ht := hid_ (by have := Hs.out; rw [hn.out] at this; exact this : bf c 2 (2 + 1) = if (2 : Nat) = 0 ∨ c 2 < y then (2, c 2) else (x, y))
        clear Hs
        by_cases hlt : c 2 < y
        · have Hu := hid_ (Ht.out.trans (if_pos (.inr hlt)))
          go_wp2
          go_round
          case rel => exact ⟨3, by omega, by go_num, by rw [Hu.out], by rw [Hu.out]⟩
          case measure => simp [intOf]
        · have Hu := hid_ (Ht.out.trans (if_neg (by omega)))
          go_wp2
          go_round
          case rel => exact ⟨3, by omega, by go_num, by rw [Hu.out], by rw [Hu.out]⟩
          case measure => simp [intOf]
      · have hq : ((2 : Int) != p) = true := by simp; omega
        have hn : Hid (c 2 + ne1 ((2 : Nat) : Int) p = c 2 + 1) := hid_ (by rw [ne1, if_neg (by simp; omega)])
        have Ht := hid_ (by have := Hs.out; rw [hn.out] at this; exact this : bf c p (2 + 1) = if (2 : Nat) = 0 ∨ c 2 + 1 < y then (2, c 2 + 1) else (x, y))
        clear Hs he
        by_cases hlt : c 2 + 1 < y
        · have Hu := hid_ (Ht.out.trans (if_pos (.inr hlt)))
          have hlt' : (c 2 : Int) + 1 < (y : Int) := by omega
          go_wp2
          go_round
          case rel => exact ⟨3, by omega, by go_num, by rw [Hu.out], by rw [Hu.out]; go_num⟩
          case measure => simp [intOf]
        · have Hu := hid_ (Ht.out.trans (if_neg (by omega)))
          have hlt' : ¬ (c 2 : Int) + 1 < (y : Int) := by omega
          go_wp2
          go_round
          case rel => exact ⟨3, by omega, by go_num, by rw [Hu.out], by rw [Hu.out]⟩
          case measure => simp [intOf]
    · have hx : (bf c p 3).1 = A := by rw [HB.out]
      have hy : (bf c p 3).2 = M := by rw [HB.out]
      rw [hx, hy]
      clear hx hy hl hs
      go_wp2
      go_ret2
      exact ⟨rfl, below_alloc _ _⟩
end Go.Proofs.Ythmnmpglnaegfaa
