import Derived.Test.YtahknodnjjmagaaZl
import Derived.Shelf.Abstract
namespace Go.Proofs.Ytahknodnjjmagaa
open Go.RowKit Go.Proofs.Kv

/-! ### the program's test: is there one that is not less special? -/
def stopB (P : Par) (x y : Nat) : Bool := !decide (y = x) && !moreB (sp P x) (sp P y)
set_option maxRecDepth 100000 in
set_option maxHeartbeats 4000000 in
theorem decides1_calls (P : Par) (x y bx pb : Nat) (a1 : Option Addr) (n1 c1 : Nat) (a2 : Option Addr) (n2 c2 : Nat) (w : World) (hx : w.cell? ⟨bx, 0, none⟩ = some (.int .i64 (x : Int)))
    (q0 : w.cell? ⟨pb, 0, none⟩ = some (.slice a1 n1 c1)) (q1 : w.cell? ⟨pb, 1, none⟩ = some (.slice a2 n2 c2)) (h : ParAt w (.agg #[.slice a1 n1 c1, .slice a2 n2 c2]) P) (hv : validP P = 0) (hi : x < P.ents.length) (hj : y < P.ents.length) :
    Calls Try.prog 116 #[.int .i64 (y : Int), .pointer (some ⟨bx, 0, none⟩), .pointer (some ⟨pb, 0, none⟩)] w fun e w' => e = .returned (.bool (stopB P x y)) ∧ Below w.heap.size w w' := by
  have HS : Hid (stopB P x y = (!decide (y = x) && !moreB (sp P x) (sp P y))) := hid_ rfl
  have HM := hid_ (ceisMore_calls _ P x y w h hv hi hj)
  by_cases he : y = x
  · have Hf : Hid (stopB P x y = false) := hid_ (by rw [HS.out, decide_eq_true he]; rfl)
    subst he
    clear h
    go_enter Try.func116, Try.ntmps116
    go_wp2
    go_ret
    exact ⟨retB Hf.out, Below.refl _ _⟩
  · have Hf : Hid (stopB P x y = !moreB (sp P x) (sp P y)) := hid_ (by rw [HS.out, decide_eq_false he]; rfl)
    have he' : ((y : Int) != (x : Int)) = true := by simpa using (show ¬ (y : Int) = x by omega)
    generalize moreB (sp P x) (sp P y) = z at *
    clear h he
    go_enter Try.func116, Try.ntmps116
    go_wp2_with (go_at_call 83; (with_reducible refine HM.out.mono ?_); rintro e w4 ⟨rfl, hb4⟩)
    go_ret
    exact ⟨retB Hf.out, hb4⟩
set_option maxRecDepth 100000 in
set_option maxHeartbeats 4000000 in
theorem indexFunc_calls (a : Option Addr) (n c : Nat) (L : List Int) (u1 u2 : Value) (pr : Int → Bool) (w : World) (h : IntsAt w a n c L)
    (hc : ∀ W, Below w.heap.size w W → ∀ k, k < n → Calls Try.prog 116 #[.int .i64 (L.getD k 0), u1, u2] W fun e w' => e = .returned (.bool (pr (L.getD k 0))) ∧ Below W.heap.size W w') :
    Calls Try.prog 121 #[.slice a n c, .func (.func 116) #[] #[u1, u2]] w fun e w' => ∃ r : Int, e = .returned (.int .i64 r) ∧ decide (0 ≤ r) = L.any pr ∧ Below w.heap.size w w' := by
  have hn : n ≤ 9223372036854775807 := Nat.le_trans h.le h.small
  have hent : ∀ args W, (callFunc 116 args).run Try.prog W = .ok (.enter 116 args) W := enters_of Try.func116 (by kernel_rfl) rfl
  have HNo := hid_ (fun hall => any_no (p := pr) (0 : Int) h.len hall)
  have HHi := hid_ (fun k (hk : k < n) hh => any_hit (p := pr) (k := k) (0 : Int) (by rw [h.len]; exact hk) hh)
  have HC := hid_ hc
  have HL := hid_ h
  clear h hc
  go_enter Try.func121, Try.ntmps121
  go_wp2
  go_loopw [8] (fun i wr => ∃ k : Nat, k ≤ n ∧ i = .int .i64 k ∧ Below w.heap.size w wr ∧ ∀ j, j < k → pr (L.getD j 0) = false) (fun i _ => n - (intOf i).toNat)
  case atStart => exact ⟨0, Nat.zero_le _, rfl, Below.refl _ _, fun _ h => absurd h (by omega)⟩
  case round =>
    obtain ⟨k, hk, rfl, hb, hall⟩ := hrel
    have Hall := hid_ hall; have Hb := hid_ hb
    clear hall
    by_cases hlt : k < n
    · obtain ⟨b, off, rfl, -, hcell⟩ := (HL.out.below hb (Nat.le_refl _)).cells k hlt
      have hhi := HHi.out k hlt
      have hy := fun hx => lt_snoc (p := fun j => pr (L.getD j 0) = false) Hall.out hx
      have HCk := hid_ (HC.out wr hb k hlt)
      generalize L.getD k 0 = x at *
      clear hb
      cases hp : pr x with
      | true =>
        rw [hp] at HCk
        have Hf := hid_ (hhi hp)
        clear hhi hy hp
        go_wp2_with (go_at_call 116; (with_reducible refine HCk.out.mono ?_); rintro e w4 ⟨rfl, hb4⟩)
        go_ret
        exact ⟨_, rfl, by rw [Hf.out]; exact decide_eq_true (Int.natCast_nonneg k), Hb.out.trans (hb4.mono Hb.out.size)⟩
      | false =>
        rw [hp] at HCk
        have Hf := hid_ (hy hp)
        clear hhi hy hp
        go_wp2_with (go_at_call 116; (with_reducible refine HCk.out.mono ?_); rintro e w4 ⟨rfl, hb4⟩)
        go_roundw
        case rel => exact ⟨k + 1, by omega, by go_num, Hb.out.trans (hb4.mono Hb.out.size), Hf.out⟩
        case measure => simp [intOf]; omega
    · obtain rfl : n = k := by omega
      have Hf := hid_ (HNo.out Hall.out)
      go_wp2
      go_ret
      exact ⟨_, rfl, by rw [Hf.out]; rfl, Hb.out⟩
set_option maxRecDepth 100000 in
theorem containsFunc_calls (a : Option Addr) (n c : Nat) (L : List Int) (u1 u2 : Value) (pr : Int → Bool) (w : World) (h : IntsAt w a n c L)
    (hc : ∀ W, Below w.heap.size w W → ∀ k, k < n → Calls Try.prog 116 #[.int .i64 (L.getD k 0), u1, u2] W fun e w' => e = .returned (.bool (pr (L.getD k 0))) ∧ Below W.heap.size W w') :
    Calls Try.prog 115 #[.slice a n c, .func (.func 116) #[] #[u1, u2]] w fun e w' => e = .returned (.bool (L.any pr)) ∧ Below w.heap.size w w' := by
  have HI := hid_ (indexFunc_calls a n c L u1 u2 pr w h hc)
  clear h hc
  go_enter Try.func115, Try.ntmps115
  go_wp2_with (go_at_call 121; (with_reducible refine HI.out.mono ?_); rintro e w4 ⟨r, rfl, hr, hb4⟩)
  all_goals go_ret
  all_goals first
    | exact ⟨by rw [← hr]; simp_all, hb4⟩
    | exact ⟨by rw [← hr], hb4⟩
end Go.Proofs.Ytahknodnjjmagaa
