import Derived.Test.YtoopgmoopmbfnaaRefE
namespace Go.Proofs.Ytoopgmoopmbfnaa
open Go.RowKit Go.Proofs.Kv Go.Proofs.Snd

theorem all_no {p : List Int → Bool} {F : List (List Int)} {k : Nat} (hk : k < F.length) (h : p (F.getD k []) = false) : F.all p = false := by
  rw [Bool.eq_false_iff]
  intro e
  rw [List.all_eq_true] at e
  have := e (F.getD k []) (by simp [List.getD, List.getElem?_eq_getElem hk])
  rw [h] at this; cases this
theorem all_yes {p : List Int → Bool} {F : List (List Int)} {m : Nat} (hm : F.length = m) (h : ∀ j, j < m → p (F.getD j []) = true) : F.all p = true := by
  rw [List.all_eq_true]
  intro s hs
  obtain ⟨i, hi, e⟩ := List.mem_iff_getElem.1 hs
  have := h i (by omega)
  rwa [List.getD, List.getElem?_eq_getElem hi, Option.getD_some, e] at this
theorem ends_bd (o s : List Int) : -1 ≤ (ends o s).1 ∧ (ends o s).1 ≤ o.length ∧ -1 ≤ (ends o s).2 ∧ (ends o s).2 ≤ o.length := by
  rcases endsTo_bd o s o.length with h | ⟨h, e⟩
  · unfold ends; omega
  · unfold ends; rw [e]; simp

/-! ### fits -/
def fitOne (o s : List Int) : Bool := (ends o s).2 - (ends o s).1 + 1 == (s.length : Int)
def fitsB (F : List (List Int)) (o : List Int) : Bool := F.all (fitOne o)
set_option maxRecDepth 100000 in
theorem refFits_calls (a : Option Addr) (n c : Nat) (F : List (List Int)) (a' : Option Addr) (n' c' : Nat) (o : List Int) (w : World) (h : ListsAt w a n c F) (h' : IntsAt w a' n' c' o) (hs : n' ≤ 1000000) :
    Calls Try.prog 53 #[.slice a n c, .slice a' n' c'] w fun e w' => e = .returned (.bool (fitsB F o)) ∧ w = w' := by
  have hn : n ≤ 9223372036854775807 := Nat.le_trans h.le h.small
  go_enter Try.func53, Try.ntmps53
  go_wp2
  go_loop [5] (fun i => ∃ k : Nat, k ≤ n ∧ i = .int .i64 k ∧ ∀ j, j < k → fitOne o (F.getD j []) = true) (fun i => n - (intOf i).toNat)
  case atStart => exact ⟨0, Nat.zero_le _, rfl, fun _ h => absurd h (by omega)⟩
  case round =>
    obtain ⟨k, hk, rfl, hall⟩ := hrel
    have Hall := hid_ hall; clear hall
    by_cases hlt : k < n
    · obtain ⟨b, off, a1, n1, c1, rfl, hb, hcell, hrow⟩ := h.cells k hlt
      have hl : k < F.length := by rw [h.len]; exact hlt
      generalize hr : F.getD k [] = r at hrow
      have Hr := hid_ hr; clear hr
      have hbd := ends_bd o r
      rw [h'.len] at hbd
      have Hone : Hid (fitOne o r = ((ends o r).2 - (ends o r).1 + 1 == (n1 : Int))) := hid_ (by rw [fitOne, hrow.len])
      have hec := ends_calls _ _ _ _ _ _ _ _ w h' hrow
      generalize ends o r = p at hec hbd Hone
      obtain ⟨f, l⟩ := p
      simp only at hbd hec
      obtain ⟨b1, b2, b3, b4⟩ := hbd
      have Hec := hid_ hec; clear hec
      cases hq : (l - f + 1 == (n1 : Int)) with
      | true =>
        have hq' : (l - f + 1 != (n1 : Int)) = false := by rw [bne, hq]; rfl
        have Hf : Hid (fitOne o r = true) := hid_ (by rw [Hone.out]; exact hq)
        clear Hone hq
        go_wp2_with (go_at_call 102; refine Hec.out.mono ?_; rintro e w' ⟨rfl, rfl⟩)
        go_round
        case rel => exact ⟨k + 1, by omega, by go_num, lt_snoc Hall.out (by rw [Hr.out]; exact Hf.out)⟩
        case measure => simp [intOf]; omega
      | false =>
        have hq' : (l - f + 1 != (n1 : Int)) = true := by rw [bne, hq]; rfl
        have Hf : Hid (fitsB F o = false) := hid_ (all_no hl (by rw [Hr.out, Hone.out]; exact hq))
        clear Hone hq
        go_wp2_with (go_at_call 102; refine Hec.out.mono ?_; rintro e w' ⟨rfl, rfl⟩)
        go_ret
        exact ⟨retB Hf.out, rfl⟩
    · have Hf : Hid (fitsB F o = true) := hid_ (all_yes h.len fun j hj => Hall.out j (by omega))
      go_wp2
      go_ret
      exact ⟨retB Hf.out, rfl⟩

/-! ### ordered, Fits -/
def ordErr (m : Int) (F : List (List Int)) (o : List Int) : Int := if famErr m F = 0 then (if IsOrd o m then 0 else 1) else famErr m F
set_option maxRecDepth 100000 in
theorem ordered_calls (m : Int) (a : Option Addr) (n c : Nat) (F : List (List Int)) (a' : Option Addr) (n' c' : Nat) (o : List Int) (w : World) (h : ListsAt w a n c F) (h' : IntsAt w a' n' c' o) :
    Calls Try.prog 52 #[.int .i64 m, .slice a n c, .slice a' n' c'] w fun e w' => e = .returned (.int .i64 (ordErr m F o)) ∧ ∃ q, w' = w.drewN q := by
  have hfe := refFamily_calls m a n c F w h
  by_cases he : famErr m F = 0
  · rw [he] at hfe
    have Hv := hid_ hfe; clear hfe
    cases ho : IsOrd o m with
    | true =>
      have Hf : Hid (ordErr m F o = 0) := hid_ (by rw [ordErr, if_pos he, ho]; rfl)
      clear he
      go_enter Try.func52, Try.ntmps52
      go_wp2_with fail
      refine Hv.out.mono ?_
      rintro e w1 ⟨rfl, q, rfl⟩
      go_wp2_with (go_at_call 66; refine (isOrder_calls _ _ _ _ _ _ (h'.drewN q)).mono ?_; rintro e w' ⟨rfl, rfl⟩)
      go_ret
      exact ⟨retI Hf.out, _, rfl⟩
    | false =>
      have Hf : Hid (ordErr m F o = 1) := hid_ (by rw [ordErr, if_pos he, ho]; rfl)
      clear he
      go_enter Try.func52, Try.ntmps52
      go_wp2_with fail
      refine Hv.out.mono ?_
      rintro e w1 ⟨rfl, q, rfl⟩
      go_wp2_with (go_at_call 66; refine (isOrder_calls _ _ _ _ _ _ (h'.drewN q)).mono ?_; rintro e w' ⟨rfl, rfl⟩)
      go_ret
      exact ⟨retI Hf.out, _, rfl⟩
  · have Hf : Hid (ordErr m F o = famErr m F) := hid_ (by rw [ordErr, if_neg he])
    generalize famErr m F = er at hfe he Hf
    have hq : (er != 0) = true := by simpa using he
    have Hv := hid_ hfe; clear hfe he
    go_enter Try.func52, Try.ntmps52
    go_wp2_with fail
    refine Hv.out.mono ?_
    rintro e w1 ⟨rfl, q, rfl⟩
    go_wp2
    go_ret
    exact ⟨retI Hf.out, _, rfl⟩

def fitsRes (m : Int) (F : List (List Int)) (o : List Int) : Bool := if ordErr m F o = 0 then fitsB F o else false
/-! ### marks -/
def markAt (F : List (List Int)) (o : List Int) (at_ : Nat) (k : Nat) : Bool := decide ((at_ : Int) = (o.length : Int) - 1) || (F.take k).any fun s => (ends o s).2 == (at_ : Int)
def marksTo (F : List (List Int)) (o : List Int) : Nat → Nat
  | 0 => 0
  | k + 1 => marksTo F o k + if markAt F o k F.length then 1 else 0
theorem marksTo_le (F : List (List Int)) (o : List Int) (k : Nat) : marksTo F o k ≤ k := by
  induction k with
  | zero => exact Nat.le_refl _
  | succ k ih => simp only [marksTo]; split <;> omega
theorem markAt_snoc {F : List (List Int)} {o : List Int} {at_ k : Nat} (h : k < F.length) : markAt F o at_ (k + 1) = (markAt F o at_ k || ((ends o (F.getD k [])).2 == (at_ : Int))) := by
  rw [markAt, markAt, Kv.take_snoc F [] k h, List.any_append]
  simp [Bool.or_assoc]
def marksR (F : List (List Int)) (o : List Int) : Nat := marksTo F o o.length

set_option maxRecDepth 100000 in
theorem refMarks_calls (a : Option Addr) (n c : Nat) (F : List (List Int)) (a' : Option Addr) (n' c' : Nat) (o : List Int) (w : World) (h : ListsAt w a n c F) (h' : IntsAt w a' n' c' o) (hs : n' ≤ 1000000) :
    Calls Try.prog 54 #[.slice a n c, .slice a' n' c'] w fun e w' => e = .returned (.int .i64 (marksR F o : Nat)) ∧ w = w' := by
  have hn : n ≤ 9223372036854775807 := Nat.le_trans h.le h.small
  have Hend : Hid (marksR F o = marksTo F o n') := hid_ (by rw [marksR, h'.len])
  have Hol : Hid (o.length = n') := hid_ h'.len
  go_enter Try.func54, Try.ntmps54
  go_wp2
  go_loop [5, 6] (fun s i => ∃ k : Nat, k ≤ n' ∧ i = .int .i64 k ∧ s = .int .i64 (marksTo F o k : Nat)) (fun _ i => n' - (intOf i).toNat)
  case atStart => exact ⟨0, Nat.zero_le _, rfl, rfl⟩
  case round =>
    obtain ⟨k, hk, rfl, rfl⟩ := hrel
    by_cases hlt : k < n'
    · have hle := marksTo_le F o k
      have Hnext : Hid (marksTo F o (k + 1) = marksTo F o k + if markAt F o k F.length then 1 else 0) := hid_ rfl
      generalize marksTo F o k = s at hle Hnext
      have hstart : ((k : Int) == (n' : Int) - 1) = markAt F o k 0 := by
        rw [markAt, Hol.out, Bool.eq_iff_iff]; simp
      generalize hm0 : markAt F o k 0 = m0 at hstart
      have Hm0 := hid_ hm0; clear hm0
      have Hst := hid_ hstart; clear hstart
      go_wp2
      go_loop [7, 8] (fun m i => ∃ j : Nat, j ≤ n ∧ i = .int .i64 j ∧ m = .bool (markAt F o k j)) (fun _ i => n - (intOf i).toNat)
      case atStart => exact ⟨0, Nat.zero_le _, rfl, by rw [Hm0.out, ← Hst.out]⟩
      case round =>
        obtain ⟨j, hj, rfl, rfl⟩ := hrel
        by_cases hlt2 : j < n
        · obtain ⟨b, off, a1, n1, c1, rfl, hb, hcell, hrow⟩ := h.cells j hlt2
          have hl : j < F.length := by rw [h.len]; exact hlt2
          have Hms : Hid (markAt F o k (j + 1) = (markAt F o k j || ((ends o (F.getD j [])).2 == (k : Int)))) := hid_ (markAt_snoc hl)
          generalize hr : F.getD j [] = r at hrow Hms
          have Hr := hid_ hr; clear hr
          have hec := ends_calls _ _ _ _ _ _ _ _ w h' hrow
          generalize ends o r = p at hec Hms
          obtain ⟨f, l⟩ := p
          simp only at hec Hms
          have Hec := hid_ hec; clear hec
          cases hmj : markAt F o k j with
          | true =>
            have Hf : Hid (markAt F o k (j + 1) = true) := hid_ (by rw [Hms.out, hmj]; rfl)
            clear Hms hmj
            go_wp2_with (go_at_call 102; refine Hec.out.mono ?_; rintro e w' ⟨rfl, rfl⟩)
            go_round
            case rel => exact ⟨j + 1, by omega, by go_num, by rw [Hf.out]⟩
            case measure => simp [intOf]; omega
          | false =>
            cases hq : (l == (k : Int)) with
            | true =>
              have Hf : Hid (markAt F o k (j + 1) = true) := hid_ (by rw [Hms.out, hmj]; exact hq)
              clear Hms hmj
              go_wp2_with (go_at_call 102; refine Hec.out.mono ?_; rintro e w' ⟨rfl, rfl⟩)
              go_round
              case rel => exact ⟨j + 1, by omega, by go_num, by rw [Hf.out]⟩
              case measure => simp [intOf]; omega
            | false =>
              have Hf : Hid (markAt F o k (j + 1) = false) := hid_ (by rw [Hms.out, hmj]; exact hq)
              clear Hms hmj
              go_wp2_with (go_at_call 102; refine Hec.out.mono ?_; rintro e w' ⟨rfl, rfl⟩)
              go_round
              case rel => exact ⟨j + 1, by omega, by go_num, by rw [Hf.out]⟩
              case measure => simp [intOf]; omega
        · obtain rfl : j = n := by omega
          have Hfl : Hid (F.length = j) := hid_ h.len
          cases hmn : markAt F o k j with
          | true =>
            have Hf : Hid (marksTo F o (k + 1) = s + 1) := hid_ (by rw [Hnext.out, Hfl.out, hmn]; rfl)
            clear Hnext
            go_wp2
            go_round
            case rel => exact ⟨k + 1, by omega, by go_num, by rw [Hf.out]; go_num⟩
            case measure => simp [intOf]; omega
          | false =>
            have Hf : Hid (marksTo F o (k + 1) = s) := hid_ (by rw [Hnext.out, Hfl.out, hmn]; rfl)
            clear Hnext
            go_wp2
            go_round
            case rel => exact ⟨k + 1, by omega, by go_num, by rw [Hf.out]⟩
            case measure => simp [intOf]; omega
    · obtain rfl : k = n' := by omega
      go_wp2
      go_ret
      exact ⟨by rw [Hend.out]; rfl, rfl⟩
end Go.Proofs.Ytoopgmoopmbfnaa
