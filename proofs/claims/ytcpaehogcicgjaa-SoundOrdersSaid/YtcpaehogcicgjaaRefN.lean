import Derived.Test.YtcpaehogcicgjaaRefM
import Derived.Test.YtcpaehogcicgjaaKitB
namespace Go.Proofs.Ytcpaehogcicgjaa
open Go.RowKit Go.Proofs.Kv Go.Proofs.Snd

/-! ### the first order that fits -/
theorem find_congr {p q : List Int → Bool} : ∀ {O : List (List Int)}, (∀ o ∈ O, p o = q o) → O.find? p = O.find? q
  | [], _ => rfl
  | o :: O, h => by rw [List.find?_cons, List.find?_cons, h o (by simp), find_congr fun x hx => h x (by simp [hx])]
def ordsOk (n : Nat) : Bool := (ordersL n).all fun o => IsOrd o n
theorem ords_ok {n : Nat} (h1 : 1 ≤ n) (h6 : n ≤ 6) : ordsOk n = true := by
  match n, h1, h6 with
  | 1, _, _ => decide +kernel
  | 2, _, _ => decide +kernel
  | 3, _, _ => decide +kernel
  | 4, _, _ => decide +kernel
  | 5, _, _ => decide +kernel
  | 6, _, _ => decide +kernel
theorem orderRes_eq {m : Int} {F : List (List Int)} (h : famErr m F = 0) : orderRes m F = (ordersL m.toNat).find? (fitsB F) := by
  obtain ⟨⟨h1, h6⟩, _⟩ := famErr_ok h
  refine find_congr fun o ho => fit_eq h ?_
  have := List.all_eq_true.1 (ords_ok (n := m.toNat) (by omega) (by omega)) o ho
  rwa [show ((m.toNat : Nat) : Int) = m by omega] at this
theorem fits_as {a : Option Addr} {n c : Nat} {F : List (List Int)} {a' : Option Addr} {n' c' : Nat} {o : List Int} {w : World} {b : Bool} (h : ListsAt w a n c F) (h' : IntsAt w a' n' c' o) (hs : n' ≤ 1000000) (hb : fitsB F o = b) :
    Calls Try.prog 82 #[.slice a n c, .slice a' n' c'] w fun e w' => e = .returned (.bool b) ∧ w = w' := by subst hb; exact refFits_calls a n c F a' n' c' o w h h' hs

set_option maxRecDepth 100000 in
theorem refOrder_calls (m : Int) (a : Option Addr) (n c : Nat) (F : List (List Int)) (w : World) (h : ListsAt w a n c F) :
    Calls Try.prog 41 #[.int .i64 m, .slice a n c] w fun e w' => ∃ a' n' c', e = .returned (.tuple #[.slice a' n' c', .bool (ordOk m F), .int .i64 (famErr m F)]) ∧ IntsAt w' a' n' c' (ordV m F) ∧ Below w.heap.size w w' := by
  have hval := refFamily_calls m a n c F w h
  by_cases he : famErr m F = 0
  · obtain ⟨⟨hm1, hm6⟩, _⟩ := famErr_ok he
    have Hok : Hid (ordOk m F = ((ordersL m.toNat).find? (fitsB F)).isSome) := hid_ (by rw [ordOk, orderRes_eq he, he]; rfl)
    have Hv : Hid (ordV m F = ((ordersL m.toNat).find? (fitsB F)).getD []) := hid_ (by rw [ordV, orderRes_eq he, if_pos he])
    have Hm : Hid ((m.toNat : Int) = m) := hid_ (by omega)
    have hl := (iter_len (n := m.toNat) (k := m.toNat) (by omega) (by omega) (Nat.le_refl _))
    have hO := refOrders_calls m.toNat
    rw [Hm.out] at hO
    have HO := hid_ hO
    have Hrow : Hid (∀ o ∈ ordersL m.toNat, o.length ≤ 1000000) := hid_ fun o ho => by rw [hl.2 o ho]; omega
    have hl1 : (ordersL m.toNat).length ≤ 720 := hl.1
    rw [he] at hval ⊢
    have HV := hid_ hval; clear hval he hO hl
    have h1 : 1 ≤ m.toNat := by omega
    have h6 : m.toNat ≤ 6 := by omega
    generalize ordOk m F = ok at Hok ⊢
    generalize ordV m F = vv at Hv ⊢
    generalize hOO : ordersL m.toNat = O at HO Hok Hv Hrow hl1
    clear hOO
    go_enter Try.func41, Try.ntmps41
    go_wp2_with fail
    refine HV.out.mono ?_
    rintro e w1 ⟨rfl, q, hq⟩
    have hb1 : Below w.heap.size w w1 := by rw [hq]; exact below_drewN (Below.refl _ _) q
    clear hq HV
    go_wp2_with fail
    refine (HO.out w1 h1 h6).mono ?_
    rintro e w2 ⟨v2, rfl, hm2⟩
    obtain ⟨a2, c2, rfl, hL⟩ := hm2.at_
    have Hb : Hid (Below w.heap.size w w2) := hid_ (below_then hb1 hm2.bel)
    have hF := h.below Hb.out (Nat.le_refl _)
    clear hb1 hm2 HO h h1 h6
    generalize hNl : O.length = N at hL hl1
    have HNl := hid_ hNl; clear hNl
    go_wp2
    go_loop [9] (fun i => ∃ k : Nat, k ≤ N ∧ i = .int .i64 k ∧ ∀ j, j < k → fitsB F (O.getD j []) = false) (fun i => N - (intOf i).toNat)
    case atStart => exact ⟨0, Nat.zero_le _, rfl, fun _ h => absurd h (by omega)⟩
    case round =>
      obtain ⟨k, hk, rfl, hall⟩ := hrel
      have Hall := hid_ hall; clear hall
      by_cases hlt : k < N
      · obtain ⟨b, off, a3, n3, c3, rfl, hb, hcell, hrow⟩ := hL.cells k hlt
        have hs3 : n3 ≤ 1000000 := by rw [← hrow.len]; exact Hrow.out _ (by simp [List.getD, List.getElem?_eq_getElem (show k < O.length by rw [HNl.out]; exact hlt)])
        cases hf : fitsB F (O.getD k []) with
        | true =>
          have Hfind : Hid (O.find? (fitsB F) = some (O.getD k [])) := hid_ (find_some Hall.out (by rw [HNl.out]; exact hlt) hf)
          generalize O.getD k [] = o at hrow hf Hfind
          have Hf := hid_ (fits_as hF hrow hs3 hf)
          clear hf
          go_wp2_with (go_at_call 82; refine Hf.out.mono ?_; rintro e w' ⟨rfl, rfl⟩)
          go_ret3
          refine ⟨a3, n3, c3, ?_, ?_, Hb.out⟩
          · rw [Hok.out, Hfind.out]; rfl
          · rw [Hv.out, Hfind.out]; exact hrow
        | false =>
          have Hf := hid_ (fits_as hF hrow hs3 hf)
          have Hff := hid_ hf
          clear hf
          go_wp2_with (go_at_call 82; refine Hf.out.mono ?_; rintro e w' ⟨rfl, rfl⟩)
          go_round
          case rel => exact ⟨k + 1, by omega, by go_num, lt_snoc Hall.out Hff.out⟩
          case measure => simp [intOf]; omega
      · obtain rfl : k = N := by omega
        have Hfind : Hid (O.find? (fitsB F) = none) := hid_ (find_none fun j hj => Hall.out j (by rw [← HNl.out]; exact hj))
        go_wp2
        go_ret3
        refine ⟨none, 0, 0, ?_, ?_, Hb.out⟩
        · rw [Hok.out, Hfind.out]; rfl
        · rw [Hv.out, Hfind.out]; exact IntsAt.nil _ _ _ (by omega)
  · have Hok : Hid (ordOk m F = false) := hid_ (by simp [ordOk, he])
    have Hv : Hid (ordV m F = []) := hid_ (by rw [ordV, if_neg he])
    generalize famErr m F = er at hval he ⊢
    have hq : (er != 0) = true := by simpa using he
    have HV := hid_ hval; clear hval he
    go_enter Try.func41, Try.ntmps41
    go_wp2_with fail
    refine HV.out.mono ?_
    rintro e w1 ⟨rfl, q, hq1⟩
    have Hb : Hid (Below w.heap.size w w1) := hid_ (by rw [hq1]; exact below_drewN (Below.refl _ _) q)
    clear hq1
    go_wp2
    go_ret3
    exact ⟨none, 0, 0, by rw [Hok.out]; rfl, by rw [Hv.out]; exact IntsAt.nil _ _ _ (by omega), Hb.out⟩
end Go.Proofs.Ytcpaehogcicgjaa
