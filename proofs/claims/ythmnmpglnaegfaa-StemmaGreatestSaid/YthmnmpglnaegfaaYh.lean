import Derived.Test.YthmnmpglnaegfaaYg
namespace Go.Proofs.Ythmnmpglnaegfaa
open Go.RowKit Go.Proofs.Kv

/-! ### Different, Side, Conflict, Conflicts, CanTree of the program -/
def resDiff (T : List (List Int)) (p : Int) : Int := if placesE T [p] = 0 then (diffR T p.toNat : Int) else 0
theorem nat_of {p : Int} (h : 0 ≤ p) : ∃ k : Nat, p = (k : Int) := ⟨p.toNat, by omega⟩
set_option maxRecDepth 100000 in
theorem stDifferent_calls (a : Option Addr) (n c : Nat) (T : List (List Int)) (p : Int) (w : World) (h : ListsAt w a n c T) :
    Calls Try.prog 26 #[.slice a n c, .int .i64 p] w fun e w' => e = .returned (.tuple #[.int .i64 (resDiff T p), .int .i64 (placesE T [p])]) ∧ Below w.heap.size w w' := by
  have HV := hid_ (fun W (hW : Below w.heap.size w W) a' n' c' (h' : IntsAt W a' n' c' [p]) => places_calls a n c T a' n' c' [p] W (h.below hW (Nat.le_refl _)) h')
  have HR : Hid (resDiff T p = if placesE T [p] = 0 then (diffR T p.toNat : Int) else 0) := hid_ rfl
  generalize resDiff T p = R at *
  by_cases he : placesE T [p] = 0
  · have Hf := hid_ (HR.out.trans (if_pos he))
    obtain ⟨g, hp0, hp1⟩ := placesE_one he
    rw [he] at HV ⊢
    clear he HR
    rw [Hf.out]
    clear Hf
    obtain ⟨k, rfl⟩ := nat_of hp0
    have HD := hid_ (fun W (hW : Below w.heap.size w W) => stdiff_calls a n c T k W (h.below hW (Nat.le_refl _)) g (by omega))
    rw [Int.toNat_natCast]
    clear hp0 hp1 g
    go_enter Try.func26, Try.ntmps26
    go_wp2_with (first
      | (go_at_call 46; (with_reducible refine (HV.out _ (below_alloc _ _) _ _ _ (IntsAt.one _ _ _)).mono ?_); rintro e w2 ⟨rfl, rfl⟩)
      | (go_at_call 55; (with_reducible refine (HD.out _ (below_alloc _ _)).mono ?_); rintro e w3 ⟨rfl, hb⟩))
    go_ret2
    exact ⟨rfl, (below_alloc _ _).trans (hb.mono (below_alloc _ _).size)⟩
  · have Hf := hid_ (HR.out.trans (if_neg he))
    have hq : (placesE T [p] != 0) = true := by simpa using he
    generalize placesE T [p] = x at *
    clear he HR
    rw [Hf.out]
    go_enter Try.func26, Try.ntmps26
    go_wp2_with (go_at_call 46; (with_reducible refine (HV.out _ (below_alloc _ _) _ _ _ (IntsAt.one _ _ _)).mono ?_); rintro e w2 ⟨rfl, rfl⟩)
    go_ret2
    exact ⟨rfl, below_alloc _ _⟩
def okSide (T : List (List Int)) (p : Int) : Bool := decide (placesE T [p] = 0) && splR T p.toNat
def resSide (T : List (List Int)) (p : Int) : List Int := if okSide T p = true then sideR T p.toNat else []
set_option maxRecDepth 100000 in
theorem stSide_calls (a : Option Addr) (n c : Nat) (T : List (List Int)) (p : Int) (w : World) (h : ListsAt w a n c T) :
    Calls Try.prog 21 #[.slice a n c, .int .i64 p] w fun e w' => ∃ v, e = .returned (.tuple #[v, .bool (okSide T p), .int .i64 (placesE T [p])]) ∧ Made 3 w w' v (resSide T p) := by
  have HV := hid_ (fun W (hW : Below w.heap.size w W) a' n' c' (h' : IntsAt W a' n' c' [p]) => places_calls a n c T a' n' c' [p] W (h.below hW (Nat.le_refl _)) h')
  have HO : Hid (okSide T p = (decide (placesE T [p] = 0) && splR T p.toNat)) := hid_ rfl
  have HR : Hid (resSide T p = if okSide T p = true then sideR T p.toNat else []) := hid_ rfl
  generalize resSide T p = R at *
  generalize okSide T p = O at *
  by_cases he : placesE T [p] = 0
  · obtain ⟨g, hp0, hp1⟩ := placesE_one he
    rw [he] at HV HO ⊢
    clear he
    obtain ⟨k, rfl⟩ := nat_of hp0
    rw [Int.toNat_natCast] at HO HR
    have HD := hid_ (fun W (hW : Below w.heap.size w W) => splits_calls a n c T k W (h.below hW (Nat.le_refl _)) g (by omega))
    have HS := hid_ (fun W (hW : Below w.heap.size w W) => side_calls a n c T k W (h.below hW (Nat.le_refl _)) g (by omega))
    clear hp0 hp1 g
    cases hs : splR T k with
    | false =>
      rw [hs] at HD HO
      have Ho : Hid (O = false) := hid_ HO.out
      have Hf := hid_ (HR.out.trans (if_neg (by rw [Ho.out]; decide)))
      clear hs HO HR
      rw [Ho.out, Hf.out]
      go_enter Try.func21, Try.ntmps21
      go_wp2_with (first
        | (go_at_call 46; (with_reducible refine (HV.out _ (below_alloc _ _) _ _ _ (IntsAt.one _ _ _)).mono ?_); rintro e w2 ⟨rfl, rfl⟩)
        | (go_at_call 47; (with_reducible refine (HD.out _ (below_alloc _ _)).mono ?_); rintro e w3 ⟨rfl, hb⟩))
      go_ret3
      exact ⟨_, rfl, Made.none_ _ ((below_alloc _ _).trans (hb.mono (below_alloc _ _).size))⟩
    | true =>
      rw [hs] at HD HO
      have Ho : Hid (O = true) := hid_ HO.out
      have Hf := hid_ (HR.out.trans (if_pos Ho.out))
      clear hs HO HR
      rw [Ho.out, Hf.out]
      go_enter Try.func21, Try.ntmps21
      go_wp2_with (first
        | (go_at_call 46; (with_reducible refine (HV.out _ (below_alloc _ _) _ _ _ (IntsAt.one _ _ _)).mono ?_); rintro e w2 ⟨rfl, rfl⟩)
        | (go_at_call 47; (with_reducible refine (HD.out _ (below_alloc _ _)).mono ?_); rintro e w3 ⟨rfl, hb⟩; have hb3 := (below_alloc w (.cells #[.int .i64 (k : Int)] 3)).trans (hb.mono (below_alloc _ _).size))
        | (go_at_call 48; (with_reducible refine (HS.out _ hb3).mono ?_); rintro e w4 ⟨v4, rfl, hm⟩))
      go_ret3
      exact ⟨_, rfl, hm.after hb3⟩
  · have Ho : Hid (O = false) := hid_ (HO.out.trans (by rw [decide_eq_false he, Bool.false_and]))
    have Hf := hid_ (HR.out.trans (if_neg (by rw [Ho.out]; decide)))
    have hq : (placesE T [p] != 0) = true := by simpa using he
    generalize placesE T [p] = x at *
    clear he HR HO
    rw [Ho.out, Hf.out]
    go_enter Try.func21, Try.ntmps21
    go_wp2_with (go_at_call 46; (with_reducible refine (HV.out _ (below_alloc _ _) _ _ _ (IntsAt.one _ _ _)).mono ?_); rintro e w2 ⟨rfl, rfl⟩)
    go_ret3
    exact ⟨_, rfl, Made.none_ _ (below_alloc _ _)⟩
theorem ints_two7 (w : World) (x y : Int) (E : TypeId) : IntsAt (w.alloc (.cells #[.int .i64 x, .int .i64 y] E)) (some ⟨w.heap.size, 0, none⟩) 2 2 [x, y] :=
  ⟨rfl, Nat.le_refl _, by omega, fun i hi => ⟨w.heap.size, 0, rfl, by simp, by
    rcases (show i = 0 ∨ i = 1 by omega) with rfl | rfl
    · exact cells_alloc _ _ _ 0
    · exact cells_alloc _ _ _ 1⟩⟩
def resConf (T : List (List Int)) (p q : Int) : Bool := decide (placesE T [p, q] = 0) && cfR T p.toNat q.toNat
set_option maxRecDepth 100000 in
theorem stConflict_calls (a : Option Addr) (n c : Nat) (T : List (List Int)) (p q : Int) (w : World) (h : ListsAt w a n c T) :
    Calls Try.prog 27 #[.slice a n c, .int .i64 p, .int .i64 q] w fun e w' => e = .returned (.tuple #[.bool (resConf T p q), .int .i64 (placesE T [p, q])]) ∧ Below w.heap.size w w' := by
  have HV := hid_ (fun W (hW : Below w.heap.size w W) a' n' c' (h' : IntsAt W a' n' c' [p, q]) => places_calls a n c T a' n' c' [p, q] W (h.below hW (Nat.le_refl _)) h')
  have HR : Hid (resConf T p q = (decide (placesE T [p, q] = 0) && cfR T p.toNat q.toNat)) := hid_ rfl
  generalize resConf T p q = R at *
  by_cases he : placesE T [p, q] = 0
  · have Hf := hid_ (HR.out.trans (by rw [decide_eq_true he, Bool.true_and]))
    obtain ⟨g, ⟨hp0, hp1⟩, hq0, hq1⟩ := placesE_two he
    rw [he] at HV ⊢
    clear he HR
    rw [Hf.out]
    clear Hf
    obtain ⟨k, rfl⟩ := nat_of hp0
    obtain ⟨l, rfl⟩ := nat_of hq0
    have HD := hid_ (fun W (hW : Below w.heap.size w W) => conflict_calls a n c T k l W (h.below hW (Nat.le_refl _)) g (by omega) (by omega))
    rw [Int.toNat_natCast, Int.toNat_natCast]
    clear hp0 hp1 hq0 hq1 g
    go_enter Try.func27, Try.ntmps27
    go_wp2_with (first
      | (go_at_call 46; (with_reducible refine (HV.out _ (below_alloc _ _) _ _ _ (ints_two7 _ _ _ _)).mono ?_); rintro e w2 ⟨rfl, rfl⟩)
      | (go_at_call 56; (with_reducible refine (HD.out _ (below_alloc _ _)).mono ?_); rintro e w3 ⟨rfl, hb⟩))
    go_ret2
    exact ⟨rfl, (below_alloc _ _).trans (hb.mono (below_alloc _ _).size)⟩
  · have Hf := hid_ (HR.out.trans (by rw [decide_eq_false he, Bool.false_and]))
    have hq : (placesE T [p, q] != 0) = true := by simpa using he
    generalize placesE T [p, q] = x at *
    clear he HR
    rw [Hf.out]
    go_enter Try.func27, Try.ntmps27
    go_wp2_with (go_at_call 46; (with_reducible refine (HV.out _ (below_alloc _ _) _ _ _ (ints_two7 _ _ _ _)).mono ?_); rintro e w2 ⟨rfl, rfl⟩)
    go_ret2
    exact ⟨rfl, below_alloc _ _⟩
def resConfs (T : List (List Int)) : List (Int × Int) := if validT T = 0 then confR T else []
def resCan (T : List (List Int)) : Bool := decide (validT T = 0) && decide ((confR T).length = 0)
set_option maxRecDepth 100000 in
theorem stConflicts_calls (a : Option Addr) (n c : Nat) (T : List (List Int)) (w : World) (h : ListsAt w a n c T) :
    Calls Try.prog 20 #[.slice a n c] w fun e w' => ∃ v, e = .returned (.tuple #[v, .int .i64 (validT T)]) ∧ MadeP 83 w w' v (resConfs T) := by
  have HV := hid_ (stValidate_calls a n c T w h)
  have HR : Hid (resConfs T = if validT T = 0 then confR T else []) := hid_ rfl
  generalize resConfs T = R at *
  by_cases he : validT T = 0
  · have Hf := hid_ (HR.out.trans (if_pos he))
    have HC := hid_ (conflicts_calls a n c T w h (validT_ok he))
    rw [he] at HV ⊢
    clear he HR
    rw [Hf.out]
    clear Hf
    go_enter Try.func20, Try.ntmps20
    go_wp2_with (first
      | (go_at_call 19; refine (HV.out).mono ?_; rintro e w' ⟨rfl, rfl⟩)
      | (go_at_call 44; (with_reducible refine HC.out.mono ?_); rintro e w3 ⟨v3, rfl, hm⟩))
    go_ret2
    exact ⟨_, rfl, hm⟩
  · have Hf := hid_ (HR.out.trans (if_neg he))
    have hq : (validT T != 0) = true := by simpa using he
    generalize validT T = x at *
    clear he HR
    rw [Hf.out]
    go_enter Try.func20, Try.ntmps20
    go_wp2_with (go_at_call 19; refine (HV.out).mono ?_; rintro e w' ⟨rfl, rfl⟩)
    go_ret2
    exact ⟨_, rfl, MadeP.none_ _ (Below.refl _ _)⟩
set_option maxRecDepth 100000 in
theorem stCanTree_calls (a : Option Addr) (n c : Nat) (T : List (List Int)) (w : World) (h : ListsAt w a n c T) :
    Calls Try.prog 18 #[.slice a n c] w fun e w' => e = .returned (.tuple #[.bool (resCan T), .int .i64 (validT T)]) ∧ Below w.heap.size w w' := by
  have HV := hid_ (stValidate_calls a n c T w h)
  have HR : Hid (resCan T = (decide (validT T = 0) && decide ((confR T).length = 0))) := hid_ rfl
  generalize resCan T = R at *
  by_cases he : validT T = 0
  · have Hf := hid_ (HR.out.trans (by rw [decide_eq_true he, Bool.true_and]))
    have HC := hid_ (conflicts_calls a n c T w h (validT_ok he))
    rw [he] at HV ⊢
    clear he HR
    rw [Hf.out]
    clear Hf
    generalize confR T = C at *
    obtain ⟨m, hm⟩ : ∃ m, C.length = m := ⟨_, rfl⟩
    have Hm := hid_ hm
    rw [hm]
    clear hm
    by_cases h0 : m = 0
    · subst h0
      go_enter Try.func18, Try.ntmps18
      go_wp2_with (first
        | (go_at_call 19; refine (HV.out).mono ?_; rintro e w' ⟨rfl, rfl⟩)
        | (go_at_call 44; (with_reducible refine HC.out.mono ?_); rintro e w3 ⟨v3, rfl, hm⟩; obtain ⟨a3, c3, rfl, -⟩ := hm.at_; rw [Hm.out]))
      go_ret2
      exact ⟨rfl, hm.bel⟩
    · have hq : ((m : Int) == 0) = false := by simp; omega
      have Hd : Hid (decide (m = 0) = false) := hid_ (decide_eq_false h0)
      clear h0
      rw [Hd.out]
      go_enter Try.func18, Try.ntmps18
      go_wp2_with (first
        | (go_at_call 19; refine (HV.out).mono ?_; rintro e w' ⟨rfl, rfl⟩)
        | (go_at_call 44; (with_reducible refine HC.out.mono ?_); rintro e w3 ⟨v3, rfl, hm⟩; obtain ⟨a3, c3, rfl, -⟩ := hm.at_; rw [Hm.out]))
      go_ret2
      exact ⟨rfl, hm.bel⟩
  · have Hf := hid_ (HR.out.trans (by rw [decide_eq_false he, Bool.false_and]))
    have hq : (validT T != 0) = true := by simpa using he
    generalize validT T = x at *
    clear he HR
    rw [Hf.out]
    go_enter Try.func18, Try.ntmps18
    go_wp2_with (go_at_call 19; refine (HV.out).mono ?_; rintro e w' ⟨rfl, rfl⟩)
    go_ret2
    exact ⟨rfl, Below.refl _ _⟩
end Go.Proofs.Ythmnmpglnaegfaa
