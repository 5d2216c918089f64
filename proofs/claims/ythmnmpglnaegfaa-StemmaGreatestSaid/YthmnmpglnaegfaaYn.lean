import Derived.Test.YthmnmpglnaegfaaYm
import Derived.Deep.RegionHeld3
namespace Go.Proofs.Ythmnmpglnaegfaa
open Go.RowKit Go.Proofs.Kv

/-! ### the errors of readings and a tree -/
def orE (x y : Int) : Int := if x = 0 then y else x
set_option maxRecDepth 100000 in
set_option maxHeartbeats 2000000 in
theorem or_calls (a : Option Addr) (c : Nat) (x y : Int) (w : World) (h : IntsAt w a 2 c [x, y]) :
    Calls Try.prog 62 #[.slice a 2 c] w fun e w' => e = .returned (.int .i64 (orE x y)) ∧ w = w' := by
  obtain ⟨b, off, rfl, hb, hc0⟩ := h.cells 0 (by omega)
  obtain ⟨b', off', e, hb', hc1⟩ := h.cells 1 (by omega)
  injection e with e; injection e with e1 e2
  subst e1 e2
  rw [Nat.add_zero] at hc0
  have hg0 : ([x, y] : List Int).getD 0 0 = x := rfl
  have hg1 : ([x, y] : List Int).getD 1 0 = y := rfl
  rw [hg0] at hc0; rw [hg1] at hc1
  clear h hb hb' hg0 hg1
  have hor : Hid (orE x y = if x = 0 then y else x) := hid_ rfl
  by_cases hx : x = 0
  · subst hx
    by_cases hy : y = 0
    · subst hy
      have Hf : Hid (orE 0 0 = 0) := hid_ rfl
      go_enter Try.func62, Try.ntmps62
      go_wp2
      go_loopw [8] (fun i wr => ∃ k : Nat, k ≤ 2 ∧ i = .int .i64 k ∧ wr = w) (fun i _ => 2 - (intOf i).toNat)
      case atStart => exact ⟨0, by omega, rfl, rfl⟩
      case round =>
        obtain ⟨k, hk, rfl, rfl⟩ := hrel
        rcases (show k = 0 ∨ k = 1 ∨ k = 2 by omega) with rfl | rfl | rfl
        · go_wp2
          go_roundw
          case rel => exact ⟨1, by omega, by go_num, trivial⟩
          case measure => simp [intOf]
        · go_wp2
          go_roundw
          case rel => exact ⟨2, by omega, by go_num, trivial⟩
          case measure => simp [intOf]
        · go_wp2
          go_ret
          exact ⟨by rw [Hf.out]; rfl, rfl⟩
    · have Hf : Hid (orE 0 y = y) := hid_ rfl
      have hq : (y != 0) = true := by simpa using hy
      clear hy
      go_enter Try.func62, Try.ntmps62
      go_wp2
      go_loopw [8] (fun i wr => ∃ k : Nat, k ≤ 1 ∧ i = .int .i64 k ∧ wr = w) (fun i _ => 2 - (intOf i).toNat)
      case atStart => exact ⟨0, by omega, rfl, rfl⟩
      case round =>
        obtain ⟨k, hk, rfl, rfl⟩ := hrel
        rcases (show k = 0 ∨ k = 1 by omega) with rfl | rfl
        · go_wp2
          go_roundw
          case rel => exact ⟨1, by omega, by go_num, trivial⟩
          case measure => simp [intOf]
        · go_wp2
          go_ret
          exact ⟨by rw [Hf.out]; rfl, rfl⟩
  · have Hf : Hid (orE x y = x) := hid_ (if_neg hx)
    have hq : (x != 0) = true := by simpa using hx
    clear hx
    go_enter Try.func62, Try.ntmps62
    go_wp2
    go_loopw [8] (fun i wr => i = .int .i64 (0 : Nat) ∧ wr = w) (fun _ _ => 0)
    case atStart => exact ⟨rfl, rfl⟩
    case round =>
      obtain ⟨rfl, rfl⟩ := hrel
      go_wp2
      go_ret
      exact ⟨by rw [Hf.out]; rfl, rfl⟩
theorem orE_zero {x y : Int} (h : orE x y = 0) : x = 0 ∧ y = 0 := by
  unfold orE at h
  split at h
  · exact ⟨by assumption, h⟩
  · contradiction
def errB (T : List (List Int)) (X : Tr) : Int := if orE (validT T) (validX X) = 0 then (if X.at_.length = T.length then 0 else 9) else orE (validT T) (validX X)
theorem errB_ok {T : List (List Int)} {X : Tr} (h : errB T X = 0) : GoodT T ∧ GoodX X ∧ X.at_.length = T.length := by
  unfold errB at h
  split at h
  · rename_i hz
    obtain ⟨h1, h2⟩ := orE_zero hz
    split at h
    · rename_i hl; exact ⟨validT_ok h1, validX_ok h2, hl⟩
    · cases h
  · contradiction
set_option maxRecDepth 100000 in
set_option maxHeartbeats 2000000 in
theorem both_calls (a : Option Addr) (n c : Nat) (T : List (List Int)) (v : Value) (X : Tr) (w : World) (hT : ListsAt w a n c T) (h : TreeAt w v X) :
    Calls Try.prog 43 #[.slice a n c, v] w fun e w' => e = .returned (.int .i64 (errB T X)) ∧ Below w.heap.size w w' := by
  have HP := hid_ h
  obtain ⟨a1, n1, c1, a2, n2, c2, rfl, h1, h2⟩ := h
  obtain ⟨w1, hw1⟩ : ∃ w1, w.alloc (.cells #[.slice a1 n1 c1, .slice a2 n2 c2] 31) = w1 := ⟨_, rfl⟩
  have cb : Below w.heap.size w w1 := by rw [← hw1]; exact below_alloc _ _
  have q0 : w1.cell? ⟨w.heap.size, 0, none⟩ = some (.slice a1 n1 c1) := by rw [← hw1]; exact cells_alloc _ _ _ 0
  have q1 : w1.cell? ⟨w.heap.size, 1, none⟩ = some (.slice a2 n2 c2) := by rw [← hw1]; exact cells_alloc _ _ _ 1
  have HP1 := hid_ (HP.out.below cb (Nat.le_refl _)); have Hc1 := hid_ cb
  have HT1 := hid_ (hT.below cb (Nat.le_refl _))
  have HV := hid_ (fun W (hW : Below w1.heap.size w1 W) => stValidate_calls a n c T W (HT1.out.below hW (Nat.le_refl _)))
  have HU := hid_ (fun W (hW : Below w1.heap.size w1 W) => stTree_calls _ X W (HP1.out.below hW (Nat.le_refl _)))
  have HO := hid_ (fun a c W h => or_calls a c (validT T) (validX X) W h)
  have HQ := hid_ (fun W (hW : Below w1.heap.size w1 W) => And.intro (cell_below q0 hW) (And.intro (cell_below q1 hW) hW))
  have hbb : Below w1.heap.size w1 w1 := Below.refl _ _
  have L2 := hid_ h2.len
  have LT := hid_ hT.len
  have HR : Hid (errB T X = if orE (validT T) (validX X) = 0 then (if X.at_.length = T.length then 0 else 9) else orE (validT T) (validX X)) := hid_ rfl
  rw [L2.out, LT.out] at HR
  clear h1 h2 cb hT
  generalize errB T X = R at *
  generalize validT T = x at *
  generalize validX X = y at *
  by_cases hz : orE x y = 0
  · have Hf := hid_ (HR.out.trans (if_pos hz))
    rw [hz] at HO
    clear hz HR
    by_cases hl : n2 = n
    · have Hg := hid_ (Hf.out.trans (if_pos hl))
      have hq : ((n2 : Int) != (n : Int)) = false := by subst hl; simp
      clear hl Hf
      go_enter Try.func43, Try.ntmps43
      go_wp2_with fail
      go_region_held3 (fun W => W.cell? ⟨w.heap.size, 0, none⟩ = some (.slice a1 n1 c1) ∧ W.cell? ⟨w.heap.size, 1, none⟩ = some (.slice a2 n2 c2) ∧ Below w1.heap.size w1 W) ((refine HQ.out _ ?_; (repeat (first | assumption | (with_reducible refine Below.alloc ?_ (by first | omega | (simp; done) | (simp; omega)) _) | (with_reducible refine Below.setCell ?_ (by first | omega | (simp; done) | (simp; omega)) _) | (with_reducible refine Below.drew ?_) | (with_reducible refine below_drewN ?_ _)))))
        (first
          | (go_at_call 19; (with_reducible refine (HV.out _ ?_).mono ?_); (focus (repeat (first | assumption | (with_reducible refine Below.alloc ?_ (by first | omega | (simp; done) | (simp; omega)) _) | (with_reducible refine Below.setCell ?_ (by first | omega | (simp; done) | (simp; omega)) _) | (with_reducible refine Below.drew ?_) | (with_reducible refine below_drewN ?_ _)))); rintro e w5 ⟨rfl, rfl⟩)
          | (go_at_call 63; (with_reducible refine (HU.out _ ?_).mono ?_); (focus (repeat (first | assumption | (with_reducible refine Below.alloc ?_ (by first | omega | (simp; done) | (simp; omega)) _) | (with_reducible refine Below.setCell ?_ (by first | omega | (simp; done) | (simp; omega)) _) | (with_reducible refine Below.drew ?_) | (with_reducible refine below_drewN ?_ _)))); rintro e w6 ⟨rfl, hc6⟩; have hb6 : Below w1.heap.size w1 w6 := below_then (by (repeat (first | assumption | (with_reducible refine Below.alloc ?_ (by first | omega | (simp; done) | (simp; omega)) _) | (with_reducible refine Below.setCell ?_ (by first | omega | (simp; done) | (simp; omega)) _) | (with_reducible refine Below.drew ?_) | (with_reducible refine below_drewN ?_ _)))) hc6; clear hc6; have hs6 := hb6.size)
          | (go_at_call 62; (with_reducible refine (HO.out _ _ _ (ints_two7 _ _ _ _)).mono ?_); rintro e w7 ⟨rfl, rfl⟩))
      all_goals
        have hb7 := (hb6.alloc hb6.size (.cells #[.int .i64 x, .int .i64 y] 26))
        obtain ⟨g0, g1, -⟩ := HQ.out _ hb7
        go_wp2
        go_ret
        exact ⟨retI Hg.out, Hc1.out.trans (hb7.mono Hc1.out.size)⟩
    · have Hg := hid_ (Hf.out.trans (if_neg hl))
      have hq : ((n2 : Int) != (n : Int)) = true := by simp; omega
      clear hl Hf
      go_enter Try.func43, Try.ntmps43
      go_wp2_with fail
      go_region_held3 (fun W => W.cell? ⟨w.heap.size, 0, none⟩ = some (.slice a1 n1 c1) ∧ W.cell? ⟨w.heap.size, 1, none⟩ = some (.slice a2 n2 c2) ∧ Below w1.heap.size w1 W) ((refine HQ.out _ ?_; (repeat (first | assumption | (with_reducible refine Below.alloc ?_ (by first | omega | (simp; done) | (simp; omega)) _) | (with_reducible refine Below.setCell ?_ (by first | omega | (simp; done) | (simp; omega)) _) | (with_reducible refine Below.drew ?_) | (with_reducible refine below_drewN ?_ _)))))
        (first
          | (go_at_call 19; (with_reducible refine (HV.out _ ?_).mono ?_); (focus (repeat (first | assumption | (with_reducible refine Below.alloc ?_ (by first | omega | (simp; done) | (simp; omega)) _) | (with_reducible refine Below.setCell ?_ (by first | omega | (simp; done) | (simp; omega)) _) | (with_reducible refine Below.drew ?_) | (with_reducible refine below_drewN ?_ _)))); rintro e w5 ⟨rfl, rfl⟩)
          | (go_at_call 63; (with_reducible refine (HU.out _ ?_).mono ?_); (focus (repeat (first | assumption | (with_reducible refine Below.alloc ?_ (by first | omega | (simp; done) | (simp; omega)) _) | (with_reducible refine Below.setCell ?_ (by first | omega | (simp; done) | (simp; omega)) _) | (with_reducible refine Below.drew ?_) | (with_reducible refine below_drewN ?_ _)))); rintro e w6 ⟨rfl, hc6⟩; have hb6 : Below w1.heap.size w1 w6 := below_then (by (repeat (first | assumption | (with_reducible refine Below.alloc ?_ (by first | omega | (simp; done) | (simp; omega)) _) | (with_reducible refine Below.setCell ?_ (by first | omega | (simp; done) | (simp; omega)) _) | (with_reducible refine Below.drew ?_) | (with_reducible refine below_drewN ?_ _)))) hc6; clear hc6; have hs6 := hb6.size)
          | (go_at_call 62; (with_reducible refine (HO.out _ _ _ (ints_two7 _ _ _ _)).mono ?_); rintro e w7 ⟨rfl, rfl⟩))
      all_goals
        have hb7 := (hb6.alloc hb6.size (.cells #[.int .i64 x, .int .i64 y] 26))
        obtain ⟨g0, g1, -⟩ := HQ.out _ hb7
        go_wp2
        go_ret
        exact ⟨retI Hg.out, Hc1.out.trans (hb7.mono Hc1.out.size)⟩
  · have Hg := hid_ (HR.out.trans (if_neg hz))
    have hq : (orE x y != 0) = true := by simpa using hz
    obtain ⟨z, hz'⟩ : ∃ z, orE x y = z := ⟨_, rfl⟩
    rw [hz'] at HO Hg hq
    clear hz HR hz'
    go_enter Try.func43, Try.ntmps43
    go_wp2_with fail
    go_region_held3 (fun W => W.cell? ⟨w.heap.size, 0, none⟩ = some (.slice a1 n1 c1) ∧ W.cell? ⟨w.heap.size, 1, none⟩ = some (.slice a2 n2 c2) ∧ Below w1.heap.size w1 W) ((refine HQ.out _ ?_; (repeat (first | assumption | (with_reducible refine Below.alloc ?_ (by first | omega | (simp; done) | (simp; omega)) _) | (with_reducible refine Below.setCell ?_ (by first | omega | (simp; done) | (simp; omega)) _) | (with_reducible refine Below.drew ?_) | (with_reducible refine below_drewN ?_ _)))))
      (first
        | (go_at_call 19; (with_reducible refine (HV.out _ ?_).mono ?_); (focus (repeat (first | assumption | (with_reducible refine Below.alloc ?_ (by first | omega | (simp; done) | (simp; omega)) _) | (with_reducible refine Below.setCell ?_ (by first | omega | (simp; done) | (simp; omega)) _) | (with_reducible refine Below.drew ?_) | (with_reducible refine below_drewN ?_ _)))); rintro e w5 ⟨rfl, rfl⟩)
        | (go_at_call 63; (with_reducible refine (HU.out _ ?_).mono ?_); (focus (repeat (first | assumption | (with_reducible refine Below.alloc ?_ (by first | omega | (simp; done) | (simp; omega)) _) | (with_reducible refine Below.setCell ?_ (by first | omega | (simp; done) | (simp; omega)) _) | (with_reducible refine Below.drew ?_) | (with_reducible refine below_drewN ?_ _)))); rintro e w6 ⟨rfl, hc6⟩; have hb6 : Below w1.heap.size w1 w6 := below_then (by (repeat (first | assumption | (with_reducible refine Below.alloc ?_ (by first | omega | (simp; done) | (simp; omega)) _) | (with_reducible refine Below.setCell ?_ (by first | omega | (simp; done) | (simp; omega)) _) | (with_reducible refine Below.drew ?_) | (with_reducible refine below_drewN ?_ _)))) hc6; clear hc6; have hs6 := hb6.size)
        | (go_at_call 62; (with_reducible refine (HO.out _ _ _ (ints_two7 _ _ _ _)).mono ?_); rintro e w7 ⟨rfl, rfl⟩))
    all_goals
      have hb7 := (hb6.alloc hb6.size (.cells #[.int .i64 x, .int .i64 y] 26))
      go_wp2
      go_ret
      exact ⟨retI Hg.out, Hc1.out.trans (hb7.mono Hc1.out.size)⟩
def errA (T : List (List Int)) (X : Tr) (p : Int) : Int := orE (errB T X) (placesE T [p])
theorem errA_ok {T : List (List Int)} {X : Tr} {p : Int} (h : errA T X p = 0) : GoodT T ∧ GoodX X ∧ X.at_.length = T.length ∧ 0 ≤ p ∧ p < n0 T := by
  obtain ⟨h1, h2⟩ := orE_zero h
  obtain ⟨g1, g2, g3⟩ := errB_ok h1
  exact ⟨g1, g2, g3, (placesE_one h2).2⟩
set_option maxRecDepth 100000 in
set_option maxHeartbeats 2000000 in
theorem vall_calls (a : Option Addr) (n c : Nat) (T : List (List Int)) (v : Value) (X : Tr) (p : Int) (w : World) (hT : ListsAt w a n c T) (h : TreeAt w v X) :
    Calls Try.prog 50 #[.slice a n c, v, .int .i64 p] w fun e w' => e = .returned (.int .i64 (errA T X p)) ∧ Below w.heap.size w w' := by
  have HP := hid_ h
  obtain ⟨a1, n1, c1, a2, n2, c2, rfl, h1, h2⟩ := h
  obtain ⟨w1, hw1⟩ : ∃ w1, w.alloc (.cells #[.slice a1 n1 c1, .slice a2 n2 c2] 31) = w1 := ⟨_, rfl⟩
  have cb : Below w.heap.size w w1 := by rw [← hw1]; exact below_alloc _ _
  have q0 : w1.cell? ⟨w.heap.size, 0, none⟩ = some (.slice a1 n1 c1) := by rw [← hw1]; exact cells_alloc _ _ _ 0
  have q1 : w1.cell? ⟨w.heap.size, 1, none⟩ = some (.slice a2 n2 c2) := by rw [← hw1]; exact cells_alloc _ _ _ 1
  have HP1 := hid_ (HP.out.below cb (Nat.le_refl _)); have Hc1 := hid_ cb
  have HT1 := hid_ (hT.below cb (Nat.le_refl _))
  have HV := hid_ (fun W (hW : Below w1.heap.size w1 W) => both_calls a n c T _ X W (HT1.out.below hW (Nat.le_refl _)) (HP1.out.below hW (Nat.le_refl _)))
  have HU := hid_ (fun W (hW : Below w1.heap.size w1 W) a' n' c' (h' : IntsAt W a' n' c' [p]) => places_calls a n c T a' n' c' [p] W (HT1.out.below hW (Nat.le_refl _)) h')
  have HO := hid_ (fun a c W h => or_calls a c (errB T X) (placesE T [p]) W h)
  have HQ := hid_ (fun W (hW : Below w1.heap.size w1 W) => And.intro (cell_below q0 hW) (And.intro (cell_below q1 hW) hW))
  have hbb : Below w1.heap.size w1 w1 := Below.refl _ _
  have HR : Hid (errA T X p = orE (errB T X) (placesE T [p])) := hid_ rfl
  clear h1 h2 cb hT
  generalize errA T X p = R at *
  generalize errB T X = x at *
  generalize placesE T [p] = y at *
  go_enter Try.func50, Try.ntmps50
  go_wp2_with (first
    | (go_at_call 43; (with_reducible refine (HV.out _ hbb).mono ?_); rintro e w5 ⟨rfl, hb5⟩; have hs5 := hb5.size)
    | (go_at_call 46; (with_reducible refine (HU.out _ ?_ _ _ _ (IntsAt.one _ _ _)).mono ?_); (focus (repeat (first | assumption | (with_reducible refine Below.alloc ?_ (by first | omega | (simp; done) | (simp; omega)) _) | (with_reducible refine Below.setCell ?_ (by first | omega | (simp; done) | (simp; omega)) _) | (with_reducible refine Below.drew ?_) | (with_reducible refine below_drewN ?_ _)))); rintro e w6 ⟨rfl, rfl⟩; obtain ⟨w7, hw7⟩ : ∃ w7, w5.alloc (.cells #[.int .i64 p] 3) = w7 := ⟨_, rfl⟩; have hb7 : Below w1.heap.size w1 w7 := (by rw [← hw7]; exact hb5.alloc hb5.size _); rw [hw7])
    | (go_at_call 62; (with_reducible refine (HO.out _ _ _ (ints_two7 _ _ _ _)).mono ?_); rintro e w8 ⟨rfl, rfl⟩))
  go_ret
  exact ⟨retI HR.out, Hc1.out.trans ((hb7.alloc hb7.size (.cells #[.int .i64 x, .int .i64 y] 26)).mono Hc1.out.size)⟩
end Go.Proofs.Ythmnmpglnaegfaa
