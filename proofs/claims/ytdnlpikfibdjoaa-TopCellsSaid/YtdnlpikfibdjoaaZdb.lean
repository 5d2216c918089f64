import Derived.Test.YtdnlpikfibdjoaaZda
namespace Go.Proofs.Ytdnlpikfibdjoaa
open Go.RowKit Go.Proofs.Kv

/-! ### Same -/
def errS (P Q : Par) : Int := if validP P = 0 then (if validP Q = 0 then (if Same P.sizes Q.sizes then 0 else 9) else validP Q) else validP P
def resSame (P Q : Par) : Bool := if errS P Q = 0 then Same (fillL P) (fillL Q) else false
theorem errS_good {P Q : Par} (h : validP P = 0) (h' : validP Q = 0) : errS P Q = if Same P.sizes Q.sizes then 0 else 9 := by rw [errS, if_pos h, if_pos h']
theorem errS_ok {P Q : Par} (h : errS P Q = 0) : validP P = 0 ∧ validP Q = 0 := by
  unfold errS at h
  split at h
  · split at h
    · exact ⟨by assumption, by assumption⟩
    · contradiction
  · contradiction
theorem errS_or {P Q : Par} (h : orE (validP P) (validP Q) ≠ 0) : errS P Q = orE (validP P) (validP Q) := by
  unfold orE at *
  unfold errS
  by_cases hp : validP P = 0
  · rw [if_pos hp] at h ⊢
    rw [if_neg h, if_pos hp]
  · rw [if_neg hp, if_neg hp]
theorem or_zero {x y : Int} (h : orE x y = 0) : x = 0 ∧ y = 0 := by
  unfold orE at h
  split at h
  · exact ⟨by assumption, h⟩
  · contradiction
set_option maxRecDepth 100000 in
set_option maxHeartbeats 8000000 in
theorem ceSame_calls (v v' : Value) (P Q : Par) (w : World) (h : ParAt w v P) (h' : ParAt w v' Q) :
    Calls Try.prog 17 #[v, v'] w fun e w' => e = .returned (.tuple #[.bool (resSame P Q), .int .i64 (errS P Q)]) ∧ Below w.heap.size w w' := by
  have HP := hid_ h; have HQQ := hid_ h'
  obtain ⟨a1, n1, c1, a2, n2, c2, rfl, h1, h2⟩ := h
  obtain ⟨b1, m1, d1, b2, m2, d2, rfl, k1, k2⟩ := h'
  obtain ⟨w1, hw1⟩ : ∃ w1, w.alloc (.cells #[.slice a1 n1 c1, .slice a2 n2 c2] 25) = w1 := ⟨_, rfl⟩
  obtain ⟨w2, hw2⟩ : ∃ w2, w1.alloc (.cells #[.slice b1 m1 d1, .slice b2 m2 d2] 25) = w2 := ⟨_, rfl⟩
  have z1 : w1.heap.size = w.heap.size + 1 := by rw [← hw1]; simp
  have cb1 : Below w.heap.size w w1 := by rw [← hw1]; exact below_alloc _ _
  have cb2 : Below w1.heap.size w1 w2 := by rw [← hw2]; exact below_alloc _ _
  have cb : Below w.heap.size w w2 := cb1.trans (cb2.mono cb1.size)
  have q0 : w2.cell? ⟨w.heap.size, 0, none⟩ = some (.slice a1 n1 c1) := cell_below (by rw [← hw1]; exact cells_alloc _ _ _ 0) cb2
  have q1 : w2.cell? ⟨w.heap.size, 1, none⟩ = some (.slice a2 n2 c2) := cell_below (by rw [← hw1]; exact cells_alloc _ _ _ 1) cb2
  have r0 : w2.cell? ⟨w.heap.size + 1, 0, none⟩ = some (.slice b1 m1 d1) := by rw [← z1, ← hw2]; exact cells_alloc _ _ _ 0
  have r1 : w2.cell? ⟨w.heap.size + 1, 1, none⟩ = some (.slice b2 m2 d2) := by rw [← z1, ← hw2]; exact cells_alloc _ _ _ 1
  have HP2 := hid_ (HP.out.below cb (Nat.le_refl _)); have HQ2 := hid_ (HQQ.out.below cb (Nat.le_refl _)); have Hc2 := hid_ cb
  clear cb1 cb2
  have HV := hid_ (fun W (hW : Below w2.heap.size w2 W) => ceValidate_calls _ P W (HP2.out.below hW (Nat.le_refl _)))
  have HU := hid_ (fun W (hW : Below w2.heap.size w2 W) => ceValidate_calls _ Q W (HQ2.out.below hW (Nat.le_refl _)))
  have HO := hid_ (fun a c W h => or_calls a c (validP P) (validP Q) W h)
  have HQ := hid_ (fun W (hW : Below w2.heap.size w2 W) => And.intro (cell_below q0 hW) (And.intro (cell_below q1 hW) (And.intro (cell_below r0 hW) (And.intro (cell_below r1 hW) hW))))
  have hbb : Below w2.heap.size w2 w2 := Below.refl _ _
  have HA := hid_ (h1.below cb (Nat.le_refl _)); have HB := hid_ (k1.below cb (Nat.le_refl _))
  have HR : Hid (resSame P Q = if errS P Q = 0 then Same (fillL P) (fillL Q) else false) := hid_ rfl
  clear h1 h2 k1 k2 cb
  by_cases hz : orE (validP P) (validP Q) = 0
  · obtain ⟨hv, hu⟩ := or_zero hz
    have hee := errS_good hv hu
    have HF := hid_ (fun W (hW : Below w2.heap.size w2 W) => sameFill_calls _ _ P Q W (HP2.out.below hW (Nat.le_refl _)) (HQ2.out.below hW (Nat.le_refl _)) hv hu)
    rw [hz] at HO
    rw [hv] at HV HO
    rw [hu] at HU HO
    clear hz hv hu
    cases hs : Same P.sizes Q.sizes with
    | true =>
      rw [hs] at hee
      have He : Hid (errS P Q = 0) := hid_ hee
      have Hr : Hid (resSame P Q = Same (fillL P) (fillL Q)) := hid_ (by rw [HR.out, He.out]; rfl)
      have HE := hid_ (fun W (hW : Below w2.heap.size w2 W) => hs ▸ equal_calls _ _ _ _ _ _ _ _ W (HA.out.below hW (Nat.le_refl _)) (HB.out.below hW (Nat.le_refl _)))
      rw [He.out, Hr.out]
      clear hee hs
      generalize Same (fillL P) (fillL Q) = f at *
      go_enter Try.func17, Try.ntmps17
      go_wp2_with fail
      go_region_held3 (fun W => W.cell? ⟨w.heap.size, 0, none⟩ = some (.slice a1 n1 c1) ∧ W.cell? ⟨w.heap.size, 1, none⟩ = some (.slice a2 n2 c2) ∧ W.cell? ⟨w.heap.size + 1, 0, none⟩ = some (.slice b1 m1 d1) ∧ W.cell? ⟨w.heap.size + 1, 1, none⟩ = some (.slice b2 m2 d2) ∧ Below w2.heap.size w2 W) ((refine HQ.out _ ?_; (repeat (first | assumption | (with_reducible refine Below.alloc ?_ (by first | omega | (simp; done) | (simp; omega)) _) | (with_reducible refine Below.setCell ?_ (by first | omega | (simp; done) | (simp; omega)) _) | (with_reducible refine Below.drew ?_) | (with_reducible refine below_drewN ?_ _)))))
        (first
          | (go_at_call 52; (with_reducible refine (HV.out _ ?_).mono ?_); (focus (repeat (first | assumption | (with_reducible refine Below.alloc ?_ (by first | omega | (simp; done) | (simp; omega)) _) | (with_reducible refine Below.setCell ?_ (by first | omega | (simp; done) | (simp; omega)) _) | (with_reducible refine Below.drew ?_) | (with_reducible refine below_drewN ?_ _)))); rintro e w5 ⟨rfl, hc5⟩; have hb5 : Below w2.heap.size w2 w5 := below_then (by (repeat (first | assumption | (with_reducible refine Below.alloc ?_ (by first | omega | (simp; done) | (simp; omega)) _) | (with_reducible refine Below.setCell ?_ (by first | omega | (simp; done) | (simp; omega)) _) | (with_reducible refine Below.drew ?_) | (with_reducible refine below_drewN ?_ _)))) hc5; clear hc5; have hs5 := hb5.size)
          | (go_at_call 52; (with_reducible refine (HU.out _ ?_).mono ?_); (focus (repeat (first | assumption | (with_reducible refine Below.alloc ?_ (by first | omega | (simp; done) | (simp; omega)) _) | (with_reducible refine Below.setCell ?_ (by first | omega | (simp; done) | (simp; omega)) _) | (with_reducible refine Below.drew ?_) | (with_reducible refine below_drewN ?_ _)))); rintro e w6 ⟨rfl, hc6⟩; have hb6 : Below w2.heap.size w2 w6 := below_then (by (repeat (first | assumption | (with_reducible refine Below.alloc ?_ (by first | omega | (simp; done) | (simp; omega)) _) | (with_reducible refine Below.setCell ?_ (by first | omega | (simp; done) | (simp; omega)) _) | (with_reducible refine Below.drew ?_) | (with_reducible refine below_drewN ?_ _)))) hc6; clear hc6; have hs6 := hb6.size)
          | (go_at_call 59; (with_reducible refine (HO.out _ _ _ (ints_two _ _ _ _)).mono ?_); rintro e w7 ⟨rfl, rfl⟩))
      have hb7 := (hb6.alloc hb6.size (.cells #[.int .i64 0, .int .i64 0] 28))
      obtain ⟨g0, g1, g2, g3, -⟩ := HQ.out _ hb7
      go_wp2_with (first
        | (go_at_call 60; (with_reducible refine (HE.out _ hb7).mono ?_); rintro e w8 ⟨rfl, q, rfl⟩; have hb8 := below_drewN hb7 q)
        | (go_at_call 61; (with_reducible refine (HF.out _ hb8).mono ?_); rintro e w9 ⟨rfl, hb9⟩))
      go_ret2
      exact ⟨rfl, Hc2.out.trans ((hb8.trans (hb9.mono hb8.size)).mono Hc2.out.size)⟩
    | false =>
      rw [hs] at hee
      have He : Hid (errS P Q = 9) := hid_ hee
      have Hr : Hid (resSame P Q = false) := hid_ (by rw [HR.out, He.out]; rfl)
      have HE := hid_ (fun W (hW : Below w2.heap.size w2 W) => hs ▸ equal_calls _ _ _ _ _ _ _ _ W (HA.out.below hW (Nat.le_refl _)) (HB.out.below hW (Nat.le_refl _)))
      rw [He.out, Hr.out]
      clear hee hs
      go_enter Try.func17, Try.ntmps17
      go_wp2_with fail
      go_region_held3 (fun W => W.cell? ⟨w.heap.size, 0, none⟩ = some (.slice a1 n1 c1) ∧ W.cell? ⟨w.heap.size, 1, none⟩ = some (.slice a2 n2 c2) ∧ W.cell? ⟨w.heap.size + 1, 0, none⟩ = some (.slice b1 m1 d1) ∧ W.cell? ⟨w.heap.size + 1, 1, none⟩ = some (.slice b2 m2 d2) ∧ Below w2.heap.size w2 W) ((refine HQ.out _ ?_; (repeat (first | assumption | (with_reducible refine Below.alloc ?_ (by first | omega | (simp; done) | (simp; omega)) _) | (with_reducible refine Below.setCell ?_ (by first | omega | (simp; done) | (simp; omega)) _) | (with_reducible refine Below.drew ?_) | (with_reducible refine below_drewN ?_ _)))))
        (first
          | (go_at_call 52; (with_reducible refine (HV.out _ ?_).mono ?_); (focus (repeat (first | assumption | (with_reducible refine Below.alloc ?_ (by first | omega | (simp; done) | (simp; omega)) _) | (with_reducible refine Below.setCell ?_ (by first | omega | (simp; done) | (simp; omega)) _) | (with_reducible refine Below.drew ?_) | (with_reducible refine below_drewN ?_ _)))); rintro e w5 ⟨rfl, hc5⟩; have hb5 : Below w2.heap.size w2 w5 := below_then (by (repeat (first | assumption | (with_reducible refine Below.alloc ?_ (by first | omega | (simp; done) | (simp; omega)) _) | (with_reducible refine Below.setCell ?_ (by first | omega | (simp; done) | (simp; omega)) _) | (with_reducible refine Below.drew ?_) | (with_reducible refine below_drewN ?_ _)))) hc5; clear hc5; have hs5 := hb5.size)
          | (go_at_call 52; (with_reducible refine (HU.out _ ?_).mono ?_); (focus (repeat (first | assumption | (with_reducible refine Below.alloc ?_ (by first | omega | (simp; done) | (simp; omega)) _) | (with_reducible refine Below.setCell ?_ (by first | omega | (simp; done) | (simp; omega)) _) | (with_reducible refine Below.drew ?_) | (with_reducible refine below_drewN ?_ _)))); rintro e w6 ⟨rfl, hc6⟩; have hb6 : Below w2.heap.size w2 w6 := below_then (by (repeat (first | assumption | (with_reducible refine Below.alloc ?_ (by first | omega | (simp; done) | (simp; omega)) _) | (with_reducible refine Below.setCell ?_ (by first | omega | (simp; done) | (simp; omega)) _) | (with_reducible refine Below.drew ?_) | (with_reducible refine below_drewN ?_ _)))) hc6; clear hc6; have hs6 := hb6.size)
          | (go_at_call 59; (with_reducible refine (HO.out _ _ _ (ints_two _ _ _ _)).mono ?_); rintro e w7 ⟨rfl, rfl⟩))
      have hb7 := (hb6.alloc hb6.size (.cells #[.int .i64 0, .int .i64 0] 28))
      obtain ⟨g0, g1, g2, g3, -⟩ := HQ.out _ hb7
      go_wp2_with (go_at_call 60; (with_reducible refine (HE.out _ hb7).mono ?_); rintro e w8 ⟨rfl, q, rfl⟩; have hb8 := below_drewN hb7 q)
      go_ret2
      exact ⟨rfl, Hc2.out.trans (hb8.mono Hc2.out.size)⟩
  · have hq : (orE (validP P) (validP Q) != 0) = true := by simpa using hz
    have he := errS_or hz
    have Hr : Hid (resSame P Q = false) := hid_ (by rw [HR.out, he, if_neg hz])
    rw [Hr.out, he]
    clear he hz
    generalize orE (validP P) (validP Q) = z at *
    generalize validP P = x at *
    generalize validP Q = y at *
    go_enter Try.func17, Try.ntmps17
    go_wp2_with fail
    go_region_held3 (fun W => W.cell? ⟨w.heap.size, 0, none⟩ = some (.slice a1 n1 c1) ∧ W.cell? ⟨w.heap.size, 1, none⟩ = some (.slice a2 n2 c2) ∧ W.cell? ⟨w.heap.size + 1, 0, none⟩ = some (.slice b1 m1 d1) ∧ W.cell? ⟨w.heap.size + 1, 1, none⟩ = some (.slice b2 m2 d2) ∧ Below w2.heap.size w2 W) ((refine HQ.out _ ?_; (repeat (first | assumption | (with_reducible refine Below.alloc ?_ (by first | omega | (simp; done) | (simp; omega)) _) | (with_reducible refine Below.setCell ?_ (by first | omega | (simp; done) | (simp; omega)) _) | (with_reducible refine Below.drew ?_) | (with_reducible refine below_drewN ?_ _)))))
      (first
        | (go_at_call 52; (with_reducible refine (HV.out _ ?_).mono ?_); (focus (repeat (first | assumption | (with_reducible refine Below.alloc ?_ (by first | omega | (simp; done) | (simp; omega)) _) | (with_reducible refine Below.setCell ?_ (by first | omega | (simp; done) | (simp; omega)) _) | (with_reducible refine Below.drew ?_) | (with_reducible refine below_drewN ?_ _)))); rintro e w5 ⟨rfl, hc5⟩; have hb5 : Below w2.heap.size w2 w5 := below_then (by (repeat (first | assumption | (with_reducible refine Below.alloc ?_ (by first | omega | (simp; done) | (simp; omega)) _) | (with_reducible refine Below.setCell ?_ (by first | omega | (simp; done) | (simp; omega)) _) | (with_reducible refine Below.drew ?_) | (with_reducible refine below_drewN ?_ _)))) hc5; clear hc5; have hs5 := hb5.size)
        | (go_at_call 52; (with_reducible refine (HU.out _ ?_).mono ?_); (focus (repeat (first | assumption | (with_reducible refine Below.alloc ?_ (by first | omega | (simp; done) | (simp; omega)) _) | (with_reducible refine Below.setCell ?_ (by first | omega | (simp; done) | (simp; omega)) _) | (with_reducible refine Below.drew ?_) | (with_reducible refine below_drewN ?_ _)))); rintro e w6 ⟨rfl, hc6⟩; have hb6 : Below w2.heap.size w2 w6 := below_then (by (repeat (first | assumption | (with_reducible refine Below.alloc ?_ (by first | omega | (simp; done) | (simp; omega)) _) | (with_reducible refine Below.setCell ?_ (by first | omega | (simp; done) | (simp; omega)) _) | (with_reducible refine Below.drew ?_) | (with_reducible refine below_drewN ?_ _)))) hc6; clear hc6; have hs6 := hb6.size)
        | (go_at_call 59; (with_reducible refine (HO.out _ _ _ (ints_two _ _ _ _)).mono ?_); rintro e w7 ⟨rfl, rfl⟩))
    have hb7 := (hb6.alloc hb6.size (.cells #[.int .i64 x, .int .i64 y] 28))
    go_wp2
    go_ret2
    exact ⟨rfl, Hc2.out.trans (hb7.mono Hc2.out.size)⟩
end Go.Proofs.Ytdnlpikfibdjoaa
