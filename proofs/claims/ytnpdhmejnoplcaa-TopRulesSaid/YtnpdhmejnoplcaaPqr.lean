import Derived.Test.YtnpdhmejnoplcaaRz
import Derived.Test.YtnpdhmejnoplcaaPgk
import Derived.Deep.RegionHeld3
import Derived.Laws.EntriesVeiled
namespace Go.Proofs.Ytnpdhmejnoplcaa
open Go.RowKit Go.Proofs.Kv

/-! ### back, Back, Mirror -/
set_option maxRecDepth 100000 in
theorem back_calls (a : Option Addr) (n c : Nat) (l : List Int) (w : World) (h : IntsAt w a n c l) (hn : n ≤ 1000) :
    Calls Try.prog 139 #[.slice a n c] w fun e w' => ∃ v', e = .returned v' ∧ Made 3 w w' v' l.reverse := by
  have HC := hid_ (clone_calls a n c l w h (by omega))
  have hl := h.len
  have HR := hid_ (fun c a W (ho : W.ownsRow w.heap.size 3 1 (.slice a l.length c) l.length (l.map (Value.int .i64))) (hB : w.heap.size ≤ W.heap.size) => reverse_calls w.heap.size l.length c a l W ho hB (by omega))
  clear h hl
  go_enter Try.func139, Try.ntmps139
  go_wp2_with (first
    | (go_at_call 126; refine HC.out.mono ?_; rintro e w3 ⟨v3, rfl, hm3⟩; obtain ⟨a3, c3, rfl, hi3⟩ := hm3.at_; clear hi3; have HM3 := hid_ hm3; clear hm3)
    | (go_at_call 184; with_reducible refine (HR.out _ _ _ HM3.out.own HM3.out.bel.size).mono ?_; rintro e w4 ⟨rfl, hown4, hb4⟩; have Hown4 := hid_ hown4; clear hown4))
  go_ret
  exact ⟨_, rfl, by rw [List.length_reverse]; exact Hown4.out, HM3.out.bel.trans hb4⟩
set_option maxRecDepth 100000 in
theorem ruBack_calls (a : Option Addr) (n c : Nat) (l : List Int) (w : World) (h : IntsAt w a n c l) :
    Calls Try.prog 61 #[.slice a n c] w fun e w' => ∃ v', e = .returned (.tuple #[v', .int .i64 (validW l)]) ∧ Made 3 w w' v' (if validW l = 0 then l.reverse else []) := by
  have HV := hid_ (ruValidateWord_calls a n c l w h)
  by_cases he : validW l = 0
  · have hn8 : n ≤ 8 := by have := (validW_ok he).1; rw [h.len] at this; exact this
    have HB := hid_ (back_calls a n c l w h (by omega))
    rw [he] at HV ⊢
    rw [if_pos rfl]
    clear h he
    go_enter Try.func61, Try.ntmps61
    go_wp2_with (first
      | (go_at_call 35; refine (HV.out).mono ?_; rintro e w' ⟨rfl, rfl⟩)
      | (go_at_call 139; refine HB.out.mono ?_; rintro e w3 ⟨v3, rfl, hm3⟩))
    go_ret2
    exact ⟨_, rfl, hm3⟩
  · have hq : (validW l != 0) = true := by simpa using he
    rw [if_neg he]
    generalize validW l = x1 at *
    clear he h
    go_enter Try.func61, Try.ntmps61
    go_wp2_with (go_at_call 35; refine (HV.out).mono ?_; rintro e w' ⟨rfl, rfl⟩)
    go_ret2
    exact ⟨_, rfl, Made.none_ _ (Below.refl _ _)⟩
end Go.Proofs.Ytnpdhmejnoplcaa
namespace Go.Proofs.Ytnpdhmejnoplcaa
open Go.RowKit Go.Proofs.Kv

/-! ### Mirror -/
def mirR (R : Rl) : Rl := if validR R = 0 then ⟨R.f, R.o.reverse, R.ri, R.le⟩ else ⟨0, [], [], []⟩
theorem own_setCell_lo {w : World} {B E s n : Nat} {v : Value} {xs : List Value} (h : w.ownsRow B E s v n xs) {b : Nat} (hb : b < B) (i : Nat) (u : Value) : (w.setCell ⟨b, i, none⟩ u).ownsRow B E s v n xs :=
  ⟨h.1, h.2.imp id fun ⟨g, cap, cur, h1, h2, h3, h4⟩ => ⟨g, cap, cur, h1, h2, (Below.heap_setCell w ⟨b, i, none⟩ u g (by show g ≠ b; omega)).trans h3, h4⟩⟩
theorem ints_own {w : World} {B E n c : Nat} {a : Option Addr} {l : List Int} (h : w.ownsRow B E 1 (.slice a n c) l.length (l.map (Value.int .i64))) : IntsAt w a n c l := by
  obtain ⟨a', c', e, i⟩ := IntsAt.own h
  injection e with e1 e2 e3
  subst e1; subst e2; subst e3
  exact i
set_option maxRecDepth 100000 in
set_option maxHeartbeats 2000000 in
theorem ruMirror_calls (v : Value) (R : Rl) (w : World) (hr : RuleAt w v R) (l2 : R.le.length ≤ 100) (l3 : R.ri.length ≤ 100) :
    Calls Try.prog 59 #[v] w fun e w' => ∃ v', e = .returned (.tuple #[v', .int .i64 (validR R)]) ∧ RuleAt w' v' (mirR R) ∧ Below w.heap.size w w' := by
  have Hr := hid_ hr
  obtain ⟨a1, n1, c1, a2, n2, c2, a3, n3, c3, rfl, h1, h2, h3⟩ := hr
  obtain ⟨w1, hw1⟩ : ∃ w1, (w.alloc (.cells #[.int .i64 R.f, .slice a1 n1 c1, .slice a2 n2 c2, .slice a3 n3 c3] 24)).alloc (.cells #[.int .i64 0, .slice none 0 0, .slice none 0 0, .slice none 0 0] 24) = w1 := ⟨_, rfl⟩
  have hb1 : Below w.heap.size w w1 := by rw [← hw1]; exact (below_alloc _ _).alloc (by simp) _
  have hz : w1.heap.size = w.heap.size + 2 := by rw [← hw1]; simp
  have HQ : Hid (∀ W, Below w1.heap.size w1 W → (W.cell? ⟨w.heap.size, 0, none⟩ = some (.int .i64 R.f) ∧ W.cell? ⟨w.heap.size, 1, none⟩ = some (.slice a1 n1 c1) ∧ W.cell? ⟨w.heap.size, 2, none⟩ = some (.slice a2 n2 c2) ∧ W.cell? ⟨w.heap.size, 3, none⟩ = some (.slice a3 n3 c3)) ∧ (W.cell? ⟨w.heap.size + 1, 0, none⟩ = some (.int .i64 0) ∧ W.cell? ⟨w.heap.size + 1, 1, none⟩ = some (.slice none 0 0) ∧ W.cell? ⟨w.heap.size + 1, 2, none⟩ = some (.slice none 0 0) ∧ W.cell? ⟨w.heap.size + 1, 3, none⟩ = some (.slice none 0 0)) ∧ (W.frozen? ⟨w.heap.size + 1, 0, none⟩ = false ∧ W.frozen? ⟨w.heap.size + 1, 1, none⟩ = false ∧ W.frozen? ⟨w.heap.size + 1, 2, none⟩ = false ∧ W.frozen? ⟨w.heap.size + 1, 3, none⟩ = false)) := hid_ (fun W hW => by
    have A : ∀ i, W.cell? ⟨w.heap.size, i, none⟩ = w1.cell? ⟨w.heap.size, i, none⟩ := fun i => hW.cell (by show w.heap.size < _; omega)
    have C : ∀ i, W.cell? ⟨w.heap.size + 1, i, none⟩ = w1.cell? ⟨w.heap.size + 1, i, none⟩ := fun i => hW.cell (by show w.heap.size + 1 < _; omega)
    have F : ∀ i, W.frozen? ⟨w.heap.size + 1, i, none⟩ = w1.frozen? ⟨w.heap.size + 1, i, none⟩ := fun i => hW.frozen (by show w.heap.size + 1 < _; omega)
    have f0 : ∀ i, w1.frozen? ⟨w.heap.size + 1, i, none⟩ = false := fun i => by rw [← hw1]; exact World.frozen?_alloc_at _ _ _ _ (by simp)
    refine ⟨⟨?_, ?_, ?_, ?_⟩, ⟨?_, ?_, ?_, ?_⟩, (F _).trans (f0 _), (F _).trans (f0 _), (F _).trans (f0 _), (F _).trans (f0 _)⟩
    · rw [A, ← hw1]; simp
    · rw [A, ← hw1]; simp
    · rw [A, ← hw1]; simp
    · rw [A, ← hw1]; simp
    · rw [C, ← hw1]; simp [World.cell?_alloc_at]
    · rw [C, ← hw1]; simp [World.cell?_alloc_at]
    · rw [C, ← hw1]; simp [World.cell?_alloc_at]
    · rw [C, ← hw1]; simp [World.cell?_alloc_at])
  have Hb1 := hid_ hb1
  have HZ := hid_ hz
  have HV := hid_ (ruValidate_calls _ R w1 (Hr.out.below hb1 (Nat.le_refl _)))
  obtain ⟨⟨k0, k1, k2, k3⟩, -, -⟩ := HQ.out w1 (Below.refl _ _)
  by_cases he : validR R = 0
  · have HM : Hid (mirR R = ⟨R.f, R.o.reverse, R.ri, R.le⟩) := hid_ (if_pos he)
    have ho : n1 ≤ 2 := by have := h1.len; have := (validR_ok he).2.2.1; omega
    have HB := hid_ (fun W (hW : Below w1.heap.size w1 W) => back_calls a1 n1 c1 R.o W ((h1.below Hb1.out (Nat.le_refl _)).below hW (Nat.le_refl _)) (by omega))
    have HC2 := hid_ (fun W (hW : Below w1.heap.size w1 W) => clone_calls a2 n2 c2 R.le W ((h2.below Hb1.out (Nat.le_refl _)).below hW (Nat.le_refl _)) (by have := h2.len; omega))
    have HC3 := hid_ (fun W (hW : Below w1.heap.size w1 W) => clone_calls a3 n3 c3 R.ri W ((h3.below Hb1.out (Nat.le_refl _)).below hW (Nat.le_refl _)) (by have := h3.len; omega))
    rw [he] at HV ⊢
    clear h1 h2 h3 hz hb1 he
    go_enter Try.func59, Try.ntmps59
    go_wp2_with (go_at_call 33; refine HV.out.mono ?_; rintro e w4 ⟨rfl, hb4⟩; obtain ⟨⟨q0, q1, q2, q3⟩, -, -⟩ := HQ.out w4 hb4)
    have HS : Hid (∀ W, Below (w.heap.size + 1) w4 W → W.cell? ⟨w.heap.size, 0, none⟩ = some (.int .i64 R.f) ∧ W.cell? ⟨w.heap.size, 1, none⟩ = some (.slice a1 n1 c1) ∧ W.cell? ⟨w.heap.size, 2, none⟩ = some (.slice a2 n2 c2) ∧ W.cell? ⟨w.heap.size, 3, none⟩ = some (.slice a3 n3 c3) ∧ Below (w.heap.size + 1) w4 W) := hid_ (fun W hW =>
      ⟨(hW.cell (by show w.heap.size < _; omega)).trans q0, (hW.cell (by show w.heap.size < _; omega)).trans q1, (hW.cell (by show w.heap.size < _; omega)).trans q2, (hW.cell (by show w.heap.size < _; omega)).trans q3, hW⟩)
    have hz4 : w.heap.size + 1 ≤ w4.heap.size := by have := HZ.out; have := hb4.size; omega
    have hbd : Below (w.heap.size + 1) w4 w4.drew := Below.drew (Below.refl _ _)
    have hbd1 : Below w1.heap.size w1 w4.drew := Below.drew hb4
    go_region_held3 (fun W => W.cell? ⟨w.heap.size, 0, none⟩ = some (.int .i64 R.f) ∧ W.cell? ⟨w.heap.size, 1, none⟩ = some (.slice a1 n1 c1) ∧ W.cell? ⟨w.heap.size, 2, none⟩ = some (.slice a2 n2 c2) ∧ W.cell? ⟨w.heap.size, 3, none⟩ = some (.slice a3 n3 c3) ∧ Below (w.heap.size + 1) w4 W) (first | exact HS.out _ (by assumption) | exact HS.out _ (Below.setCell (Below.setCell (Below.setCell (Below.setCell (by assumption) (by simp) _) (by simp) _) (by simp) _) (by simp) _) | fail)
      (first
        | (go_at_call 139; refine (HB.out _ hbd1).mono ?_; rintro e w5 ⟨v5, rfl, hm5⟩; have hb5 : Below (w.heap.size + 1) w4 w5 := hbd.trans (hm5.bel.mono (Nat.le_trans hz4 hbd.size)); have hb51 : Below w1.heap.size w1 w5 := hbd1.trans (hm5.bel.mono hbd1.size); obtain ⟨a5, d5, e5, -⟩ := hm5.at_; rw [List.length_reverse] at e5; subst e5; have HM5 := hid_ hm5; clear hm5)
        | (go_at_call 126; with_reducible refine (HC3.out _ hb51).mono ?_; rintro e w6 ⟨v6, rfl, hm6⟩; have hb6 : Below (w.heap.size + 1) w4 w6 := hb5.trans (hm6.bel.mono (Nat.le_trans hz4 hb5.size)); have hb61 : Below w1.heap.size w1 w6 := hb51.trans (hm6.bel.mono hb51.size); obtain ⟨a6, d6, rfl, -⟩ := hm6.at_; have HM6 := hid_ hm6; clear hm6)
        | (go_at_call 126; with_reducible refine (HC2.out _ hb61).mono ?_; rintro e w7 ⟨v7, rfl, hm7⟩; have hb7 : Below (w.heap.size + 1) w4 w7 := hb6.trans (hm7.bel.mono (Nat.le_trans hz4 hb6.size)); have hb71 : Below w1.heap.size w1 w7 := hb61.trans (hm7.bel.mono hb61.size); obtain ⟨a7, d7, rfl, -⟩ := hm7.at_; have HM7 := hid_ hm7; clear hm7; obtain ⟨-, ⟨r0, r1, r2, r3⟩, f0, f1, f2, f3⟩ := HQ.out w7 hb71))
    go_wp2_with fail
    refine bodyPost_ret (v := .tuple #[.agg #[.int .i64 R.f, .slice a5 R.o.length d5, .slice a6 R.ri.length d6, .slice a7 R.le.length d7], .int .i64 0]) ?_ rfl ⟨_, rfl, ?_, ?_⟩
    · simp [results, Try.results59, go_sem, r0, r1, r2, r3]
    · rw [HM.out]
      have hlo : ∀ B, w4.heap.size ≤ B → w.heap.size + 1 < B := fun B hB => by have := HZ.out; have := hb4.size; omega
      have o5 := own_below (own_below HM5.out.own HM6.out.bel (Nat.le_refl _)) HM7.out.bel (Nat.le_refl _)
      have o6 := own_below HM6.out.own HM7.out.bel (Nat.le_refl _)
      have o7 := HM7.out.own
      have s4 : w4.heap.size ≤ w4.drew.heap.size := Nat.le_refl _
      have s5 : w4.heap.size ≤ w5.heap.size := hb5.size
      have s6 : w4.heap.size ≤ w6.heap.size := hb6.size
      refine ⟨_, _, _, _, _, _, _, _, _, rfl, ints_own (own_setCell_lo (own_setCell_lo (own_setCell_lo (own_setCell_lo o5 (hlo _ s4) _ _) (hlo _ s4) _ _) (hlo _ s4) _ _) (hlo _ s4) _ _), ints_own (own_setCell_lo (own_setCell_lo (own_setCell_lo (own_setCell_lo o6 (hlo _ s5) _ _) (hlo _ s5) _ _) (hlo _ s5) _ _) (hlo _ s5) _ _), ints_own (own_setCell_lo (own_setCell_lo (own_setCell_lo (own_setCell_lo o7 (hlo _ s6) _ _) (hlo _ s6) _ _) (hlo _ s6) _ _) (hlo _ s6) _ _)⟩
    · (repeat (with_reducible refine Below.setCell ?_ (by simp) _)); exact Hb1.out.trans (hb71.mono Hb1.out.size)
  · have HM : Hid (mirR R = ⟨0, [], [], []⟩) := hid_ (if_neg he)
    have hq : (validR R != 0) = true := by simpa using he
    clear h1 h2 h3 hz hb1
    generalize validR R = x1 at *
    clear he
    go_enter Try.func59, Try.ntmps59
    go_wp2_with (go_at_call 33; refine HV.out.mono ?_; rintro e w4 ⟨rfl, hb4⟩; obtain ⟨⟨q0, q1, q2, q3⟩, ⟨r0, r1, r2, r3⟩, f0, f1, f2, f3⟩ := HQ.out w4 hb4)
    refine bodyPost_ret (v := .tuple #[.agg #[.int .i64 0, .slice none 0 0, .slice none 0 0, .slice none 0 0], .int .i64 x1]) ?_ rfl ⟨_, rfl, ?_, ?_⟩
    · simp [results, Try.results59, go_sem, r0, r1, r2, r3]
    · rw [HM.out]; exact ⟨_, _, _, _, _, _, _, _, _, rfl, IntsAt.nil _ _ _ (by omega), IntsAt.nil _ _ _ (by omega), IntsAt.nil _ _ _ (by omega)⟩
    · (repeat (with_reducible refine Below.setCell ?_ (by simp) _)); exact Hb1.out.trans (hb4.mono Hb1.out.size)
end Go.Proofs.Ytnpdhmejnoplcaa
