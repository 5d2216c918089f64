import Derived.Test.YtoopgmoopmbfnaaRn5
import Derived.Test.YtoopgmoopmbfnaaPqr
import Derived.Test.YtoopgmoopmbfnaaMbd
import Derived.Deep.RegionHeld3
import Derived.Laws.EntriesVeiled
namespace Go.Proofs.Ytoopgmoopmbfnaa
open Go.RowKit Go.Proofs.Kv

/-! ### the reference's Rename -/
theorem wpAnyH_stronger {P : Program} {ops : Array Oper} {Q : Exit → Act → World → Prop} {md : Region.Mode} {S S' : World → Prop} (hs : ∀ W, S' W → S W) : ∀ (fuel : Nat) (listed : Array Bool) (a : Act) (w : World), wpAnyH P md ops Q S' fuel listed a w → wpAnyH P md ops Q S fuel listed a w
  | 0, _, _, _, h => h
  | fuel + 1, _, _, _, h => ⟨h.1, fun i hi => wpOp_mono (fun a' w' h' => ⟨hs _ h'.1, wpAnyH_stronger hs fuel _ a' w' h'.2⟩) (h.2 i hi)⟩

def renE (R : Rl) (t : List Int) : Int := if validR R = 0 then (if IsOrd t 6 then 0 else 1) else validR R
def renR (R : Rl) (t : List Int) : Rl := if renE R t = 0 then ⟨nsV t R.f, R.o.map (nsV t), sidV t R.le, sidV t R.ri⟩ else ⟨0, [], [], []⟩
set_option maxRecDepth 100000 in
set_option maxHeartbeats 8000000 in
theorem r2Rename_calls (v : Value) (R : Rl) (a' : Option Addr) (n' c' : Nat) (t : List Int) (w : World) (hr : RuleAt w v R) (h' : IntsAt w a' n' c' t) (l2 : R.le.length ≤ 100) (l3 : R.ri.length ≤ 100) :
    Calls Try.prog 37 #[v, .slice a' n' c'] w fun e w' => ∃ v', e = .returned (.tuple #[v', .int .i64 (renE R t)]) ∧ RuleAt w' v' (renR R t) ∧ Below w.heap.size w w' := by
  have Hr := hid_ hr
  obtain ⟨a1, n1, c1, a2, n2, c2, a3, n3, c3, rfl, h1, h2, h3⟩ := hr
  obtain ⟨w1, hw1⟩ : ∃ w1, (w.alloc (.cells #[.int .i64 R.f, .slice a1 n1 c1, .slice a2 n2 c2, .slice a3 n3 c3] 49)).alloc (.cells #[.int .i64 0, .slice none 0 0, .slice none 0 0, .slice none 0 0] 49) = w1 := ⟨_, rfl⟩
  have hb1 : Below w.heap.size w w1 := by rw [← hw1]; exact (below_alloc _ _).alloc (by simp) _
  have hz : w1.heap.size = w.heap.size + 2 := by rw [← hw1]; simp
  have HS : Hid (∀ W, Below (w.heap.size + 1) w1 W → W.cell? ⟨w.heap.size, 0, none⟩ = some (.int .i64 R.f) ∧ W.cell? ⟨w.heap.size, 1, none⟩ = some (.slice a1 n1 c1) ∧ W.cell? ⟨w.heap.size, 2, none⟩ = some (.slice a2 n2 c2) ∧ W.cell? ⟨w.heap.size, 3, none⟩ = some (.slice a3 n3 c3) ∧ Below (w.heap.size + 1) w1 W) := hid_ (fun W hW => by
    have A : ∀ i, W.cell? ⟨w.heap.size, i, none⟩ = w1.cell? ⟨w.heap.size, i, none⟩ := fun i => hW.cell (by show w.heap.size < _; omega)
    refine ⟨?_, ?_, ?_, ?_, hW⟩ <;> (rw [A, ← hw1]; simp))
  have HRB : Hid (∀ W, Below w1.heap.size w1 W → (W.cell? ⟨w.heap.size + 1, 0, none⟩ = some (.int .i64 0) ∧ W.cell? ⟨w.heap.size + 1, 1, none⟩ = some (.slice none 0 0) ∧ W.cell? ⟨w.heap.size + 1, 2, none⟩ = some (.slice none 0 0) ∧ W.cell? ⟨w.heap.size + 1, 3, none⟩ = some (.slice none 0 0)) ∧ (W.frozen? ⟨w.heap.size + 1, 0, none⟩ = false ∧ W.frozen? ⟨w.heap.size + 1, 1, none⟩ = false ∧ W.frozen? ⟨w.heap.size + 1, 2, none⟩ = false ∧ W.frozen? ⟨w.heap.size + 1, 3, none⟩ = false)) := hid_ (fun W hW => by
    have C : ∀ i, W.cell? ⟨w.heap.size + 1, i, none⟩ = w1.cell? ⟨w.heap.size + 1, i, none⟩ := fun i => hW.cell (by show w.heap.size + 1 < _; omega)
    have F : ∀ i, W.frozen? ⟨w.heap.size + 1, i, none⟩ = w1.frozen? ⟨w.heap.size + 1, i, none⟩ := fun i => hW.frozen (by show w.heap.size + 1 < _; omega)
    have f0 : ∀ i, w1.frozen? ⟨w.heap.size + 1, i, none⟩ = false := fun i => by rw [← hw1]; exact World.frozen?_alloc_at _ _ _ _ (by simp)
    refine ⟨⟨?_, ?_, ?_, ?_⟩, (F _).trans (f0 _), (F _).trans (f0 _), (F _).trans (f0 _), (F _).trans (f0 _)⟩ <;> (rw [C, ← hw1]; simp [World.cell?_alloc_at]))
  have Hb1 := hid_ hb1
  have HV := hid_ (validate_calls _ R w1 (Hr.out.below hb1 (Nat.le_refl _)))
  have HO := hid_ (fun W (hW : Below w1.heap.size w1 W) => refIsOrder_calls a' n' c' t W ((h'.below Hb1.out (Nat.le_refl _)).below hW (Nat.le_refl _)))
  have hbb : Below (w.heap.size + 1) w1 w1 := Below.refl _ _
  have hs1 : w.heap.size + 2 ≤ w1.heap.size := by rw [hz]; exact Nat.le_refl _
  obtain ⟨q0, q1, q2, q3, -⟩ := HS.out w1 hbb
  by_cases he : validR R = 0
  · rw [he] at HV
    cases ho : IsOrd t 6 with
    | true =>
      have hE : renE R t = 0 := by rw [renE, if_pos he, ho]; rfl
      have hR : renR R t = ⟨nsV t R.f, R.o.map (nsV t), sidV t R.le, sidV t R.ri⟩ := if_pos hE
      have h6 : n' = 6 := by rw [← h'.len]; exact (ord_iff.1 ho).1
      obtain ⟨g1, g2, g3, g4, g5, g6⟩ := validR_ok he
      rw [ho] at HO
      rw [hE, hR]
      have ok1 : spOk n' [R.f] := fun x hx => by rw [List.mem_singleton] at hx; omega
      have ok2 : spOk n' R.o := fun x hx => by have := word_range g4 x hx; omega
      have ok3 : spOk n' R.le := fun x hx => by have := setN_range g5 x hx; omega
      have ok4 : spOk n' R.ri := fun x hx => by have := setN_range g6 x hx; omega
      have HT := hid_ (fun W (hW : Below w1.heap.size w1 W) => (h'.below Hb1.out (Nat.le_refl _)).below hW (Nat.le_refl _))
      have HP1 := hid_ (fun W a (hW : Below w1.heap.size w1 W) (hi : IntsAt W a 1 1 [R.f]) => refSpell_calls a 1 1 [R.f] a' n' c' t W hi (HT.out W hW) (by omega) ok1)
      have HP2 := hid_ (fun W (hW : Below w1.heap.size w1 W) => refSpell_calls a1 n1 c1 R.o a' n' c' t W ((h1.below Hb1.out (Nat.le_refl _)).below hW (Nat.le_refl _)) (HT.out W hW) (by have := h1.len; omega) ok2)
      have HP3 := hid_ (fun W (hW : Below w1.heap.size w1 W) => refSides_calls a2 n2 c2 R.le a' n' c' t W ((h2.below Hb1.out (Nat.le_refl _)).below hW (Nat.le_refl _)) (HT.out W hW) (by have := h2.len; omega) ok3)
      have HP4 := hid_ (fun W (hW : Below w1.heap.size w1 W) => refSides_calls a3 n3 c3 R.ri a' n' c' t W ((h3.below Hb1.out (Nat.le_refl _)).below hW (Nat.le_refl _)) (HT.out W hW) (by have := h3.len; omega) ok4)
      generalize R.o.map (nsV t) = M1 at *
      generalize sidV t R.le = M2 at *
      generalize sidV t R.ri = M3 at *
      have HF : Hid (∀ (b off : Nat) (w5 : World), w5.cell? ⟨b, off + 0, none⟩ = some (.int .i64 ((List.map (nsV t) [R.f]).getD 0 0)) → w5.cell? ⟨b, off, none⟩ = some (.int .i64 (nsV t R.f))) := hid_ (fun b off w5 h => h)
      have HLN : Hid ((List.map (nsV t) [R.f]).length = 1) := hid_ rfl
      generalize List.map (nsV t) [R.f] = M0 at *
      generalize nsV t R.f = y at *
      clear h1 h2 h3 hz hb1 he hE hR ho h6 g1 g2 g3 g4 g5 g6 ok1 ok2 ok3 ok4 h'
      go_enter Try.func37, Try.ntmps37
      go_wp2_with (first
        | (go_at_call 83; (with_reducible refine HV.out.mono ?_); rintro e w4 ⟨rfl, hB4⟩; have hb4 : Below (w.heap.size + 1) w1 w4 := hB4.mono (by omega); clear q0 q1 q2 q3; obtain ⟨q0, q1, q2, q3, -⟩ := HS.out w4 hb4)
        | (go_at_call 30; (with_reducible refine (HO.out _ hB4).mono ?_); rintro e wo ⟨rfl, rfl⟩))
      have hI1 : IntsAt ((w4.alloc (.cells #[.int .i64 R.f] 3)).drew) (some ⟨w4.heap.size, 0, none⟩) 1 1 [R.f] := (IntsAt.one w4 R.f 3).drewN 1
      have hB0 : Below w1.heap.size w1 ((w4.alloc (.cells #[.int .i64 R.f] 3)).drew) := Below.drew (hB4.trans ((below_alloc w4 _).mono hB4.size))
      have hs4 := hB4.size
      refine wp_region_held_drew (S := (fun W => W.cell? ⟨w.heap.size, 0, none⟩ = some (.int .i64 R.f) ∧ W.cell? ⟨w.heap.size, 1, none⟩ = some (.slice a1 n1 c1) ∧ W.cell? ⟨w.heap.size, 2, none⟩ = some (.slice a2 n2 c2) ∧ W.cell? ⟨w.heap.size, 3, none⟩ = some (.slice a3 n3 c3) ∧ Below (w.heap.size + 1) w1 W)) (by kernel_rfl) (HS.out _ (Below.drew hb4)) (fun hHeld => ?_)
      refine wpAnyH_take (i := 0) (oi := ?oi0) (v := ?v0) ?hi0 (by kernel_rfl) ?hf0 (by kernel_rfl) ?hQ0 ?hy0 (by assumption) ?rest0
      case hi0 => (simp only [List.getElem?_toArray, List.getElem?_cons_zero]; rfl)
      case hf0 => kernel_rfl
      case hQ0 => exact fun _ _ _ h => h
      case hy0 => (refine Or.inl ⟨by rfl, ?_⟩; intro W hSw; (try dsimp only at hSw); go_simp; try with_reducible rfl)
      try simp only [Act.put, List.setIfInBounds_toArray, List.set_cons_zero, List.set_cons_succ]
      refine wpAnyH_take (i := 1) (oi := ?oi1) (v := ?v1) ?hi1 (by kernel_rfl) ?hf1 (by kernel_rfl) ?hQ1 ?hy1 (by assumption) ?rest1
      case hi1 => (simp only [List.getElem?_toArray, List.getElem?_cons_succ, List.getElem?_cons_zero]; rfl)
      case hf1 => kernel_rfl
      case hQ1 => exact fun _ _ _ h => h
      case hy1 => (refine Or.inl ⟨by rfl, ?_⟩; intro W hSw; (try dsimp only at hSw); go_simp; try with_reducible rfl)
      try simp only [Act.put, List.setIfInBounds_toArray, List.set_cons_zero, List.set_cons_succ]
      refine wpAnyH_take (i := 3) (oi := ?oi3) (v := ?v3) ?hi3 (by kernel_rfl) ?hf3 (by kernel_rfl) ?hQ3 ?hy3 (by assumption) ?rest3
      case hi3 => (simp only [List.getElem?_toArray, List.getElem?_cons_succ, List.getElem?_cons_zero]; rfl)
      case hf3 => kernel_rfl
      case hQ3 => exact fun _ _ _ h => h
      case hy3 => (refine Or.inl ⟨by rfl, ?_⟩; intro W hSw; (try dsimp only at hSw); go_simp; try with_reducible rfl)
      try simp only [Act.put, List.setIfInBounds_toArray, List.set_cons_zero, List.set_cons_succ]
      refine wpAnyH_take (i := 7) (oi := ?oi7) (v := ?v7) ?hi7 (by kernel_rfl) ?hf7 (by kernel_rfl) ?hQ7 ?hy7 (by assumption) ?rest7
      case hi7 => (simp only [List.getElem?_toArray, List.getElem?_cons_succ, List.getElem?_cons_zero]; rfl)
      case hf7 => kernel_rfl
      case hQ7 => exact fun _ _ _ h => h
      case hy7 => (refine Or.inl ⟨by rfl, ?_⟩; intro W hSw; (try dsimp only at hSw); go_simp; try with_reducible rfl)
      try simp only [Act.put, List.setIfInBounds_toArray, List.set_cons_zero, List.set_cons_succ]
      refine wpAnyH_take (i := 8) (oi := ?oi8) (v := ?v8) ?hi8 (by kernel_rfl) ?hf8 (by kernel_rfl) ?hQ8 ?hy8 (by assumption) ?rest8
      case hi8 => (simp only [List.getElem?_toArray, List.getElem?_cons_succ, List.getElem?_cons_zero]; rfl)
      case hf8 => kernel_rfl
      case hQ8 => exact fun _ _ _ h => h
      case hy8 => (refine Or.inl ⟨by rfl, ?_⟩; intro W hSw; (try dsimp only at hSw); go_simp; try with_reducible rfl)
      try simp only [Act.put, List.setIfInBounds_toArray, List.set_cons_zero, List.set_cons_succ]
      refine wpAnyH_take (i := 9) (oi := ?oi9) (v := ?v9) ?hi9 (by kernel_rfl) ?hf9 (by kernel_rfl) ?hQ9 ?hy9 (by assumption) ?rest9
      case hi9 => (simp only [List.getElem?_toArray, List.getElem?_cons_succ, List.getElem?_cons_zero]; rfl)
      case hf9 => kernel_rfl
      case hQ9 => exact fun _ _ _ h => h
      case hy9 => (refine Or.inl ⟨by rfl, ?_⟩; intro W hSw; (try dsimp only at hSw); go_simp; try with_reducible rfl)
      try simp only [Act.put, List.setIfInBounds_toArray, List.set_cons_zero, List.set_cons_succ]
      refine wpAnyH_take (i := 11) (oi := ?oi11) (v := ?v11) ?hi11 (by kernel_rfl) ?hf11 (by kernel_rfl) ?hQ11 ?hy11 (by assumption) ?rest11
      case hi11 => (simp only [List.getElem?_toArray, List.getElem?_cons_succ, List.getElem?_cons_zero]; rfl)
      case hf11 => kernel_rfl
      case hQ11 => exact fun _ _ _ h => h
      case hy11 => (refine Or.inl ⟨by rfl, ?_⟩; intro W hSw; (try dsimp only at hSw); go_simp; try with_reducible rfl)
      try simp only [Act.put, List.setIfInBounds_toArray, List.set_cons_zero, List.set_cons_succ]
      refine wpAnyH_take (i := 12) (oi := ?oi12) (v := ?v12) ?hi12 (by kernel_rfl) ?hf12 (by kernel_rfl) ?hQ12 ?hy12 (by assumption) ?rest12
      case hi12 => (simp only [List.getElem?_toArray, List.getElem?_cons_succ, List.getElem?_cons_zero]; rfl)
      case hf12 => kernel_rfl
      case hQ12 => exact fun _ _ _ h => h
      case hy12 => (refine Or.inl ⟨by rfl, ?_⟩; intro W hSw; (try dsimp only at hSw); go_simp; try with_reducible rfl)
      try simp only [Act.put, List.setIfInBounds_toArray, List.set_cons_zero, List.set_cons_succ]
      refine wpAnyH_take (i := 13) (oi := ?oi13) (v := ?v13) ?hi13 (by kernel_rfl) ?hf13 (by kernel_rfl) ?hQ13 ?hy13 (by assumption) ?rest13
      case hi13 => (simp only [List.getElem?_toArray, List.getElem?_cons_succ, List.getElem?_cons_zero]; rfl)
      case hf13 => kernel_rfl
      case hQ13 => exact fun _ _ _ h => h
      case hy13 => (refine Or.inl ⟨by rfl, ?_⟩; intro W hSw; (try dsimp only at hSw); go_simp; try with_reducible rfl)
      try simp only [Act.put, List.setIfInBounds_toArray, List.set_cons_zero, List.set_cons_succ]
      refine wpAnyH_take (i := 15) (oi := ?oi15) (v := ?v15) ?hi15 (by kernel_rfl) ?hf15 (by kernel_rfl) ?hQ15 ?hy15 (by assumption) ?rest15
      case hi15 => (simp only [List.getElem?_toArray, List.getElem?_cons_succ, List.getElem?_cons_zero]; rfl)
      case hf15 => kernel_rfl
      case hQ15 => exact fun _ _ _ h => h
      case hy15 => (refine Or.inl ⟨by rfl, ?_⟩; intro W hSw; (try dsimp only at hSw); go_simp; try with_reducible rfl)
      try simp only [Act.put, List.setIfInBounds_toArray, List.set_cons_zero, List.set_cons_succ]
      refine wpAnyH_take (i := 16) (oi := ?oi16) (v := ?v16) ?hi16 (by kernel_rfl) ?hf16 (by kernel_rfl) ?hQ16 ?hy16 (by assumption) ?rest16
      case hi16 => (simp only [List.getElem?_toArray, List.getElem?_cons_succ, List.getElem?_cons_zero]; rfl)
      case hf16 => kernel_rfl
      case hQ16 => exact fun _ _ _ h => h
      case hy16 => (refine Or.inl ⟨by rfl, ?_⟩; intro W hSw; (try dsimp only at hSw); go_simp; try with_reducible rfl)
      try simp only [Act.put, List.setIfInBounds_toArray, List.set_cons_zero, List.set_cons_succ]
      refine wpAnyH_take (i := 17) (oi := ?oi17) (v := ?v17) ?hi17 (by kernel_rfl) ?hf17 (by kernel_rfl) ?hQ17 ?hy17 (by assumption) ?rest17
      case hi17 => (simp only [List.getElem?_toArray, List.getElem?_cons_succ, List.getElem?_cons_zero]; rfl)
      case hf17 => kernel_rfl
      case hQ17 => exact fun _ _ _ h => h
      case hy17 => (refine Or.inl ⟨by rfl, ?_⟩; intro W hSw; (try dsimp only at hSw); go_simp; try with_reducible rfl)
      try simp only [Act.put, List.setIfInBounds_toArray, List.set_cons_zero, List.set_cons_succ]
      refine wpAnyH_ready (rs := [2]) (by kernel_rfl) (by simp) ?_
      refine AllReadyH.cons (o := _) (by (simp only [List.getElem?_toArray, List.getElem?_cons_succ, List.getElem?_cons_zero]; rfl)) (fun K hK => ?_) AllReadyH.nil
      go_simp
      refine hK.out _ _ ?_ (fun hHeld1 => ?_)
      · (refine HS.out _ ?_; (repeat (first | assumption | (with_reducible refine Below.setCell ?_ (by first | omega | (simp; done) | (simp; omega)) _) | (with_reducible refine Below.alloc ?_ (by first | omega | (simp; done) | (simp; omega)) _) | (with_reducible refine Below.drew ?_))))
      clear hK K
      try simp only [Act.put, List.setIfInBounds_toArray, List.set_cons_zero, List.set_cons_succ]
      clear hHeld
      refine wpAnyH_ready (rs := [4]) (by kernel_rfl) (by simp) ?_
      refine AllReadyH.cons (o := _) (by (simp only [List.getElem?_toArray, List.getElem?_cons_succ, List.getElem?_cons_zero]; rfl)) (fun K hK => ?_) AllReadyH.nil
      go_simp
      (go_at_call 84; (with_reducible refine (HP1.out _ _ hB0 hI1).mono ?_); rintro e w5 ⟨v5, rfl, hm5⟩; have hB5 : Below w1.heap.size w1 w5 := hB0.trans (hm5.bel.mono hB0.size); have hb5 : Below (w.heap.size + 1) w1 w5 := hB5.mono (by omega); obtain ⟨a5, k5, e5, i5⟩ := hm5.at_; rw [HLN.out] at e5 i5; subst e5; obtain ⟨b5, o5, rfl, -, x5'⟩ := i5.cells 0 (by omega); have x5 := HF.out _ _ _ x5'; have hlb : w.heap.size + 1 < b5 := (by have := hm5.own.lt _ rfl; simp at this; omega); clear x5' i5 hm5)
      refine hK.out _ _ ?_ (fun hHeld2 => ?_)
      · (refine HS.out _ ?_; (repeat (first | assumption | (with_reducible refine Below.setCell ?_ (by first | omega | (simp; done) | (simp; omega)) _) | (with_reducible refine Below.alloc ?_ (by first | omega | (simp; done) | (simp; omega)) _) | (with_reducible refine Below.drew ?_))))
      clear hK K
      try simp only [Act.put, List.setIfInBounds_toArray, List.set_cons_zero, List.set_cons_succ]
      clear hHeld1
      refine wpAnyH_stronger (S' := (fun W => (fun W => W.cell? ⟨w.heap.size, 0, none⟩ = some (.int .i64 R.f) ∧ W.cell? ⟨w.heap.size, 1, none⟩ = some (.slice a1 n1 c1) ∧ W.cell? ⟨w.heap.size, 2, none⟩ = some (.slice a2 n2 c2) ∧ W.cell? ⟨w.heap.size, 3, none⟩ = some (.slice a3 n3 c3) ∧ Below (w.heap.size + 1) w1 W) W ∧ W.cell? ⟨b5, o5, none⟩ = some (.int .i64 y))) (fun W h => h.1) _ _ _ _ ?_
      have hHeld3 : (fun W => (fun W => W.cell? ⟨w.heap.size, 0, none⟩ = some (.int .i64 R.f) ∧ W.cell? ⟨w.heap.size, 1, none⟩ = some (.slice a1 n1 c1) ∧ W.cell? ⟨w.heap.size, 2, none⟩ = some (.slice a2 n2 c2) ∧ W.cell? ⟨w.heap.size, 3, none⟩ = some (.slice a3 n3 c3) ∧ Below (w.heap.size + 1) w1 W) W ∧ W.cell? ⟨b5, o5, none⟩ = some (.int .i64 y)) w5 := ⟨hHeld2, x5⟩
      clear hHeld2
      refine wpAnyH_take (i := 5) (oi := ?oi5) (v := ?v5) ?hi5 (by kernel_rfl) ?hf5 (by kernel_rfl) ?hQ5 ?hy5 (by assumption) ?rest5
      case hi5 => (simp only [List.getElem?_toArray, List.getElem?_cons_succ, List.getElem?_cons_zero]; rfl)
      case hf5 => kernel_rfl
      case hQ5 => exact fun _ _ _ h => h
      case hy5 => (refine Or.inl ⟨by rfl, ?_⟩; intro W hSw; (try dsimp only at hSw); go_simp; try with_reducible rfl)
      try simp only [Act.put, List.setIfInBounds_toArray, List.set_cons_zero, List.set_cons_succ]
      refine wpAnyH_take (i := 6) (oi := ?oi6) (v := ?v6) ?hi6 (by kernel_rfl) ?hf6 (by kernel_rfl) ?hQ6 ?hy6 (by assumption) ?rest6
      case hi6 => (simp only [List.getElem?_toArray, List.getElem?_cons_succ, List.getElem?_cons_zero]; rfl)
      case hf6 => kernel_rfl
      case hQ6 => exact fun _ _ _ h => h
      case hy6 => (refine Or.inl ⟨by rfl, ?_⟩; intro W hSw; (try dsimp only at hSw); go_simp; try with_reducible rfl)
      try simp only [Act.put, List.setIfInBounds_toArray, List.set_cons_zero, List.set_cons_succ]
      refine wpAnyH_ready (rs := [10]) (by kernel_rfl) (by simp) ?_
      refine AllReadyH.cons (o := _) (by (simp only [List.getElem?_toArray, List.getElem?_cons_succ, List.getElem?_cons_zero]; rfl)) (fun K hK => ?_) AllReadyH.nil
      go_simp
      (go_at_call 84; (with_reducible refine (HP2.out _ hB5).mono ?_); rintro e w6 ⟨v6, rfl, hm6⟩; have hB6 : Below w1.heap.size w1 w6 := hB5.trans (hm6.bel.mono hB5.size); have hb6 : Below (w.heap.size + 1) w1 w6 := hB6.mono (by omega); have x6 := (hm6.bel.cell (World.block_lt_of_cell? _ _ x5)).trans x5; obtain ⟨a6, k6, rfl, i6⟩ := hm6.at_; clear i6; have HM6 := hid_ hm6; clear hm6; obtain ⟨⟨r0, r1, r2, r3⟩, f0, f1, f2, f3⟩ := HRB.out w6 hB6)
      refine hK.out _ _ ?_ (fun hHeld4 => ?_)
      · refine ⟨?_, ?_⟩
        · (refine HS.out _ ?_; (repeat (first | assumption | (with_reducible refine Below.setCell ?_ (by first | omega | (simp; done) | (simp; omega)) _) | (with_reducible refine Below.alloc ?_ (by first | omega | (simp; done) | (simp; omega)) _) | (with_reducible refine Below.drew ?_))))
        · (repeat (with_reducible refine (World.cell?_setCell_far _ _ _ _ (by first | omega | (simp; done) | (simp; omega))).trans ?_)); assumption
      clear hK K
      try simp only [Act.put, List.setIfInBounds_toArray, List.set_cons_zero, List.set_cons_succ]
      clear hHeld3
      refine wpAnyH_ready (rs := [14]) (by kernel_rfl) (by simp) ?_
      refine AllReadyH.cons (o := _) (by (simp only [List.getElem?_toArray, List.getElem?_cons_succ, List.getElem?_cons_zero]; rfl)) (fun K hK => ?_) AllReadyH.nil
      go_simp
      (go_at_call 85; (with_reducible refine (HP3.out _ hB6).mono ?_); rintro e w7 ⟨v7, rfl, hm7⟩; have hB7 : Below w1.heap.size w1 w7 := hB6.trans (hm7.bel.mono hB6.size); have hb7 : Below (w.heap.size + 1) w1 w7 := hB7.mono (by omega); have x7 := (hm7.bel.cell (World.block_lt_of_cell? _ _ x6)).trans x6; obtain ⟨a7, k7, rfl, i7⟩ := hm7.at_; clear i7; have HM7 := hid_ hm7; clear hm7; obtain ⟨⟨r0, r1, r2, r3⟩, f0, f1, f2, f3⟩ := HRB.out w7 hB7)
      refine hK.out _ _ ?_ (fun hHeld5 => ?_)
      · refine ⟨?_, ?_⟩
        · (refine HS.out _ ?_; (repeat (first | assumption | (with_reducible refine Below.setCell ?_ (by first | omega | (simp; done) | (simp; omega)) _) | (with_reducible refine Below.alloc ?_ (by first | omega | (simp; done) | (simp; omega)) _) | (with_reducible refine Below.drew ?_))))
        · (repeat (with_reducible refine (World.cell?_setCell_far _ _ _ _ (by first | omega | (simp; done) | (simp; omega))).trans ?_)); assumption
      clear hK K
      try simp only [Act.put, List.setIfInBounds_toArray, List.set_cons_zero, List.set_cons_succ]
      clear hHeld4
      refine wpAnyH_ready (rs := [18]) (by kernel_rfl) (by simp) ?_
      refine AllReadyH.cons (o := _) (by (simp only [List.getElem?_toArray, List.getElem?_cons_succ, List.getElem?_cons_zero]; rfl)) (fun K hK => ?_) AllReadyH.nil
      go_simp
      (go_at_call 85; (with_reducible refine (HP4.out _ hB7).mono ?_); rintro e w8 ⟨v8, rfl, hm8⟩; have hB8 : Below w1.heap.size w1 w8 := hB7.trans (hm8.bel.mono hB7.size); have hb8 : Below (w.heap.size + 1) w1 w8 := hB8.mono (by omega); have x8 := (hm8.bel.cell (World.block_lt_of_cell? _ _ x7)).trans x7; obtain ⟨a8, k8, rfl, i8⟩ := hm8.at_; clear i8; have HM8 := hid_ hm8; clear hm8; obtain ⟨⟨r0, r1, r2, r3⟩, f0, f1, f2, f3⟩ := HRB.out w8 hB8)
      refine hK.out _ _ ?_ (fun hHeld6 => ?_)
      · refine ⟨?_, ?_⟩
        · (refine HS.out _ ?_; (repeat (first | assumption | (with_reducible refine Below.setCell ?_ (by first | omega | (simp; done) | (simp; omega)) _) | (with_reducible refine Below.alloc ?_ (by first | omega | (simp; done) | (simp; omega)) _) | (with_reducible refine Below.drew ?_))))
        · (repeat (with_reducible refine (World.cell?_setCell_far _ _ _ _ (by first | omega | (simp; done) | (simp; omega))).trans ?_)); assumption
      clear hK K
      try simp only [Act.put, List.setIfInBounds_toArray, List.set_cons_zero, List.set_cons_succ]
      clear hHeld5
      refine wpAnyH_take (i := 19) (oi := ?oi19) (v := ?v19) ?hi19 (by kernel_rfl) ?hf19 (by kernel_rfl) ?hQ19 ?hy19 (by assumption) ?rest19
      case hi19 => (simp only [List.getElem?_toArray, List.getElem?_cons_succ, List.getElem?_cons_zero]; rfl)
      case hf19 => kernel_rfl
      case hQ19 => exact fun _ _ _ h => h
      case hy19 => (refine Or.inl ⟨by rfl, ?_⟩; intro W hSw; (try dsimp only at hSw); go_simp; try with_reducible rfl)
      try simp only [Act.put, List.setIfInBounds_toArray, List.set_cons_zero, List.set_cons_succ]
      refine wpAnyH_ready (rs := [20]) (by kernel_rfl) (by simp) ?_
      refine AllReadyH.cons (o := _) (by (simp only [List.getElem?_toArray, List.getElem?_cons_succ, List.getElem?_cons_zero]; rfl)) (fun K hK => ?_) AllReadyH.nil
      go_simp
      refine hK.out _ _ ?_ (fun hHeld7 => ?_)
      · refine ⟨?_, ?_⟩
        · (refine HS.out _ ?_; (repeat (first | assumption | (with_reducible refine Below.setCell ?_ (by first | omega | (simp; done) | (simp; omega)) _) | (with_reducible refine Below.alloc ?_ (by first | omega | (simp; done) | (simp; omega)) _) | (with_reducible refine Below.drew ?_))))
        · (repeat (with_reducible refine (World.cell?_setCell_far _ _ _ _ (by first | omega | (simp; done) | (simp; omega))).trans ?_)); assumption
      clear hK K
      try simp only [Act.put, List.setIfInBounds_toArray, List.set_cons_zero, List.set_cons_succ]
      refine wpAnyH_take (i := 21) (oi := ?oi21) (v := ?v21) ?hi21 (by kernel_rfl) ?hf21 (by kernel_rfl) ?hQ21 ?hy21 (by assumption) ?rest21
      case hi21 => (simp only [List.getElem?_toArray, List.getElem?_cons_succ, List.getElem?_cons_zero]; rfl)
      case hf21 => kernel_rfl
      case hQ21 => exact fun _ _ _ h => h
      case hy21 => (refine Or.inl ⟨by rfl, ?_⟩; intro W hSw; (try dsimp only at hSw); go_simp; try with_reducible rfl)
      try simp only [Act.put, List.setIfInBounds_toArray, List.set_cons_zero, List.set_cons_succ]
      refine wpAnyH_done (by kernel_rfl) ?_ _
      · go_wp2_with fail
        refine bodyPost_ret (v := .tuple #[.agg #[.int .i64 y, .slice a6 M1.length k6, .slice a7 M2.length k7, .slice a8 M3.length k8], .int .i64 0]) ?_ rfl ⟨_, rfl, ?_, ?_⟩
        · simp [results, Try.results37, go_sem, r0, r1, r2, r3]
        · have o6 := own_below (own_below HM6.out.own HM7.out.bel (Nat.le_refl _)) HM8.out.bel (Nat.le_refl _)
          have o7 := own_below HM7.out.own HM8.out.bel (Nat.le_refl _)
          have o8 := HM8.out.own
          have s5 : w.heap.size + 1 < w5.heap.size := by have := hB5.size; omega
          have s6 : w.heap.size + 1 < w6.heap.size := by have := hB6.size; omega
          have s7 : w.heap.size + 1 < w7.heap.size := by have := hB7.size; omega
          refine ⟨_, _, _, _, _, _, _, _, _, rfl, ints_own (own_setCell_lo (own_setCell_lo (own_setCell_lo (own_setCell_lo o6 s5 _ _) s5 _ _) s5 _ _) s5 _ _), ints_own (own_setCell_lo (own_setCell_lo (own_setCell_lo (own_setCell_lo o7 s6 _ _) s6 _ _) s6 _ _) s6 _ _), ints_own (own_setCell_lo (own_setCell_lo (own_setCell_lo (own_setCell_lo o8 s7 _ _) s7 _ _) s7 _ _) s7 _ _)⟩
        · (repeat (with_reducible refine Below.setCell ?_ (by simp) _)); exact Hb1.out.trans (hB8.mono Hb1.out.size)
    | false =>
      have hE : renE R t = 1 := by rw [renE, if_pos he, ho]; rfl
      have hR : renR R t = ⟨0, [], [], []⟩ := by rw [renR, hE]; rfl
      rw [ho] at HO
      rw [hE, hR]
      clear h1 h2 h3 hz hb1 he hE hR ho h'
      go_enter Try.func37, Try.ntmps37
      go_wp2_with (first
        | (go_at_call 83; (with_reducible refine HV.out.mono ?_); rintro e w4 ⟨rfl, hB4⟩)
        | (go_at_call 30; (with_reducible refine (HO.out _ hB4).mono ?_); rintro e wo ⟨rfl, rfl⟩; obtain ⟨⟨r0, r1, r2, r3⟩, f0, f1, f2, f3⟩ := HRB.out w4 hB4))
      refine bodyPost_ret (v := .tuple #[.agg #[.int .i64 0, .slice none 0 0, .slice none 0 0, .slice none 0 0], .int .i64 1]) ?_ rfl ⟨_, rfl, ?_, ?_⟩
      · simp [results, Try.results37, go_sem, r0, r1, r2, r3]
      · exact ⟨_, _, _, _, _, _, _, _, _, rfl, IntsAt.nil _ _ _ (by omega), IntsAt.nil _ _ _ (by omega), IntsAt.nil _ _ _ (by omega)⟩
      · (repeat (with_reducible refine Below.setCell ?_ (by simp) _)); exact Hb1.out.trans (hB4.mono Hb1.out.size)
  · have hE : renE R t = validR R := if_neg he
    have hR : renR R t = ⟨0, [], [], []⟩ := by rw [renR, hE, if_neg he]
    have hq : (validR R != 0) = true := by simpa using he
    rw [hE, hR]
    clear h1 h2 h3 hz hb1 hE hR h'
    generalize validR R = x1 at *
    clear he
    go_enter Try.func37, Try.ntmps37
    go_wp2_with (go_at_call 83; (with_reducible refine HV.out.mono ?_); rintro e w4 ⟨rfl, hB4⟩; obtain ⟨⟨r0, r1, r2, r3⟩, f0, f1, f2, f3⟩ := HRB.out w4 hB4)
    refine bodyPost_ret (v := .tuple #[.agg #[.int .i64 0, .slice none 0 0, .slice none 0 0, .slice none 0 0], .int .i64 x1]) ?_ rfl ⟨_, rfl, ?_, ?_⟩
    · simp [results, Try.results37, go_sem, r0, r1, r2, r3]
    · exact ⟨_, _, _, _, _, _, _, _, _, rfl, IntsAt.nil _ _ _ (by omega), IntsAt.nil _ _ _ (by omega), IntsAt.nil _ _ _ (by omega)⟩
    · (repeat (with_reducible refine Below.setCell ?_ (by simp) _)); exact Hb1.out.trans (hB4.mono Hb1.out.size)
end Go.Proofs.Ytoopgmoopmbfnaa
