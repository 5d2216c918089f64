import Derived.Test.YtoopgmoopmbfnaaRn6
import Derived.Test.YtoopgmoopmbfnaaSo2
import Derived.Test.YtoopgmoopmbfnaaMbd
import Derived.Test.YtoopgmoopmbfnaaMath
import Derived.Deep.RegionHeld3
import Derived.Laws.EntriesVeiled
namespace Go.Proofs.Ytoopgmoopmbfnaa
open Go.RowKit Go.Proofs.Kv

/-! ### a set in other sounds, sorted -/
theorem sdN_pairwise (m : List Int) (k : Nat) : (sdN m k).Pairwise fun a b => a < b := by
  unfold sdN
  refine List.Pairwise.filter _ ?_
  exact List.pairwise_map.2 (List.pairwise_lt_range.imp fun h => by omega)
theorem mem_sdN {m : List Int} {k : Nat} {x : Int} : x ∈ sdN m k ↔ x ∈ m ∧ -1 ≤ x ∧ x < (k : Int) - 1 := by
  unfold sdN
  simp only [List.mem_filter, List.mem_map, List.mem_range, Has_iff]
  constructor
  · rintro ⟨⟨j, hj, rfl⟩, h⟩; exact ⟨h, by omega, by omega⟩
  · rintro ⟨h, h1, h2⟩; exact ⟨⟨(x + 1).toNat, by omega, by omega⟩, h⟩
theorem ns_range {t : List Int} (ht : IsOrd t 6 = true) {x : Int} (h0 : -1 ≤ x) (h5 : x ≤ 5) : -1 ≤ nsV t x ∧ nsV t x ≤ 5 ∧ (x < 0 ↔ nsV t x < 0) := by
  obtain ⟨h1, h2, -⟩ := ord_iff.1 ht
  unfold nsV
  by_cases hx : x < 0
  · rw [if_pos hx]; exact ⟨h0, h5, Iff.rfl⟩
  · rw [if_neg hx]
    have := h2 _ (getD_mem (l := t) (k := x.toNat) (by omega))
    exact ⟨by omega, by omega, by omega⟩
theorem ns_inj {t : List Int} (ht : IsOrd t 6 = true) {x y : Int} (hx0 : -1 ≤ x) (hx5 : x ≤ 5) (hy0 : -1 ≤ y) (hy5 : y ≤ 5) (h : nsV t x = nsV t y) : x = y := by
  obtain ⟨h1, h2, h3⟩ := ord_iff.1 ht
  have e1 := (ns_range ht hx0 hx5).2.2
  have e2 := (ns_range ht hy0 hy5).2.2
  by_cases hx : x < 0
  · have : y < 0 := by rw [e2, ← h]; exact e1.1 hx
    omega
  · have hy : ¬ y < 0 := by rw [e2, ← h]; intro hc; exact hx (e1.2 hc)
    rw [nsV, nsV, if_neg hx, if_neg hy] at h
    have hxl : x.toNat < t.length := by omega
    have hyl : y.toNat < t.length := by omega
    simp only [List.getD, List.getElem?_eq_getElem hxl, List.getElem?_eq_getElem hyl, Option.getD_some] at h
    have hn := List.pairwise_iff_getElem.1 (List.nodup_iff_pairwise_ne.1 h3)
    rcases Nat.lt_trichotomy x.toNat y.toNat with hc | hc | hc
    · exact absurd h (hn _ _ hxl hyl hc)
    · omega
    · exact absurd h.symm (hn _ _ hyl hxl hc)
theorem set_nodup {l : List Int} (h : setN l = true) : l.Nodup := by
  have hs : ∀ i, (h1 : i + 1 < l.length) → l[i] < l[i + 1] := fun i h1 => by
    simp only [setN, IsSet, List.all_eq_true, List.mem_range] at h
    have := h (i + 1) h1
    simp only [setBad, List.getD, List.getElem?_eq_getElem h1, Option.getD_some, Nat.add_sub_cancel, List.getElem?_eq_getElem (show i < l.length by omega)] at this
    simp at this
    omega
  have hlt : ∀ d i, (h1 : i + d + 1 < l.length) → l[i] < l[i + d + 1] := by
    intro d
    induction d with
    | zero => exact fun i h1 => hs i h1
    | succ d ih => exact fun i h1 => by have a := ih i (by omega); have b := hs (i + d + 1) (by omega); exact Int.lt_trans a b
  rw [List.nodup_iff_pairwise_ne, List.pairwise_iff_getElem]
  intro i j hi hj hij e
  have := hlt (j - i - 1) i (by omega)
  simp only [show i + (j - i - 1) + 1 = j by omega] at this
  omega
theorem sort_sid {t s : List Int} (ht : IsOrd t 6 = true) (hs : setN s = true) : (s.map (nsV t)).mergeSort (fun a b => decide (a ≤ b)) = sidV t s := by
  have hr := setN_range hs
  have hn : (s.map (nsV t)).Nodup := by
    rw [List.nodup_iff_pairwise_ne]
    refine List.pairwise_map.2 ((List.nodup_iff_pairwise_ne.1 (set_nodup hs)).imp_of_mem fun ha hb hne e => hne ?_)
    exact ns_inj ht (hr _ ha).1 (hr _ ha).2 (hr _ hb).1 (hr _ hb).2 e
  have hp : ((s.map (nsV t)).mergeSort (fun a b => decide (a ≤ b))).Perm (s.map (nsV t)) := List.mergeSort_perm _ _
  have hso : ((s.map (nsV t)).mergeSort (fun a b => decide (a ≤ b))).Pairwise fun a b => (decide (a ≤ b)) = true := List.pairwise_mergeSort (fun a b c => by simp; omega) (fun a b => by simp; omega) _
  have hnd := hp.symm.nodup hn
  refine Snd.asc_unique (lt := fun a b : Int => a < b) (fun a => by omega) (fun a b c => by omega) ?_ (sdN_pairwise _ 7) fun x => ?_
  · exact (hso.and (List.nodup_iff_pairwise_ne.1 hnd)).imp fun ⟨h1, h2⟩ => by simp at h1; omega
  · rw [hp.mem_iff, sidV, mem_sdN]
    constructor
    · intro h
      refine ⟨h, ?_⟩
      obtain ⟨y, hy, rfl⟩ := List.mem_map.1 h
      have := ns_range ht (hr y hy).1 (hr y hy).2
      omega
    · exact fun h => h.1

/-! ### the program's Rename -/
set_option maxRecDepth 100000 in
set_option maxHeartbeats 8000000 in
theorem ruRename_calls (v : Value) (R : Rl) (a' : Option Addr) (n' c' : Nat) (t : List Int) (w : World) (hr : RuleAt w v R) (h' : IntsAt w a' n' c' t) (l2 : R.le.length ≤ 100) (l3 : R.ri.length ≤ 100) :
    Calls Try.prog 36 #[v, .slice a' n' c'] w fun e w' => ∃ v', e = .returned (.tuple #[v', .int .i64 (renE R t)]) ∧ RuleAt w' v' (renR R t) ∧ Below w.heap.size w w' := by
  have Hr := hid_ hr
  obtain ⟨a1, n1, c1, a2, n2, c2, a3, n3, c3, rfl, h1, h2, h3⟩ := hr
  obtain ⟨w1, hw1⟩ : ∃ w1, (w.alloc (.cells #[.int .i64 R.f, .slice a1 n1 c1, .slice a2 n2 c2, .slice a3 n3 c3] 49)).alloc (.cells #[.int .i64 0, .slice none 0 0, .slice none 0 0, .slice none 0 0] 49) = w1 := ⟨_, rfl⟩
  have hb1 : Below w.heap.size w w1 := by rw [← hw1]; exact (below_alloc _ _).alloc (by simp) _
  have hz : w1.heap.size = w.heap.size + 2 := by rw [← hw1]; simp
  have HS : Hid (∀ W, Below (w.heap.size + 1) w1 W → W.cell? ⟨w.heap.size, 0, none⟩ = some (.int .i64 R.f) ∧ W.cell? ⟨w.heap.size, 1, none⟩ = some (.slice a1 n1 c1) ∧ W.cell? ⟨w.heap.size, 2, none⟩ = some (.slice a2 n2 c2) ∧ W.cell? ⟨w.heap.size, 3, none⟩ = some (.slice a3 n3 c3) ∧ Below (w.heap.size + 1) w1 W) := hid_ (fun W hW => by
    have A : ∀ i, W.cell? ⟨w.heap.size, i, none⟩ = w1.cell? ⟨w.heap.size, i, none⟩ := fun i => hW.cell (by show w.heap.size < _; omega)
    refine ⟨?_, ?_, ?_, ?_, hW⟩ <;> (rw [A, ← hw1]; simp))
  have HRB : Hid (∀ W, Below w1.heap.size w1 W → (W.cell? ⟨w.heap.size + 1, 0, none⟩ = some (.int .i64 0) ∧ W.cell? ⟨w.heap.size + 1, 1, none⟩ = some (.slice none 0 0) ∧ W.cell? ⟨w.heap.size + 1, 2, none⟩ = some (.slice none 0 0) ∧ W.cell? ⟨w.heap.size + 1, 3, none⟩ = some (.slice none 0 0)) ∧ (W.frozen? ⟨w.heap.size + 1, 0, none⟩ = false ∧ W.frozen? ⟨w.heap.size + 1, 1, none⟩ = false ∧ W.frozen? ⟨w.heap.size + 1, 2, none⟩ = false ∧ W.frozen? ⟨w.heap.size + 1, 3, none⟩ = false)) := hid_ (fun W hW => by
    have C : ∀ i, W.cell? ⟨w.heap.size + 1, i, none⟩ = w1.cell? ⟨w.heap.size + 1, i, none⟩ := fun i => hW.cell (by show w.heap.size + 1 < _; omega)
    have F : ∀ i, W.frozen? ⟨w.heap.size + 1, i, none⟩ = w1.frozen? ⟨w.heap.size + 1, i, none⟩ := fun i => hW.frozen (by show w.heap.size + 1 < _; omega)
    have f0 : ∀ i, w1.frozen? ⟨w.heap.size + 1, i, none⟩ = false := fun i => by rw [← hw1]; exact World.frozen?_alloc_at _ _ _ _ (by simp)
    refine ⟨⟨?_, ?_, ?_, ?_⟩, (F _).trans (f0 _), (F _).trans (f0 _), (F _).trans (f0 _), (F _).trans (f0 _)⟩ <;> (rw [C, ← hw1]; simp [World.cell?_alloc_at]))
  have Hb1 := hid_ hb1
  have HV := hid_ (ruValidate_calls _ R w1 (Hr.out.below hb1 (Nat.le_refl _)))
  have HO := hid_ (fun W (hW : Below w1.heap.size w1 W) => hasEachOnce_calls a' n' c' t W ((h'.below Hb1.out (Nat.le_refl _)).below hW (Nat.le_refl _)))
  have hbb : Below (w.heap.size + 1) w1 w1 := Below.refl _ _
  have hs1 : w.heap.size + 2 ≤ w1.heap.size := by rw [hz]; exact Nat.le_refl _
  obtain ⟨q0, q1, q2, q3, -⟩ := HS.out w1 hbb
  by_cases he : validR R = 0
  · rw [he] at HV
    cases ho : IsOrd t 6 with
    | true =>
      have hE : renE R t = 0 := by rw [renE, if_pos he, ho]; rfl
      have hR : renR R t = ⟨nsV t R.f, R.o.map (nsV t), sidV t R.le, sidV t R.ri⟩ := if_pos hE
      have h6 : n' = 6 := by rw [← h'.len]; exact (ord_iff.1 ho).1
      obtain ⟨g1, g2, g3, g4, g5, g6⟩ := validR_ok he
      rw [ho] at HO
      rw [hE, hR]
      have hw := word_range g4
      have HT := hid_ (fun W (hW : Below w1.heap.size w1 W) => (h'.below Hb1.out (Nat.le_refl _)).below hW (Nat.le_refl _))
      have HP0 := hid_ (fun W (hW : Below w1.heap.size w1 W) => newSound_calls R.f a' n' c' t W (HT.out W hW) h6 g1 g2)
      have HP1 := hid_ (fun W (hW : Below w1.heap.size w1 W) => newSoundsS_calls a1 n1 c1 R.o a' n' c' t W ((h1.below Hb1.out (Nat.le_refl _)).below hW (Nat.le_refl _)) (HT.out W hW) (by have := h1.len; omega) h6 hw)
      have HP2 := hid_ (fun W (hW : Below w1.heap.size w1 W) => newSoundsS_calls a2 n2 c2 R.le a' n' c' t W ((h2.below Hb1.out (Nat.le_refl _)).below hW (Nat.le_refl _)) (HT.out W hW) (by have := h2.len; omega) h6 (setN_range g5))
      have HP3 := hid_ (fun W (hW : Below w1.heap.size w1 W) => newSoundsS_calls a3 n3 c3 R.ri a' n' c' t W ((h3.below Hb1.out (Nat.le_refl _)).below hW (Nat.le_refl _)) (HT.out W hW) (by have := h3.len; omega) h6 (setN_range g6))
      have HN1 : Hid ((R.o.map (nsV t)).length = n1) := hid_ (by rw [List.length_map]; exact h1.len)
      have HN2 : Hid ((R.le.map (nsV t)).length = n2) := hid_ (by rw [List.length_map]; exact h2.len)
      have HN3 : Hid ((R.ri.map (nsV t)).length = n3) := hid_ (by rw [List.length_map]; exact h3.len)
      have HL2 : Hid ((R.le.map (nsV t)).length ≤ 100) := hid_ (by rw [List.length_map]; exact l2)
      have HL3 : Hid ((R.ri.map (nsV t)).length ≤ 100) := hid_ (by rw [List.length_map]; exact l3)
      have HE2 := hid_ (sort_sid ho g5)
      have HE3 := hid_ (sort_sid ho g6)
      have hB1 : w1.heap.size ≤ w1.heap.size := Nat.le_refl _
      have hs1' : w.heap.size + 1 ≤ w1.heap.size := by omega
      generalize R.o.map (nsV t) = M1 at *
      generalize R.le.map (nsV t) = M2 at *
      generalize R.ri.map (nsV t) = M3 at *
      generalize sidV t R.le = N2 at *
      generalize sidV t R.ri = N3 at *
      generalize nsV t R.f = y at *
      clear h1 h2 h3 hz hb1 he hE hR ho h6 g1 g2 g3 g4 g5 g6 hw h' l2 l3
      go_enter Try.func36, Try.ntmps36
      go_wp2_with (first
        | (go_at_call 78; (with_reducible refine HV.out.mono ?_); rintro e w4 ⟨rfl, hB4⟩; have hb4 : Below (w.heap.size + 1) w1 w4 := hB4.mono (by omega); clear q0 q1 q2 q3; obtain ⟨q0, q1, q2, q3, -⟩ := HS.out w4 hb4)
        | (go_at_call 79; (with_reducible refine (HO.out _ hB4).mono ?_); rintro e wo ⟨rfl, hBo⟩; have hBO : Below w1.heap.size w1 wo := hB4.trans (hBo.mono hB4.size)))
      have RS0 : RenSt w1.heap.size w1 [] wo.drew := RenSt.nil (Below.drew hBO)
      go_cut [7] (fun s7 wx => RenBox w1.heap.size w1 y M1 M2 M3 s7 wx)
      case first =>
        refine wp_region_held_drew (S := (fun W => W.cell? ⟨w.heap.size, 0, none⟩ = some (.int .i64 R.f) ∧ W.cell? ⟨w.heap.size, 1, none⟩ = some (.slice a1 n1 c1) ∧ W.cell? ⟨w.heap.size, 2, none⟩ = some (.slice a2 n2 c2) ∧ W.cell? ⟨w.heap.size, 3, none⟩ = some (.slice a3 n3 c3) ∧ Below (w.heap.size + 1) w1 W)) (by kernel_rfl) (HS.out _ (RS0.bel.mono (by omega))) (fun hH0 => ?_)
        obtain ⟨wd, hwd⟩ : ∃ wd, wo.drew = wd := ⟨_, rfl⟩
        rw [hwd] at RS0 hH0 ⊢
        clear hwd
        refine wpAnyH_take (i := 0) (oi := ?oi1) (v := ?v1) ?hi1 (by kernel_rfl) ?hf1 (by kernel_rfl) ?hQ1 ?hy1 (by assumption) ?rest1
        case hi1 => (simp only [List.getElem?_toArray, List.getElem?_cons_zero]; rfl)
        case hf1 => kernel_rfl
        case hQ1 => exact fun _ _ _ h => h
        case hy1 => (refine Or.inl ⟨by rfl, ?_⟩; intro W hSw; (try dsimp only at hSw); go_simp; try with_reducible rfl)
        try simp only [Act.put, List.setIfInBounds_toArray, List.set_cons_zero, List.set_cons_succ]
        refine wpAnyH_take (i := 1) (oi := ?oi2) (v := ?v2) ?hi2 (by kernel_rfl) ?hf2 (by kernel_rfl) ?hQ2 ?hy2 (by assumption) ?rest2
        case hi2 => (simp only [List.getElem?_toArray, List.getElem?_cons_succ, List.getElem?_cons_zero]; rfl)
        case hf2 => kernel_rfl
        case hQ2 => exact fun _ _ _ h => h
        case hy2 => (refine Or.inl ⟨by rfl, ?_⟩; intro W hSw; (try dsimp only at hSw); go_simp; try with_reducible rfl)
        try simp only [Act.put, List.setIfInBounds_toArray, List.set_cons_zero, List.set_cons_succ]
        refine wpAnyH_take (i := 2) (oi := ?oi3) (v := ?v3) ?hi3 (by kernel_rfl) ?hf3 (by kernel_rfl) ?hQ3 ?hy3 (by assumption) ?rest3
        case hi3 => (simp only [List.getElem?_toArray, List.getElem?_cons_succ, List.getElem?_cons_zero]; rfl)
        case hf3 => kernel_rfl
        case hQ3 => exact fun _ _ _ h => h
        case hy3 => (refine Or.inl ⟨by rfl, ?_⟩; intro W hSw; (try dsimp only at hSw); go_simp; try with_reducible rfl)
        try simp only [Act.put, List.setIfInBounds_toArray, List.set_cons_zero, List.set_cons_succ]
        refine wpAnyH_take (i := 4) (oi := ?oi4) (v := ?v4) ?hi4 (by kernel_rfl) ?hf4 (by kernel_rfl) ?hQ4 ?hy4 (by assumption) ?rest4
        case hi4 => (simp only [List.getElem?_toArray, List.getElem?_cons_succ, List.getElem?_cons_zero]; rfl)
        case hf4 => kernel_rfl
        case hQ4 => exact fun _ _ _ h => h
        case hy4 => (refine Or.inl ⟨by rfl, ?_⟩; intro W hSw; (try dsimp only at hSw); go_simp; try with_reducible rfl)
        try simp only [Act.put, List.setIfInBounds_toArray, List.set_cons_zero, List.set_cons_succ]
        refine wpAnyH_take (i := 5) (oi := ?oi5) (v := ?v5) ?hi5 (by kernel_rfl) ?hf5 (by kernel_rfl) ?hQ5 ?hy5 (by assumption) ?rest5
        case hi5 => (simp only [List.getElem?_toArray, List.getElem?_cons_succ, List.getElem?_cons_zero]; rfl)
        case hf5 => kernel_rfl
        case hQ5 => exact fun _ _ _ h => h
        case hy5 => (refine Or.inl ⟨by rfl, ?_⟩; intro W hSw; (try dsimp only at hSw); go_simp; try with_reducible rfl)
        try simp only [Act.put, List.setIfInBounds_toArray, List.set_cons_zero, List.set_cons_succ]
        refine wpAnyH_take (i := 6) (oi := ?oi6) (v := ?v6) ?hi6 (by kernel_rfl) ?hf6 (by kernel_rfl) ?hQ6 ?hy6 (by assumption) ?rest6
        case hi6 => (simp only [List.getElem?_toArray, List.getElem?_cons_succ, List.getElem?_cons_zero]; rfl)
        case hf6 => kernel_rfl
        case hQ6 => exact fun _ _ _ h => h
        case hy6 => (refine Or.inl ⟨by rfl, ?_⟩; intro W hSw; (try dsimp only at hSw); go_simp; try with_reducible rfl)
        try simp only [Act.put, List.setIfInBounds_toArray, List.set_cons_zero, List.set_cons_succ]
        refine wpAnyH_take (i := 8) (oi := ?oi7) (v := ?v7) ?hi7 (by kernel_rfl) ?hf7 (by kernel_rfl) ?hQ7 ?hy7 (by assumption) ?rest7
        case hi7 => (simp only [List.getElem?_toArray, List.getElem?_cons_succ, List.getElem?_cons_zero]; rfl)
        case hf7 => kernel_rfl
        case hQ7 => exact fun _ _ _ h => h
        case hy7 => (refine Or.inl ⟨by rfl, ?_⟩; intro W hSw; (try dsimp only at hSw); go_simp; try with_reducible rfl)
        try simp only [Act.put, List.setIfInBounds_toArray, List.set_cons_zero, List.set_cons_succ]
        refine wpAnyH_take (i := 9) (oi := ?oi8) (v := ?v8) ?hi8 (by kernel_rfl) ?hf8 (by kernel_rfl) ?hQ8 ?hy8 (by assumption) ?rest8
        case hi8 => (simp only [List.getElem?_toArray, List.getElem?_cons_succ, List.getElem?_cons_zero]; rfl)
        case hf8 => kernel_rfl
        case hQ8 => exact fun _ _ _ h => h
        case hy8 => (refine Or.inl ⟨by rfl, ?_⟩; intro W hSw; (try dsimp only at hSw); go_simp; try with_reducible rfl)
        try simp only [Act.put, List.setIfInBounds_toArray, List.set_cons_zero, List.set_cons_succ]
        refine wpAnyH_take (i := 10) (oi := ?oi9) (v := ?v9) ?hi9 (by kernel_rfl) ?hf9 (by kernel_rfl) ?hQ9 ?hy9 (by assumption) ?rest9
        case hi9 => (simp only [List.getElem?_toArray, List.getElem?_cons_succ, List.getElem?_cons_zero]; rfl)
        case hf9 => kernel_rfl
        case hQ9 => exact fun _ _ _ h => h
        case hy9 => (refine Or.inl ⟨by rfl, ?_⟩; intro W hSw; (try dsimp only at hSw); go_simp; try with_reducible rfl)
        try simp only [Act.put, List.setIfInBounds_toArray, List.set_cons_zero, List.set_cons_succ]
        refine wpAnyH_take (i := 12) (oi := ?oi10) (v := ?v10) ?hi10 (by kernel_rfl) ?hf10 (by kernel_rfl) ?hQ10 ?hy10 (by assumption) ?rest10
        case hi10 => (simp only [List.getElem?_toArray, List.getElem?_cons_succ, List.getElem?_cons_zero]; rfl)
        case hf10 => kernel_rfl
        case hQ10 => exact fun _ _ _ h => h
        case hy10 => (refine Or.inl ⟨by rfl, ?_⟩; intro W hSw; (try dsimp only at hSw); go_simp; try with_reducible rfl)
        try simp only [Act.put, List.setIfInBounds_toArray, List.set_cons_zero, List.set_cons_succ]
        refine wpAnyH_take (i := 13) (oi := ?oi11) (v := ?v11) ?hi11 (by kernel_rfl) ?hf11 (by kernel_rfl) ?hQ11 ?hy11 (by assumption) ?rest11
        case hi11 => (simp only [List.getElem?_toArray, List.getElem?_cons_succ, List.getElem?_cons_zero]; rfl)
        case hf11 => kernel_rfl
        case hQ11 => exact fun _ _ _ h => h
        case hy11 => (refine Or.inl ⟨by rfl, ?_⟩; intro W hSw; (try dsimp only at hSw); go_simp; try with_reducible rfl)
        try simp only [Act.put, List.setIfInBounds_toArray, List.set_cons_zero, List.set_cons_succ]
        refine wpAnyH_take (i := 14) (oi := ?oi12) (v := ?v12) ?hi12 (by kernel_rfl) ?hf12 (by kernel_rfl) ?hQ12 ?hy12 (by assumption) ?rest12
        case hi12 => (simp only [List.getElem?_toArray, List.getElem?_cons_succ, List.getElem?_cons_zero]; rfl)
        case hf12 => kernel_rfl
        case hQ12 => exact fun _ _ _ h => h
        case hy12 => (refine Or.inl ⟨by rfl, ?_⟩; intro W hSw; (try dsimp only at hSw); go_simp; try with_reducible rfl)
        try simp only [Act.put, List.setIfInBounds_toArray, List.set_cons_zero, List.set_cons_succ]
        refine wpAnyH_ready (rs := [3, 17]) (by kernel_rfl) (by simp) ?_
        refine AllReadyH.cons (o := _) (by (simp only [List.getElem?_toArray, List.getElem?_cons_succ, List.getElem?_cons_zero]; rfl)) (fun K hK => ?_) (AllReadyH.cons (o := _) (by (simp only [List.getElem?_toArray, List.getElem?_cons_succ, List.getElem?_cons_zero]; rfl)) (fun K hK => ?_) AllReadyH.nil)
        · skip
          go_simp
          (go_at_call 80; (with_reducible refine (HP0.out _ RS0.bel).mono ?_); rintro e w5 ⟨rfl, rfl⟩; have RS1 := RS0)
          refine hK.out _ _ ?_ (fun hH0a => ?_)
          · exact HS.out _ (RS1.bel.mono (by omega))
          clear hK K
          try simp only [Act.put, List.setIfInBounds_toArray, List.set_cons_zero, List.set_cons_succ]
          clear hH0 RS0
          refine wpAnyH_ready (rs := [7, 17]) (by kernel_rfl) (by simp) ?_
          refine AllReadyH.cons (o := _) (by (simp only [List.getElem?_toArray, List.getElem?_cons_succ, List.getElem?_cons_zero]; rfl)) (fun K hK => ?_) (AllReadyH.cons (o := _) (by (simp only [List.getElem?_toArray, List.getElem?_cons_succ, List.getElem?_cons_zero]; rfl)) (fun K hK => ?_) AllReadyH.nil)
          · skip
            go_simp
            (go_at_call 81; (with_reducible refine (HP1.out _ RS1.bel).mono ?_); rintro e w6 ⟨g1, rfl, hm1⟩; have RS2 := RS1.row hB1 hm1 HN1.out; clear hm1)
            refine hK.out _ _ ?_ (fun hH1a => ?_)
            · exact HS.out _ (RS2.bel.mono (by omega))
            clear hK K
            try simp only [Act.put, List.setIfInBounds_toArray, List.set_cons_zero, List.set_cons_succ]
            clear hH0a RS1
            refine wpAnyH_ready (rs := [11, 17]) (by kernel_rfl) (by simp) ?_
            refine AllReadyH.cons (o := _) (by (simp only [List.getElem?_toArray, List.getElem?_cons_succ, List.getElem?_cons_zero]; rfl)) (fun K hK => ?_) (AllReadyH.cons (o := _) (by (simp only [List.getElem?_toArray, List.getElem?_cons_succ, List.getElem?_cons_zero]; rfl)) (fun K hK => ?_) AllReadyH.nil)
            · skip
              go_simp
              (go_at_call 81; (with_reducible refine (HP2.out _ RS2.bel).mono ?_); rintro e w7 ⟨g2, rfl, hm2⟩; have RS3 := RS2.row hB1 hm2 HN2.out; clear hm2)
              refine hK.out _ _ ?_ (fun hH2a => ?_)
              · exact HS.out _ (RS3.bel.mono (by omega))
              clear hK K
              try simp only [Act.put, List.setIfInBounds_toArray, List.set_cons_zero, List.set_cons_succ]
              clear hH1a RS2
              refine wpAnyH_ready (rs := [15, 17]) (by kernel_rfl) (by simp) ?_
              refine AllReadyH.cons (o := _) (by (simp only [List.getElem?_toArray, List.getElem?_cons_succ, List.getElem?_cons_zero]; rfl)) (fun K hK => ?_) (AllReadyH.cons (o := _) (by (simp only [List.getElem?_toArray, List.getElem?_cons_succ, List.getElem?_cons_zero]; rfl)) (fun K hK => ?_) AllReadyH.nil)
              · skip
                go_simp
                (go_at_call 81; (with_reducible refine (HP3.out _ RS3.bel).mono ?_); rintro e w8 ⟨g3, rfl, hm3⟩; have RS4 := RS3.row hB1 hm3 HN3.out; clear hm3)
                refine hK.out _ _ ?_ (fun hH3a => ?_)
                · exact HS.out _ (RS4.bel.mono (by omega))
                clear hK K
                try simp only [Act.put, List.setIfInBounds_toArray, List.set_cons_zero, List.set_cons_succ]
                clear hH2a RS3
                refine wpAnyH_take (i := 16) (oi := ?oi13) (v := ?v13) ?hi13 (by kernel_rfl) ?hf13 (by kernel_rfl) ?hQ13 ?hy13 (by assumption) ?rest13
                case hi13 => (simp only [List.getElem?_toArray, List.getElem?_cons_succ, List.getElem?_cons_zero]; rfl)
                case hf13 => kernel_rfl
                case hQ13 => exact fun _ _ _ h => h
                case hy13 => (refine Or.inl ⟨by rfl, ?_⟩; intro W hSw; (try dsimp only at hSw); go_simp; try with_reducible rfl)
                try simp only [Act.put, List.setIfInBounds_toArray, List.set_cons_zero, List.set_cons_succ]
                refine wpAnyH_ready (rs := [17]) (by kernel_rfl) (by simp) ?_
                refine AllReadyH.cons (o := _) (by (simp only [List.getElem?_toArray, List.getElem?_cons_succ, List.getElem?_cons_zero]; rfl)) (fun K hK => ?_) AllReadyH.nil
                go_simp
                refine RenP.letter (motive := fun W => K _ W) (RS4.box (T := 49) hB1) (fun wA RSA => ?_)
                refine hK.out _ _ (HS.out _ (RSA.st.bel.mono (by omega))) (fun hH4a => ?_)
                clear hK K
                try simp only [Act.put, List.setIfInBounds_toArray, List.set_cons_zero, List.set_cons_succ]
                clear hH3a RS4
                have RS4 := RSA
                have r0 := RS4.c0
                have r1 := RS4.c1
                have r2 := RS4.c2
                have r3 := RS4.c3
                have f0 := RS4.fz 0
                have f1 := RS4.fz 1
                have f2 := RS4.fz 2
                have f3 := RS4.fz 3
                have llo := RS4.lo
                refine wpAnyH_ready (rs := [18]) (by kernel_rfl) (by simp) ?_
                refine AllReadyH.cons (o := _) (by (simp only [List.getElem?_toArray, List.getElem?_cons_succ, List.getElem?_cons_zero]; rfl)) (fun K hK => ?_) AllReadyH.nil
                go_simp
                refine hK.out _ _ ?_ (fun hHz => ?_)
                · (exact HS.out _ (((((RS4.st.bel.mono (by omega)).setCell (Nat.le_trans hs1' RS4.lo) _).setCell (Nat.le_trans hs1' RS4.lo) _).setCell (Nat.le_trans hs1' RS4.lo) _).setCell (Nat.le_trans hs1' RS4.lo) _))
                clear hK K
                try simp only [Act.put, List.setIfInBounds_toArray, List.set_cons_zero, List.set_cons_succ]
                refine wpAnyH_done (by kernel_rfl) ?_ _
                clear r0 r1 r2 r3 f0 f1 f2 f3 llo hHz hH4a
                go_wp2_with fail
                go_meet
                exact RS4.stored' y HN1.out HN2.out HN3.out
              · skip
                go_simp
                refine RenP.letter (motive := fun W => K _ W) (RS3.box (T := 49) hB1) (fun wA RSA => ?_)
                refine hK.out _ _ (HS.out _ (RSA.st.bel.mono (by omega))) (fun hH3a => ?_)
                clear hK K
                try simp only [Act.put, List.setIfInBounds_toArray, List.set_cons_zero, List.set_cons_succ]
                clear hH2a RS3
                have RS3 := RSA
                clear RSA
                refine wpAnyH_ready (rs := [15]) (by kernel_rfl) (by simp) ?_
                refine AllReadyH.cons (o := _) (by (simp only [List.getElem?_toArray, List.getElem?_cons_succ, List.getElem?_cons_zero]; rfl)) (fun K hK => ?_) AllReadyH.nil
                go_simp
                (go_at_call 81; (with_reducible refine (HP3.out _ RS3.st.bel).mono ?_); rintro e w8 ⟨g3, rfl, hm3⟩; have RS4 := RS3.row hB1 hm3 HN3.out; clear hm3)
                refine hK.out _ _ ?_ (fun hH3b => ?_)
                · exact HS.out _ (RS4.st.bel.mono (by omega))
                clear hK K
                try simp only [Act.put, List.setIfInBounds_toArray, List.set_cons_zero, List.set_cons_succ]
                clear hH3a RS3
                refine wpAnyH_take (i := 16) (oi := ?oi15) (v := ?v15) ?hi15 (by kernel_rfl) ?hf15 (by kernel_rfl) ?hQ15 ?hy15 (by assumption) ?rest15
                case hi15 => (simp only [List.getElem?_toArray, List.getElem?_cons_succ, List.getElem?_cons_zero]; rfl)
                case hf15 => kernel_rfl
                case hQ15 => exact fun _ _ _ h => h
                case hy15 => (refine Or.inl ⟨by rfl, ?_⟩; intro W hSw; (try dsimp only at hSw); go_simp; try with_reducible rfl)
                try simp only [Act.put, List.setIfInBounds_toArray, List.set_cons_zero, List.set_cons_succ]
                have r0 := RS4.c0
                have r1 := RS4.c1
                have r2 := RS4.c2
                have r3 := RS4.c3
                have f0 := RS4.fz 0
                have f1 := RS4.fz 1
                have f2 := RS4.fz 2
                have f3 := RS4.fz 3
                have llo := RS4.lo
                refine wpAnyH_ready (rs := [18]) (by kernel_rfl) (by simp) ?_
                refine AllReadyH.cons (o := _) (by (simp only [List.getElem?_toArray, List.getElem?_cons_succ, List.getElem?_cons_zero]; rfl)) (fun K hK => ?_) AllReadyH.nil
                go_simp
                refine hK.out _ _ ?_ (fun hHz => ?_)
                · (exact HS.out _ (((((RS4.st.bel.mono (by omega)).setCell (Nat.le_trans hs1' RS4.lo) _).setCell (Nat.le_trans hs1' RS4.lo) _).setCell (Nat.le_trans hs1' RS4.lo) _).setCell (Nat.le_trans hs1' RS4.lo) _))
                clear hK K
                try simp only [Act.put, List.setIfInBounds_toArray, List.set_cons_zero, List.set_cons_succ]
                refine wpAnyH_done (by kernel_rfl) ?_ _
                clear r0 r1 r2 r3 f0 f1 f2 f3 llo hHz hH3b
                go_wp2_with fail
                go_meet
                exact RS4.stored' y HN1.out HN2.out HN3.out
            · skip
              go_simp
              refine RenP.letter (motive := fun W => K _ W) (RS2.box (T := 49) hB1) (fun wA RSA => ?_)
              refine hK.out _ _ (HS.out _ (RSA.st.bel.mono (by omega))) (fun hH2a => ?_)
              clear hK K
              try simp only [Act.put, List.setIfInBounds_toArray, List.set_cons_zero, List.set_cons_succ]
              clear hH1a RS2
              have RS2 := RSA
              clear RSA
              refine wpAnyH_ready (rs := [11]) (by kernel_rfl) (by simp) ?_
              refine AllReadyH.cons (o := _) (by (simp only [List.getElem?_toArray, List.getElem?_cons_succ, List.getElem?_cons_zero]; rfl)) (fun K hK => ?_) AllReadyH.nil
              go_simp
              (go_at_call 81; (with_reducible refine (HP2.out _ RS2.st.bel).mono ?_); rintro e w7 ⟨g2, rfl, hm2⟩; have RS3 := RS2.row hB1 hm2 HN2.out; clear hm2)
              refine hK.out _ _ ?_ (fun hH2b => ?_)
              · exact HS.out _ (RS3.st.bel.mono (by omega))
              clear hK K
              try simp only [Act.put, List.setIfInBounds_toArray, List.set_cons_zero, List.set_cons_succ]
              clear hH2a RS2
              refine wpAnyH_ready (rs := [15]) (by kernel_rfl) (by simp) ?_
              refine AllReadyH.cons (o := _) (by (simp only [List.getElem?_toArray, List.getElem?_cons_succ, List.getElem?_cons_zero]; rfl)) (fun K hK => ?_) AllReadyH.nil
              go_simp
              (go_at_call 81; (with_reducible refine (HP3.out _ RS3.st.bel).mono ?_); rintro e w8 ⟨g3, rfl, hm3⟩; have RS4 := RS3.row hB1 hm3 HN3.out; clear hm3)
              refine hK.out _ _ ?_ (fun hH3b => ?_)
              · exact HS.out _ (RS4.st.bel.mono (by omega))
              clear hK K
              try simp only [Act.put, List.setIfInBounds_toArray, List.set_cons_zero, List.set_cons_succ]
              clear hH2b RS3
              refine wpAnyH_take (i := 16) (oi := ?oi16) (v := ?v16) ?hi16 (by kernel_rfl) ?hf16 (by kernel_rfl) ?hQ16 ?hy16 (by assumption) ?rest16
              case hi16 => (simp only [List.getElem?_toArray, List.getElem?_cons_succ, List.getElem?_cons_zero]; rfl)
              case hf16 => kernel_rfl
              case hQ16 => exact fun _ _ _ h => h
              case hy16 => (refine Or.inl ⟨by rfl, ?_⟩; intro W hSw; (try dsimp only at hSw); go_simp; try with_reducible rfl)
              try simp only [Act.put, List.setIfInBounds_toArray, List.set_cons_zero, List.set_cons_succ]
              have r0 := RS4.c0
              have r1 := RS4.c1
              have r2 := RS4.c2
              have r3 := RS4.c3
              have f0 := RS4.fz 0
              have f1 := RS4.fz 1
              have f2 := RS4.fz 2
              have f3 := RS4.fz 3
              have llo := RS4.lo
              refine wpAnyH_ready (rs := [18]) (by kernel_rfl) (by simp) ?_
              refine AllReadyH.cons (o := _) (by (simp only [List.getElem?_toArray, List.getElem?_cons_succ, List.getElem?_cons_zero]; rfl)) (fun K hK => ?_) AllReadyH.nil
              go_simp
              refine hK.out _ _ ?_ (fun hHz => ?_)
              · (exact HS.out _ (((((RS4.st.bel.mono (by omega)).setCell (Nat.le_trans hs1' RS4.lo) _).setCell (Nat.le_trans hs1' RS4.lo) _).setCell (Nat.le_trans hs1' RS4.lo) _).setCell (Nat.le_trans hs1' RS4.lo) _))
              clear hK K
              try simp only [Act.put, List.setIfInBounds_toArray, List.set_cons_zero, List.set_cons_succ]
              refine wpAnyH_done (by kernel_rfl) ?_ _
              clear r0 r1 r2 r3 f0 f1 f2 f3 llo hHz hH3b
              go_wp2_with fail
              go_meet
              exact RS4.stored' y HN1.out HN2.out HN3.out
          · skip
            go_simp
            refine RenP.letter (motive := fun W => K _ W) (RS1.box (T := 49) hB1) (fun wA RSA => ?_)
            refine hK.out _ _ (HS.out _ (RSA.st.bel.mono (by omega))) (fun hH1a => ?_)
            clear hK K
            try simp only [Act.put, List.setIfInBounds_toArray, List.set_cons_zero, List.set_cons_succ]
            clear hH0a RS1
            have RS1 := RSA
            clear RSA
            refine wpAnyH_ready (rs := [7]) (by kernel_rfl) (by simp) ?_
            refine AllReadyH.cons (o := _) (by (simp only [List.getElem?_toArray, List.getElem?_cons_succ, List.getElem?_cons_zero]; rfl)) (fun K hK => ?_) AllReadyH.nil
            go_simp
            (go_at_call 81; (with_reducible refine (HP1.out _ RS1.st.bel).mono ?_); rintro e w6 ⟨g1, rfl, hm1⟩; have RS2 := RS1.row hB1 hm1 HN1.out; clear hm1)
            refine hK.out _ _ ?_ (fun hH1b => ?_)
            · exact HS.out _ (RS2.st.bel.mono (by omega))
            clear hK K
            try simp only [Act.put, List.setIfInBounds_toArray, List.set_cons_zero, List.set_cons_succ]
            clear hH1a RS1
            refine wpAnyH_ready (rs := [11]) (by kernel_rfl) (by simp) ?_
            refine AllReadyH.cons (o := _) (by (simp only [List.getElem?_toArray, List.getElem?_cons_succ, List.getElem?_cons_zero]; rfl)) (fun K hK => ?_) AllReadyH.nil
            go_simp
            (go_at_call 81; (with_reducible refine (HP2.out _ RS2.st.bel).mono ?_); rintro e w7 ⟨g2, rfl, hm2⟩; have RS3 := RS2.row hB1 hm2 HN2.out; clear hm2)
            refine hK.out _ _ ?_ (fun hH2b => ?_)
            · exact HS.out _ (RS3.st.bel.mono (by omega))
            clear hK K
            try simp only [Act.put, List.setIfInBounds_toArray, List.set_cons_zero, List.set_cons_succ]
            clear hH1b RS2
            refine wpAnyH_ready (rs := [15]) (by kernel_rfl) (by simp) ?_
            refine AllReadyH.cons (o := _) (by (simp only [List.getElem?_toArray, List.getElem?_cons_succ, List.getElem?_cons_zero]; rfl)) (fun K hK => ?_) AllReadyH.nil
            go_simp
            (go_at_call 81; (with_reducible refine (HP3.out _ RS3.st.bel).mono ?_); rintro e w8 ⟨g3, rfl, hm3⟩; have RS4 := RS3.row hB1 hm3 HN3.out; clear hm3)
            refine hK.out _ _ ?_ (fun hH3b => ?_)
            · exact HS.out _ (RS4.st.bel.mono (by omega))
            clear hK K
            try simp only [Act.put, List.setIfInBounds_toArray, List.set_cons_zero, List.set_cons_succ]
            clear hH2b RS3
            refine wpAnyH_take (i := 16) (oi := ?oi17) (v := ?v17) ?hi17 (by kernel_rfl) ?hf17 (by kernel_rfl) ?hQ17 ?hy17 (by assumption) ?rest17
            case hi17 => (simp only [List.getElem?_toArray, List.getElem?_cons_succ, List.getElem?_cons_zero]; rfl)
            case hf17 => kernel_rfl
            case hQ17 => exact fun _ _ _ h => h
            case hy17 => (refine Or.inl ⟨by rfl, ?_⟩; intro W hSw; (try dsimp only at hSw); go_simp; try with_reducible rfl)
            try simp only [Act.put, List.setIfInBounds_toArray, List.set_cons_zero, List.set_cons_succ]
            have r0 := RS4.c0
            have r1 := RS4.c1
            have r2 := RS4.c2
            have r3 := RS4.c3
            have f0 := RS4.fz 0
            have f1 := RS4.fz 1
            have f2 := RS4.fz 2
            have f3 := RS4.fz 3
            have llo := RS4.lo
            refine wpAnyH_ready (rs := [18]) (by kernel_rfl) (by simp) ?_
            refine AllReadyH.cons (o := _) (by (simp only [List.getElem?_toArray, List.getElem?_cons_succ, List.getElem?_cons_zero]; rfl)) (fun K hK => ?_) AllReadyH.nil
            go_simp
            refine hK.out _ _ ?_ (fun hHz => ?_)
            · (exact HS.out _ (((((RS4.st.bel.mono (by omega)).setCell (Nat.le_trans hs1' RS4.lo) _).setCell (Nat.le_trans hs1' RS4.lo) _).setCell (Nat.le_trans hs1' RS4.lo) _).setCell (Nat.le_trans hs1' RS4.lo) _))
            clear hK K
            try simp only [Act.put, List.setIfInBounds_toArray, List.set_cons_zero, List.set_cons_succ]
            refine wpAnyH_done (by kernel_rfl) ?_ _
            clear r0 r1 r2 r3 f0 f1 f2 f3 llo hHz hH3b
            go_wp2_with fail
            go_meet
            exact RS4.stored' y HN1.out HN2.out HN3.out
        · skip
          go_simp
          refine RenP.letter (motive := fun W => K _ W) (RS0.box (T := 49) hB1) (fun wA RSA => ?_)
          refine hK.out _ _ (HS.out _ (RSA.st.bel.mono (by omega))) (fun hH0a => ?_)
          clear hK K
          try simp only [Act.put, List.setIfInBounds_toArray, List.set_cons_zero, List.set_cons_succ]
          clear hH0 RS0
          have RS0 := RSA
          clear RSA
          refine wpAnyH_ready (rs := [3]) (by kernel_rfl) (by simp) ?_
          refine AllReadyH.cons (o := _) (by (simp only [List.getElem?_toArray, List.getElem?_cons_succ, List.getElem?_cons_zero]; rfl)) (fun K hK => ?_) AllReadyH.nil
          go_simp
          (go_at_call 80; (with_reducible refine (HP0.out _ RS0.st.bel).mono ?_); rintro e w5 ⟨rfl, rfl⟩; have RS1 := RS0)
          refine hK.out _ _ ?_ (fun hH0b => ?_)
          · exact HS.out _ (RS1.st.bel.mono (by omega))
          clear hK K
          try simp only [Act.put, List.setIfInBounds_toArray, List.set_cons_zero, List.set_cons_succ]
          clear hH0a RS0
          refine wpAnyH_ready (rs := [7]) (by kernel_rfl) (by simp) ?_
          refine AllReadyH.cons (o := _) (by (simp only [List.getElem?_toArray, List.getElem?_cons_succ, List.getElem?_cons_zero]; rfl)) (fun K hK => ?_) AllReadyH.nil
          go_simp
          (go_at_call 81; (with_reducible refine (HP1.out _ RS1.st.bel).mono ?_); rintro e w6 ⟨g1, rfl, hm1⟩; have RS2 := RS1.row hB1 hm1 HN1.out; clear hm1)
          refine hK.out _ _ ?_ (fun hH1b => ?_)
          · exact HS.out _ (RS2.st.bel.mono (by omega))
          clear hK K
          try simp only [Act.put, List.setIfInBounds_toArray, List.set_cons_zero, List.set_cons_succ]
          clear hH0b RS1
          refine wpAnyH_ready (rs := [11]) (by kernel_rfl) (by simp) ?_
          refine AllReadyH.cons (o := _) (by (simp only [List.getElem?_toArray, List.getElem?_cons_succ, List.getElem?_cons_zero]; rfl)) (fun K hK => ?_) AllReadyH.nil
          go_simp
          (go_at_call 81; (with_reducible refine (HP2.out _ RS2.st.bel).mono ?_); rintro e w7 ⟨g2, rfl, hm2⟩; have RS3 := RS2.row hB1 hm2 HN2.out; clear hm2)
          refine hK.out _ _ ?_ (fun hH2b => ?_)
          · exact HS.out _ (RS3.st.bel.mono (by omega))
          clear hK K
          try simp only [Act.put, List.setIfInBounds_toArray, List.set_cons_zero, List.set_cons_succ]
          clear hH1b RS2
          refine wpAnyH_ready (rs := [15]) (by kernel_rfl) (by simp) ?_
          refine AllReadyH.cons (o := _) (by (simp only [List.getElem?_toArray, List.getElem?_cons_succ, List.getElem?_cons_zero]; rfl)) (fun K hK => ?_) AllReadyH.nil
          go_simp
          (go_at_call 81; (with_reducible refine (HP3.out _ RS3.st.bel).mono ?_); rintro e w8 ⟨g3, rfl, hm3⟩; have RS4 := RS3.row hB1 hm3 HN3.out; clear hm3)
          refine hK.out _ _ ?_ (fun hH3b => ?_)
          · exact HS.out _ (RS4.st.bel.mono (by omega))
          clear hK K
          try simp only [Act.put, List.setIfInBounds_toArray, List.set_cons_zero, List.set_cons_succ]
          clear hH2b RS3
          refine wpAnyH_take (i := 16) (oi := ?oi18) (v := ?v18) ?hi18 (by kernel_rfl) ?hf18 (by kernel_rfl) ?hQ18 ?hy18 (by assumption) ?rest18
          case hi18 => (simp only [List.getElem?_toArray, List.getElem?_cons_succ, List.getElem?_cons_zero]; rfl)
          case hf18 => kernel_rfl
          case hQ18 => exact fun _ _ _ h => h
          case hy18 => (refine Or.inl ⟨by rfl, ?_⟩; intro W hSw; (try dsimp only at hSw); go_simp; try with_reducible rfl)
          try simp only [Act.put, List.setIfInBounds_toArray, List.set_cons_zero, List.set_cons_succ]
          have r0 := RS4.c0
          have r1 := RS4.c1
          have r2 := RS4.c2
          have r3 := RS4.c3
          have f0 := RS4.fz 0
          have f1 := RS4.fz 1
          have f2 := RS4.fz 2
          have f3 := RS4.fz 3
          have llo := RS4.lo
          refine wpAnyH_ready (rs := [18]) (by kernel_rfl) (by simp) ?_
          refine AllReadyH.cons (o := _) (by (simp only [List.getElem?_toArray, List.getElem?_cons_succ, List.getElem?_cons_zero]; rfl)) (fun K hK => ?_) AllReadyH.nil
          go_simp
          refine hK.out _ _ ?_ (fun hHz => ?_)
          · (exact HS.out _ (((((RS4.st.bel.mono (by omega)).setCell (Nat.le_trans hs1' RS4.lo) _).setCell (Nat.le_trans hs1' RS4.lo) _).setCell (Nat.le_trans hs1' RS4.lo) _).setCell (Nat.le_trans hs1' RS4.lo) _))
          clear hK K
          try simp only [Act.put, List.setIfInBounds_toArray, List.set_cons_zero, List.set_cons_succ]
          refine wpAnyH_done (by kernel_rfl) ?_ _
          clear r0 r1 r2 r3 f0 f1 f2 f3 llo hHz hH3b
          go_wp2_with fail
          go_meet
          exact RS4.stored' y HN1.out HN2.out HN3.out
      case rest =>
        obtain ⟨p, g1, g2, g3, rfl, hno, hst, k0, k1, k2, k3⟩ := hcut
        simp only [List.mem_cons, List.not_mem_nil, or_false, not_or] at hno
        obtain ⟨p3, p2, p1⟩ := hno
        have hd := hst.dif
        simp only [List.map_cons, List.map_nil, List.nodup_cons, List.mem_cons, List.not_mem_nil, or_false, not_or] at hd
        obtain ⟨⟨d32, d31⟩, d21, -⟩ := hd
        have o1 : World.ownsRow _ w1.heap.size 3 1 (.slice (some ⟨g1, 0, none⟩) M1.length M1.length) M1.length (M1.map (Value.int .i64)) := hst.rows (g1, M1) (by simp)
        have o2 : World.ownsRow _ w1.heap.size 3 1 (.slice (some ⟨g2, 0, none⟩) M2.length M2.length) M2.length (M2.map (Value.int .i64)) := hst.rows (g2, M2) (by simp)
        have o3 : World.ownsRow _ w1.heap.size 3 1 (.slice (some ⟨g3, 0, none⟩) M3.length M3.length) M3.length (M3.map (Value.int .i64)) := hst.rows (g3, M3) (by simp)
        have hbx := hst.bel
        have z2 : w1.heap.size ≤ g2 := (o2.lt g2 rfl).1
        have z3 : w1.heap.size ≤ g3 := (o3.lt g3 rfl).1
        have O1 := hid_ o1; have O2 := hid_ o2; have O3 := hid_ o3; have HBX := hid_ hbx
        have d21' : g1 ≠ g2 := fun e => d21 e.symm
        have d31' : g1 ≠ g3 := fun e => d31 e.symm
        have d32' : g2 ≠ g3 := fun e => d32 e.symm
        clear o1 o2 o3 hst hbx d21 d31
        go_wp2_with (first
          | (go_at_call 82; (with_reducible refine (sortI_calls O2.out (by have := HL2.out; omega)).mono ?_); rintro e wy ⟨rfl, hoy, hgy⟩; have j0 := hgy.cell k0 (by simpa using p2); have j1 := hgy.cell k1 (by simpa using p2); have j2 := hgy.cell k2 (by simpa using p2); have j3 := hgy.cell k3 (by simpa using p2); have Q1 := hid_ (World.ownsRow.kept O1.out hgy (.inr (by simpa [Value.ownBlock] using d21'))); have Q3 := hid_ (World.ownsRow.kept O3.out hgy (.inr (by simpa [Value.ownBlock] using d32))); have HBY : Hid (Below w1.heap.size w1 wy) := hid_ (HBX.out.trans (below_of_grown hgy HBX.out.size z2)); have Q2 := hid_ hoy; clear k0 k1 k2 k3 hgy hoy)
          | (go_at_call 82; (with_reducible refine (sortI_calls Q3.out (by have := HL3.out; omega)).mono ?_); rintro e wz ⟨rfl, hoz, hgz⟩; have i0 := hgz.cell j0 (by simpa using p3); have i1 := hgz.cell j1 (by simpa using p3); have i2 := hgz.cell j2 (by simpa using p3); have i3 := hgz.cell j3 (by simpa using p3); have V1 := hid_ (World.ownsRow.kept Q1.out hgz (.inr (by simpa [Value.ownBlock] using d31'))); have V2 := hid_ (World.ownsRow.kept Q2.out hgz (.inr (by simpa [Value.ownBlock] using d32'))); have HBZ : Hid (Below w1.heap.size w1 wz) := hid_ (HBY.out.trans (below_of_grown hgz HBY.out.size z3)); have V3 := hid_ hoz; obtain ⟨⟨r0, r1, r2, r3⟩, f0, f1, f2, f3⟩ := HRB.out wz HBZ.out; clear j0 j1 j2 j3 hgz hoz))
        go_wp2_with fail
        have HSz := HBZ.out.size
        rw [HE2.out] at V2
        rw [HE3.out] at V3
        have hN2 : N2.length = M2.length := by rw [← HE2.out]; simp
        have hN3 : N3.length = M3.length := by rw [← HE3.out]; simp
        rw [← hN2] at V2 i2
        rw [← hN3] at V3 i3
        have s5 : w.heap.size + 1 < w1.heap.size := by omega
        refine bodyPost_ret (v := .tuple #[.agg #[.int .i64 y, .slice (some ⟨g1, 0, none⟩) M1.length M1.length, .slice (some ⟨g2, 0, none⟩) N2.length N2.length, .slice (some ⟨g3, 0, none⟩) N3.length N3.length], .int .i64 0]) ?_ rfl ⟨_, rfl, ?_, ?_⟩
        · simp [results, Try.results36, go_sem, r0, r1, r2, r3, hN2, hN3]
        · refine ⟨_, _, _, _, _, _, _, _, _, rfl, ints_own (own_setCell_lo (own_setCell_lo (own_setCell_lo (own_setCell_lo V1.out s5 _ _) s5 _ _) s5 _ _) s5 _ _), ints_own (own_setCell_lo (own_setCell_lo (own_setCell_lo (own_setCell_lo V2.out s5 _ _) s5 _ _) s5 _ _) s5 _ _), ints_own (own_setCell_lo (own_setCell_lo (own_setCell_lo (own_setCell_lo V3.out s5 _ _) s5 _ _) s5 _ _) s5 _ _)⟩
        · (repeat (with_reducible refine Below.setCell ?_ (by simp) _)); exact Hb1.out.trans (HBZ.out.mono Hb1.out.size)
    | false =>
      have hE : renE R t = 1 := by rw [renE, if_pos he, ho]; rfl
      have hR : renR R t = ⟨0, [], [], []⟩ := by rw [renR, hE]; rfl
      rw [ho] at HO
      rw [hE, hR]
      clear h1 h2 h3 hz hb1 he hE hR ho h'
      go_enter Try.func36, Try.ntmps36
      go_wp2_with (first
        | (go_at_call 78; (with_reducible refine HV.out.mono ?_); rintro e w4 ⟨rfl, hB4⟩)
        | (go_at_call 79; (with_reducible refine (HO.out _ hB4).mono ?_); rintro e wo ⟨rfl, hBo⟩; have hBO : Below w1.heap.size w1 wo := hB4.trans (hBo.mono hB4.size); obtain ⟨⟨r0, r1, r2, r3⟩, f0, f1, f2, f3⟩ := HRB.out wo hBO))
      refine bodyPost_ret (v := .tuple #[.agg #[.int .i64 0, .slice none 0 0, .slice none 0 0, .slice none 0 0], .int .i64 1]) ?_ rfl ⟨_, rfl, ?_, ?_⟩
      · simp [results, Try.results36, go_sem, r0, r1, r2, r3]
      · exact ⟨_, _, _, _, _, _, _, _, _, rfl, IntsAt.nil _ _ _ (by omega), IntsAt.nil _ _ _ (by omega), IntsAt.nil _ _ _ (by omega)⟩
      · (repeat (with_reducible refine Below.setCell ?_ (by simp) _)); exact Hb1.out.trans (hBO.mono Hb1.out.size)
  · have hE : renE R t = validR R := if_neg he
    have hR : renR R t = ⟨0, [], [], []⟩ := by rw [renR, hE, if_neg he]
    have hq : (validR R != 0) = true := by simpa using he
    rw [hE, hR]
    clear h1 h2 h3 hz hb1 hE hR h'
    generalize validR R = x1 at *
    clear he
    go_enter Try.func36, Try.ntmps36
    go_wp2_with (go_at_call 78; (with_reducible refine HV.out.mono ?_); rintro e w4 ⟨rfl, hB4⟩; obtain ⟨⟨r0, r1, r2, r3⟩, f0, f1, f2, f3⟩ := HRB.out w4 hB4)
    refine bodyPost_ret (v := .tuple #[.agg #[.int .i64 0, .slice none 0 0, .slice none 0 0, .slice none 0 0], .int .i64 x1]) ?_ rfl ⟨_, rfl, ?_, ?_⟩
    · simp [results, Try.results36, go_sem, r0, r1, r2, r3]
    · exact ⟨_, _, _, _, _, _, _, _, _, rfl, IntsAt.nil _ _ _ (by omega), IntsAt.nil _ _ _ (by omega), IntsAt.nil _ _ _ (by omega)⟩
    · (repeat (with_reducible refine Below.setCell ?_ (by simp) _)); exact Hb1.out.trans (hB4.mono Hb1.out.size)
end Go.Proofs.Ytoopgmoopmbfnaa
