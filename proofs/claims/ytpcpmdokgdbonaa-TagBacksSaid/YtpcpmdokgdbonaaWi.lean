import Derived.Test.YtpcpmdokgdbonaaWh
namespace Go.Proofs.Kv
open Go.RowKit Go
/-- a new row takes the place of word i -/
theorem NewI.putW {EI EL E1 : TypeId} {w w1 : World} {B g n c i : Nat} {fv u : Value} {xs : List Ic} {fs : List Value} {I : List It} {F : List (List Int)} {r : List Int} {x : Ic} (h : NewI EI EL E1 w B (.slice (some ⟨g, 0, none⟩) n c) fv xs fs ⟨I, F⟩) (hn : n = I.length) (hi : i < n) (hx : xs[i]? = some x) (hB : B ≤ w.heap.size)
    (hb : Below w.heap.size w w1) (hu : w1.ownsRow w.heap.size E1 1 u r.length (r.map (Value.int .i64))) :
    NewI EI EL E1 (w1.setCell ⟨g, i * 3, none⟩ u) B (.slice (some ⟨g, 0, none⟩) n c) fv (xs.set i (u, x.2)) fs ⟨I.set i { I.getD i I0 with word := r }, F⟩ := by
  subst hn
  have h1 := h.below hb (Nat.le_refl _)
  have hl : xs.length = I.length := h.len
  have hi1 : w1.ownsRow B EI 3 (.slice (some ⟨g, 0, none⟩) I.length c) I.length (xs.flatMap encI) := h1.items
  obtain ⟨s1, s2⟩ := hi1.stored (i * 3) u
  have s2' : w1.grownBy (w1.setCell ⟨g, i * 3, none⟩ u) (Value.slice (some ⟨g, 0, none⟩) I.length c).ownBlock := s2
  have hR := (h.rows.put (i := i) (r := r) (by simp; omega) hb hu hB).other h1.items h.ne1 s2'
  have e : (I.map (·.word) ++ F).set i r = (I.set i { I.getD i I0 with word := r }).map (·.word) ++ F := by
    rw [List.set_append_left _ _ (by simpa using hi), List.map_set]
  have e2 : (xs.map (·.1) ++ fs).set i u = (xs.set i (u, x.2)).map (·.1) ++ fs := by
    rw [List.set_append_left _ _ (by simp; omega), List.map_set]
  refine ⟨h.ne1, h.ne2, h.ne3, ?_, by simpa using hl, fun j z hz => ?_, own_kept_ne h1.fol s2' (fun b hb => own_apart h1.fol h1.items (Ne.symm h.ne3) b hb), ?_⟩
  · rw [← encI_word xs i x u hx]; simpa using s1
  · show z.2 = (((I.set i _).getD j I0).kind, ((I.set i _).getD j I0).cost)
    rw [getD_set8 _ _ _ _ _ hi]
    by_cases e : j = i
    · subst e
      rw [List.getElem?_set_self (by omega)] at hz
      injection hz with hz; subst hz
      rw [if_pos rfl]; exact h.kc j x hx
    · rw [List.getElem?_set_ne (Ne.symm e)] at hz
      rw [if_neg e]; exact h.kc j z hz
  · rw [← e, ← e2]; exact hR
end Go.Proofs.Kv
namespace Go.Proofs.Ytpcpmdokgdbonaa
open Go.RowKit Go.Proofs.Kv Go

/-- the first k lists turned, and of list k the first i numbers -/
def flipR (F : List (List Int)) (k i : Nat) : List (List Int) := (List.range 4).map fun a => (List.range 4).map fun b => if a < k ∨ (a = k ∧ b < i) then (F.getD b []).getD a 0 else (F.getD a []).getD b 0
theorem flipR_len (F : List (List Int)) (k i : Nat) : (flipR F k i).length = 4 := by simp [flipR]
theorem flipR_row (F : List (List Int)) (k i : Nat) {a : Nat} (ha : a < 4) : ((flipR F k i).getD a []).length = 4 := by simp [flipR, List.getD, ha]
theorem flipR_at (F : List (List Int)) (k i : Nat) {a b : Nat} (ha : a < 4) (hb : b < 4) : ((flipR F k i).getD a []).getD b 0 = if a < k ∨ (a = k ∧ b < i) then (F.getD b []).getD a 0 else (F.getD a []).getD b 0 := by simp [flipR, List.getD, ha, hb]
theorem flipR_0 {F : List (List Int)} (h : Four F) : flipR F 0 0 = F := extL8 (n := 4) (flipR_len _ _ _) h.1 fun a ha => ext8 (n := 4) (flipR_row _ _ _ ha) (h.2 a ha) fun b hb => by
  rw [flipR_at _ _ _ ha hb, if_neg (by omega)]
theorem flipR_row_end (F : List (List Int)) (k : Nat) : flipR F k 4 = flipR F (k + 1) 0 := extL8 (n := 4) (flipR_len _ _ _) (flipR_len _ _ _) fun a ha => ext8 (n := 4) (flipR_row _ _ _ ha) (flipR_row _ _ _ ha) fun b hb => by
  rw [flipR_at _ _ _ ha hb, flipR_at _ _ _ ha hb]
  by_cases h : a < k ∨ (a = k ∧ b < 4)
  · rw [if_pos h, if_pos (by omega)]
  · rw [if_neg h, if_neg (by omega)]
theorem flipR_end (F : List (List Int)) : flipR F 4 0 = flipF F := extL8 (n := 4) (flipR_len _ _ _) (by simp [flipF]) fun a ha => ext8 (n := 4) (flipR_row _ _ _ ha) (by simp [flipF, List.getD, ha]) fun b hb => by
  rw [flipR_at _ _ _ ha hb, if_pos (by omega), flipF_at F ha hb]
theorem flipR_next (F : List (List Int)) {k i : Nat} (hk : k < 4) (hi : i < 4) : (flipR F k i).set k (((flipR F k i).getD k []).set i ((F.getD i []).getD k 0)) = flipR F k (i + 1) := extL8 (n := 4) (by rw [List.length_set, flipR_len]) (flipR_len _ _ _) fun a ha => by
  rw [getD_set8 _ _ _ _ _ (by rw [flipR_len]; exact hk)]
  by_cases e : a = k
  · subst e
    rw [if_pos rfl]
    refine ext8 (n := 4) (by rw [List.length_set, flipR_row _ _ _ ha]) (flipR_row _ _ _ ha) fun b hb => ?_
    rw [getD_set8 _ _ _ _ _ (by rw [flipR_row _ _ _ ha]; exact hi), flipR_at _ _ _ ha hb, flipR_at _ _ _ ha hb]
    by_cases e2 : b = i
    · subst e2; rw [if_pos rfl, if_pos (by omega)]
    · rw [if_neg e2]
      by_cases h : b < i
      · rw [if_pos (by omega), if_pos (by omega)]
      · rw [if_neg (by omega), if_neg (by omega)]
  · rw [if_neg e]
    refine ext8 (n := 4) (flipR_row _ _ _ ha) (flipR_row _ _ _ ha) fun b hb => ?_
    rw [flipR_at _ _ _ ha hb, flipR_at _ _ _ ha hb]
    by_cases h : a < k ∨ (a = k ∧ b < i)
    · rw [if_pos h, if_pos (by omega)]
    · rw [if_neg h, if_neg (by omega)]
set_option maxRecDepth 100000 in
set_option maxHeartbeats 8000000 in
theorem r8Back_calls (v : Value) (L : Lx) (w : World) (h : LexAt w v L) :
    Calls Try.prog 27 #[v] w fun e w' => ∃ iv fv xs fs, e = .returned (.tuple #[.agg #[iv, fv], .int .i64 (validL L)]) ∧ NewL w' w.heap.size iv fv xs fs (bkL L) ∧ Below w.heap.size w w' := by
  have HP := hid_ h
  obtain ⟨a1, n1, c1, a2, n2, c2, rfl, h1, h2⟩ := h
  obtain ⟨w1, hw1⟩ : ∃ w1, w.alloc (.cells #[.slice a1 n1 c1, .slice a2 n2 c2] 25) = w1 := ⟨_, rfl⟩
  have cb : Below w.heap.size w w1 := by rw [← hw1]; exact below_alloc _ _
  have q0 : w1.cell? ⟨w.heap.size, 0, none⟩ = some (.slice a1 n1 c1) := by rw [← hw1]; exact cells_alloc _ _ _ 0
  have q1 : w1.cell? ⟨w.heap.size, 1, none⟩ = some (.slice a2 n2 c2) := by rw [← hw1]; exact cells_alloc _ _ _ 1
  have HP1 := hid_ (HP.out.below cb (Nat.le_refl _)); have Hc1 := hid_ cb
  obtain ⟨w2, hw2⟩ : ∃ w2, w1.alloc (.cells #[.slice none 0 0, .slice none 0 0] 25) = w2 := ⟨_, rfl⟩
  have z1 : w1.heap.size = w.heap.size + 1 := by rw [← hw1]; simp
  have z2 : w2.heap.size = w.heap.size + 2 := by rw [← hw2]; simp [z1]
  have b2 : Below w1.heap.size w1 w2 := by rw [← hw2]; exact below_alloc _ _
  have r0 : w2.cell? ⟨w.heap.size + 1, 0, none⟩ = some (.slice none 0 0) := by rw [← z1, ← hw2]; exact cells_alloc _ _ _ 0
  have r1 : w2.cell? ⟨w.heap.size + 1, 1, none⟩ = some (.slice none 0 0) := by rw [← z1, ← hw2]; exact cells_alloc _ _ _ 1
  have f0 : ∀ j, w2.frozen? ⟨w.heap.size + 1, j, none⟩ = false := fun j => by rw [← z1, ← hw2]; exact World.frozen?_alloc_at _ _ _ _ (by simp)
  have q02 := cell_below q0 b2; have q12 := cell_below q1 b2
  have Hb2 : Hid (Below w.heap.size w w2) := hid_ (Hc1.out.trans (b2.mono Hc1.out.size))
  have HP2 := hid_ (HP.out.below Hb2.out (Nat.le_refl _))
  have HRs := hid_ (fun W (hW : Below w2.heap.size w2 W) => (⟨(hW.cell (p := ⟨w.heap.size + 1, 0, none⟩) (by show w.heap.size + 1 < w2.heap.size; omega)).trans r0, (hW.cell (p := ⟨w.heap.size + 1, 1, none⟩) (by show w.heap.size + 1 < w2.heap.size; omega)).trans r1, (hW.frozen (p := ⟨w.heap.size + 1, 0, none⟩) (by show w.heap.size + 1 < w2.heap.size; omega)).trans (f0 0), (hW.frozen (p := ⟨w.heap.size + 1, 1, none⟩) (by show w.heap.size + 1 < w2.heap.size; omega)).trans (f0 1)⟩ : W.cell? ⟨w.heap.size + 1, 0, none⟩ = some (.slice none 0 0) ∧ W.cell? ⟨w.heap.size + 1, 1, none⟩ = some (.slice none 0 0) ∧ W.frozen? ⟨w.heap.size + 1, 0, none⟩ = false ∧ W.frozen? ⟨w.heap.size + 1, 1, none⟩ = false))
  have HQ := hid_ (fun W (hW : Below w2.heap.size w2 W) => (⟨cell_below q02 hW, cell_below q12 hW⟩ : _ ∧ _))
  have Z2 := hid_ z2
  have HV := hid_ (r8Validate_calls _ L w2 HP2.out)
  have HD : Hid (bkL L = if validL L = 0 then backL L else ⟨[], []⟩) := hid_ rfl
  generalize bkL L = D at *
  by_cases he : validL L = 0
  · have g := validL_ok he
    have hl1 := h1.len; have hl2 := h2.len
    have hr4 := g.rows
    obtain rfl : n2 = 4 := by omega
    rw [if_pos he] at HD
    rw [he] at HV ⊢
    have HCp := hid_ (fun W (hW : Below w2.heap.size w2 W) => r8Copy_calls _ L W (HP2.out.below hW (Nat.le_refl _)) g.copy.1 g.copy.2.1 g.copy.2.2.1 g.copy.2.2.2)
    have HFo : Hid (Four L.follow) := hid_ ⟨hr4, fun k hk => (g.row k hk).1⟩
    have H1 := hid_ (h1.below Hb2.out (Nat.le_refl _))
    have H2 := hid_ (h2.below Hb2.out (Nat.le_refl _))
    have Hl1 := hid_ hl1; have Hl2 := hid_ hl2
    have hn1 := g.ge; have hn8 := g.le
    rw [hl1] at hn1 hn8
    have Hw := hid_ (fun j (hj : j < n1) => (⟨(g.word j (by omega)).1, (g.word j (by omega)).2.1⟩ : _ ∧ _))
    clear h1 h2 HP HP1 g he cb b2 hl1 hl2 hr4
    rw [HD.out]
    clear z2
    go_enter Try.func27, Try.ntmps27
    go_wp2_with (first
      | (go_at_call 61; (with_reducible refine HV.out.mono ?_); rintro e w3 ⟨rfl, hb3⟩; obtain ⟨q3, p3⟩ := HQ.out w3 hb3)
      | (go_at_call 25; (with_reducible refine (HCp.out _ hb3).mono ?_); rintro e w5 ⟨iv, fv, xs, fs, rfl, hN, hb5'⟩; have hb5 := below_then8 hb3 hb5'; obtain ⟨gi, cg, rfl, hgB, hgl⟩ := hN.form (by rw [Hl1.out]; omega); obtain ⟨gf, cf, rfl, hfB, hfl⟩ := hN.formF (by rw [Hl2.out]; omega); simp only [Hl1.out, Hl2.out] at hN ⊢; have Hhn := hid_ hN; clear hN; obtain ⟨w6, hw6⟩ : ∃ w6, w5.alloc (.cells #[.slice (some ⟨gi, 0, none⟩) n1 cg, .slice (some ⟨gf, 0, none⟩) 4 cf] 25) = w6 := ⟨_, rfl⟩; have b6 : Below w5.heap.size w5 w6 := (by rw [← hw6]; exact below_alloc _ _); have HN6 := hid_ (Hhn.out.below b6 (Nat.le_refl _)); have HOc := hid_ (show w6.ownsRow w5.heap.size 25 2 (.slice (some ⟨w5.heap.size, 0, none⟩) 1 1) 1 [.slice (some ⟨gi, 0, none⟩) n1 cg, .slice (some ⟨gf, 0, none⟩) 4 cf] by rw [← hw6]; exact World.ownsRow_lit (base := w5.heap.size) (e := 25) (size := 2) w5 #[.slice (some ⟨gi, 0, none⟩) n1 cg, .slice (some ⟨gf, 0, none⟩) 4 cf] 1 (Nat.le_refl _) (by unfold maxLen; omega) rfl); have e61 : w6.cell? ⟨w5.heap.size, 1, none⟩ = some (.slice (some ⟨gf, 0, none⟩) 4 cf) := HOc.out.cellAt 1 (by omega); have Hb6 := hid_ (hb5.trans (b6.mono hb5.size)); have H3 := hid_ hb3.size; clear b6))
    clear hw6 e61
    go_loopw [6] (fun iv wr => ∃ (j : Nat) (xs : List Ic), j ≤ n1 ∧ iv = .int .i64 j ∧ Below w2.heap.size w2 wr ∧ wr.ownsRow w5.heap.size 25 2 (.slice (some ⟨w5.heap.size, 0, none⟩) 1 1) 1 [.slice (some ⟨gi, 0, none⟩) n1 cg, .slice (some ⟨gf, 0, none⟩) 4 cf] ∧ NewL wr w3.heap.size (.slice (some ⟨gi, 0, none⟩) n1 cg) (.slice (some ⟨gf, 0, none⟩) 4 cf) xs fs ⟨revK L.items j, L.follow⟩) (fun iv _ => n1 - (intOf iv).toNat)
    case atStart => exact ⟨0, xs, by omega, rfl, Hb6.out, HOc.out, by rw [revK_0]; exact HN6.out⟩
    case round =>
      clear HOc HN6 Hhn xs
      obtain ⟨j, xs, hj, rfl, hbr, hoc, hN⟩ := hrel
      have hszr := hbr.size
      have d0 : wr.cell? ⟨w5.heap.size, 0, none⟩ = some (.slice (some ⟨gi, 0, none⟩) n1 cg) := hoc.cellAt 0 (by omega)
      obtain ⟨q9, p9⟩ := HQ.out wr hbr
      by_cases hlt : j < n1
      · have hjI : j < L.items.length := by rw [Hl1.out]; exact hlt
        obtain ⟨bl, ol, al, nl, cl, e0, -, k0, k1, k2, hil⟩ := H1.out.cells j hlt
        subst e0
        have k0r := cell_below k0 hbr
        obtain ⟨hw1', hw6'⟩ := Hw.out j hlt
        rw [hil.len] at hw1' hw6'
        have HTu := hid_ (r8Turned_calls al nl cl _ wr.drew ((hil.below hbr (Nat.le_refl _)).drewN 1) (by omega))
        have hx0 : j < xs.length := by have h9 := hN.len; have h9 : xs.length = (revK L.items j).length := h9; rw [revK_len] at h9; omega
        have hx : xs[j]? = some xs[j] := List.getElem?_eq_getElem hx0
        have hit : wr.ownsRow w3.heap.size 50 3 (.slice (some ⟨gi, 0, none⟩) n1 cg) n1 (xs.flatMap encI) := by have h9 := hN.items; have h9 : wr.ownsRow w3.heap.size 50 3 (.slice (some ⟨gi, 0, none⟩) n1 cg) (revK L.items j).length (xs.flatMap encI) := h9; rw [revK_len, Hl1.out] at h9; exact h9
        have hci : wr.cell? ⟨gi, j * 3, none⟩ = some xs[j].1 := (hit.cellAt (j * 3) (by omega)).trans (encI_at xs j _ hx).1
        have hfi : wr.frozen? ⟨gi, j * 3, none⟩ = false := hit.frozenAt _
        have hgiw : gi < wr.heap.size := (hit.lt gi rfl).2
        generalize xs[j] = x at *
        obtain ⟨y, hy⟩ : ∃ y, x.1 = y := ⟨_, rfl⟩
        rw [hy] at hci
        have Hx := hid_ hx
        have bd : Below wr.heap.size wr wr.drew := Below.drew (Below.refl _ _)
        have HS := hid_ (fun W (hW : Below wr.heap.size wr W) => (⟨cell_below d0 hW, cell_below q9 hW, cell_below k0r hW⟩ : W.cell? ⟨w5.heap.size, 0, none⟩ = some (.slice (some ⟨gi, 0, none⟩) n1 cg) ∧ W.cell? ⟨w.heap.size, 0, none⟩ = some (.slice (some ⟨bl, ol, none⟩) n1 c1) ∧ W.cell? ⟨bl, ol + j * 3, none⟩ = some (.slice al nl cl)))
        have HN := hid_ hN; have HOc := hid_ hoc; have Hit := hid_ hit; have Hbr := hid_ hbr
        have H3r : w3.heap.size ≤ wr.heap.size := by have := (hit.lt gi rfl).1; omega
        clear hN hoc hit hbr hil hx hy
        go_wp2
        refine wp_region_last2 (n := 12) (S := fun W' => W'.cell? ⟨w5.heap.size, 0, none⟩ = some (.slice (some ⟨gi, 0, none⟩) n1 cg) ∧ W'.cell? ⟨w.heap.size, 0, none⟩ = some (.slice (some ⟨bl, ol, none⟩) n1 c1) ∧ W'.cell? ⟨bl, ol + j * 3, none⟩ = some (.slice al nl cl)) (by kernel_rfl) (by kernel_rfl) (HS.out _ bd) (fun hHeld => ?_)
        refine wpAnyH_take (i := 0) (oi := ?oi0h1) (v := ?v0h1) ?hi0h1 (by kernel_rfl) ?hf0h1 (by kernel_rfl) ?hQ0h1 ?hy0h1 (by assumption) ?rest0h1
        case hi0h1 => (simp only [List.getElem?_toArray, List.getElem?_cons_zero]; rfl)
        case hf0h1 => kernel_rfl
        case hQ0h1 => exact fun _ _ _ h => h
        case hy0h1 => (refine Or.inl ⟨by rfl, ?_⟩; intro W hSw; (try dsimp only at hSw); go_simp; try with_reducible rfl)
        try simp only [Act.put, List.setIfInBounds_toArray, List.set_cons_zero, List.set_cons_succ]
        refine wpAnyH_take (i := 1) (oi := ?oi1h2) (v := ?v1h2) ?hi1h2 (by kernel_rfl) ?hf1h2 (by kernel_rfl) ?hQ1h2 ?hy1h2 (by assumption) ?rest1h2
        case hi1h2 => (simp only [List.getElem?_toArray, List.getElem?_cons_succ, List.getElem?_cons_zero]; rfl)
        case hf1h2 => kernel_rfl
        case hQ1h2 => exact fun _ _ _ h => h
        case hy1h2 => (refine Or.inl ⟨by rfl, ?_⟩; intro W hSw; (try dsimp only at hSw); obtain ⟨g0, g1, g2⟩ := hSw; go_simp; try with_reducible rfl)
        try simp only [Act.put, List.setIfInBounds_toArray, List.set_cons_zero, List.set_cons_succ]
        refine wpAnyH_take (i := 2) (oi := ?oi2h3) (v := ?v2h3) ?hi2h3 (by kernel_rfl) ?hf2h3 (by kernel_rfl) ?hQ2h3 ?hy2h3 (by assumption) ?rest2h3
        case hi2h3 => (simp only [List.getElem?_toArray, List.getElem?_cons_succ, List.getElem?_cons_zero]; rfl)
        case hf2h3 => kernel_rfl
        case hQ2h3 => exact fun _ _ _ h => h
        case hy2h3 => (refine Or.inl ⟨by rfl, ?_⟩; intro W hSw; (try dsimp only at hSw); go_simp; try with_reducible rfl)
        try simp only [Act.put, List.setIfInBounds_toArray, List.set_cons_zero, List.set_cons_succ]
        refine wpAnyH_take (i := 3) (oi := ?oi3h4) (v := ?v3h4) ?hi3h4 (by kernel_rfl) ?hf3h4 (by kernel_rfl) ?hQ3h4 ?hy3h4 (by assumption) ?rest3h4
        case hi3h4 => (simp only [List.getElem?_toArray, List.getElem?_cons_succ, List.getElem?_cons_zero]; rfl)
        case hf3h4 => kernel_rfl
        case hQ3h4 => exact fun _ _ _ h => h
        case hy3h4 => (refine Or.inl ⟨by rfl, ?_⟩; intro W hSw; (try dsimp only at hSw); go_simp; try with_reducible rfl)
        try simp only [Act.put, List.setIfInBounds_toArray, List.set_cons_zero, List.set_cons_succ]
        refine wpAnyH_take (i := 4) (oi := ?oi4h5) (v := ?v4h5) ?hi4h5 (by kernel_rfl) ?hf4h5 (by kernel_rfl) ?hQ4h5 ?hy4h5 (by assumption) ?rest4h5
        case hi4h5 => (simp only [List.getElem?_toArray, List.getElem?_cons_succ, List.getElem?_cons_zero]; rfl)
        case hf4h5 => kernel_rfl
        case hQ4h5 => exact fun _ _ _ h => h
        case hy4h5 => (refine Or.inl ⟨by rfl, ?_⟩; intro W hSw; (try dsimp only at hSw); obtain ⟨g0, g1, g2⟩ := hSw; go_simp; try with_reducible rfl)
        try simp only [Act.put, List.setIfInBounds_toArray, List.set_cons_zero, List.set_cons_succ]
        refine wpAnyH_take (i := 5) (oi := ?oi5h6) (v := ?v5h6) ?hi5h6 (by kernel_rfl) ?hf5h6 (by kernel_rfl) ?hQ5h6 ?hy5h6 (by assumption) ?rest5h6
        case hi5h6 => (simp only [List.getElem?_toArray, List.getElem?_cons_succ, List.getElem?_cons_zero]; rfl)
        case hf5h6 => kernel_rfl
        case hQ5h6 => exact fun _ _ _ h => h
        case hy5h6 => (refine Or.inl ⟨by rfl, ?_⟩; intro W hSw; (try dsimp only at hSw); go_simp; try with_reducible rfl)
        try simp only [Act.put, List.setIfInBounds_toArray, List.set_cons_zero, List.set_cons_succ]
        refine wpAnyH_take (i := 6) (oi := ?oi6h7) (v := ?v6h7) ?hi6h7 (by kernel_rfl) ?hf6h7 (by kernel_rfl) ?hQ6h7 ?hy6h7 (by assumption) ?rest6h7
        case hi6h7 => (simp only [List.getElem?_toArray, List.getElem?_cons_succ, List.getElem?_cons_zero]; rfl)
        case hf6h7 => kernel_rfl
        case hQ6h7 => exact fun _ _ _ h => h
        case hy6h7 => (refine Or.inl ⟨by rfl, ?_⟩; intro W hSw; (try dsimp only at hSw); go_simp; try with_reducible rfl)
        try simp only [Act.put, List.setIfInBounds_toArray, List.set_cons_zero, List.set_cons_succ]
        refine wpAnyH_take (i := 7) (oi := ?oi7h8) (v := ?v7h8) ?hi7h8 (by kernel_rfl) ?hf7h8 (by kernel_rfl) ?hQ7h8 ?hy7h8 (by assumption) ?rest7h8
        case hi7h8 => (simp only [List.getElem?_toArray, List.getElem?_cons_succ, List.getElem?_cons_zero]; rfl)
        case hf7h8 => kernel_rfl
        case hQ7h8 => exact fun _ _ _ h => h
        case hy7h8 => (refine Or.inl ⟨by rfl, ?_⟩; intro W hSw; (try dsimp only at hSw); go_simp; try with_reducible rfl)
        try simp only [Act.put, List.setIfInBounds_toArray, List.set_cons_zero, List.set_cons_succ]
        refine wpAnyH_take (i := 8) (oi := ?oi8h9) (v := ?v8h9) ?hi8h9 (by kernel_rfl) ?hf8h9 (by kernel_rfl) ?hQ8h9 ?hy8h9 (by assumption) ?rest8h9
        case hi8h9 => (simp only [List.getElem?_toArray, List.getElem?_cons_succ, List.getElem?_cons_zero]; rfl)
        case hf8h9 => kernel_rfl
        case hQ8h9 => exact fun _ _ _ h => h
        case hy8h9 => (refine Or.inl ⟨by rfl, ?_⟩; intro W hSw; (try dsimp only at hSw); obtain ⟨g0, g1, g2⟩ := hSw; go_simp; try with_reducible rfl)
        try simp only [Act.put, List.setIfInBounds_toArray, List.set_cons_zero, List.set_cons_succ]
        refine wpAnyH_ready (rs := [9]) (by kernel_rfl) (by simp) ?_
        refine AllReadyH.cons (o := _) (by (simp only [List.getElem?_toArray, List.getElem?_cons_succ, List.getElem?_cons_zero]; rfl)) (fun K hK => ?_) AllReadyH.nil
        go_simp
        (with_reducible refine HTu.out.mono ?_); rintro e w8 ⟨v8, rfl, hm8⟩; obtain ⟨a8, c8, rfl, -⟩ := hm8.at_; have bw8 : Below wr.heap.size wr w8 := (Below.drew (Below.refl _ _)).trans hm8.bel
        refine hK.out _ _ ?_ (fun hHeld => ?_)
        · exact HS.out _ bw8
        clear hK K
        try simp only [Act.put, List.setIfInBounds_toArray, List.set_cons_zero, List.set_cons_succ]
        refine wpAnyH_take (i := 10) (oi := ?oi10h10) (v := ?v10h10) ?hi10h10 (by kernel_rfl) ?hf10h10 (by kernel_rfl) ?hQ10h10 ?hy10h10 (by assumption) ?rest10h10
        case hi10h10 => (simp only [List.getElem?_toArray, List.getElem?_cons_succ, List.getElem?_cons_zero]; rfl)
        case hf10h10 => kernel_rfl
        case hQ10h10 => exact fun _ _ _ h => h
        case hy10h10 => (refine Or.inl ⟨by rfl, ?_⟩; intro W hSw; (try dsimp only at hSw); go_simp; try with_reducible rfl)
        try simp only [Act.put, List.setIfInBounds_toArray, List.set_cons_zero, List.set_cons_succ]
        refine wpAnyH_take (i := 11) (oi := ?oi11h11) (v := ?v11h11) ?hi11h11 (by kernel_rfl) ?hf11h11 (by kernel_rfl) ?hQ11h11 ?hy11h11 (by assumption) ?rest11h11
        case hi11h11 => (simp only [List.getElem?_toArray, List.getElem?_cons_succ, List.getElem?_cons_zero]; rfl)
        case hf11h11 => kernel_rfl
        case hQ11h11 => exact fun _ _ _ h => h
        case hy11h11 => (refine Or.inl ⟨by rfl, ?_⟩; intro W hSw; (try dsimp only at hSw); go_simp; try with_reducible rfl)
        try simp only [Act.put, List.setIfInBounds_toArray, List.set_cons_zero, List.set_cons_succ]
        have c80 : w8.cell? ⟨gi, j * 3, none⟩ = some y := cell_below hci bw8
        have f80 : w8.frozen? ⟨gi, j * 3, none⟩ = false := (bw8.frozen (p := ⟨gi, j * 3, none⟩) hgiw).trans hfi
        have hN8 := HN.out.putW (i := j) (r := (L.items.getD j I0).word.reverse) (by rw [revK_len, Hl1.out]) hlt Hx.out H3r bw8 hm8.own
        have hat : (revK L.items j).getD j I0 = L.items.getD j I0 := by rw [revK_at _ _ hjI, if_neg (by omega)]
        rw [hat] at hN8
        have h7 := revK_next L.items hjI
        unfold revI at h7
        rw [h7] at hN8
        have HN8 := hid_ hN8
        have hit8 := own_below Hit.out bw8 (Nat.le_refl _)
        have hoc8 := own_below HOc.out bw8 (Nat.le_refl _)
        have HOc8 := hid_ (own_kept_ne hoc8 (hit8.stored (j * 3) (.slice a8 (L.items.getD j I0).word.reverse.length c8)).2 (fun b' hb' => own_apart hoc8 hit8 (by decide) b' hb'))
        have Hb8 := hid_ (Below.setCell (p := ⟨gi, j * 3, none⟩) (Hbr.out.trans (bw8.mono hszr)) (show w2.heap.size ≤ gi from Nat.le_trans H3.out hgB) (.slice a8 (L.items.getD j I0).word.reverse.length c8))
        generalize (L.items.getD j I0).word.reverse.length = ml at *
        clear hN8 hit8 hoc8 hm8 bw8 hat h7
        refine wpAnyH_done (by kernel_rfl) ?_ _
        clear hHeld
        refine last_of ?_
        refine wpOp_step (o := _) (by (simp only [List.getElem?_toArray, List.getElem?_cons_succ, List.getElem?_cons_zero]; rfl)) (fun K hK => ?_)
        go_simp
        refine hK _ _ ?_
        clear hK K
        try simp only [Act.put, List.setIfInBounds_toArray, List.set_cons_zero, List.set_cons_succ]
        go_wp2
        go_roundw
        case rel => exact ⟨j + 1, _, by omega, by go_num, Hb8.out, HOc8.out, HN8.out⟩
        case measure => simp [intOf]; omega
      · obtain rfl : j = n1 := by omega
        have hI : revK L.items j = L.items.map revI := by rw [← revK_all, Hl1.out]
        rw [hI] at hN
        have HN := hid_ hN; have HOc := hid_ hoc; have Hbr := hid_ hbr
        have HF0 := hid_ (flipR_0 HFo.out)
        obtain ⟨wx, rfl⟩ : ∃ wx, wx = wr := ⟨_, rfl⟩
        clear hN hoc hbr hI
        go_wp2
        clear q9 p9 d0
        go_loopw [7, 8] (fun iv _ wr => ∃ k : Nat, k ≤ 4 ∧ iv = .int .i64 k ∧ Below w2.heap.size w2 wr ∧ wr.ownsRow w5.heap.size 25 2 (.slice (some ⟨w5.heap.size, 0, none⟩) 1 1) 1 [.slice (some ⟨gi, 0, none⟩) j cg, .slice (some ⟨gf, 0, none⟩) 4 cf] ∧ NewL wr w3.heap.size (.slice (some ⟨gi, 0, none⟩) j cg) (.slice (some ⟨gf, 0, none⟩) 4 cf) xs fs ⟨L.items.map revI, flipR L.follow k 0⟩) (fun iv _ _ => 4 - (intOf iv).toNat)
        case atStart => exact ⟨0, by omega, rfl, Hbr.out, HOc.out, by rw [HF0.out]; exact HN.out⟩
        case round =>
          clear HOc HN Hbr
          obtain ⟨k, hk, rfl, hbr, hoc, hN⟩ := hrel
          have d0 : wr.cell? ⟨w5.heap.size, 0, none⟩ = some (.slice (some ⟨gi, 0, none⟩) j cg) := hoc.cellAt 0 (by omega)
          have d1 : wr.cell? ⟨w5.heap.size, 1, none⟩ = some (.slice (some ⟨gf, 0, none⟩) 4 cf) := hoc.cellAt 1 (by omega)
          by_cases hltk : k < 4
          · have HN := hid_ hN; have HOc := hid_ hoc; have Hbr := hid_ hbr
            have Hend := hid_ (flipR_row_end L.follow k)
            have hkI : (k : Int) < 4 := by omega
            clear hN hoc hbr
            go_wp2
            clear d0 d1
            obtain ⟨wo, rfl⟩ : ∃ wo, wo = wr := ⟨_, rfl⟩
            go_loopw [8] (fun iv wr => ∃ i : Nat, i ≤ 4 ∧ iv = .int .i64 i ∧ Below w2.heap.size w2 wr ∧ wr.ownsRow w5.heap.size 25 2 (.slice (some ⟨w5.heap.size, 0, none⟩) 1 1) 1 [.slice (some ⟨gi, 0, none⟩) j cg, .slice (some ⟨gf, 0, none⟩) 4 cf] ∧ NewL wr w3.heap.size (.slice (some ⟨gi, 0, none⟩) j cg) (.slice (some ⟨gf, 0, none⟩) 4 cf) xs fs ⟨L.items.map revI, flipR L.follow k i⟩) (fun iv _ => 4 - (intOf iv).toNat)
            case atStart => exact ⟨0, by omega, rfl, Hbr.out, HOc.out, HN.out⟩
            case round =>
              clear HOc HN Hbr
              obtain ⟨i, hi, rfl, hbr, hoc, hN⟩ := hrel
              have d1 : wr.cell? ⟨w5.heap.size, 1, none⟩ = some (.slice (some ⟨gf, 0, none⟩) 4 cf) := hoc.cellAt 1 (by omega)
              have hat : ((⟨L.items.map revI, flipR L.follow k i⟩ : Lx).follow.getD k []).length = 4 := flipR_row _ _ _ hltk
              obtain ⟨b, d, hfs, hcell, hrow, hled⟩ := hN.listAt (flipR_len _ _ _).symm hltk (by rw [hat]; omega)
              rw [hat] at hfs hcell hrow hled
              by_cases hlti : i < 4
              · obtain ⟨bs, os, ar, nr, cr, e0, -, hcs, hrs⟩ := H2.out.cells i hlti
                subst e0
                have hnr : nr = 4 := by rw [← hrs.len]; exact HFo.out.2 i hlti
                subst hnr
                obtain ⟨bx, ox, rfl, -, hcx⟩ := hrs.cells k hltk
                have q1r := (HQ.out wr hbr).2
                have hcsr := cell_below hcs hbr
                have hcxr := cell_below hcx hbr
                obtain ⟨x, hx⟩ : ∃ x, (L.follow.getD i []).getD k 0 = x := ⟨_, rfl⟩
                rw [hx] at hcxr
                have bd : Below wr.heap.size wr wr.drew := Below.drew (Below.refl _ _)
                have hszr := hbr.size
                have HS := hid_ (fun W (hW : Below wr.heap.size wr W) => (⟨cell_below d1 hW, cell_below hcell hW, cell_below q1r hW, cell_below hcsr hW, cell_below hcxr hW⟩ : W.cell? ⟨w5.heap.size, 1, none⟩ = some (.slice (some ⟨gf, 0, none⟩) 4 cf) ∧ W.cell? ⟨gf, k, none⟩ = some (.slice (some ⟨b, 0, none⟩) 4 d) ∧ W.cell? ⟨w.heap.size, 1, none⟩ = some (.slice (some ⟨bs, os, none⟩) 4 c2) ∧ W.cell? ⟨bs, os + i, none⟩ = some (.slice (some ⟨bx, ox, none⟩) 4 cr) ∧ W.cell? ⟨bx, ox + k, none⟩ = some (.int .i64 x)))
                have hst := hrow.stored i (.int .i64 x)
                rw [← List.map_set] at hst
                have hnx := flipR_next L.follow hltk hlti
                rw [hx] at hnx
                obtain ⟨y, hck⟩ : ∃ y, wr.cell? ⟨b, i, none⟩ = some y := ⟨_, (hrow.cellAt i (by omega)).trans (List.getElem?_eq_getElem (by rw [List.length_map]; exact hat ▸ hlti))⟩
                have hcfz := hrow.frozenAt i
                have hN8 := hN.turnF (k := k) (r := ((flipR L.follow k i).getD k []).set i x) (by rw [flipR_len]; exact hltk) hfs hst.2 (by rw [List.length_set, flipR_row _ _ _ hltk]; exact hst.1)
                rw [hnx] at hN8
                have HN8 := hid_ (hN8.below (Below.drew (Below.refl _ _)) (Nat.le_refl _))
                have HOc8 := hid_ (own_below (own_kept_ne hoc hst.2 (fun b' hb' => own_apart hoc hrow (by decide) b' hb')) (Below.drew (Below.refl _ _)) (Nat.le_refl _))
                have Hb8 := hid_ (Below.drew (Below.setCell (p := ⟨b, i, none⟩) hbr (Nat.le_trans H3.out (hrow.lt b rfl).1) (.int .i64 x)))
                clear hN hN8 hoc hrow hst hat hfs hnx hx hcs hcx hrs
                go_wp2
                refine wp_region_last2 (n := 15) (S := fun W => W.cell? ⟨w5.heap.size, 1, none⟩ = some (.slice (some ⟨gf, 0, none⟩) 4 cf) ∧ W.cell? ⟨gf, k, none⟩ = some (.slice (some ⟨b, 0, none⟩) 4 d) ∧ W.cell? ⟨w.heap.size, 1, none⟩ = some (.slice (some ⟨bs, os, none⟩) 4 c2) ∧ W.cell? ⟨bs, os + i, none⟩ = some (.slice (some ⟨bx, ox, none⟩) 4 cr) ∧ W.cell? ⟨bx, ox + k, none⟩ = some (.int .i64 x)) (by kernel_rfl) (by kernel_rfl) (HS.out _ bd) (fun hHeld => ?_)
                refine wpAnyH_take (i := 0) (oi := ?oi0h12) (v := ?v0h12) ?hi0h12 (by kernel_rfl) ?hf0h12 (by kernel_rfl) ?hQ0h12 ?hy0h12 (by assumption) ?rest0h12
                case hi0h12 => (simp only [List.getElem?_toArray, List.getElem?_cons_zero]; rfl)
                case hf0h12 => kernel_rfl
                case hQ0h12 => exact fun _ _ _ h => h
                case hy0h12 => (refine Or.inl ⟨by rfl, ?_⟩; intro W hSw; (try dsimp only at hSw); go_simp; try with_reducible rfl)
                try simp only [Act.put, List.setIfInBounds_toArray, List.set_cons_zero, List.set_cons_succ]
                refine wpAnyH_take (i := 1) (oi := ?oi1h13) (v := ?v1h13) ?hi1h13 (by kernel_rfl) ?hf1h13 (by kernel_rfl) ?hQ1h13 ?hy1h13 (by assumption) ?rest1h13
                case hi1h13 => (simp only [List.getElem?_toArray, List.getElem?_cons_succ, List.getElem?_cons_zero]; rfl)
                case hf1h13 => kernel_rfl
                case hQ1h13 => exact fun _ _ _ h => h
                case hy1h13 => (refine Or.inl ⟨by rfl, ?_⟩; intro W hSw; (try dsimp only at hSw); obtain ⟨g0, g1, g2, g3, g4⟩ := hSw; go_simp; try with_reducible rfl)
                try simp only [Act.put, List.setIfInBounds_toArray, List.set_cons_zero, List.set_cons_succ]
                refine wpAnyH_take (i := 2) (oi := ?oi2h14) (v := ?v2h14) ?hi2h14 (by kernel_rfl) ?hf2h14 (by kernel_rfl) ?hQ2h14 ?hy2h14 (by assumption) ?rest2h14
                case hi2h14 => (simp only [List.getElem?_toArray, List.getElem?_cons_succ, List.getElem?_cons_zero]; rfl)
                case hf2h14 => kernel_rfl
                case hQ2h14 => exact fun _ _ _ h => h
                case hy2h14 => (refine Or.inl ⟨by rfl, ?_⟩; intro W hSw; (try dsimp only at hSw); go_simp; try with_reducible rfl)
                try simp only [Act.put, List.setIfInBounds_toArray, List.set_cons_zero, List.set_cons_succ]
                refine wpAnyH_take (i := 3) (oi := ?oi3h15) (v := ?v3h15) ?hi3h15 (by kernel_rfl) ?hf3h15 (by kernel_rfl) ?hQ3h15 ?hy3h15 (by assumption) ?rest3h15
                case hi3h15 => (simp only [List.getElem?_toArray, List.getElem?_cons_succ, List.getElem?_cons_zero]; rfl)
                case hf3h15 => kernel_rfl
                case hQ3h15 => exact fun _ _ _ h => h
                case hy3h15 => (refine Or.inl ⟨by rfl, ?_⟩; intro W hSw; (try dsimp only at hSw); go_simp; try with_reducible rfl)
                try simp only [Act.put, List.setIfInBounds_toArray, List.set_cons_zero, List.set_cons_succ]
                refine wpAnyH_take (i := 4) (oi := ?oi4h16) (v := ?v4h16) ?hi4h16 (by kernel_rfl) ?hf4h16 (by kernel_rfl) ?hQ4h16 ?hy4h16 (by assumption) ?rest4h16
                case hi4h16 => (simp only [List.getElem?_toArray, List.getElem?_cons_succ, List.getElem?_cons_zero]; rfl)
                case hf4h16 => kernel_rfl
                case hQ4h16 => exact fun _ _ _ h => h
                case hy4h16 => (refine Or.inl ⟨by rfl, ?_⟩; intro W hSw; (try dsimp only at hSw); obtain ⟨g0, g1, g2, g3, g4⟩ := hSw; go_simp; try with_reducible rfl)
                try simp only [Act.put, List.setIfInBounds_toArray, List.set_cons_zero, List.set_cons_succ]
                refine wpAnyH_take (i := 5) (oi := ?oi5h17) (v := ?v5h17) ?hi5h17 (by kernel_rfl) ?hf5h17 (by kernel_rfl) ?hQ5h17 ?hy5h17 (by assumption) ?rest5h17
                case hi5h17 => (simp only [List.getElem?_toArray, List.getElem?_cons_succ, List.getElem?_cons_zero]; rfl)
                case hf5h17 => kernel_rfl
                case hQ5h17 => exact fun _ _ _ h => h
                case hy5h17 => (refine Or.inl ⟨by rfl, ?_⟩; intro W hSw; (try dsimp only at hSw); go_simp; try with_reducible rfl)
                try simp only [Act.put, List.setIfInBounds_toArray, List.set_cons_zero, List.set_cons_succ]
                refine wpAnyH_take (i := 6) (oi := ?oi6h18) (v := ?v6h18) ?hi6h18 (by kernel_rfl) ?hf6h18 (by kernel_rfl) ?hQ6h18 ?hy6h18 (by assumption) ?rest6h18
                case hi6h18 => (simp only [List.getElem?_toArray, List.getElem?_cons_succ, List.getElem?_cons_zero]; rfl)
                case hf6h18 => kernel_rfl
                case hQ6h18 => exact fun _ _ _ h => h
                case hy6h18 => (refine Or.inl ⟨by rfl, ?_⟩; intro W hSw; (try dsimp only at hSw); go_simp; try with_reducible rfl)
                try simp only [Act.put, List.setIfInBounds_toArray, List.set_cons_zero, List.set_cons_succ]
                refine wpAnyH_take (i := 7) (oi := ?oi7h19) (v := ?v7h19) ?hi7h19 (by kernel_rfl) ?hf7h19 (by kernel_rfl) ?hQ7h19 ?hy7h19 (by assumption) ?rest7h19
                case hi7h19 => (simp only [List.getElem?_toArray, List.getElem?_cons_succ, List.getElem?_cons_zero]; rfl)
                case hf7h19 => kernel_rfl
                case hQ7h19 => exact fun _ _ _ h => h
                case hy7h19 => (refine Or.inl ⟨by rfl, ?_⟩; intro W hSw; (try dsimp only at hSw); obtain ⟨g0, g1, g2, g3, g4⟩ := hSw; go_simp; try with_reducible rfl)
                try simp only [Act.put, List.setIfInBounds_toArray, List.set_cons_zero, List.set_cons_succ]
                refine wpAnyH_take (i := 8) (oi := ?oi8h20) (v := ?v8h20) ?hi8h20 (by kernel_rfl) ?hf8h20 (by kernel_rfl) ?hQ8h20 ?hy8h20 (by assumption) ?rest8h20
                case hi8h20 => (simp only [List.getElem?_toArray, List.getElem?_cons_succ, List.getElem?_cons_zero]; rfl)
                case hf8h20 => kernel_rfl
                case hQ8h20 => exact fun _ _ _ h => h
                case hy8h20 => (refine Or.inl ⟨by rfl, ?_⟩; intro W hSw; (try dsimp only at hSw); go_simp; try with_reducible rfl)
                try simp only [Act.put, List.setIfInBounds_toArray, List.set_cons_zero, List.set_cons_succ]
                refine wpAnyH_take (i := 9) (oi := ?oi9h21) (v := ?v9h21) ?hi9h21 (by kernel_rfl) ?hf9h21 (by kernel_rfl) ?hQ9h21 ?hy9h21 (by assumption) ?rest9h21
                case hi9h21 => (simp only [List.getElem?_toArray, List.getElem?_cons_succ, List.getElem?_cons_zero]; rfl)
                case hf9h21 => kernel_rfl
                case hQ9h21 => exact fun _ _ _ h => h
                case hy9h21 => (refine Or.inl ⟨by rfl, ?_⟩; intro W hSw; (try dsimp only at hSw); go_simp; try with_reducible rfl)
                try simp only [Act.put, List.setIfInBounds_toArray, List.set_cons_zero, List.set_cons_succ]
                refine wpAnyH_take (i := 10) (oi := ?oi10h22) (v := ?v10h22) ?hi10h22 (by kernel_rfl) ?hf10h22 (by kernel_rfl) ?hQ10h22 ?hy10h22 (by assumption) ?rest10h22
                case hi10h22 => (simp only [List.getElem?_toArray, List.getElem?_cons_succ, List.getElem?_cons_zero]; rfl)
                case hf10h22 => kernel_rfl
                case hQ10h22 => exact fun _ _ _ h => h
                case hy10h22 => (refine Or.inl ⟨by rfl, ?_⟩; intro W hSw; (try dsimp only at hSw); obtain ⟨g0, g1, g2, g3, g4⟩ := hSw; go_simp; try with_reducible rfl)
                try simp only [Act.put, List.setIfInBounds_toArray, List.set_cons_zero, List.set_cons_succ]
                refine wpAnyH_take (i := 11) (oi := ?oi11h23) (v := ?v11h23) ?hi11h23 (by kernel_rfl) ?hf11h23 (by kernel_rfl) ?hQ11h23 ?hy11h23 (by assumption) ?rest11h23
                case hi11h23 => (simp only [List.getElem?_toArray, List.getElem?_cons_succ, List.getElem?_cons_zero]; rfl)
                case hf11h23 => kernel_rfl
                case hQ11h23 => exact fun _ _ _ h => h
                case hy11h23 => (refine Or.inl ⟨by rfl, ?_⟩; intro W hSw; (try dsimp only at hSw); go_simp; try with_reducible rfl)
                try simp only [Act.put, List.setIfInBounds_toArray, List.set_cons_zero, List.set_cons_succ]
                refine wpAnyH_take (i := 12) (oi := ?oi12h24) (v := ?v12h24) ?hi12h24 (by kernel_rfl) ?hf12h24 (by kernel_rfl) ?hQ12h24 ?hy12h24 (by assumption) ?rest12h24
                case hi12h24 => (simp only [List.getElem?_toArray, List.getElem?_cons_succ, List.getElem?_cons_zero]; rfl)
                case hf12h24 => kernel_rfl
                case hQ12h24 => exact fun _ _ _ h => h
                case hy12h24 => (refine Or.inl ⟨by rfl, ?_⟩; intro W hSw; (try dsimp only at hSw); go_simp; try with_reducible rfl)
                try simp only [Act.put, List.setIfInBounds_toArray, List.set_cons_zero, List.set_cons_succ]
                refine wpAnyH_take (i := 13) (oi := ?oi13h25) (v := ?v13h25) ?hi13h25 (by kernel_rfl) ?hf13h25 (by kernel_rfl) ?hQ13h25 ?hy13h25 (by assumption) ?rest13h25
                case hi13h25 => (simp only [List.getElem?_toArray, List.getElem?_cons_succ, List.getElem?_cons_zero]; rfl)
                case hf13h25 => kernel_rfl
                case hQ13h25 => exact fun _ _ _ h => h
                case hy13h25 => (refine Or.inl ⟨by rfl, ?_⟩; intro W hSw; (try dsimp only at hSw); obtain ⟨g0, g1, g2, g3, g4⟩ := hSw; go_simp; try with_reducible rfl)
                try simp only [Act.put, List.setIfInBounds_toArray, List.set_cons_zero, List.set_cons_succ]
                refine wpAnyH_take (i := 14) (oi := ?oi14h26) (v := ?v14h26) ?hi14h26 (by kernel_rfl) ?hf14h26 (by kernel_rfl) ?hQ14h26 ?hy14h26 (by assumption) ?rest14h26
                case hi14h26 => (simp only [List.getElem?_toArray, List.getElem?_cons_succ, List.getElem?_cons_zero]; rfl)
                case hf14h26 => kernel_rfl
                case hQ14h26 => exact fun _ _ _ h => h
                case hy14h26 => (refine Or.inl ⟨by rfl, ?_⟩; intro W hSw; (try dsimp only at hSw); go_simp; try with_reducible rfl)
                try simp only [Act.put, List.setIfInBounds_toArray, List.set_cons_zero, List.set_cons_succ]
                refine wpAnyH_done (by kernel_rfl) ?_ _
                clear hHeld
                refine last_of ?_
                refine wpOp_step (o := _) (by (simp only [List.getElem?_toArray, List.getElem?_cons_succ, List.getElem?_cons_zero]; rfl)) (fun K hK => ?_)
                go_simp
                refine hK _ _ ?_
                clear hK K
                try simp only [Act.put, List.setIfInBounds_toArray, List.set_cons_zero, List.set_cons_succ]
                go_wp2
                go_roundw
                case rel => exact ⟨i + 1, by omega, by go_num, Hb8.out, HOc8.out, HN8.out⟩
                case measure => simp [intOf]; omega
              · obtain rfl : i = 4 := by omega
                rw [Hend.out] at hN
                have HN := hid_ hN; have HOc := hid_ hoc; have Hbr := hid_ hbr
                clear hN hoc hbr hrow hfs hat
                go_wp2
                go_roundw
                case rel => exact ⟨k + 1, by omega, by go_num, Hbr.out, HOc.out, HN.out⟩
                case measure => simp [intOf]; omega
          · obtain rfl : k = 4 := by omega
            rw [flipR_end] at hN
            have HN := hid_ hN
            obtain ⟨s0, s1, g0, g1⟩ := HRs.out wr hbr
            have Hbr := hid_ hbr
            clear hN hoc hbr
            obtain ⟨t0, t1⟩ := two_stored (x := .slice (some ⟨gi, 0, none⟩) j cg) (y := .slice (some ⟨gf, 0, none⟩) 4 cf) s0 s1
            go_wp2
            refine bodyPost_ret (v := .tuple #[.agg #[.slice (some ⟨gi, 0, none⟩) j cg, .slice (some ⟨gf, 0, none⟩) 4 cf], .int .i64 0]) ?_ rfl ⟨_, _, xs, fs, rfl, ?_, ?_⟩
            · simp [results, Try.results27, go_sem, t0, t1]
            · exact ((HN.out.base H3.out).res (by have := Z2.out; omega) _ _).base (by have := Z2.out; omega)
            · have hf := Hb2.out.trans (Hbr.out.mono Hb2.out.size)
              exact (hf.setCell (p := ⟨w.heap.size + 1, 0, none⟩) (by show _ ≤ _ + 1; omega) _).setCell (p := ⟨w.heap.size + 1, 1, none⟩) (by show _ ≤ _ + 1; omega) _
  · have hq : (validL L != 0) = true := by simpa using he
    rw [if_neg he] at HD
    rw [HD.out]
    generalize validL L = x at *
    clear he h1 h2 HP HP1 cb b2 z2
    go_enter Try.func27, Try.ntmps27
    go_wp2_with (go_at_call 61; (with_reducible refine HV.out.mono ?_); rintro e w3 ⟨rfl, hb3⟩; obtain ⟨s0, s1, g0, g1⟩ := HRs.out w3 hb3)
    obtain ⟨t0, t1⟩ := two_stored (x := .slice none 0 0) (y := .slice none 0 0) s0 s1
    refine bodyPost_ret (v := .tuple #[.agg #[.slice none 0 0, .slice none 0 0], .int .i64 x]) ?_ rfl ⟨_, _, [], [], rfl, NewI.nil0 _ _ _ _ _ (by decide) (by decide) (by decide), ?_⟩
    · simp [results, Try.results27, go_sem, t0, t1]
    · have hf := Hb2.out.trans (hb3.mono Hb2.out.size)
      exact (hf.setCell (p := ⟨w.heap.size + 1, 0, none⟩) (by show _ ≤ _ + 1; omega) _).setCell (p := ⟨w.heap.size + 1, 1, none⟩) (by show _ ≤ _ + 1; omega) _
end Go.Proofs.Ytpcpmdokgdbonaa
