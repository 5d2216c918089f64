import Derived.Test.YtpcpmdokgdbonaaVX
namespace Go.Proofs.Kv
open Go.RowKit Go
/-- the first i numbers put to naught -/
def zerP (r : List Int) (i : Nat) : List Int := List.replicate i 0 ++ r.drop i
theorem zerP_0 (r : List Int) : zerP r 0 = r := by simp [zerP]
theorem zerP_len {r : List Int} {i n : Nat} (h : r.length = n) (hi : i ≤ n) : (zerP r i).length = n := by simp [zerP, h]; omega
theorem zerP_all {r : List Int} {n : Nat} (h : r.length = n) : zerP r n = zerR r := by
  rw [zerR_rep h, zerP, List.drop_of_length_le (by omega), List.append_nil]
theorem zerP_next {r : List Int} {i n : Nat} (h : r.length = n) (hi : i < n) : ((zerP r i).map (Value.int .i64)).set i (.int .i64 0) = (zerP r (i + 1)).map (Value.int .i64) := by
  apply List.ext_getElem
  · simp [zerP]; omega
  · intro j h1 h2
    simp only [List.getElem_set, List.getElem_map, zerP]
    by_cases e : i = j
    · subst e
      rw [if_pos rfl, List.getElem_append_left (by simp)]; simp
    · rw [if_neg e]
      by_cases hj : j < i
      · rw [List.getElem_append_left (by simpa using hj), List.getElem_append_left (by simp; omega)]; simp
      · rw [List.getElem_append_right (by simp; omega), List.getElem_append_right (by simp; omega)]
        simp only [List.length_replicate, List.getElem_drop]
        congr 2; omega
end Go.Proofs.Kv
namespace Go.Proofs.Ytpcpmdokgdbonaa
open Go.RowKit Go.Proofs.Kv Go

set_option maxRecDepth 100000 in
set_option maxHeartbeats 4000000 in
theorem r8Free_calls (v : Value) (L : Lx) (w : World) (h : LexAt w v L) :
    Calls Try.prog 36 #[v] w fun e w' => ∃ iv fv xs fs, e = .returned (.tuple #[.agg #[iv, fv], .int .i64 (validL L)]) ∧ NewL w' w.heap.size iv fv xs fs (frL L) ∧ Below w.heap.size w w' := by
  have HP := hid_ h
  obtain ⟨a1, n1, c1, a2, n2, c2, rfl, h1, h2⟩ := h
  obtain ⟨w1, hw1⟩ : ∃ w1, w.alloc (.cells #[.slice a1 n1 c1, .slice a2 n2 c2] 25) = w1 := ⟨_, rfl⟩
  have cb : Below w.heap.size w w1 := by rw [← hw1]; exact below_alloc _ _
  have q0 : w1.cell? ⟨w.heap.size, 0, none⟩ = some (.slice a1 n1 c1) := by rw [← hw1]; exact cells_alloc _ _ _ 0
  have q1 : w1.cell? ⟨w.heap.size, 1, none⟩ = some (.slice a2 n2 c2) := by rw [← hw1]; exact cells_alloc _ _ _ 1
  have HP1 := hid_ (HP.out.below cb (Nat.le_refl _)); have Hc1 := hid_ cb
  obtain ⟨w2, hw2⟩ : ∃ w2, w1.alloc (.cells #[.slice none 0 0, .slice none 0 0] 25) = w2 := ⟨_, rfl⟩
  have z1 : w1.heap.size = w.heap.size + 1 := by rw [← hw1]; simp
  have z2 : w2.heap.size = w.heap.size + 2 := by rw [← hw2]; simp [z1]
  have b2 : Below w1.heap.size w1 w2 := by rw [← hw2]; exact below_alloc _ _
  have r0 : w2.cell? ⟨w.heap.size + 1, 0, none⟩ = some (.slice none 0 0) := by rw [← z1, ← hw2]; exact cells_alloc _ _ _ 0
  have r1 : w2.cell? ⟨w.heap.size + 1, 1, none⟩ = some (.slice none 0 0) := by rw [← z1, ← hw2]; exact cells_alloc _ _ _ 1
  have f0 : ∀ j, w2.frozen? ⟨w.heap.size + 1, j, none⟩ = false := fun j => by rw [← z1, ← hw2]; exact World.frozen?_alloc_at _ _ _ _ (by simp)
  have q02 := cell_below q0 b2; have q12 := cell_below q1 b2
  have Hb2 : Hid (Below w.heap.size w w2) := hid_ (Hc1.out.trans (b2.mono Hc1.out.size))
  have HP2 := hid_ (HP.out.below Hb2.out (Nat.le_refl _))
  have HRs := hid_ (fun W (hW : Below w2.heap.size w2 W) => (⟨(hW.cell (p := ⟨w.heap.size + 1, 0, none⟩) (by show w.heap.size + 1 < w2.heap.size; omega)).trans r0, (hW.cell (p := ⟨w.heap.size + 1, 1, none⟩) (by show w.heap.size + 1 < w2.heap.size; omega)).trans r1, (hW.frozen (p := ⟨w.heap.size + 1, 0, none⟩) (by show w.heap.size + 1 < w2.heap.size; omega)).trans (f0 0), (hW.frozen (p := ⟨w.heap.size + 1, 1, none⟩) (by show w.heap.size + 1 < w2.heap.size; omega)).trans (f0 1)⟩ : W.cell? ⟨w.heap.size + 1, 0, none⟩ = some (.slice none 0 0) ∧ W.cell? ⟨w.heap.size + 1, 1, none⟩ = some (.slice none 0 0) ∧ W.frozen? ⟨w.heap.size + 1, 0, none⟩ = false ∧ W.frozen? ⟨w.heap.size + 1, 1, none⟩ = false))
  have HQ := hid_ (fun W (hW : Below w2.heap.size w2 W) => (⟨cell_below q02 hW, cell_below q12 hW⟩ : _ ∧ _))
  have Z2 := hid_ z2
  have HV := hid_ (r8Validate_calls _ L w2 HP2.out)
  have HD : Hid (frL L = if validL L = 0 then freeL L else ⟨[], []⟩) := hid_ rfl
  generalize frL L = D at *
  by_cases he : validL L = 0
  · have g := validL_ok he
    have hl1 := h1.len; have hl2 := h2.len
    have hr4 := g.rows
    obtain rfl : n2 = 4 := by omega
    rw [if_pos he] at HD
    rw [he] at HV ⊢
    have HCp := hid_ (fun W (hW : Below w2.heap.size w2 W) => r8Copy_calls _ L W (HP2.out.below hW (Nat.le_refl _)) g.copy.1 g.copy.2.1 g.copy.2.2.1 g.copy.2.2.2)
    have Hr4 := hid_ (fun k (hk : k < 4) => (g.row k hk).1)
    have Hl1 := hid_ hl1; have Hl2 := hid_ hl2
    have hn1 := g.ge
    rw [hl1] at hn1
    clear h1 h2 HP HP1 g he cb b2 hl1 hl2 hr4
    rw [HD.out]
    clear z2
    go_enter Try.func36, Try.ntmps36
    go_wp2_with (first
      | (go_at_call 61; (with_reducible refine HV.out.mono ?_); rintro e w3 ⟨rfl, hb3⟩; obtain ⟨q3, p3⟩ := HQ.out w3 hb3)
      | (go_at_call 25; (with_reducible refine (HCp.out _ hb3).mono ?_); rintro e w5 ⟨iv, fv, xs, fs, rfl, hN, hb5'⟩; have hb5 := below_then8 hb3 hb5'; obtain ⟨gi, cg, rfl, hgB, hgl⟩ := hN.form (by rw [Hl1.out]; omega); obtain ⟨gf, cf, rfl, hfB, hfl⟩ := hN.formF (by rw [Hl2.out]; omega); simp only [Hl1.out, Hl2.out] at hN ⊢; have Hhn := hid_ hN; clear hN; obtain ⟨w6, hw6⟩ : ∃ w6, w5.alloc (.cells #[.slice (some ⟨gi, 0, none⟩) n1 cg, .slice (some ⟨gf, 0, none⟩) 4 cf] 25) = w6 := ⟨_, rfl⟩; have b6 : Below w5.heap.size w5 w6 := (by rw [← hw6]; exact below_alloc _ _); have HN6 := hid_ (Hhn.out.below b6 (Nat.le_refl _)); have HOc := hid_ (show w6.ownsRow w5.heap.size 25 2 (.slice (some ⟨w5.heap.size, 0, none⟩) 1 1) 1 [.slice (some ⟨gi, 0, none⟩) n1 cg, .slice (some ⟨gf, 0, none⟩) 4 cf] by rw [← hw6]; exact World.ownsRow_lit (base := w5.heap.size) (e := 25) (size := 2) w5 #[.slice (some ⟨gi, 0, none⟩) n1 cg, .slice (some ⟨gf, 0, none⟩) 4 cf] 1 (Nat.le_refl _) (by unfold maxLen; omega) rfl); have e61 : w6.cell? ⟨w5.heap.size, 1, none⟩ = some (.slice (some ⟨gf, 0, none⟩) 4 cf) := HOc.out.cellAt 1 (by omega); have Hb6 := hid_ (hb5.trans (b6.mono hb5.size)); have H3 := hid_ hb3.size; clear b6))
    clear hw6 e61
    go_loopw [6, 7] (fun iv _ wr => ∃ k : Nat, k ≤ 4 ∧ iv = .int .i64 k ∧ Below w2.heap.size w2 wr ∧ wr.ownsRow w5.heap.size 25 2 (.slice (some ⟨w5.heap.size, 0, none⟩) 1 1) 1 [.slice (some ⟨gi, 0, none⟩) n1 cg, .slice (some ⟨gf, 0, none⟩) 4 cf] ∧ NewL wr w3.heap.size (.slice (some ⟨gi, 0, none⟩) n1 cg) (.slice (some ⟨gf, 0, none⟩) 4 cf) xs fs ⟨L.items, zerK L.follow k⟩) (fun iv _ _ => 4 - (intOf iv).toNat)
    case atStart => exact ⟨0, by omega, rfl, Hb6.out, HOc.out, by rw [zerK_0]; exact HN6.out⟩
    case round =>
      clear HOc HN6
      obtain ⟨k, hk, rfl, hbr, hoc, hN⟩ := hrel
      have d0 : wr.cell? ⟨w5.heap.size, 0, none⟩ = some (.slice (some ⟨gi, 0, none⟩) n1 cg) := hoc.cellAt 0 (by omega)
      have d1 : wr.cell? ⟨w5.heap.size, 1, none⟩ = some (.slice (some ⟨gf, 0, none⟩) 4 cf) := hoc.cellAt 1 (by omega)
      by_cases hlt : k < 4
      · have hkF : k < L.follow.length := by rw [Hl2.out]; exact hlt
        have hrl : (L.follow.getD k []).length = 4 := Hr4.out k hlt
        have hat : (zerK L.follow k).getD k [] = L.follow.getD k [] := by rw [zerK_at _ _ hkF, if_neg (by omega)]
        have Hs0 : Hid ((zerK L.follow k).set k (zerP (L.follow.getD k []) 0) = zerK L.follow k) := hid_ (by
          rw [zerP_0]
          apply List.ext_getElem
          · simp
          · intro i h1 h2
            rw [List.getElem_set]
            split
            · rename_i e; subst e; rw [← hat]; simp [List.getD, h2]
            · rfl)
        have Hs4 : Hid ((zerK L.follow k).set k (zerP (L.follow.getD k []) 4) = zerK L.follow (k + 1)) := hid_ (by rw [zerP_all hrl, zerK_next _ hkF])
        have HOc := hid_ hoc; have HN := hid_ hN; have Hbr := hid_ hbr; have Hrl := hid_ hrl
        clear hoc hN hbr hat hrl
        go_wp2
        clear d0 d1
        obtain ⟨wo, rfl⟩ : ∃ wo, wo = wr := ⟨_, rfl⟩
        go_loopw [7] (fun iv wr => ∃ i : Nat, i ≤ 4 ∧ iv = .int .i64 i ∧ Below w2.heap.size w2 wr ∧ wr.ownsRow w5.heap.size 25 2 (.slice (some ⟨w5.heap.size, 0, none⟩) 1 1) 1 [.slice (some ⟨gi, 0, none⟩) n1 cg, .slice (some ⟨gf, 0, none⟩) 4 cf] ∧ NewL wr w3.heap.size (.slice (some ⟨gi, 0, none⟩) n1 cg) (.slice (some ⟨gf, 0, none⟩) 4 cf) xs fs ⟨L.items, (zerK L.follow k).set k (zerP (L.follow.getD k []) i)⟩) (fun iv _ => 4 - (intOf iv).toNat)
        case atStart => exact ⟨0, by omega, rfl, Hbr.out, HOc.out, by rw [Hs0.out]; exact HN.out⟩
        case round =>
          clear HOc HN Hbr
          obtain ⟨i, hi, rfl, hbr, hoc, hN⟩ := hrel
          have d1 : wr.cell? ⟨w5.heap.size, 1, none⟩ = some (.slice (some ⟨gf, 0, none⟩) 4 cf) := hoc.cellAt 1 (by omega)
          have hFl : ((zerK L.follow k).set k (zerP (L.follow.getD k []) i)).length = 4 := by rw [List.length_set, zerK_len, Hl2.out]
          have hat : ((⟨L.items, (zerK L.follow k).set k (zerP (L.follow.getD k []) i)⟩ : Lx).follow.getD k []) = zerP (L.follow.getD k []) i := by
            show ((zerK L.follow k).set k _).getD k [] = _
            rw [getD_set8 _ _ _ _ _ (by rw [zerK_len]; exact hkF), if_pos rfl]
          have hzl := zerP_len Hrl.out hi
          obtain ⟨b, d, hfs, hcell, hrow, hled⟩ := hN.listAt hFl.symm hlt (by rw [hat, hzl]; omega)
          rw [hat, hzl] at hfs hcell hrow hled
          by_cases hlti : i < 4
          · have hst := hrow.stored i (.int .i64 0)
            rw [zerP_next Hrl.out hlti] at hst
            have hci : wr.cell? ⟨b, i, none⟩ = some (((zerP (L.follow.getD k []) i).map (Value.int .i64))[i]'(by rw [List.length_map, hzl]; exact hlti)) := (hrow.cellAt i (by omega)).trans (List.getElem?_eq_getElem _)
            have hcf := hrow.frozenAt i
            have hz1 := zerP_len Hrl.out (show i + 1 ≤ 4 by omega)
            have hN8 := hN.turnF (k := k) (r := zerP (L.follow.getD k []) (i + 1)) (by rw [hFl]; exact hlt) hfs hst.2 (by rw [hz1]; exact hst.1)
            rw [List.set_set] at hN8
            have HN8 := hid_ hN8
            have HOc8 := hid_ (own_kept_ne hoc hst.2 (fun b' hb' => own_apart hoc hrow (by decide) b' hb'))
            have Hb8 := hid_ (Below.setCell (p := ⟨b, i, none⟩) hbr (Nat.le_trans H3.out (hrow.lt b rfl).1) (.int .i64 0))
            generalize ((zerP (L.follow.getD k []) i).map (Value.int .i64))[i]'(by rw [List.length_map, hzl]; exact hlti) = y at *
            clear hN hN8 hoc hrow hst hat hfs hFl hzl hz1
            go_wp2
            go_roundw
            case rel => exact ⟨i + 1, by omega, by go_num, Hb8.out, HOc8.out, HN8.out⟩
            case measure => simp [intOf]; omega
          · obtain rfl : i = 4 := by omega
            rw [Hs4.out] at hN
            have HN := hid_ hN; have HOc := hid_ hoc; have Hbr := hid_ hbr
            clear hN hoc hbr hrow hfs hat hFl hzl
            go_wp2
            go_roundw
            case rel => exact ⟨k + 1, by omega, by go_num, Hbr.out, HOc.out, HN.out⟩
            case measure => simp [intOf]; omega
      · obtain rfl : k = 4 := by omega
        have hz : zerK L.follow 4 = L.follow.map zerR := by rw [← zerK_all, Hl2.out]
        rw [hz] at hN
        have HN := hid_ hN
        obtain ⟨s0, s1, g0, g1⟩ := HRs.out wr hbr
        have Hbr := hid_ hbr
        clear hN hoc hbr hz
        obtain ⟨t0, t1⟩ := two_stored (x := .slice (some ⟨gi, 0, none⟩) n1 cg) (y := .slice (some ⟨gf, 0, none⟩) 4 cf) s0 s1
        go_wp2
        refine bodyPost_ret (v := .tuple #[.agg #[.slice (some ⟨gi, 0, none⟩) n1 cg, .slice (some ⟨gf, 0, none⟩) 4 cf], .int .i64 0]) ?_ rfl ⟨_, _, xs, fs, rfl, ?_, ?_⟩
        · simp [results, Try.results36, go_sem, t0, t1]
        · exact ((HN.out.base H3.out).res (by have := Z2.out; omega) _ _).base (by have := Z2.out; omega)
        · have hf := Hb2.out.trans (Hbr.out.mono Hb2.out.size)
          exact (hf.setCell (p := ⟨w.heap.size + 1, 0, none⟩) (by show _ ≤ _ + 1; omega) _).setCell (p := ⟨w.heap.size + 1, 1, none⟩) (by show _ ≤ _ + 1; omega) _
  · have hq : (validL L != 0) = true := by simpa using he
    rw [if_neg he] at HD
    rw [HD.out]
    generalize validL L = x at *
    clear he h1 h2 HP HP1 cb b2 z2
    go_enter Try.func36, Try.ntmps36
    go_wp2_with (go_at_call 61; (with_reducible refine HV.out.mono ?_); rintro e w3 ⟨rfl, hb3⟩; obtain ⟨s0, s1, g0, g1⟩ := HRs.out w3 hb3)
    obtain ⟨t0, t1⟩ := two_stored (x := .slice none 0 0) (y := .slice none 0 0) s0 s1
    refine bodyPost_ret (v := .tuple #[.agg #[.slice none 0 0, .slice none 0 0], .int .i64 x]) ?_ rfl ⟨_, _, [], [], rfl, NewI.nil0 _ _ _ _ _ (by decide) (by decide) (by decide), ?_⟩
    · simp [results, Try.results36, go_sem, t0, t1]
    · have hf := Hb2.out.trans (hb3.mono Hb2.out.size)
      exact (hf.setCell (p := ⟨w.heap.size + 1, 0, none⟩) (by show _ ≤ _ + 1; omega) _).setCell (p := ⟨w.heap.size + 1, 1, none⟩) (by show _ ≤ _ + 1; omega) _
end Go.Proofs.Ytpcpmdokgdbonaa
