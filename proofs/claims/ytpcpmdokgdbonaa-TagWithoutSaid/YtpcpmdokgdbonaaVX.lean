import Derived.Test.YtpcpmdokgdbonaaVW
import Derived.Lib.SliceRun
namespace Go.Proofs.Kv
open Go.RowKit Go
/-- row k of the lists turns in its block -/
theorem NewI.turnF {EI EL E1 : TypeId} {w w' : World} {B k : Nat} {iv fv u : Value} {xs : List Ic} {fs : List Value} {I : List It} {F : List (List Int)} {r : List Int} (h : NewI EI EL E1 w B iv fv xs fs ⟨I, F⟩) (hk : k < F.length) (hu : fs[k]? = some u)
    (hg : w.grownBy w' u.ownBlock) (hu' : w'.ownsRow B E1 1 u r.length (r.map (Value.int .i64))) : NewI EI EL E1 w' B iv fv xs fs ⟨I, F.set k r⟩ := by
  have hl := h.len
  have hl' : xs.length = I.length := hl
  obtain ⟨u', hu2, hu3, ho⟩ := h.list (k := k) hk
  rw [hu] at hu2; injection hu2 with hu2; subst hu2
  have hR := h.rows.turn hu3 hg hu'
  have e : (I.map (·.word) ++ F).set (I.length + k) r = I.map (·.word) ++ F.set k r := by
    rw [List.set_append_right _ _ (by simp)]; simp
  refine ⟨h.ne1, h.ne2, h.ne3, own_kept_ne h.items hg (fun b hb => own_apart h.items ho h.ne1 b hb), h.len, h.kc, by simpa using own_kept_ne h.fol hg (fun b hb => own_apart h.fol ho h.ne2 b hb), ?_⟩
  rw [e] at hR; exact hR
theorem NewI.listAt {EI EL E1 : TypeId} {w : World} {B g n c k : Nat} {iv : Value} {xs : List Ic} {fs : List Value} {L : Lx} (h : NewI EI EL E1 w B iv (.slice (some ⟨g, 0, none⟩) n c) xs fs L) (hn : n = L.follow.length) (hk : k < n) (h0 : 0 < (L.follow.getD k []).length) :
    ∃ b d, fs[k]? = some (.slice (some ⟨b, 0, none⟩) (L.follow.getD k []).length d) ∧ w.cell? ⟨g, k, none⟩ = some (.slice (some ⟨b, 0, none⟩) (L.follow.getD k []).length d) ∧ w.ownsRow B E1 1 (.slice (some ⟨b, 0, none⟩) (L.follow.getD k []).length d) (L.follow.getD k []).length ((L.follow.getD k []).map (Value.int .i64)) ∧ (L.follow.getD k []).length ≤ d := by
  subst hn
  obtain ⟨u, hu, -, ho⟩ := h.list hk
  have ho2 := ho
  rcases ho.2 with ⟨_, h1⟩ | ⟨b, cap, cur, rfl, hB, hg, hle, _⟩
  · omega
  · exact ⟨b, cap, hu, (h.fol.cellAt _ (by omega)).trans hu, ho2, hle⟩
theorem NewI.formF {EI EL E1 : TypeId} {w : World} {B : Nat} {iv fv : Value} {xs : List Ic} {fs : List Value} {L : Lx} (h : NewI EI EL E1 w B iv fv xs fs L) (h0 : 0 < L.follow.length) : ∃ g c, fv = .slice (some ⟨g, 0, none⟩) L.follow.length c ∧ B ≤ g ∧ g < w.heap.size := by
  rcases h.fol.2 with ⟨_, h1⟩ | ⟨g, cap, cur, rfl, hB, hg, _⟩
  · omega
  · exact ⟨g, cap, rfl, hB, (Array.getElem?_eq_some_iff.1 hg).1⟩
theorem zero_run8 {P : Program} {t : TypeId} {i : TypeInfo} {z : Value} (h : P.info? t = some i) (hz : i.zero = some z) : ∀ w, (zeroValue t).run P w = .ok z w := by
  intro w
  simp [zeroValue, typeInfo, h, hz]
def zerR (r : List Int) : List Int := r.map fun _ => 0
/-- the first k lists put to naught -/
def zerK (F : List (List Int)) (k : Nat) : List (List Int) := (List.range F.length).map fun i => if i < k then zerR (F.getD i []) else F.getD i []
theorem zerK_len (F : List (List Int)) (k : Nat) : (zerK F k).length = F.length := by simp [zerK]
theorem zerK_at (F : List (List Int)) (k : Nat) {i : Nat} (hi : i < F.length) : (zerK F k).getD i [] = if i < k then zerR (F.getD i []) else F.getD i [] := by simp [zerK, List.getD, hi]
theorem zerK_0 (F : List (List Int)) : zerK F 0 = F := by
  apply List.ext_getElem
  · simp [zerK]
  · intro i h1 h2; simp [zerK, List.getD, h2]
theorem zerK_all (F : List (List Int)) : zerK F F.length = F.map zerR := by
  apply List.ext_getElem
  · simp [zerK]
  · intro i h1 h2
    have : i < F.length := by simpa using h2
    simp [zerK, this]
theorem zerK_next (F : List (List Int)) {k : Nat} (_ : k < F.length) : (zerK F k).set k (zerR (F.getD k [])) = zerK F (k + 1) := by
  apply List.ext_getElem
  · simp [zerK]
  · intro i h1 h2
    rw [List.getElem_set]
    split
    · rename_i e; subst e; simp [zerK]
    · rename_i e
      simp only [zerK, List.getElem_map, List.getElem_range]
      by_cases h : i < k
      · rw [if_pos h, if_pos (by omega)]
      · rw [if_neg h, if_neg (by omega)]
theorem zerR_rep {r : List Int} {n : Nat} (h : r.length = n) : zerR r = List.replicate n 0 := by
  subst h; exact List.map_const' ..
end Go.Proofs.Kv
namespace Go.Proofs.Ytpcpmdokgdbonaa
open Go.RowKit Go.Proofs.Kv Go

/-! ### Free -/
def freeL (L : Lx) : Lx := ⟨L.items, L.follow.map zerR⟩
def frL (L : Lx) : Lx := if validL L = 0 then freeL L else ⟨[], []⟩
set_option maxRecDepth 100000 in
set_option maxHeartbeats 4000000 in
theorem taFree_calls (v : Value) (L : Lx) (w : World) (h : LexAt w v L) :
    Calls Try.prog 35 #[v] w fun e w' => ∃ iv fv xs fs, e = .returned (.tuple #[.agg #[iv, fv], .int .i64 (validL L)]) ∧ NewL w' w.heap.size iv fv xs fs (frL L) ∧ Below w.heap.size w w' := by
  have HP := hid_ h
  obtain ⟨a1, n1, c1, a2, n2, c2, rfl, h1, h2⟩ := h
  obtain ⟨w1, hw1⟩ : ∃ w1, w.alloc (.cells #[.slice a1 n1 c1, .slice a2 n2 c2] 25) = w1 := ⟨_, rfl⟩
  have cb : Below w.heap.size w w1 := by rw [← hw1]; exact below_alloc _ _
  have q0 : w1.cell? ⟨w.heap.size, 0, none⟩ = some (.slice a1 n1 c1) := by rw [← hw1]; exact cells_alloc _ _ _ 0
  have q1 : w1.cell? ⟨w.heap.size, 1, none⟩ = some (.slice a2 n2 c2) := by rw [← hw1]; exact cells_alloc _ _ _ 1
  have HP1 := hid_ (HP.out.below cb (Nat.le_refl _)); have Hc1 := hid_ cb
  obtain ⟨w2, hw2⟩ : ∃ w2, w1.alloc (.cells #[.slice none 0 0, .slice none 0 0] 25) = w2 := ⟨_, rfl⟩
  have z1 : w1.heap.size = w.heap.size + 1 := by rw [← hw1]; simp
  have z2 : w2.heap.size = w.heap.size + 2 := by rw [← hw2]; simp [z1]
  have b2 : Below w1.heap.size w1 w2 := by rw [← hw2]; exact below_alloc _ _
  have r0 : w2.cell? ⟨w.heap.size + 1, 0, none⟩ = some (.slice none 0 0) := by rw [← z1, ← hw2]; exact cells_alloc _ _ _ 0
  have r1 : w2.cell? ⟨w.heap.size + 1, 1, none⟩ = some (.slice none 0 0) := by rw [← z1, ← hw2]; exact cells_alloc _ _ _ 1
  have f0 : ∀ j, w2.frozen? ⟨w.heap.size + 1, j, none⟩ = false := fun j => by rw [← z1, ← hw2]; exact World.frozen?_alloc_at _ _ _ _ (by simp)
  have q02 := cell_below q0 b2; have q12 := cell_below q1 b2
  have Hb2 : Hid (Below w.heap.size w w2) := hid_ (Hc1.out.trans (b2.mono Hc1.out.size))
  have HP2 := hid_ (HP.out.below Hb2.out (Nat.le_refl _))
  have HRs := hid_ (fun W (hW : Below w2.heap.size w2 W) => (⟨(hW.cell (p := ⟨w.heap.size + 1, 0, none⟩) (by show w.heap.size + 1 < w2.heap.size; omega)).trans r0, (hW.cell (p := ⟨w.heap.size + 1, 1, none⟩) (by show w.heap.size + 1 < w2.heap.size; omega)).trans r1, (hW.frozen (p := ⟨w.heap.size + 1, 0, none⟩) (by show w.heap.size + 1 < w2.heap.size; omega)).trans (f0 0), (hW.frozen (p := ⟨w.heap.size + 1, 1, none⟩) (by show w.heap.size + 1 < w2.heap.size; omega)).trans (f0 1)⟩ : W.cell? ⟨w.heap.size + 1, 0, none⟩ = some (.slice none 0 0) ∧ W.cell? ⟨w.heap.size + 1, 1, none⟩ = some (.slice none 0 0) ∧ W.frozen? ⟨w.heap.size + 1, 0, none⟩ = false ∧ W.frozen? ⟨w.heap.size + 1, 1, none⟩ = false))
  have HQ := hid_ (fun W (hW : Below w2.heap.size w2 W) => (⟨cell_below q02 hW, cell_below q12 hW⟩ : _ ∧ _))
  have Z2 := hid_ z2
  have HV := hid_ (taValidate_calls _ L w2 HP2.out)
  have HD : Hid (frL L = if validL L = 0 then freeL L else ⟨[], []⟩) := hid_ rfl
  generalize frL L = D at *
  by_cases he : validL L = 0
  · have g := validL_ok he
    have hl1 := h1.len; have hl2 := h2.len
    have hr4 := g.rows
    obtain rfl : n2 = 4 := by omega
    rw [if_pos he] at HD
    rw [he] at HV ⊢
    have HCp := hid_ (fun W (hW : Below w2.heap.size w2 W) => copied8_calls _ L W (HP2.out.below hW (Nat.le_refl _)) g)
    have Hr4 := hid_ (fun k (hk : k < 4) => (g.row k hk).1)
    have Hl1 := hid_ hl1; have Hl2 := hid_ hl2
    have hn1 := g.ge
    rw [hl1] at hn1
    obtain ⟨i1, hi1, hy0, hy1, hy2⟩ := info_parts Try.infoInt
    clear h1 h2 HP HP1 g he cb b2 hl1 hl2 hr4
    rw [HD.out]
    clear z2
    go_enter Try.func35, Try.ntmps35
    go_wp2_with (first
      | (go_at_call 58; (with_reducible refine HV.out.mono ?_); rintro e w3 ⟨rfl, hb3⟩; obtain ⟨q3, p3⟩ := HQ.out w3 hb3)
      | (go_at_call 59; (with_reducible refine (HCp.out _ hb3).mono ?_); rintro e w5 ⟨iv, fv, xs, fs, rfl, hN, hb5'⟩; have hb5 := below_then8 hb3 hb5'; obtain ⟨gi, cg, rfl, hgB, hgl⟩ := hN.form (by rw [Hl1.out]; omega); obtain ⟨gf, cf, rfl, hfB, hfl⟩ := hN.formF (by rw [Hl2.out]; omega); simp only [Hl1.out, Hl2.out] at hN ⊢; have Hhn := hid_ hN; clear hN; obtain ⟨w6, hw6⟩ : ∃ w6, w5.alloc (.cells #[.slice (some ⟨gi, 0, none⟩) n1 cg, .slice (some ⟨gf, 0, none⟩) 4 cf] 25) = w6 := ⟨_, rfl⟩; have b6 : Below w5.heap.size w5 w6 := (by rw [← hw6]; exact below_alloc _ _); have HN6 := hid_ (Hhn.out.below b6 (Nat.le_refl _)); have HOc := hid_ (show w6.ownsRow w5.heap.size 25 2 (.slice (some ⟨w5.heap.size, 0, none⟩) 1 1) 1 [.slice (some ⟨gi, 0, none⟩) n1 cg, .slice (some ⟨gf, 0, none⟩) 4 cf] by rw [← hw6]; exact World.ownsRow_lit (base := w5.heap.size) (e := 25) (size := 2) w5 #[.slice (some ⟨gi, 0, none⟩) n1 cg, .slice (some ⟨gf, 0, none⟩) 4 cf] 1 (Nat.le_refl _) (by unfold maxLen; omega) rfl); have e61 : w6.cell? ⟨w5.heap.size, 1, none⟩ = some (.slice (some ⟨gf, 0, none⟩) 4 cf) := HOc.out.cellAt 1 (by omega); have Hb6 := hid_ (hb5.trans (b6.mono hb5.size)); have H3 := hid_ hb3.size; clear b6))
    clear hw6 e61
    go_loopw [19] (fun iv wr => ∃ k : Nat, k ≤ 4 ∧ iv = .int .i64 k ∧ Below w2.heap.size w2 wr ∧ wr.ownsRow w5.heap.size 25 2 (.slice (some ⟨w5.heap.size, 0, none⟩) 1 1) 1 [.slice (some ⟨gi, 0, none⟩) n1 cg, .slice (some ⟨gf, 0, none⟩) 4 cf] ∧ NewL wr w3.heap.size (.slice (some ⟨gi, 0, none⟩) n1 cg) (.slice (some ⟨gf, 0, none⟩) 4 cf) xs fs ⟨L.items, zerK L.follow k⟩) (fun iv _ => 4 - (intOf iv).toNat)
    case atStart => exact ⟨0, by omega, rfl, Hb6.out, HOc.out, by rw [zerK_0]; exact HN6.out⟩
    case round =>
      clear HOc HN6
      obtain ⟨k, hk, rfl, hbr, hoc, hN⟩ := hrel
      by_cases hlt : k < 4
      · have hkF : k < L.follow.length := by rw [Hl2.out]; exact hlt
        have hat : (zerK L.follow k).getD k [] = L.follow.getD k [] := by rw [zerK_at _ _ hkF, if_neg (by omega)]
        obtain ⟨b, d, hfs, hcell, hrow, hled⟩ := hN.listAt (by show 4 = (zerK L.follow k).length; rw [zerK_len, Hl2.out]) hlt (by show 0 < ((zerK L.follow k).getD k []).length; rw [hat, Hr4.out k hlt]; omega)
        have hat' : ((⟨L.items, zerK L.follow k⟩ : Lx).follow.getD k []) = L.follow.getD k [] := hat
        rw [hat', Hr4.out k hlt] at hfs hcell hrow hled
        obtain ⟨s1, s2⟩ := own_setCells_at (List.replicate 4 (Value.int .i64 0)) 0 hrow (by rw [List.length_map, Hr4.out k hlt]; simp)
        have e9 : List.take 0 ((L.follow.getD k []).map (Value.int .i64)) ++ List.replicate 4 (Value.int .i64 0) ++ List.drop (0 + (List.replicate 4 (Value.int .i64 0)).length) ((L.follow.getD k []).map (Value.int .i64)) = (zerR (L.follow.getD k [])).map (Value.int .i64) := by
          rw [zerR_rep (Hr4.out k hlt), List.drop_of_length_le (by rw [List.length_map, Hr4.out k hlt]; simp)]; rfl
        rw [e9] at s1
        have hz4 : (zerR (L.follow.getD k [])).length = 4 := by rw [zerR_rep (Hr4.out k hlt)]; rfl
        have hcl : ∀ ty, (Builtin.clear_ #[26] ty #[.slice (some ⟨b, 0, none⟩) 4 d]).run Try.prog wr = .ok (.tuple #[]) (wr.setCells b 0 (List.replicate 4 (.int .i64 0))) :=
          fun ty => Lib.run_clear_slice wr 26 3 ty (.int .i64 0) Try.underlying26 (zero_run8 hi1 hy0) rfl rfl b 0 4 d (by omega) (fun j hj => by rw [Nat.zero_add, hrow.cellAt j (by omega), List.getElem?_eq_getElem (by rw [List.length_map, Hr4.out k hlt]; exact hj)]; rfl) (fun j hj => hrow.frozenAt _)
        have hN8 := hN.turnF (k := k) (r := zerR (L.follow.getD k [])) (by rw [zerK_len]; exact hkF) hfs s2 (by rw [hz4]; exact s1)
        rw [zerK_next _ hkF] at hN8
        have HN8 := hid_ hN8
        have HOc8 := hid_ (own_kept_ne hoc s2 (fun b' hb' => own_apart hoc hrow (by decide) b' hb'))
        have Hb8 := hid_ (below_setCells hbr (g := b) (Nat.le_trans H3.out (hrow.lt b rfl).1) (List.replicate 4 (Value.int .i64 0)) 0)
        clear hN hN8 hoc hrow s1 s2 e9 hat hat' hfs hz4
        go_wp2
        go_roundw
        case rel => exact ⟨k + 1, by omega, by go_num, Hb8.out, HOc8.out, HN8.out⟩
        case measure => simp [intOf]; omega
      · obtain rfl : k = 4 := by omega
        have hz : zerK L.follow 4 = L.follow.map zerR := by rw [← zerK_all, Hl2.out]
        rw [hz] at hN
        have HN := hid_ hN
        have d0 : wr.cell? ⟨w5.heap.size, 0, none⟩ = some (.slice (some ⟨gi, 0, none⟩) n1 cg) := hoc.cellAt 0 (by omega)
        have d1 : wr.cell? ⟨w5.heap.size, 1, none⟩ = some (.slice (some ⟨gf, 0, none⟩) 4 cf) := hoc.cellAt 1 (by omega)
        obtain ⟨s0, s1, g0, g1⟩ := HRs.out wr hbr
        have Hbr := hid_ hbr
        clear hN hoc hbr hz
        obtain ⟨t0, t1⟩ := two_stored (x := .slice (some ⟨gi, 0, none⟩) n1 cg) (y := .slice (some ⟨gf, 0, none⟩) 4 cf) s0 s1
        go_wp2
        refine bodyPost_ret (v := .tuple #[.agg #[.slice (some ⟨gi, 0, none⟩) n1 cg, .slice (some ⟨gf, 0, none⟩) 4 cf], .int .i64 0]) ?_ rfl ⟨_, _, xs, fs, rfl, ?_, ?_⟩
        · simp [results, Try.results35, go_sem, t0, t1]
        · exact ((HN.out.base H3.out).res (by have := Z2.out; omega) _ _).base (by have := Z2.out; omega)
        · have hf := Hb2.out.trans (Hbr.out.mono Hb2.out.size)
          exact (hf.setCell (p := ⟨w.heap.size + 1, 0, none⟩) (by show _ ≤ _ + 1; omega) _).setCell (p := ⟨w.heap.size + 1, 1, none⟩) (by show _ ≤ _ + 1; omega) _
  · have hq : (validL L != 0) = true := by simpa using he
    rw [if_neg he] at HD
    rw [HD.out]
    generalize validL L = x at *
    clear he h1 h2 HP HP1 cb b2 z2
    go_enter Try.func35, Try.ntmps35
    go_wp2_with (go_at_call 58; (with_reducible refine HV.out.mono ?_); rintro e w3 ⟨rfl, hb3⟩; obtain ⟨s0, s1, g0, g1⟩ := HRs.out w3 hb3)
    obtain ⟨t0, t1⟩ := two_stored (x := .slice none 0 0) (y := .slice none 0 0) s0 s1
    refine bodyPost_ret (v := .tuple #[.agg #[.slice none 0 0, .slice none 0 0], .int .i64 x]) ?_ rfl ⟨_, _, [], [], rfl, NewI.nil0 _ _ _ _ _ (by decide) (by decide) (by decide), ?_⟩
    · simp [results, Try.results35, go_sem, t0, t1]
    · have hf := Hb2.out.trans (hb3.mono Hb2.out.size)
      exact (hf.setCell (p := ⟨w.heap.size + 1, 0, none⟩) (by show _ ≤ _ + 1; omega) _).setCell (p := ⟨w.heap.size + 1, 1, none⟩) (by show _ ≤ _ + 1; omega) _
end Go.Proofs.Ytpcpmdokgdbonaa
