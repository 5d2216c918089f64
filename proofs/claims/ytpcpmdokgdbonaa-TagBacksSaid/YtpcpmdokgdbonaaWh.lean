import Derived.Test.YtpcpmdokgdbonaaWg
namespace Go.Proofs.Kv
open Go.RowKit Go
/-- word i turns in its block -/
theorem NewI.turnW {EI EL E1 : TypeId} {w w' : World} {B i : Nat} {iv fv : Value} {xs : List Ic} {fs : List Value} {I : List It} {F : List (List Int)} {r : List Int} {x : Ic} (h : NewI EI EL E1 w B iv fv xs fs ⟨I, F⟩) (hi : i < I.length) (hx : xs[i]? = some x)
    (hg : w.grownBy w' x.1.ownBlock) (hu' : w'.ownsRow B E1 1 x.1 r.length (r.map (Value.int .i64))) : NewI EI EL E1 w' B iv fv xs fs ⟨I.set i { I.getD i I0 with word := r }, F⟩ := by
  have hl := h.len
  have hl' : xs.length = I.length := hl
  obtain ⟨y, hy, ho⟩ := h.word (i := i) hi
  rw [hx] at hy; injection hy with hy; subst hy
  have hu : (xs.map (·.1) ++ fs)[i]? = some x.1 := by
    rw [List.getElem?_append_left (by simp; omega), List.getElem?_map, hx]; rfl
  have hR := h.rows.turn hu hg hu'
  have e : (I.map (·.word) ++ F).set i r = (I.set i { I.getD i I0 with word := r }).map (·.word) ++ F := by
    rw [List.set_append_left _ _ (by simpa using hi), List.map_set]
  refine ⟨h.ne1, h.ne2, h.ne3, by simpa using own_kept_ne h.items hg (fun b hb => own_apart h.items ho h.ne1 b hb), by simpa using hl', fun j z hz => ?_, own_kept_ne h.fol hg (fun b hb => own_apart h.fol ho h.ne2 b hb), ?_⟩
  · show z.2 = (((I.set i _).getD j I0).kind, ((I.set i _).getD j I0).cost)
    rw [getD_set8 _ _ _ _ _ hi]
    have := h.kc j z hz
    by_cases e : j = i
    · subst e; rw [if_pos rfl]; exact this
    · rw [if_neg e]; exact this
  · rw [e] at hR; exact hR
theorem NewI.wordAt {EI EL E1 : TypeId} {w : World} {B g n c i : Nat} {fv : Value} {xs : List Ic} {fs : List Value} {L : Lx} (h : NewI EI EL E1 w B (.slice (some ⟨g, 0, none⟩) n c) fv xs fs L) (hn : n = L.items.length) (hi : i < n) (h0 : 0 < (L.items.getD i I0).word.length) :
    ∃ x b d, xs[i]? = some x ∧ x.1 = .slice (some ⟨b, 0, none⟩) (L.items.getD i I0).word.length d ∧ w.cell? ⟨g, i * 3, none⟩ = some (.slice (some ⟨b, 0, none⟩) (L.items.getD i I0).word.length d) ∧ w.cell? ⟨g, i * 3 + 1, none⟩ = some (.int .i64 (L.items.getD i I0).kind) ∧ w.cell? ⟨g, i * 3 + 2, none⟩ = some (.int .i64 (L.items.getD i I0).cost) ∧ w.ownsRow B E1 1 (.slice (some ⟨b, 0, none⟩) (L.items.getD i I0).word.length d) (L.items.getD i I0).word.length ((L.items.getD i I0).word.map (Value.int .i64)) := by
  subst hn
  obtain ⟨x, hx, ho⟩ := h.word hi
  obtain ⟨e0, e1, e2⟩ := encI_at xs i x hx
  have hk := h.kc i x hx
  rw [hk] at e1 e2
  rcases ho.2 with ⟨_, h1⟩ | ⟨b, cap, cur, hv, _⟩
  · omega
  · rw [hv] at e0 ho
    exact ⟨x, b, cap, hx, hv, (h.items.cellAt _ (by omega)).trans e0, (h.items.cellAt _ (by omega)).trans e1, (h.items.cellAt _ (by omega)).trans e2, ho⟩
end Go.Proofs.Kv
namespace Go.Proofs.Ytpcpmdokgdbonaa
open Go.RowKit Go.Proofs.Kv Go

/-! ### Back -/
def revK (I : List It) (j : Nat) : List It := (List.range I.length).map fun i => if i < j then revI (I.getD i I0) else I.getD i I0
theorem revK_len (I : List It) (j : Nat) : (revK I j).length = I.length := by simp [revK]
theorem revK_at (I : List It) (j : Nat) {i : Nat} (hi : i < I.length) : (revK I j).getD i I0 = if i < j then revI (I.getD i I0) else I.getD i I0 := by simp [revK, List.getD, hi]
theorem revK_0 (I : List It) : revK I 0 = I := by
  apply List.ext_getElem
  · simp [revK]
  · intro i h1 h2; simp [revK, List.getD, h2]
theorem revK_all (I : List It) : revK I I.length = I.map revI := by
  apply List.ext_getElem
  · simp [revK]
  · intro i h1 h2
    have : i < I.length := by simpa using h2
    simp [revK, this]
theorem revK_next (I : List It) {j : Nat} (_ : j < I.length) : (revK I j).set j (revI (I.getD j I0)) = revK I (j + 1) := by
  apply List.ext_getElem
  · simp [revK]
  · intro i h1 h2
    rw [List.getElem_set]
    split
    · rename_i e; subst e; simp [revK]
    · rename_i e
      simp only [revK, List.getElem_map, List.getElem_range]
      by_cases h : i < j
      · rw [if_pos h, if_pos (by omega)]
      · rw [if_neg h, if_neg (by omega)]
/-- turned so far: what comes from the first k rows, and of row k from its first i numbers -/
def flipK (F : List (List Int)) (k i : Nat) : List (List Int) := (List.range 4).map fun a => (List.range 4).map fun b => if b < k ∨ (b = k ∧ a < i) then (F.getD b []).getD a 0 else (F.getD a []).getD b 0
def Four (F : List (List Int)) : Prop := F.length = 4 ∧ ∀ a, a < 4 → (F.getD a []).length = 4
theorem flipK_len (F : List (List Int)) (k i : Nat) : (flipK F k i).length = 4 := by simp [flipK]
theorem flipK_row (F : List (List Int)) (k i : Nat) {a : Nat} (ha : a < 4) : ((flipK F k i).getD a []).length = 4 := by simp [flipK, List.getD, ha]
theorem flipK_at (F : List (List Int)) (k i : Nat) {a b : Nat} (ha : a < 4) (hb : b < 4) : ((flipK F k i).getD a []).getD b 0 = if b < k ∨ (b = k ∧ a < i) then (F.getD b []).getD a 0 else (F.getD a []).getD b 0 := by simp [flipK, List.getD, ha, hb]
theorem flipK_0 {F : List (List Int)} (h : Four F) : flipK F 0 0 = F := extL8 (n := 4) (flipK_len _ _ _) h.1 fun a ha => ext8 (n := 4) (flipK_row _ _ _ ha) (h.2 a ha) fun b hb => by
  rw [flipK_at _ _ _ ha hb, if_neg (by omega)]
theorem flipK_row_end (F : List (List Int)) (k : Nat) : flipK F k 4 = flipK F (k + 1) 0 := extL8 (n := 4) (flipK_len _ _ _) (flipK_len _ _ _) fun a ha => ext8 (n := 4) (flipK_row _ _ _ ha) (flipK_row _ _ _ ha) fun b hb => by
  rw [flipK_at _ _ _ ha hb, flipK_at _ _ _ ha hb]
  by_cases h : b < k ∨ (b = k ∧ a < 4)
  · rw [if_pos h, if_pos (by omega)]
  · rw [if_neg h, if_neg (by omega)]
theorem flipK_end (F : List (List Int)) : flipK F 4 0 = flipF F := extL8 (n := 4) (flipK_len _ _ _) (by simp [flipF]) fun a ha => ext8 (n := 4) (flipK_row _ _ _ ha) (by simp [flipF, List.getD, ha]) fun b hb => by
  rw [flipK_at _ _ _ ha hb, if_pos (by omega), flipF_at F ha hb]
theorem flipK_next (F : List (List Int)) {k i : Nat} (hk : k < 4) (hi : i < 4) : (flipK F k i).set i (((flipK F k i).getD i []).set k ((F.getD k []).getD i 0)) = flipK F k (i + 1) := extL8 (n := 4) (by rw [List.length_set, flipK_len]) (flipK_len _ _ _) fun a ha => by
  rw [getD_set8 _ _ _ _ _ (by rw [flipK_len]; exact hi)]
  by_cases e : a = i
  · subst e
    rw [if_pos rfl]
    refine ext8 (n := 4) (by rw [List.length_set, flipK_row _ _ _ ha]) (flipK_row _ _ _ ha) fun b hb => ?_
    rw [getD_set8 _ _ _ _ _ (by rw [flipK_row _ _ _ ha]; exact hk), flipK_at _ _ _ ha hb, flipK_at _ _ _ ha hb]
    by_cases e2 : b = k
    · subst e2; rw [if_pos rfl, if_pos (by omega)]
    · rw [if_neg e2]
      by_cases h : b < k
      · rw [if_pos (by omega), if_pos (by omega)]
      · rw [if_neg (by omega), if_neg (by omega)]
  · rw [if_neg e]
    refine ext8 (n := 4) (flipK_row _ _ _ ha) (flipK_row _ _ _ ha) fun b hb => ?_
    rw [flipK_at _ _ _ ha hb, flipK_at _ _ _ ha hb]
    by_cases h : b < k ∨ (b = k ∧ a < i)
    · rw [if_pos h, if_pos (by omega)]
    · rw [if_neg h, if_neg (by omega)]
set_option maxRecDepth 100000 in
set_option maxHeartbeats 8000000 in
theorem taBack_calls (v : Value) (L : Lx) (w : World) (h : LexAt w v L) :
    Calls Try.prog 26 #[v] w fun e w' => ∃ iv fv xs fs, e = .returned (.tuple #[.agg #[iv, fv], .int .i64 (validL L)]) ∧ NewL w' w.heap.size iv fv xs fs (bkL L) ∧ Below w.heap.size w w' := by
  have HP := hid_ h
  obtain ⟨a1, n1, c1, a2, n2, c2, rfl, h1, h2⟩ := h
  obtain ⟨w1, hw1⟩ : ∃ w1, w.alloc (.cells #[.slice a1 n1 c1, .slice a2 n2 c2] 25) = w1 := ⟨_, rfl⟩
  have cb : Below w.heap.size w w1 := by rw [← hw1]; exact below_alloc _ _
  have q0 : w1.cell? ⟨w.heap.size, 0, none⟩ = some (.slice a1 n1 c1) := by rw [← hw1]; exact cells_alloc _ _ _ 0
  have q1 : w1.cell? ⟨w.heap.size, 1, none⟩ = some (.slice a2 n2 c2) := by rw [← hw1]; exact cells_alloc _ _ _ 1
  have HP1 := hid_ (HP.out.below cb (Nat.le_refl _)); have Hc1 := hid_ cb
  obtain ⟨w2, hw2⟩ : ∃ w2, w1.alloc (.cells #[.slice none 0 0, .slice none 0 0] 25) = w2 := ⟨_, rfl⟩
  have z1 : w1.heap.size = w.heap.size + 1 := by rw [← hw1]; simp
  have z2 : w2.heap.size = w.heap.size + 2 := by rw [← hw2]; simp [z1]
  have b2 : Below w1.heap.size w1 w2 := by rw [← hw2]; exact below_alloc _ _
  have r0 : w2.cell? ⟨w.heap.size + 1, 0, none⟩ = some (.slice none 0 0) := by rw [← z1, ← hw2]; exact cells_alloc _ _ _ 0
  have r1 : w2.cell? ⟨w.heap.size + 1, 1, none⟩ = some (.slice none 0 0) := by rw [← z1, ← hw2]; exact cells_alloc _ _ _ 1
  have f0 : ∀ j, w2.frozen? ⟨w.heap.size + 1, j, none⟩ = false := fun j => by rw [← z1, ← hw2]; exact World.frozen?_alloc_at _ _ _ _ (by simp)
  have q02 := cell_below q0 b2; have q12 := cell_below q1 b2
  have Hb2 : Hid (Below w.heap.size w w2) := hid_ (Hc1.out.trans (b2.mono Hc1.out.size))
  have HP2 := hid_ (HP.out.below Hb2.out (Nat.le_refl _))
  have HRs := hid_ (fun W (hW : Below w2.heap.size w2 W) => (⟨(hW.cell (p := ⟨w.heap.size + 1, 0, none⟩) (by show w.heap.size + 1 < w2.heap.size; omega)).trans r0, (hW.cell (p := ⟨w.heap.size + 1, 1, none⟩) (by show w.heap.size + 1 < w2.heap.size; omega)).trans r1, (hW.frozen (p := ⟨w.heap.size + 1, 0, none⟩) (by show w.heap.size + 1 < w2.heap.size; omega)).trans (f0 0), (hW.frozen (p := ⟨w.heap.size + 1, 1, none⟩) (by show w.heap.size + 1 < w2.heap.size; omega)).trans (f0 1)⟩ : W.cell? ⟨w.heap.size + 1, 0, none⟩ = some (.slice none 0 0) ∧ W.cell? ⟨w.heap.size + 1, 1, none⟩ = some (.slice none 0 0) ∧ W.frozen? ⟨w.heap.size + 1, 0, none⟩ = false ∧ W.frozen? ⟨w.heap.size + 1, 1, none⟩ = false))
  have HQ := hid_ (fun W (hW : Below w2.heap.size w2 W) => (⟨cell_below q02 hW, cell_below q12 hW⟩ : _ ∧ _))
  have Z2 := hid_ z2
  have HV := hid_ (taValidate_calls _ L w2 HP2.out)
  have HD : Hid (bkL L = if validL L = 0 then backL L else ⟨[], []⟩) := hid_ rfl
  generalize bkL L = D at *
  by_cases he : validL L = 0
  · have g := validL_ok he
    have hl1 := h1.len; have hl2 := h2.len
    have hr4 := g.rows
    obtain rfl : n2 = 4 := by omega
    rw [if_pos he] at HD
    rw [he] at HV ⊢
    have HCp := hid_ (fun W (hW : Below w2.heap.size w2 W) => copied8_calls _ L W (HP2.out.below hW (Nat.le_refl _)) g)
    have HFo : Hid (Four L.follow) := hid_ ⟨hr4, fun k hk => (g.row k hk).1⟩
    have H2 := hid_ (fun W (hW : Below w2.heap.size w2 W) => (h2.below Hb2.out (Nat.le_refl _)).below hW (Nat.le_refl _))
    have Hl1 := hid_ hl1; have Hl2 := hid_ hl2
    have hn1 := g.ge; have hn8 := g.le
    rw [hl1] at hn1 hn8
    have Hw := hid_ (fun j (hj : j < n1) => (⟨(g.word j (by omega)).1, (g.word j (by omega)).2.1⟩ : _ ∧ _))
    clear h1 h2 HP HP1 g he cb b2 hl1 hl2 hr4
    rw [HD.out]
    clear z2
    go_enter Try.func26, Try.ntmps26
    go_wp2_with (first
      | (go_at_call 58; (with_reducible refine HV.out.mono ?_); rintro e w3 ⟨rfl, hb3⟩; obtain ⟨q3, p3⟩ := HQ.out w3 hb3)
      | (go_at_call 59; (with_reducible refine (HCp.out _ hb3).mono ?_); rintro e w5 ⟨iv, fv, xs, fs, rfl, hN, hb5'⟩; have hb5 := below_then8 hb3 hb5'; obtain ⟨gi, cg, rfl, hgB, hgl⟩ := hN.form (by rw [Hl1.out]; omega); obtain ⟨gf, cf, rfl, hfB, hfl⟩ := hN.formF (by rw [Hl2.out]; omega); simp only [Hl1.out, Hl2.out] at hN ⊢; have Hhn := hid_ hN; clear hN; obtain ⟨w6, hw6⟩ : ∃ w6, w5.alloc (.cells #[.slice (some ⟨gi, 0, none⟩) n1 cg, .slice (some ⟨gf, 0, none⟩) 4 cf] 25) = w6 := ⟨_, rfl⟩; have b6 : Below w5.heap.size w5 w6 := (by rw [← hw6]; exact below_alloc _ _); have HN6 := hid_ (Hhn.out.below b6 (Nat.le_refl _)); have HOc := hid_ (show w6.ownsRow w5.heap.size 25 2 (.slice (some ⟨w5.heap.size, 0, none⟩) 1 1) 1 [.slice (some ⟨gi, 0, none⟩) n1 cg, .slice (some ⟨gf, 0, none⟩) 4 cf] by rw [← hw6]; exact World.ownsRow_lit (base := w5.heap.size) (e := 25) (size := 2) w5 #[.slice (some ⟨gi, 0, none⟩) n1 cg, .slice (some ⟨gf, 0, none⟩) 4 cf] 1 (Nat.le_refl _) (by unfold maxLen; omega) rfl); have e61 : w6.cell? ⟨w5.heap.size, 1, none⟩ = some (.slice (some ⟨gf, 0, none⟩) 4 cf) := HOc.out.cellAt 1 (by omega); have Hb6 := hid_ (hb5.trans (b6.mono hb5.size)); have H3 := hid_ hb3.size; clear b6; have e60 : w6.cell? ⟨w5.heap.size, 0, none⟩ = some (.slice (some ⟨gi, 0, none⟩) n1 cg) := HOc.out.cellAt 0 (by omega)))
    clear hw6 e61 e60
    go_loopw [23] (fun iv wr => ∃ j : Nat, j ≤ n1 ∧ iv = .int .i64 j ∧ Below w2.heap.size w2 wr ∧ wr.ownsRow w5.heap.size 25 2 (.slice (some ⟨w5.heap.size, 0, none⟩) 1 1) 1 [.slice (some ⟨gi, 0, none⟩) n1 cg, .slice (some ⟨gf, 0, none⟩) 4 cf] ∧ NewL wr w3.heap.size (.slice (some ⟨gi, 0, none⟩) n1 cg) (.slice (some ⟨gf, 0, none⟩) 4 cf) xs fs ⟨revK L.items j, L.follow⟩) (fun iv _ => n1 - (intOf iv).toNat)
    case atStart => exact ⟨0, by omega, rfl, Hb6.out, HOc.out, by rw [revK_0]; exact HN6.out⟩
    case round =>
      clear HOc HN6
      obtain ⟨j, hj, rfl, hbr, hoc, hN⟩ := hrel
      have hszr := hbr.size
      by_cases hlt : j < n1
      · have hjI : j < L.items.length := by rw [Hl1.out]; exact hlt
        have hat : ((⟨revK L.items j, L.follow⟩ : Lx).items.getD j I0) = L.items.getD j I0 := by
          show (revK L.items j).getD j I0 = _
          rw [revK_at _ _ hjI, if_neg (by omega)]
        obtain ⟨hw1', hw6'⟩ := Hw.out j hlt
        obtain ⟨x, b, d, hx, hx1, k0, k1, k2, hrow⟩ := hN.wordAt (by show n1 = (revK L.items j).length; rw [revK_len, Hl1.out]) hlt (by rw [hat]; omega)
        rw [hat] at hx1 k0 k1 k2 hrow
        obtain ⟨m, hm⟩ : ∃ m, (L.items.getD j I0).word.length = m := ⟨_, rfl⟩
        rw [hm] at hx1 k0 hrow hw1' hw6'
        obtain ⟨wb, hwb⟩ : ∃ wb, wr.alloc (.cells #[.slice (some ⟨b, 0, none⟩) m d, .int .i64 (L.items.getD j I0).kind, .int .i64 (L.items.getD j I0).cost] 50) = wb := ⟨_, rfl⟩
        have bb : Below wr.heap.size wr wb := by rw [← hwb]; exact below_alloc _ _
        have y0 : wb.cell? ⟨wr.heap.size, 0, none⟩ = some (.slice (some ⟨b, 0, none⟩) m d) := by rw [← hwb]; exact cells_alloc _ _ _ 0
        have hrb := own_below hrow bb (Nat.le_refl _)
        have HRv := hid_ (reverseG_calls w3.heap.size m d b (L.items.getD j I0).word wb hrb hw1' (by omega))
        have hNb := hN.below bb (Nat.le_refl _)
        have hocb := own_below hoc bb (Nat.le_refl _)
        have Hst := hid_ (fun w5' (ho5 : w5'.ownsRow w3.heap.size 3 1 (.slice (some ⟨b, 0, none⟩) m d) m ((L.items.getD j I0).word.reverse.map (Value.int .i64))) (hg5 : wb.grownBy w5' (some b)) => (by
          have h9 := hNb.turnW (r := (L.items.getD j I0).word.reverse) (show j < (revK L.items j).length by rw [revK_len]; exact hjI) hx (by rw [hx1]; exact hg5) (by rw [hx1, List.length_reverse, hm]; exact ho5)
          have h8 : ((revK L.items j).getD j I0) = L.items.getD j I0 := hat
          rw [h8] at h9
          have h7 := revK_next L.items hjI
          unfold revI at h7
          rw [h7] at h9
          exact h9 : NewL w5' w3.heap.size (.slice (some ⟨gi, 0, none⟩) n1 cg) (.slice (some ⟨gf, 0, none⟩) 4 cf) xs fs ⟨revK L.items (j + 1), L.follow⟩))
        have Hoc := hid_ (fun w5' (hg5 : wb.grownBy w5' (some b)) => own_kept_ne hocb hg5 (fun b' hb' => own_apart hocb hrb (by decide) b' hb'))
        have Hbb := hid_ (hbr.trans (bb.mono hszr))
        have hb3b : w3.heap.size ≤ b := (hrow.lt b rfl).1
        generalize (L.items.getD j I0).kind = kk at *
        generalize (L.items.getD j I0).cost = kc at *
        clear hN hNb hoc hocb hrow hrb hx hx1 hat hm bb
        go_wp2_with (go_at_call 60; (with_reducible refine HRv.out.mono ?_); rintro e w8 ⟨rfl, ho8, hg8⟩; have HN8 := hid_ (Hst.out w8 ho8 hg8); have HOc8 := hid_ (Hoc.out w8 hg8); have Hb8 := hid_ (Hbb.out.grown hg8 Hbb.out.size (fun q e => by injection e with e; have := H3.out; omega)); clear ho8 hg8)
        go_roundw
        case rel => exact ⟨j + 1, by omega, by go_num, Hb8.out, HOc8.out, HN8.out⟩
        case measure => simp [intOf]; omega
      · obtain rfl : j = n1 := by omega
        have hI : revK L.items j = L.items.map revI := by rw [← revK_all, Hl1.out]
        rw [hI] at hN
        have HN := hid_ hN; have HOc := hid_ hoc; have Hbr := hid_ hbr
        have HF0 := hid_ (flipK_0 HFo.out)
        obtain ⟨q9, p9⟩ := HQ.out wr hbr
        obtain ⟨wx, rfl⟩ : ∃ wx, wx = wr := ⟨_, rfl⟩
        clear hN hoc hbr hI
        go_wp2
        clear q9 p9
        go_loopw [34] (fun iv wr => ∃ k : Nat, k ≤ 4 ∧ iv = .int .i64 k ∧ Below w2.heap.size w2 wr ∧ wr.ownsRow w5.heap.size 25 2 (.slice (some ⟨w5.heap.size, 0, none⟩) 1 1) 1 [.slice (some ⟨gi, 0, none⟩) j cg, .slice (some ⟨gf, 0, none⟩) 4 cf] ∧ NewL wr w3.heap.size (.slice (some ⟨gi, 0, none⟩) j cg) (.slice (some ⟨gf, 0, none⟩) 4 cf) xs fs ⟨L.items.map revI, flipK L.follow k 0⟩) (fun iv _ => 4 - (intOf iv).toNat)
        case atStart => exact ⟨0, by omega, rfl, Hbr.out, HOc.out, by rw [HF0.out]; exact HN.out⟩
        case round =>
          clear HOc HN Hbr
          obtain ⟨k, hk, rfl, hbr, hoc, hN⟩ := hrel
          by_cases hltk : k < 4
          · obtain ⟨bf, off, ar, nr, cr, rfl, -, hcf, hrw⟩ := (H2.out wr hbr).cells k hltk
            have hnr : nr = 4 := by rw [← hrw.len]; exact HFo.out.2 k hltk
            subst hnr
            have hrw0 := (H2.out w2 (Below.refl _ _)).cells k hltk
            obtain ⟨bf0, off0, ar0, nr0, cr0, e0, -, hcf0, hrw1⟩ := hrw0
            injection e0 with e0; injection e0 with e1 e2; subst e1; subst e2
            have hcf1 := cell_below hcf0 hbr
            rw [hcf] at hcf1
            injection hcf1 with hcf1; injection hcf1 with e1 e2 e3
            subst e1; subst e2; subst e3
            have HRw := hid_ (fun W (hW : Below w2.heap.size w2 W) => hrw1.below hW (Nat.le_refl _))
            have HN := hid_ hN; have HOc := hid_ hoc; have Hbr := hid_ hbr
            have Hend := hid_ (flipK_row_end L.follow k)
            clear hN hoc hrw hrw1 hcf0
            go_wp2
            clear hcf hbr
            obtain ⟨wo, rfl⟩ : ∃ wo, wo = wr := ⟨_, rfl⟩
            go_loopw [41] (fun iv wr => ∃ i : Nat, i ≤ 4 ∧ iv = .int .i64 i ∧ Below w2.heap.size w2 wr ∧ wr.ownsRow w5.heap.size 25 2 (.slice (some ⟨w5.heap.size, 0, none⟩) 1 1) 1 [.slice (some ⟨gi, 0, none⟩) j cg, .slice (some ⟨gf, 0, none⟩) 4 cf] ∧ NewL wr w3.heap.size (.slice (some ⟨gi, 0, none⟩) j cg) (.slice (some ⟨gf, 0, none⟩) 4 cf) xs fs ⟨L.items.map revI, flipK L.follow k i⟩) (fun iv _ => 4 - (intOf iv).toNat)
            case atStart => exact ⟨0, by omega, rfl, Hbr.out, HOc.out, HN.out⟩
            case round =>
              clear HOc HN Hbr
              obtain ⟨i, hi, rfl, hbr, hoc, hN⟩ := hrel
              by_cases hlti : i < 4
              · obtain ⟨bs, os, rfl, -, hcs⟩ := (HRw.out wr hbr).cells i hlti
                have d1 : wr.cell? ⟨w5.heap.size, 1, none⟩ = some (.slice (some ⟨gf, 0, none⟩) 4 cf) := hoc.cellAt 1 (by omega)
                have hat : ((⟨L.items.map revI, flipK L.follow k i⟩ : Lx).follow.getD i []).length = 4 := flipK_row _ _ _ hlti
                obtain ⟨b, d, hfs, hcell, hrow, hled⟩ := hN.listAt (flipK_len _ _ _).symm hlti (by rw [hat]; omega)
                rw [hat] at hfs hcell hrow hled
                obtain ⟨x, hx⟩ : ∃ x, (L.follow.getD k []).getD i 0 = x := ⟨_, rfl⟩
                rw [hx] at hcs
                have hst := hrow.stored k (.int .i64 x)
                rw [← List.map_set] at hst
                have hnx := flipK_next L.follow hltk hlti
                rw [hx] at hnx
                have hck : ∃ y, wr.cell? ⟨b, k, none⟩ = some y := ⟨_, (hrow.cellAt k (by omega)).trans (List.getElem?_eq_getElem (by rw [List.length_map]; exact hat ▸ hltk))⟩
                obtain ⟨y, hck⟩ := hck
                have hcfz := hrow.frozenAt k
                have hN8 := hN.turnF (k := i) (r := ((flipK L.follow k i).getD i []).set k x) (by rw [flipK_len]; exact hlti) hfs hst.2 (by rw [List.length_set, flipK_row _ _ _ hlti]; exact hst.1)
                rw [hnx] at hN8
                have HN8 := hid_ hN8
                have HOc8 := hid_ (own_kept_ne hoc hst.2 (fun b' hb' => own_apart hoc hrow (by decide) b' hb'))
                have Hb8 := hid_ (Below.setCell (p := ⟨b, k, none⟩) hbr (Nat.le_trans H3.out (hrow.lt b rfl).1) (.int .i64 x))
                clear hN hN8 hoc hrow hst hat hfs hnx hx
                go_wp2
                go_roundw
                case rel => exact ⟨i + 1, by omega, by go_num, Hb8.out, HOc8.out, HN8.out⟩
                case measure => simp [intOf]; omega
              · obtain rfl : i = 4 := by omega
                rw [Hend.out] at hN
                have HN := hid_ hN; have HOc := hid_ hoc; have Hbr := hid_ hbr
                clear hN hoc hbr
                go_wp2
                go_roundw
                case rel => exact ⟨k + 1, by omega, by go_num, Hbr.out, HOc.out, HN.out⟩
                case measure => simp [intOf]; omega
          · obtain rfl : k = 4 := by omega
            rw [flipK_end] at hN
            have HN := hid_ hN
            have d0 : wr.cell? ⟨w5.heap.size, 0, none⟩ = some (.slice (some ⟨gi, 0, none⟩) j cg) := hoc.cellAt 0 (by omega)
            have d1 : wr.cell? ⟨w5.heap.size, 1, none⟩ = some (.slice (some ⟨gf, 0, none⟩) 4 cf) := hoc.cellAt 1 (by omega)
            obtain ⟨s0, s1, g0, g1⟩ := HRs.out wr hbr
            have Hbr := hid_ hbr
            clear hN hoc hbr
            obtain ⟨t0, t1⟩ := two_stored (x := .slice (some ⟨gi, 0, none⟩) j cg) (y := .slice (some ⟨gf, 0, none⟩) 4 cf) s0 s1
            go_wp2
            refine bodyPost_ret (v := .tuple #[.agg #[.slice (some ⟨gi, 0, none⟩) j cg, .slice (some ⟨gf, 0, none⟩) 4 cf], .int .i64 0]) ?_ rfl ⟨_, _, xs, fs, rfl, ?_, ?_⟩
            · simp [results, Try.results26, go_sem, t0, t1]
            · exact ((HN.out.base H3.out).res (by have := Z2.out; omega) _ _).base (by have := Z2.out; omega)
            · have hf := Hb2.out.trans (Hbr.out.mono Hb2.out.size)
              exact (hf.setCell (p := ⟨w.heap.size + 1, 0, none⟩) (by show _ ≤ _ + 1; omega) _).setCell (p := ⟨w.heap.size + 1, 1, none⟩) (by show _ ≤ _ + 1; omega) _
  · have hq : (validL L != 0) = true := by simpa using he
    rw [if_neg he] at HD
    rw [HD.out]
    generalize validL L = x at *
    clear he h1 h2 HP HP1 cb b2 z2
    go_enter Try.func26, Try.ntmps26
    go_wp2_with (go_at_call 58; (with_reducible refine HV.out.mono ?_); rintro e w3 ⟨rfl, hb3⟩; obtain ⟨s0, s1, g0, g1⟩ := HRs.out w3 hb3)
    obtain ⟨t0, t1⟩ := two_stored (x := .slice none 0 0) (y := .slice none 0 0) s0 s1
    refine bodyPost_ret (v := .tuple #[.agg #[.slice none 0 0, .slice none 0 0], .int .i64 x]) ?_ rfl ⟨_, _, [], [], rfl, NewI.nil0 _ _ _ _ _ (by decide) (by decide) (by decide), ?_⟩
    · simp [results, Try.results26, go_sem, t0, t1]
    · have hf := Hb2.out.trans (hb3.mono Hb2.out.size)
      exact (hf.setCell (p := ⟨w.heap.size + 1, 0, none⟩) (by show _ ≤ _ + 1; omega) _).setCell (p := ⟨w.heap.size + 1, 1, none⟩) (by show _ ≤ _ + 1; omega) _
end Go.Proofs.Ytpcpmdokgdbonaa
