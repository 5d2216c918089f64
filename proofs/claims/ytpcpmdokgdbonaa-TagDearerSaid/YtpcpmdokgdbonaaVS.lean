import Derived.Test.YtpcpmdokgdbonaaVR
namespace Go.Proofs.Kv
open Go.RowKit Go
/-- a new item, behind the others -/
theorem NewI.pushI {EI EL E1 : TypeId} {w w1 w2 : World} {B : Nat} {iv iv' fv u : Value} {xs : List Ic} {I : List It} {X : It} (h : NewI EI EL E1 w B iv fv xs [] ⟨I, []⟩) (hB : B ≤ w.heap.size)
    (hb1 : Below w.heap.size w w1) (hu : w1.ownsRow w.heap.size E1 1 u X.word.length (X.word.map (Value.int .i64))) {o : Obj} (hi : w2.ownsRow B EI 3 iv' (I.length + 1) ((xs ++ [(u, X.kind, X.cost)]).flatMap encI)) (hg : (w1.alloc o).grownBy w2 iv.ownBlock) :
    NewI EI EL E1 w2 B iv' fv (xs ++ [(u, X.kind, X.cost)]) [] ⟨I ++ [X], []⟩ := by
  have hb2 : Below w.heap.size w (w1.alloc o) := hb1.alloc hb1.size o
  have h2 := h.below hb2 (Nat.le_refl _)
  have hu2 : (w1.alloc o).ownsRow w.heap.size E1 1 u X.word.length (X.word.map (Value.int .i64)) := hu.alloc _
  have hR := h.rows
  rw [List.append_nil, List.append_nil] at hR
  have hR := (hR.push hb2 hu2 hB).other h2.items h.ne1 hg
  have hl := h.len
  refine ⟨h.ne1, h.ne2, h.ne3, by simpa using hi, by simpa using hl, fun i x hx => ?_, own_kept_ne h2.fol hg (fun b hb => own_apart h2.fol h2.items (Ne.symm h.ne3) b hb), by simpa using hR⟩
  rcases snoc_at hx with ⟨h8, h9⟩ | ⟨h8, rfl⟩
  · rw [getD_app7, if_pos (by rw [← hl]; exact h8)]; exact h.kc i x h9
  · rw [getD_app7, if_neg (by rw [← hl]; omega)]
    rw [show i - I.length = 0 by rw [← hl, h8]; omega]; rfl
theorem cells_item (w : World) (u : Value) (k c : Int) (E : TypeId) : ∀ (j : Nat) (v : Value), (encI (u, k, c))[j]? = some v → (w.alloc (.cells #[u, .int .i64 k, .int .i64 c] E)).cell? ((⟨w.heap.size, 0, none⟩ : Addr).add j) = some v := fun j v hv => by
  rw [add_zero8, cells_alloc]
  simpa [encI] using hv
theorem own_kept_at {w w' : World} {B E size n g m c b m' c' : Nat} {xs : List Value} (h : w.ownsRow B E size (.slice (some ⟨g, 0, none⟩) m c) n xs) (hg : w.grownBy w' (Value.slice (some ⟨b, 0, none⟩) m' c').ownBlock) (hne : g ≠ b) : w'.ownsRow B E size (.slice (some ⟨g, 0, none⟩) m c) n xs :=
  h.kept hg (.inr (by intro e; injection e with e; exact hne e))
theorem encI_one1 (a : Option Addr) (n c : Nat) (k d : Int) : ∀ u ∈ encI (.slice a n c, k, d), u.oneCell' = true := fun u hu => by
  simp [encI] at hu
  rcases hu with rfl | rfl | rfl <;> rfl
theorem flatMap_snoc1 (xs : List Ic) (x : Ic) : (xs ++ [x]).flatMap encI = xs.flatMap encI ++ encI x := by simp
end Go.Proofs.Kv
namespace Go.Proofs.Ytpcpmdokgdbonaa
open Go.RowKit Go.Proofs.Kv Go

/-! ### Copy of the document -/
set_option maxRecDepth 100000 in
set_option maxHeartbeats 8000000 in
theorem r8Copy_calls (v : Value) (L : Lx) (w : World) (h : LexAt w v L) (hn : L.items.length ≤ 1000) (hw : ∀ j, j < L.items.length → (L.items.getD j I0).word.length ≤ 1000) (hf : L.follow.length ≤ 1000) (hfr : ∀ k, k < L.follow.length → (L.follow.getD k []).length ≤ 1000) :
    Calls Try.prog 25 #[v] w fun e w' => ∃ iv fv xs fs, e = .returned (.agg #[iv, fv]) ∧ NewL w' w.heap.size iv fv xs fs L ∧ Below w.heap.size w w' := by
  have HP := hid_ h
  obtain ⟨a1, n1, c1, a2, n2, c2, rfl, h1, h2⟩ := h
  obtain ⟨w1, hw1⟩ : ∃ w1, w.alloc (.cells #[.slice a1 n1 c1, .slice a2 n2 c2] 25) = w1 := ⟨_, rfl⟩
  have cb : Below w.heap.size w w1 := by rw [← hw1]; exact below_alloc _ _
  have q0 : w1.cell? ⟨w.heap.size, 0, none⟩ = some (.slice a1 n1 c1) := by rw [← hw1]; exact cells_alloc _ _ _ 0
  have q1 : w1.cell? ⟨w.heap.size, 1, none⟩ = some (.slice a2 n2 c2) := by rw [← hw1]; exact cells_alloc _ _ _ 1
  have HP1 := hid_ (HP.out.below cb (Nat.le_refl _)); have Hc1 := hid_ cb
  obtain ⟨w2, hw2⟩ : ∃ w2, w1.alloc (.cells #[.slice none 0 0, .slice none 0 0] 25) = w2 := ⟨_, rfl⟩
  have z1 : w1.heap.size = w.heap.size + 1 := by rw [← hw1]; simp
  have z2 : w2.heap.size = w.heap.size + 2 := by rw [← hw2]; simp [z1]
  have b2 : Below w1.heap.size w1 w2 := by rw [← hw2]; exact below_alloc _ _
  have r0 : w2.cell? ⟨w.heap.size + 1, 0, none⟩ = some (.slice none 0 0) := by rw [← z1, ← hw2]; exact cells_alloc _ _ _ 0
  have r1 : w2.cell? ⟨w.heap.size + 1, 1, none⟩ = some (.slice none 0 0) := by rw [← z1, ← hw2]; exact cells_alloc _ _ _ 1
  have f0 : ∀ j, w2.frozen? ⟨w.heap.size + 1, j, none⟩ = false := fun j => by rw [← z1, ← hw2]; exact World.frozen?_alloc_at _ _ _ _ (by simp)
  have q02 := cell_below q0 b2; have q12 := cell_below q1 b2
  have hl1 := h1.len; have hl2 := h2.len
  rw [hl1] at hn; rw [hl2] at hf
  have H1 := hid_ ((h1.below cb (Nat.le_refl _)).below b2 (Nat.le_refl _))
  have H2 := hid_ ((h2.below cb (Nat.le_refl _)).below b2 (Nat.le_refl _))
  have Hb2 : Hid (Below w.heap.size w w2) := hid_ (Hc1.out.trans (b2.mono Hc1.out.size))
  have Hw := hid_ (fun j (hj : j < n1) => hw j (by omega)); have Hfr := hid_ (fun j (hj : j < n2) => hfr j (by omega))
  have Hl1 := hid_ hl1; have Hl2 := hid_ hl2
  obtain ⟨i0, hi0, hz0, hz1, hz2⟩ := info_parts Try.infoInts
  obtain ⟨i1, hi1, hy0, hy1, hy2⟩ := info_parts Try.infoInt
  obtain ⟨i2, hi2, hx0, hx1, hx2⟩ := info_parts Try.infoItem
  obtain ⟨w3, hw3⟩ : ∃ w3, w2.alloc (.cells #[.slice none 0 0, .slice none 0 0] 25) = w3 := ⟨_, rfl⟩
  have b3 : Below w2.heap.size w2 w3 := by rw [← hw3]; exact below_alloc _ _
  have HOc : Hid (w3.ownsRow w2.heap.size 25 2 (.slice (some ⟨w2.heap.size, 0, none⟩) 1 1) 1 [.slice none 0 0, .slice none 0 0]) := hid_ (by rw [← hw3]; exact World.ownsRow_lit (base := w2.heap.size) (e := 25) (size := 2) w2 #[.slice none 0 0, .slice none 0 0] 1 (Nat.le_refl _) (by unfold maxLen; omega) rfl)
  have HN : Hid (NewL w3 w2.heap.size (.slice none 0 0) (.slice none 0 0) [] [] ⟨L.items.take 0, []⟩) := hid_ ⟨by decide, by decide, by decide, World.ownsRow_nil _ _ _ _, rfl, fun i x hx => by simp at hx, World.ownsRow_nil _ _ _ _, RowsIn.nil _ _ _⟩
  have Hb3 := hid_ b3
  have hob : w2.heap.size = w.heap.size + 2 := z2
  have hn1 : n1 ≤ 9223372036854775807 := by omega
  have hn2 : n2 ≤ 9223372036854775807 := by omega
  clear h1 h2 cb b2 q0 q1 hl1 hl2 HP HP1 hw hfr b3
  go_enter Try.func25, Try.ntmps25
  go_wp2
  clear hw1 hw2 hw3
  obtain ⟨ob, hob2⟩ : ∃ ob, ob = w.heap.size + 2 := ⟨_, rfl⟩
  rw [← hob2] at hob ⊢
  rw [hob] at HOc
  have Hob := hid_ hob2
  have hob9 : w.heap.size + 1 < ob := by omega
  clear z2 hob2
  go_loopw [4] (fun i wr => ∃ (k : Nat) (iv : Value) (xs : List Ic), k ≤ n1 ∧ i = .int .i64 k ∧ Below w2.heap.size w2 wr ∧ wr.ownsRow ob 25 2 (.slice (some ⟨ob, 0, none⟩) 1 1) 1 [iv, .slice none 0 0] ∧ NewL wr w2.heap.size iv (.slice none 0 0) xs [] ⟨L.items.take k, []⟩) (fun i _ => n1 - (intOf i).toNat)
  case atStart => exact ⟨0, _, [], Nat.zero_le _, rfl, Hb3.out, HOc.out, HN.out⟩
  case round =>
    clear HOc HN Hb3
    obtain ⟨k, iv, xs, hk, rfl, hb, hoc, hN⟩ := hrel
    have HOc := hid_ hoc; have HN := hid_ hN
    have hszr := hb.size
    have e40 : wr.cell? ⟨ob, 0, none⟩ = some iv := hoc.cellAt 0 (by omega)
    have e41 : wr.cell? ⟨ob, 1, none⟩ = some (.slice none 0 0) := hoc.cellAt 1 (by omega)
    have hcl := (hoc.lt ob rfl).2
    have p0 := cell_below q02 hb; have p1 := cell_below q12 hb
    clear hoc hN
    by_cases hlt : k < n1
    · obtain ⟨b, off, a5, n5, c5, rfl, -, k0, k1, k2, hi⟩ := (H1.out.below hb (Nat.le_refl _)).cells k hlt
      have hn5 := Hw.out k hlt
      rw [hi.len] at hn5
      have Hn5 := hid_ hi.len
      have Htk : Hid (L.items.take (k + 1) = L.items.take k ++ [L.items.getD k I0]) := hid_ (Kv.take_snoc _ I0 k (by rw [Hl1.out]; exact hlt))
      have Htl : Hid ((L.items.take k).length = k) := hid_ (by rw [List.length_take, Hl1.out]; omega)
      generalize L.items.getD k I0 = X at *
      obtain ⟨wb, hwb⟩ : ∃ wb, wr.alloc (.cells #[.slice a5 n5 c5, .int .i64 X.kind, .int .i64 X.cost] 50) = wb := ⟨_, rfl⟩
      have bb : Below wr.heap.size wr wb := by rw [← hwb]; exact below_alloc _ _
      have zb : wb.heap.size = wr.heap.size + 1 := by rw [← hwb]; simp
      have ox : wb.ownsRow wr.heap.size 50 3 (.slice (some ⟨wr.heap.size, 0, none⟩) 1 1) 1 [.slice a5 n5 c5, .int .i64 X.kind, .int .i64 X.cost] := by rw [← hwb]; exact World.ownsRow_lit (base := wr.heap.size) (e := 50) (size := 3) wr #[.slice a5 n5 c5, .int .i64 X.kind, .int .i64 X.cost] 1 (Nat.le_refl _) (by unfold maxLen; omega) rfl
      obtain ⟨wl, hwl⟩ : ∃ wl, wb.alloc (.cells #[] 3) = wl := ⟨_, rfl⟩
      have bl : Below wb.heap.size wb wl := by rw [← hwl]; exact below_alloc _ _
      have zl : wl.heap.size = wb.heap.size + 1 := by rw [← hwl]; simp
      have x0 : wl.cell? ⟨wr.heap.size, 0, none⟩ = some (.slice a5 n5 c5) := cell_below (ox.cellAt 0 (by omega)) bl
      have ol : wl.ownsRow wb.heap.size 3 1 (.slice (some ⟨wb.heap.size, 0, none⟩) 0 0) 0 [] := by rw [← hwl]; exact World.ownsRow_lit (base := wb.heap.size) (e := 3) (size := 1) wb #[] 0 (Nat.le_refl _) (by unfold maxLen; omega) rfl
      have hil := (hi.below bb (Nat.le_refl _)).below bl (Nat.le_refl _)
      have Hox := hid_ (own_below ox bl (Nat.le_refl _))
      have Hoc6 := hid_ (own_below (own_below HOc.out bb (Nat.le_refl _)) bl (Nat.le_refl _))
      have Hbl := hid_ (bb.trans (bl.mono bb.size))
      have hzl : wr.heap.size + 1 ≤ wl.heap.size := by omega
      rw [zb] at ol
      have Hol := hid_ ol; have Hil := hid_ hil
      have hzw : w2.heap.size ≤ wl.heap.size := by omega
      have Hb := hid_ hb
      clear ox ol hil bb bl hi hb HOc
      go_wp2_with (first
        | (at_builtin; refine wpList_append_ints _ rfl (.tmp 19) (.tmp 21) _ rfl (wr.heap.size + 1) 3 i1 Try.underlying26 hi1 hy0 hy1 hy2 _ 0 [] rfl Hol.out a5 n5 c5 _ rfl Hil.out (by omega) hzl ?_; intro v5 w5 ho5 hg5 hat5; simp only [Nat.zero_add, List.nil_append] at ho5; obtain ⟨a6, c6, rfl, -⟩ := IntsAt.own ho5; have hb5 : Below (wr.heap.size + 1) wl w5 := (Below.refl _ _).grown hg5 hzl (fun r e => by cases e; exact Nat.le_refl _); have ox5 := own_kept_at Hox.out hg5 (by omega); have oc5 := own_kept_at Hoc6.out hg5 (by omega); have y0 : w5.cell? ⟨wr.heap.size, 0, none⟩ = some (.slice a5 n5 c5) := ox5.cellAt 0 (by omega); have yf : w5.frozen? ⟨wr.heap.size, 0, none⟩ = false := ox5.frozenAt 0; obtain ⟨w6, hw6⟩ : ∃ w6, w5.setCell ⟨wr.heap.size, 0, none⟩ (.slice a6 n5 c6) = w6 := ⟨_, rfl⟩; have st6 := ox5.stored 0 (.slice a6 n5 c6); rw [hw6] at st6; have y60 : w6.cell? ⟨wr.heap.size, 0, none⟩ = some (.slice a6 n5 c6) := st6.1.cellAt 0 (by omega); have y61 : w6.cell? ⟨wr.heap.size, 1, none⟩ = some (.int .i64 X.kind) := st6.1.cellAt 1 (by omega); have y62 : w6.cell? ⟨wr.heap.size, 2, none⟩ = some (.int .i64 X.cost) := st6.1.cellAt 2 (by omega); have hbw6 : Below wr.heap.size wr w6 := (by rw [← hw6]; exact Below.setCell (p := ⟨wr.heap.size, 0, none⟩) (Hbl.out.trans (hb5.mono (by omega))) (Nat.le_refl _) _); have ou6 : w6.ownsRow wr.heap.size 3 1 (.slice a6 n5 c6) X.word.length (X.word.map (Value.int .i64)) := (by rw [Hn5.out]; exact own_base (own_kept_ne ho5 st6.2 (fun b hb => by have := (ho5.lt b hb).1; intro e; injection e with e; omega)) (by omega)); have oc6 := own_kept_at (b := wr.heap.size) (m' := 1) (c' := 1) oc5 st6.2 (by omega); have c60 : w6.cell? ⟨ob, 0, none⟩ = some iv := oc6.cellAt 0 (by omega); have hN6 := HN.out.below (hbw6.alloc hbw6.size (.cells #[.slice a6 n5 c6, .int .i64 X.kind, .int .i64 X.cost] 50)) (Nat.le_refl _); have hit6 := hN6.items; simp only [Htl.out] at hit6; have hz6 : w2.heap.size ≤ (w6.alloc (.cells #[.slice a6 n5 c6, .int .i64 X.kind, .int .i64 X.cost] 50)).heap.size := (by have := hbw6.size; simp; omega); have c61 := cell_below c60 (below_alloc w6 (.cells #[.slice a6 n5 c6, .int .i64 X.kind, .int .i64 X.cost] 50)); have Hou6 := hid_ ou6; have Hbw6 := hid_ hbw6; have Hoc7 := hid_ (own_below oc6 (below_alloc w6 (.cells #[.slice a6 n5 c6, .int .i64 X.kind, .int .i64 X.cost] 50)) (Nat.le_refl _)); have Hit6 := hid_ hit6; clear hb5 ox5 oc5 st6 oc6 hN6 hit6 ho5 hg5 hat5 ou6 hbw6)
        | (at_builtin; refine wpList_appendN _ rfl (.tmp 25) (.tmp 27) _ rfl w2.heap.size 50 i2 3 40 Try.underlying22 hi2 hx0 rfl hx1 (by omega) hx2 (by omega) iv k _ rfl Hit6.out ⟨w6.heap.size, 0, none⟩ 1 1 (encI (.slice a6 n5 c6, X.kind, X.cost)) rfl rfl (cells_item _ _ _ _ _) (encI_one1 _ _ _ _ _) (by omega) hz6 ?_; intro v7 w7 hown7 hg7 hat7; rw [← flatMap_snoc1] at hown7; have hN7 := NewI.pushI (X := X) HN.out hszr Hbw6.out Hou6.out (by rw [Htl.out]; exact hown7) hg7; have oc7 := own_kept_ne Hoc7.out hg7 (fun b hb => own_apart Hoc7.out Hit6.out (by decide) b hb); have h70 : w7.cell? ⟨ob, 0, none⟩ = some iv := oc7.cellAt 0 (by omega); have h7f : w7.frozen? ⟨ob, 0, none⟩ = false := oc7.frozenAt 0; have hst := oc7.stored 0 v7; have HN8 := hid_ (hN7.other oc7 (by decide) (by decide) (by decide) hst.2); have HOc8 := hid_ hst.1; have Hb8 : Hid (Below w2.heap.size w2 (w7.setCell ⟨ob, 0, none⟩ v7)) := hid_ (Below.setCell (p := ⟨ob, 0, none⟩) ((Hb.out.trans (((Hbw6.out.alloc Hbw6.out.size _).mono hszr))).grown hg7 hz6 (fun q e => (Hit6.out.lt q e).1)) (by show _ ≤ ob; omega) _); obtain ⟨a9, c9, hv9, -⟩ := HN8.out.itemsAt; have e9 : (L.items.take k ++ [X]).length = k + 1 := (by rw [List.length_append, Htl.out]; rfl); replace hv9 : v7 = .slice a9 (k + 1) c9 := (by rw [← e9]; exact hv9); rw [← Htk.out] at HN8; clear e9 hN7 oc7 hst hg7 hown7 hat7; subst hv9))
      go_roundw
      case rel => exact ⟨k + 1, _, _, by omega, by go_num, Hb8.out, HOc8.out, HN8.out⟩
      case measure => simp [intOf]; omega
    · obtain rfl : n1 = k := by omega
      rw [← Hl1.out, List.take_length] at HN
      obtain ⟨wx, rfl⟩ : ∃ wx, wx = wr := ⟨_, rfl⟩
      obtain ⟨ai, ci, hiv, -⟩ := HN.out.itemsAt
      rw [Hl1.out] at hiv
      subst hiv
      clear e40
      have Hb := hid_ hb
      clear hb
      go_wp2
      go_loopw [6] (fun i wr => ∃ (k : Nat) (fv : Value) (fs : List Value), k ≤ n2 ∧ i = .int .i64 k ∧ Below w2.heap.size w2 wr ∧ wr.ownsRow ob 25 2 (.slice (some ⟨ob, 0, none⟩) 1 1) 1 [.slice ai n1 ci, fv] ∧ NewL wr w2.heap.size (.slice ai n1 ci) fv xs fs ⟨L.items, L.follow.take k⟩) (fun i _ => n2 - (intOf i).toNat)
      case atStart => exact ⟨0, _, [], Nat.zero_le _, rfl, Hb.out, HOc.out, HN.out⟩
      case round =>
        clear HOc HN
        obtain ⟨k, fv, fs, hk, rfl, hbr, hoc, hN⟩ := hrel
        have HOc := hid_ hoc; have HN := hid_ hN
        have e40 : wr.cell? ⟨ob, 0, none⟩ = some (.slice ai n1 ci) := hoc.cellAt 0 (by omega)
        have e41 : wr.cell? ⟨ob, 1, none⟩ = some fv := hoc.cellAt 1 (by omega)
        have hszr := hbr.size
        have hcl := (hoc.lt ob rfl).2
        have p1r := cell_below q12 hbr
        clear hoc hN p0 p1
        by_cases hltk : k < n2
        · obtain ⟨b, off, a7, n7, c7, rfl, hblt, hcell2, hrow2⟩ := H2.out.cells k hltk
          have HBlt := hid_ hblt
          have hcell := cell_below hcell2 hbr
          have hrow := hrow2.below hbr (Nat.le_refl _)
          clear hcell2 hrow2 hblt
          have hn7 := Hfr.out k hltk
          rw [hrow.len] at hn7
          have Hn7 := hid_ hrow.len
          have Htk : Hid (L.follow.take (k + 1) = L.follow.take k ++ [L.follow.getD k []]) := hid_ (Kv.take_snoc _ [] k (by rw [Hl2.out]; exact hltk))
          have Htl : Hid ((L.follow.take k).length = k) := hid_ (by rw [List.length_take, Hl2.out]; omega)
          have bd : Below wr.heap.size wr wr.drew := Below.drew (Below.refl _ _)
          have b8 : Below wr.heap.size wr (wr.drew.alloc (.cells #[] 3)) := bd.alloc (Nat.le_refl _) _
          have Hr := hid_ (hrow.below b8 (Nat.le_refl _))
          generalize L.follow.getD k [] = r at *
          have Hbr := hid_ hbr
          have HS := hid_ (fun W (hW : Below wr.heap.size wr W) => (⟨cell_below e41 hW, cell_below p1r hW, cell_below hcell hW⟩ : W.cell? ⟨ob, 1, none⟩ = some fv ∧ W.cell? ⟨w.heap.size, 1, none⟩ = some (.slice (some ⟨b, off, none⟩) n2 c2) ∧ W.cell? ⟨b, off + k, none⟩ = some (.slice a7 n7 c7)))
          clear hrow hbr
          go_wp2
          refine wp_region_last2 (n := 12) (S := fun W' => W'.cell? ⟨ob, 1, none⟩ = some fv ∧ W'.cell? ⟨w.heap.size, 1, none⟩ = some (.slice (some ⟨b, off, none⟩) n2 c2) ∧ W'.cell? ⟨b, off + k, none⟩ = some (.slice a7 n7 c7)) (by kernel_rfl) (by kernel_rfl) (HS.out _ bd) (fun hHeld => ?_)
          refine wpAnyH_take (i := 0) (oi := ?oi0h1) (v := ?v0h1) ?hi0h1 (by kernel_rfl) ?hf0h1 (by kernel_rfl) ?hQ0h1 ?hy0h1 (by assumption) ?rest0h1
          case hi0h1 => (simp only [List.getElem?_toArray, List.getElem?_cons_zero]; rfl)
          case hf0h1 => kernel_rfl
          case hQ0h1 => exact fun _ _ _ h => h
          case hy0h1 => (refine Or.inl ⟨by rfl, ?_⟩; intro W hSw; (try dsimp only at hSw); go_simp; try with_reducible rfl)
          try simp only [Act.put, List.setIfInBounds_toArray, List.set_cons_zero, List.set_cons_succ]
          refine wpAnyH_take (i := 1) (oi := ?oi1h2) (v := ?v1h2) ?hi1h2 (by kernel_rfl) ?hf1h2 (by kernel_rfl) ?hQ1h2 ?hy1h2 (by assumption) ?rest1h2
          case hi1h2 => (simp only [List.getElem?_toArray, List.getElem?_cons_succ, List.getElem?_cons_zero]; rfl)
          case hf1h2 => kernel_rfl
          case hQ1h2 => exact fun _ _ _ h => h
          case hy1h2 => (refine Or.inl ⟨by rfl, ?_⟩; intro W hSw; (try dsimp only at hSw); obtain ⟨g0, g1, g2⟩ := hSw; go_simp; try with_reducible rfl)
          try simp only [Act.put, List.setIfInBounds_toArray, List.set_cons_zero, List.set_cons_succ]
          refine wpAnyH_take (i := 3) (oi := ?oi3h3) (v := ?v3h3) ?hi3h3 (by kernel_rfl) ?hf3h3 (by kernel_rfl) ?hQ3h3 ?hy3h3 (by assumption) ?rest3h3
          case hi3h3 => (simp only [List.getElem?_toArray, List.getElem?_cons_succ, List.getElem?_cons_zero]; rfl)
          case hf3h3 => kernel_rfl
          case hQ3h3 => exact fun _ _ _ h => h
          case hy3h3 => (refine Or.inl ⟨by rfl, ?_⟩; intro W hSw; (try dsimp only at hSw); go_simp; try with_reducible rfl)
          try simp only [Act.put, List.setIfInBounds_toArray, List.set_cons_zero, List.set_cons_succ]
          refine wpAnyH_take (i := 4) (oi := ?oi4h4) (v := ?v4h4) ?hi4h4 (by kernel_rfl) ?hf4h4 (by kernel_rfl) ?hQ4h4 ?hy4h4 (by assumption) ?rest4h4
          case hi4h4 => (simp only [List.getElem?_toArray, List.getElem?_cons_succ, List.getElem?_cons_zero]; rfl)
          case hf4h4 => kernel_rfl
          case hQ4h4 => exact fun _ _ _ h => h
          case hy4h4 => (refine Or.inl ⟨by rfl, ?_⟩; intro W hSw; (try dsimp only at hSw); obtain ⟨g0, g1, g2⟩ := hSw; go_simp; try with_reducible rfl)
          try simp only [Act.put, List.setIfInBounds_toArray, List.set_cons_zero, List.set_cons_succ]
          refine wpAnyH_take (i := 5) (oi := ?oi5h5) (v := ?v5h5) ?hi5h5 (by kernel_rfl) ?hf5h5 (by kernel_rfl) ?hQ5h5 ?hy5h5 (by assumption) ?rest5h5
          case hi5h5 => (simp only [List.getElem?_toArray, List.getElem?_cons_succ, List.getElem?_cons_zero]; rfl)
          case hf5h5 => kernel_rfl
          case hQ5h5 => exact fun _ _ _ h => h
          case hy5h5 => (refine Or.inl ⟨by rfl, ?_⟩; intro W hSw; (try dsimp only at hSw); go_simp; try with_reducible rfl)
          try simp only [Act.put, List.setIfInBounds_toArray, List.set_cons_zero, List.set_cons_succ]
          refine wpAnyH_take (i := 6) (oi := ?oi6h6) (v := ?v6h6) ?hi6h6 (by kernel_rfl) ?hf6h6 (by kernel_rfl) ?hQ6h6 ?hy6h6 (by assumption) ?rest6h6
          case hi6h6 => (simp only [List.getElem?_toArray, List.getElem?_cons_succ, List.getElem?_cons_zero]; rfl)
          case hf6h6 => kernel_rfl
          case hQ6h6 => exact fun _ _ _ h => h
          case hy6h6 => (refine Or.inl ⟨by rfl, ?_⟩; intro W hSw; (try dsimp only at hSw); go_simp; try with_reducible rfl)
          try simp only [Act.put, List.setIfInBounds_toArray, List.set_cons_zero, List.set_cons_succ]
          refine wpAnyH_take (i := 7) (oi := ?oi7h7) (v := ?v7h7) ?hi7h7 (by kernel_rfl) ?hf7h7 (by kernel_rfl) ?hQ7h7 ?hy7h7 (by assumption) ?rest7h7
          case hi7h7 => (simp only [List.getElem?_toArray, List.getElem?_cons_succ, List.getElem?_cons_zero]; rfl)
          case hf7h7 => kernel_rfl
          case hQ7h7 => exact fun _ _ _ h => h
          case hy7h7 => (refine Or.inl ⟨by rfl, ?_⟩; intro W hSw; (try dsimp only at hSw); obtain ⟨g0, g1, g2⟩ := hSw; go_simp; try with_reducible rfl)
          try simp only [Act.put, List.setIfInBounds_toArray, List.set_cons_zero, List.set_cons_succ]
          refine wpAnyH_ready (rs := [2]) (by kernel_rfl) (by simp) ?_
          refine AllReadyH.cons (o := _) (by (simp only [List.getElem?_toArray, List.getElem?_cons_succ, List.getElem?_cons_zero]; rfl)) (fun K hK => ?_) AllReadyH.nil
          go_simp
          refine hK.out _ _ ?_ (fun hHeld => ?_)
          · exact HS.out _ b8
          clear hK K
          try simp only [Act.put, List.setIfInBounds_toArray, List.set_cons_zero, List.set_cons_succ]
          refine wpAnyH_ready (rs := [8]) (by kernel_rfl) (by simp) ?_
          refine AllReadyH.cons (o := _) (by (simp only [List.getElem?_toArray, List.getElem?_cons_succ, List.getElem?_cons_zero]; rfl)) (fun K hK => ?_) AllReadyH.nil
          refine step_append_row rfl (.tmp 39) (.tmp 44) rfl wr.heap.size _ 0 [] (by rfl) (World.ownsRow_lit (base := wr.heap.size) (e := 3) (size := 1) wr.drew #[] 0 (Nat.le_refl _) (by unfold maxLen; omega) rfl) a7 n7 c7 r (by rfl) Hr.out (by omega) (by simp) ?_; intro v5 w5 ho5 hg5 hat5; simp only [Nat.zero_add, List.nil_append] at ho5; have bw5 : Below wr.heap.size wr w5 := b8.grown hg5 (by simp) (fun r e => by cases e; exact Nat.le_refl _); obtain ⟨a6, c6, rfl, -⟩ := IntsAt.own ho5
          refine hK.out _ _ ?_ (fun hHeld => ?_)
          · exact HS.out _ bw5
          clear hK K
          try simp only [Act.put, List.setIfInBounds_toArray, List.set_cons_zero, List.set_cons_succ]
          have bw6 : Below wr.heap.size wr (w5.alloc (.cells #[.slice a6 n7 c6] 26)) := bw5.alloc bw5.size _
          refine wpAnyH_ready (rs := [9]) (by kernel_rfl) (by simp) ?_
          refine AllReadyH.cons (o := _) (by (simp only [List.getElem?_toArray, List.getElem?_cons_succ, List.getElem?_cons_zero]; rfl)) (fun K hK => ?_) AllReadyH.nil
          go_simp
          refine hK.out _ _ ?_ (fun hHeld => ?_)
          · exact HS.out _ bw6
          clear hK K
          try simp only [Act.put, List.setIfInBounds_toArray, List.set_cons_zero, List.set_cons_succ]
          have hf6 := own_below HN.out.fol bw6 (Nat.le_refl _)
          simp only [Htl.out] at hf6
          have hz6 : w2.heap.size ≤ (w5.alloc (.cells #[.slice a6 n7 c6] 26)).heap.size := Nat.le_trans hszr bw6.size
          refine wpAnyH_ready (rs := [10]) (by kernel_rfl) (by simp) ?_
          refine AllReadyH.cons (o := _) (by (simp only [List.getElem?_toArray, List.getElem?_cons_succ, List.getElem?_cons_zero]; rfl)) (fun K hK => ?_) AllReadyH.nil
          refine step_push_val2 rfl (.tmp 38) (.tmp 46) _ rfl w2.heap.size 26 i0 Try.underlying23 hi0 hz0 rfl hz1 hz2 (by omega) fv k fs (by rfl) hf6 (.slice a6 n7 c6) rfl w5.heap.size (by rfl) (cells_alloc _ _ _ 0) (by omega) hz6 ?_; intro v7 w7 hown7 hg7
          refine hK.out _ _ ?_ (fun hHeld => ?_)
          · exact ⟨hg7.cell (HS.out _ bw6).1 (fun e => own_apart (own_below HOc.out bw6 (Nat.le_refl _)) hf6 (by decide) ob rfl e.symm), hg7.cell (HS.out _ bw6).2.1 (fun e => by have : w2.heap.size ≤ w.heap.size := (hf6.lt _ e.symm).1; omega), hg7.cell (HS.out _ bw6).2.2 (fun e => by have h9 : w2.heap.size ≤ b := (hf6.lt _ e.symm).1; have := HBlt.out; omega)⟩
          clear hK K
          try simp only [Act.put, List.setIfInBounds_toArray, List.set_cons_zero, List.set_cons_succ]
          refine wpAnyH_take (i := 11) (oi := ?oi11h8) (v := ?v11h8) ?hi11h8 (by kernel_rfl) ?hf11h8 (by kernel_rfl) ?hQ11h8 ?hy11h8 (by assumption) ?rest11h8
          case hi11h8 => (simp only [List.getElem?_toArray, List.getElem?_cons_succ, List.getElem?_cons_zero]; rfl)
          case hf11h8 => kernel_rfl
          case hQ11h8 => exact fun _ _ _ h => h
          case hy11h8 => (refine Or.inl ⟨by rfl, ?_⟩; intro W hSw; (try dsimp only at hSw); go_simp; try with_reducible rfl)
          try simp only [Act.put, List.setIfInBounds_toArray, List.set_cons_zero, List.set_cons_succ]
          have hN7 := NewI.push (r := r) HN.out hszr bw5 (by rw [Hn7.out]; exact ho5) (by rw [Htl.out]; exact hown7) hg7
          have hoc7 := own_kept_ne (own_below HOc.out bw6 (Nat.le_refl _)) hg7 (fun b hb => own_apart (own_below HOc.out bw6 (Nat.le_refl _)) hf6 (by decide) b hb)
          have h71 : w7.cell? ⟨ob, 1, none⟩ = some fv := hoc7.cellAt 1 (by omega)
          have h7f : w7.frozen? ⟨ob, 1, none⟩ = false := hoc7.frozenAt 1
          have hst := hoc7.stored 1 v7
          have HN8 := hid_ (hN7.other hoc7 (by decide) (by decide) (by decide) hst.2)
          have HOc8 := hid_ hst.1
          have Hb8 : Hid (Below w2.heap.size w2 (w7.setCell ⟨ob, 1, none⟩ v7)) := hid_ (Below.setCell (p := ⟨ob, 1, none⟩) ((Hbr.out.trans (bw6.mono hszr)).grown hg7 hz6 (fun q e => (hf6.lt q e).1)) (by show _ ≤ ob; omega) _)
          obtain ⟨a9, c9, hv9, -⟩ := HN8.out.listsAt
          have e9 : (L.follow.take k ++ [r]).length = k + 1 := by rw [List.length_append, Htl.out]; rfl
          replace hv9 : v7 = .slice a9 (k + 1) c9 := by rw [← e9]; exact hv9
          rw [← Htk.out] at HN8
          clear e9 hN7 hoc7 hst hf6 hg7 hown7 bw5 bw6 e40 e41 ho5 hg5 hat5
          subst hv9
          refine wpAnyH_done (by kernel_rfl) ?_ _
          clear hHeld
          refine last_of ?_
          refine wpOp_step (o := _) (by (simp only [List.getElem?_toArray, List.getElem?_cons_succ, List.getElem?_cons_zero]; rfl)) (fun K hK => ?_)
          go_simp
          refine hK _ _ ?_
          clear hK K
          try simp only [Act.put, List.setIfInBounds_toArray, List.set_cons_zero, List.set_cons_succ]
          go_wp2
          go_roundw
          case rel => exact ⟨k + 1, _, _, by omega, by go_num, Hb8.out, HOc8.out, HN8.out⟩
          case measure => simp [intOf]; omega
        · obtain rfl : n2 = k := by omega
          rw [← Hl2.out, List.take_length] at HN
          obtain ⟨a9, c9, hv9, -⟩ := HN.out.listsAt
          subst hv9
          have q0r := (hbr.cell (p := ⟨w.heap.size + 1, 0, none⟩) (by show w.heap.size + 1 < w2.heap.size; omega)).trans r0
          have q1r := (hbr.cell (p := ⟨w.heap.size + 1, 1, none⟩) (by show w.heap.size + 1 < w2.heap.size; omega)).trans r1
          have g0 := (hbr.frozen (p := ⟨w.heap.size + 1, 0, none⟩) (by show w.heap.size + 1 < w2.heap.size; omega)).trans (f0 0)
          have g1 := (hbr.frozen (p := ⟨w.heap.size + 1, 1, none⟩) (by show w.heap.size + 1 < w2.heap.size; omega)).trans (f0 1)
          have Hbr := hid_ hbr
          clear hbr
          generalize hfl : L.follow.length = m at *
          obtain ⟨t0, t1⟩ : (((wr.setCell ⟨w.heap.size + 1, 0, none⟩ (.slice ai n1 ci)).setCell ⟨w.heap.size + 1, 1, none⟩ (.slice a9 m c9)).cell? ⟨w.heap.size + 1, 0, none⟩ = some (.slice ai n1 ci)) ∧ (((wr.setCell ⟨w.heap.size + 1, 0, none⟩ (.slice ai n1 ci)).setCell ⟨w.heap.size + 1, 1, none⟩ (.slice a9 m c9)).cell? ⟨w.heap.size + 1, 1, none⟩ = some (.slice a9 m c9)) := by
            refine ⟨?_, ?_⟩
            · rw [World.cell?_setCell_other _ _ _ _ (by simp), World.cell?_setCell_same _ _ _ q0r]
            · rw [World.cell?_setCell_same _ _ _ (by rw [World.cell?_setCell_other _ _ _ _ (by simp)]; exact q1r)]
          go_wp2
          refine bodyPost_ret (v := .agg #[.slice ai n1 ci, .slice a9 m c9]) ?_ rfl ⟨_, _, xs, fs, rfl, ?_, ?_⟩
          · simp [results, Try.results25, go_sem, t0, t1]
          · have hp : w.heap.size + 1 < w2.heap.size := by omega
            exact ((HN.out.store (p := ⟨w.heap.size + 1, 0, none⟩) hp _).store (p := ⟨w.heap.size + 1, 1, none⟩) hp _).base (by omega)
          · have hf := Hb2.out.trans (Hbr.out.mono Hb2.out.size)
            exact (hf.setCell (p := ⟨w.heap.size + 1, 0, none⟩) (by show _ ≤ _ + 1; omega) _).setCell (p := ⟨w.heap.size + 1, 1, none⟩) (by show _ ≤ _ + 1; omega) _
end Go.Proofs.Ytpcpmdokgdbonaa
