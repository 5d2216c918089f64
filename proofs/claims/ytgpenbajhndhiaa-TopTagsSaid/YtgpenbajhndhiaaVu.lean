import Derived.Test.YtgpenbajhndhiaaVt
import Derived.ScopeJumps
import Derived.WalkMore
namespace Go.Proofs.Kv
open Go.RowKit Go
/-- what holds at each jump, walked once -/
theorem wp_scope_share {P : Program} {a : Act} {w : World} {Q : Exit → Act → World → Prop} {c y : Code} (l : Nat) (J : Act → World → Prop) (μ : Act → World → Nat) (hf : findLabel c l = some (Code.seq .skip y))
    (pass : ∀ a w, J a w → y.wp P (Exit.jump l (fun a' w' => J a' w' ∧ μ a' w' < μ a w) Q) a w)
    (first : (∀ a w, J a w → y.wp P (Exit.jump l J Q) a w) → c.wp P (Exit.jump l J Q) a w) : (Code.scope c).wp P Q a w := by
  refine wp_scope_jumps l J μ hf (first fun a w h => wp_mono (pass a w h) fun e a' w' hq => ?_) fun a w h => wp_seq (wp_skip (pass a w h))
  cases e <;> first | exact hq | exact ⟨hq.1, hq.2.1⟩
end Go.Proofs.Kv
namespace Go.Proofs.Ytgpenbajhndhiaa
open Go.RowKit Go.Proofs.Kv Go

/-! ### two -/
def TwoPost (L : Lx) (w w' : World) (e : Ending) : Prop := ∃ v1 v2 v3 p ok, e = .returned (.tuple #[.agg #[v1, v2, v3], .bool ok]) ∧ PrAt w' none v1 v2 v3 p ∧ CodeIs L (!ok) ∧ (ok = true → GoodPr L p ∧ p.left = [] ∧ lenP p ≤ 130) ∧ (ok = false → p = P0) ∧ Below w.heap.size w w'
theorem PrAt.free {w : World} {X : Option Nat} {v1 v2 v3 : Value} {p : Pr} (h : PrAt w X v1 v2 v3 p) : PrAt w none v1 v2 v3 p := by
  have key : ∀ {v : Value} {l : List Int}, SlAt w X v l → SlAt w none v l := fun h => by
    obtain ⟨a, c, e, h1, -⟩ := h
    exact ⟨a, c, e, h1, fun b off _ _ q => by cases q⟩
  exact ⟨key h.1, key h.2.1, key h.2.2⟩
theorem SlAt.setOther {w : World} {X : Option Nat} {v u v' : Value} {l : List Int} {p : Addr} (h : SlAt w X v l) (hq : w.cell? p = some u) (hu : ∀ x, u ≠ .int .i64 x) : SlAt (w.setCell p v') X v l := by
  obtain ⟨a, c, e, h1, h2⟩ := h
  refine ⟨a, c, e, ⟨h1.len, h1.le, h1.small, fun i hi => ?_⟩, h2⟩
  obtain ⟨b, off, ha, hb, hc⟩ := h1.cells i hi
  refine ⟨b, off, ha, by simpa [World.setCell] using hb, ?_⟩
  rw [World.cell?_setCell_other _ _ _ _ (by intro e; rw [← e, hq] at hc; injection hc with hc; exact hu _ hc)]
  exact hc
theorem PrAt.setOther {w : World} {X : Option Nat} {v1 v2 v3 u v' : Value} {q : Pr} {p : Addr} (h : PrAt w X v1 v2 v3 q) (hq : w.cell? p = some u) (hu : ∀ x, u ≠ .int .i64 x) : PrAt (w.setCell p v') X v1 v2 v3 q := ⟨SlAt.setOther h.1 hq hu, SlAt.setOther h.2.1 hq hu, SlAt.setOther h.2.2 hq hu⟩
theorem OwnP.prs {E : TypeId} {w : World} {B n c : Nat} {a : Option Addr} {cs : List Value} {ps : List Pr} (h : OwnP E w B (.slice a n c) cs ps) : PrsAt w (Value.slice a n c).ownBlock a n c ps := by
  obtain ⟨a', c', e, hr⟩ := h.read
  injection e with e1 e2 e3
  rw [← e2, ← e1, ← e3] at hr
  exact hr
theorem SlAt.int {w : World} {X : Option Nat} {a : Option Addr} {n c : Nat} {l : List Int} (h : SlAt w X (.slice a n c) l) : IntsAt w a n c l := by
  obtain ⟨a', c', e, h1, -⟩ := h
  injection e with e1 e2 e3
  subst e1; subst e2; subst e3
  exact h1
set_option maxRecDepth 100000 in
set_option maxHeartbeats 8000000 in
theorem two_calls (v : Value) (L : Lx) (w : World) (h : LexAt w v L) (g : GoodL L) :
    Calls Try.prog 62 #[v] w fun e w' => TwoPost L w w' e := by
  have HP := hid_ h
  obtain ⟨a1, n1, c1, a2, n2, c2, rfl, h1, h2⟩ := h
  obtain ⟨w1, hw1⟩ : ∃ w1, w.alloc (.cells #[.slice a1 n1 c1, .slice a2 n2 c2] 25) = w1 := ⟨_, rfl⟩
  have cb : Below w.heap.size w w1 := by rw [← hw1]; exact below_alloc _ _
  have q0 : w1.cell? ⟨w.heap.size, 0, none⟩ = some (.slice a1 n1 c1) := by rw [← hw1]; exact cells_alloc _ _ _ 0
  have q1 : w1.cell? ⟨w.heap.size, 1, none⟩ = some (.slice a2 n2 c2) := by rw [← hw1]; exact cells_alloc _ _ _ 1
  have HP1 := hid_ (HP.out.below cb (Nat.le_refl _)); have Hc1 := hid_ cb
  have hl1 := h1.len
  have Hg := hid_ g
  have hn8 := g.le
  have H1 := hid_ (h1.below cb (Nat.le_refl _))
  have HWd : Hid (∀ j, wd L j = (L.items.getD j I0).word) := hid_ (fun _ => rfl)
  obtain ⟨i0, hi0, hz0, hz1, hz2⟩ := info_parts Try.infoPair
  obtain ⟨w2, hw2⟩ : ∃ w2, w1.alloc (.cells #[.slice none 0 0, .slice none 0 0, .slice none 0 0] 91) = w2 := ⟨_, rfl⟩
  have b2 : Below w1.heap.size w1 w2 := by rw [← hw2]; exact below_alloc _ _
  have z1 : w1.heap.size = w.heap.size + 1 := by rw [← hw1]; simp
  have z2 : w2.heap.size = w.heap.size + 2 := by rw [← hw2]; simp; omega
  have r0 : w2.cell? ⟨w.heap.size + 1, 0, none⟩ = some (.slice none 0 0) := by rw [← z1, ← hw2]; exact cells_alloc _ _ _ 0
  have r1 : w2.cell? ⟨w.heap.size + 1, 1, none⟩ = some (.slice none 0 0) := by rw [← z1, ← hw2]; exact cells_alloc _ _ _ 1
  have r2 : w2.cell? ⟨w.heap.size + 1, 2, none⟩ = some (.slice none 0 0) := by rw [← z1, ← hw2]; exact cells_alloc _ _ _ 2
  have Hf0 := hid_ (show ∀ k, w2.frozen? ⟨w.heap.size + 1, k, none⟩ = false from fun k => by rw [← z1, ← hw2]; exact World.frozen?_alloc_at _ _ _ _ (by simp))
  have q0b := cell_below q0 b2; have q1b := cell_below q1 b2
  have HF := hid_ (firstPairs_calls _ L w2 (HP1.out.below b2 (Nat.le_refl _)) g)
  have HInit := hid_ (InvP.init g)
  have Hb2 := hid_ (Hc1.out.trans (b2.mono Hc1.out.size))
  have Hb12 := hid_ b2
  rw [hl1] at hn8
  have Hl1 := hid_ hl1
  have hn1c := h1.le
  have Hz2 := hid_ z2; have Hz1 := hid_ z1
  clear h1 h2 HP HP1 cb hl1 g b2
  go_enter Try.func62, Try.ntmps62
  go_wp2_with fail
  refine wp_scope_share 0 (fun a' w' => ∃ (n : Nat) (ps : List Pr) (cs : List Value) (u4 u6 u7 u8 u9 u10 u11 u12 u13 u14 u15 u16 u17 u18 u19 u20 u21 u22 u23 u24 u25 u26 u27 u28 u29 u30 u31 u32 u33 u34 u35 u36 u37 u38 u39 u40 u41 u42 u43 u44 u45 u46 u47 u48 u49 u50 u51 u52 u53 u54 u55 u56 u57 : Value), a' = { tmps := #[.agg #[.slice a1 n1 c1, .slice a2 n2 c2], .pointer (some ⟨w.heap.size, 0, none⟩), .pointer (some ⟨w.heap.size + 1, 0, none⟩), .bool false, u4, .int .i64 (n : Int), u6, u7, u8, u9, u10, u11, u12, u13, u14, u15, u16, u17, u18, u19, u20, u21, u22, u23, u24, u25, u26, u27, u28, u29, u30, u31, u32, u33, u34, u35, u36, u37, u38, u39, u40, u41, u42, u43, u44, u45, u46, u47, u48, u49, u50, u51, u52, u53, u54, u55, u56, u57], defers := [] } ∧ InvP L ps n ∧ n ≤ ps.length ∧ OwnP 91 w' w2.heap.size u4 cs ps ∧ Below w2.heap.size w2 w') (fun a' _ => 200 - (intOf (a'.tmps.getD 5 undef)).toNat) rfl ?_ ?_
  · rintro a' w' ⟨n, ps, cs, u4, u6, u7, u8, u9, u10, u11, u12, u13, u14, u15, u16, u17, u18, u19, u20, u21, u22, u23, u24, u25, u26, u27, u28, u29, u30, u31, u32, u33, u34, u35, u36, u37, u38, u39, u40, u41, u42, u43, u44, u45, u46, u47, u48, u49, u50, u51, u52, u53, u54, u55, u56, u57, rfl, hI, hnl, hO, hb⟩
    have hle := hI.le Hg.out
    obtain ⟨pl, hpl⟩ : ∃ pl, ps.length = pl := ⟨_, rfl⟩
    obtain ⟨ua, uc, eu⟩ := own_sliceV hO.top
    rw [hpl] at hle hnl eu
    subst eu
    have hxB : w.heap.size + 1 < w2.heap.size := by rw [Hz2.out]; omega
    have hzw : w2.heap.size ≤ w'.heap.size := hb.size
    have s0 := (hb.cell (p := ⟨w.heap.size + 1, 0, none⟩) hxB).trans r0
    have s1 := (hb.cell (p := ⟨w.heap.size + 1, 1, none⟩) hxB).trans r1
    have s2 := (hb.cell (p := ⟨w.heap.size + 1, 2, none⟩) hxB).trans r2
    have t0 := (hb.frozen (p := ⟨w.heap.size + 1, 0, none⟩) hxB).trans (Hf0.out 0)
    have t1 := (hb.frozen (p := ⟨w.heap.size + 1, 1, none⟩) hxB).trans (Hf0.out 1)
    have t2 := (hb.frozen (p := ⟨w.heap.size + 1, 2, none⟩) hxB).trans (Hf0.out 2)
    have Hb := hid_ hb; have HI := hid_ hI; have HO := hid_ hO; have Hpl := hid_ hpl
    have Hbw := hid_ (Hb2.out.trans (hb.mono Hb2.out.size))
    clear r0 r1 r2
    by_cases hn : n = pl
    · have hnq : ((n : Int) == (pl : Int)) = true := by simp; omega
      have Hno := hid_ (hI.done (by rw [hpl]; exact hn))
      clear hn hb hI hO hpl
      go_wp2
      obtain ⟨we, hwe⟩ : ∃ we, ((w'.setCell ⟨w.heap.size + 1, 0, none⟩ (.slice none 0 0)).setCell ⟨w.heap.size + 1, 1, none⟩ (.slice none 0 0)).setCell ⟨w.heap.size + 1, 2, none⟩ (.slice none 0 0) = we := ⟨_, rfl⟩
      rw [hwe]
      have e0 : we.cell? ⟨w.heap.size + 1, 0, none⟩ = some (.slice none 0 0) := by
        rw [← hwe, World.cell?_setCell_other _ _ _ _ (by simp), World.cell?_setCell_other _ _ _ _ (by simp)]; exact World.cell?_setCell_same _ _ _ s0
      have e1 : we.cell? ⟨w.heap.size + 1, 1, none⟩ = some (.slice none 0 0) := by
        rw [← hwe, World.cell?_setCell_other _ _ _ _ (by simp)]; exact World.cell?_setCell_same _ _ _ (by rw [World.cell?_setCell_other _ _ _ _ (by simp)]; exact s1)
      have e2 : we.cell? ⟨w.heap.size + 1, 2, none⟩ = some (.slice none 0 0) := by
        rw [← hwe]; exact World.cell?_setCell_same _ _ _ (by rw [World.cell?_setCell_other _ _ _ _ (by simp), World.cell?_setCell_other _ _ _ _ (by simp)]; exact s2)
      have hbe : Below w.heap.size w' we := by
        rw [← hwe]
        exact Below.setCell (p := ⟨w.heap.size + 1, 2, none⟩) (Below.setCell (p := ⟨w.heap.size + 1, 1, none⟩) (Below.setCell (p := ⟨w.heap.size + 1, 0, none⟩) (Below.refl _ _) (Nat.le_succ _) _) (Nat.le_succ _) _) (Nat.le_succ _) _
      have hs0 : SlAt we none (.slice none 0 0) [] := ⟨none, 0, rfl, IntsAt.nil _ _ _ (by omega), fun b off h _ => by cases h⟩
      simp only [Exit.jump]
      refine bodyPost_ret (v := .tuple #[.agg #[.slice none 0 0, .slice none 0 0, .slice none 0 0], .bool false]) ?_ rfl ⟨_, _, _, P0, false, rfl, ⟨hs0, hs0, hs0⟩, (by simp [CodeIs]; exact Hno.out), (fun h => by cases h), (fun _ => rfl), Hbw.out.trans hbe⟩
      simp [results, Try.results62, go_sem, e0, e1, e2]
    · have hnq : ((n : Int) == (pl : Int)) = false := by simp; omega
      have hlt : n < pl := by omega
      obtain ⟨a9, c9, e9, hr⟩ := hO.read
      rw [hpl] at e9 hr
      injection e9 with e9 _ e10
      subst e9; subst e10
      obtain ⟨lb, v1, v2, v3, rfl, -, l0, l1, l2, hp⟩ := hr.cells n hlt
      have hgp := hI.good _ (getD_memP (ps := ps) (k := n) (by omega))
      have hlp := hI.len n (by omega)
      obtain ⟨p, hpd⟩ : ∃ p, ps.getD n P0 = p := ⟨_, rfl⟩
      rw [hpd] at hp hgp hlp
      obtain ⟨g1, m1, d1, g2, m2, d2, g3, m3, d3, rfl, rfl, rfl⟩ := PrAt.lits hp
      have hm3 : p.left.length = m3 := (SlAt.int hp.2.2).len
      obtain ⟨bx, hbx⟩ : ∃ bx, w'.heap.size = bx := ⟨_, rfl⟩
      obtain ⟨wb, hwb⟩ : ∃ wb, w'.alloc (.cells #[.slice g1 m1 d1, .slice g2 m2 d2, .slice g3 m3 d3] 91) = wb := ⟨_, rfl⟩
      have cbb : Below w'.heap.size w' wb := by rw [← hwb]; exact below_alloc _ _
      have y0 : wb.cell? ⟨bx, 0, none⟩ = some (.slice g1 m1 d1) := by rw [← hwb, ← hbx]; exact cells_alloc _ _ _ 0
      have y1 : wb.cell? ⟨bx, 1, none⟩ = some (.slice g2 m2 d2) := by rw [← hwb, ← hbx]; exact cells_alloc _ _ _ 1
      have y2 : wb.cell? ⟨bx, 2, none⟩ = some (.slice g3 m3 d3) := by rw [← hwb, ← hbx]; exact cells_alloc _ _ _ 2
      have hwn : IntKind.i64.wrap ((n : Int) + 1) = ((n + 1 : Nat) : Int) := by rw [IntKind.wrap_i64]; omega
      have q0w := cell_below (cell_below q0b hb) cbb
      have Hpb := hid_ (hp.below cbb (Nat.le_refl _))
      have Hgp := hid_ hgp; have Hlp := hid_ hlp; have Hpd := hid_ hpd; have Hm3 := hid_ hm3
      have Hbb := hid_ (hb.trans (cbb.mono hzw))
      have HOb := hid_ (hO.below cbb (Nat.le_refl _))
      have hbxz : bx < wb.heap.size := by rw [← hwb]; simp; omega
      have Hux := hid_ (fun q => by have := hO.lt bx q; omega : ¬ (Value.slice (some ⟨lb, 0, none⟩) pl uc).ownBlock = some bx)
      by_cases h3 : m3 = 0
      · have h3q : ((m3 : Int) == 0) = true := by simp; omega
        have s0b := cell_below s0 cbb; have s1b := cell_below s1 cbb; have s2b := cell_below s2 cbb
        have t0b := (cbb.frozen (p := ⟨w.heap.size + 1, 0, none⟩) (World.block_lt_of_cell? w' _ s0)).trans t0
        have t1b := (cbb.frozen (p := ⟨w.heap.size + 1, 1, none⟩) (World.block_lt_of_cell? w' _ s1)).trans t1
        have t2b := (cbb.frozen (p := ⟨w.heap.size + 1, 2, none⟩) (World.block_lt_of_cell? w' _ s2)).trans t2
        have Hnil : Hid (p.left = []) := hid_ (List.length_eq_zero_iff.1 (by omega))
        clear hb hO hr hp hgp hlp hI hpl hpd hn h3 hm3 cbb s0 s1 s2 t0 t1 t2
        go_wp2
        obtain ⟨we, hwe⟩ : ∃ we, ((wb.setCell ⟨w.heap.size + 1, 0, none⟩ (.slice g1 m1 d1)).setCell ⟨w.heap.size + 1, 1, none⟩ (.slice g2 m2 d2)).setCell ⟨w.heap.size + 1, 2, none⟩ (.slice g3 m3 d3) = we := ⟨_, rfl⟩
        rw [hwe]
        have e0 : we.cell? ⟨w.heap.size + 1, 0, none⟩ = some (.slice g1 m1 d1) := by
          rw [← hwe, World.cell?_setCell_other _ _ _ _ (by simp), World.cell?_setCell_other _ _ _ _ (by simp)]; exact World.cell?_setCell_same _ _ _ s0b
        have e1 : we.cell? ⟨w.heap.size + 1, 1, none⟩ = some (.slice g2 m2 d2) := by
          rw [← hwe, World.cell?_setCell_other _ _ _ _ (by simp)]; exact World.cell?_setCell_same _ _ _ (by rw [World.cell?_setCell_other _ _ _ _ (by simp)]; exact s1b)
        have e2 : we.cell? ⟨w.heap.size + 1, 2, none⟩ = some (.slice g3 m3 d3) := by
          rw [← hwe]; exact World.cell?_setCell_same _ _ _ (by rw [World.cell?_setCell_other _ _ _ _ (by simp), World.cell?_setCell_other _ _ _ _ (by simp)]; exact s2b)
        have hbe : Below w.heap.size wb we := by
          rw [← hwe]
          exact Below.setCell (p := ⟨w.heap.size + 1, 2, none⟩) (Below.setCell (p := ⟨w.heap.size + 1, 1, none⟩) (Below.setCell (p := ⟨w.heap.size + 1, 0, none⟩) (Below.refl _ _) (Nat.le_succ _) _) (Nat.le_succ _) _) (Nat.le_succ _) _
        have hpe : PrAt we none (.slice g1 m1 d1) (.slice g2 m2 d2) (.slice g3 m3 d3) p := by
          rw [← hwe]
          exact PrAt.setOther (PrAt.setOther (PrAt.setOther (PrAt.free Hpb.out) s0b (fun x => by simp)) (by rw [World.cell?_setCell_other _ _ _ _ (by simp)]; exact s1b) (fun x => by simp)) (by rw [World.cell?_setCell_other _ _ _ _ (by simp), World.cell?_setCell_other _ _ _ _ (by simp)]; exact s2b) (fun x => by simp)
        simp only [Exit.jump]
        refine bodyPost_ret (v := .tuple #[.agg #[.slice g1 m1 d1, .slice g2 m2 d2, .slice g3 m3 d3], .bool true]) ?_ rfl ⟨_, _, _, p, true, rfl, hpe, (by simp [CodeIs]; have := Hgp.out.rr; rwa [Hnil.out] at this), (fun _ => ⟨Hgp.out, Hnil.out, by have := Hlp.out; omega⟩), (fun h => by cases h), ((Hb2.out.trans (Hbb.out.mono Hb2.out.size)).trans hbe)⟩
        simp [results, Try.results62, go_sem, e0, e1, e2]
      · have h3q : ((m3 : Int) == 0) = false := by simp; omega
        clear hb hO hr hp hgp hlp hI hpl hpd hm3 s0 s1 s2 t0 t1 t2 hnq
        have Hy0 := hid_ y0; have Hy1 := hid_ y1; have Hy2 := hid_ y2
        have Hne : Hid (p.left ≠ []) := hid_ (fun e => h3 (by rw [← Hm3.out, e]; rfl))
        clear h3
        go_wp2
        clear q0w y0 y1 y2 l0 l1 l2
        go_loopw [4, 32] (fun u i wi => ∃ (k : Nat) (qs : List Pr) (cs : List Value), k ≤ n1 ∧ i = .int .i64 k ∧ InvP L qs n ∧ n < qs.length ∧ qs.getD n P0 = p ∧ (∀ m, m < k → doneAt L qs p.left m) ∧ OwnP 91 wi w2.heap.size u cs qs ∧ Below w2.heap.size w2 wi ∧ wi.cell? ⟨bx, 0, none⟩ = some (.slice g1 m1 d1) ∧ wi.cell? ⟨bx, 1, none⟩ = some (.slice g2 m2 d2) ∧ wi.cell? ⟨bx, 2, none⟩ = some (.slice g3 m3 d3) ∧ u.ownBlock ≠ some bx ∧ PrAt wi u.ownBlock (.slice g1 m1 d1) (.slice g2 m2 d2) (.slice g3 m3 d3) p) (fun _ i _ => n1 - (intOf i).toNat)
        case atStart => exact ⟨0, ps, cs, Nat.zero_le _, rfl, HI.out, by rw [Hpl.out]; exact hlt, Hpd.out, fun m hm => absurd hm (by omega), HOb.out, Hbb.out, Hy0.out, Hy1.out, Hy2.out, Hux.out, Hpb.out⟩
        case round =>
          obtain ⟨k, qs, cs, hk, rfl, hI, hnq2, hqp, hdn, hO, hbi, y0, y1, y2, hux, hpp⟩ := hrel
          have hsz := hbi.size
          have hle2 := hI.le Hg.out
          obtain ⟨ql, hql⟩ : ∃ ql, qs.length = ql := ⟨_, rfl⟩
          obtain ⟨ue, uf, eu⟩ := own_sliceV hO.top
          rw [hql] at eu hle2 hnq2
          have HI := hid_ hI; have Hqp := hid_ hqp; have Hdn := hid_ hdn; have Hql := hid_ hql
          by_cases hlk : k < n1
          · obtain ⟨bk, offk, ak, nk, ck, rfl, -, k0, k1, k2, hwk⟩ := H1.out.cells k hlk
            rw [← HWd.out] at hwk
            generalize (L.items.getD k I0).kind = kd2 at *
            generalize (L.items.getD k I0).cost = co2 at *
            have hb1i := Hb12.out.trans (hbi.mono Hb12.out.size)
            replace k0 := cell_below k0 hb1i; replace k1 := cell_below k1 hb1i; replace k2 := cell_below k2 hb1i
            obtain ⟨wc, hwc⟩ : ∃ wc, wr.alloc (.cells #[.slice ak nk ck, .int .i64 kd2, .int .i64 co2] 42) = wc := ⟨_, rfl⟩
            have cc : Below wr.heap.size wr wc := by rw [← hwc]; exact below_alloc _ _
            have x0 : wc.cell? ⟨wr.heap.size, 0, none⟩ = some (.slice ak nk ck) := by rw [← hwc]; exact cells_alloc _ _ _ 0
            have yd0 := cell_below y0 cc; have yd1 := cell_below y1 cc; have yd2 := cell_below y2 cc
            have hXb : ∀ b, u4.ownBlock = some b → w1.heap.size ≤ b := fun b q => Nat.le_trans Hb12.out.size (hO.top.lt b q).1
            have hXl : ∀ b, u4.ownBlock = some b → b < wc.heap.size := fun b q => Nat.lt_of_lt_of_le (hO.lt b q) cc.size
            have Hppd := hid_ (hpp.below cc (Nat.le_refl _))
            have Hgp2 := hid_ (show GoodPr L p by rw [← hqp]; exact hI.good _ (getD_memP (by omega)))
            have Hlp2 := hid_ (show lenP p ≤ n + 2 by rw [← hqp]; exact hI.len n (by omega))
            have hsl : p.short.length ≤ 1000 := by have := Hlp2.out; unfold lenP at this; omega
            have HWi := hid_ (with_calls u4.ownBlock _ _ _ (.slice ak nk ck) p k (wd L k) wc hXl Hppd.out (SlAt.old hwk (hb1i.trans (cc.mono hb1i.size)) hXb) hsl)
            have Hb1d := hid_ (hbi.trans (cc.mono hsz))
            have HOd := hid_ (hO.below cc (Nat.le_refl _))
            have Hnx := hid_ (fun q hq => Hgp2.out.next Hg.out (q := q) (i := k) (by rw [Hl1.out]; exact hlk) hq)
            have Hso := hid_ (fun r hr => @with8_some p k (wd L k) r hr)
            have HWP : Hid (with8P p k (wd L k) = (with8 p k (wd L k)).getD P0) := hid_ rfl
            subst eu
            clear hI hqp hdn hql hO hbi hpp hwk hb1i cc y0 y1 y2 hXb hXl hsl
            obtain ⟨ok, hok⟩ : ∃ ok, (with8 p k (wd L k)).isSome = ok := ⟨_, rfl⟩
            obtain ⟨q, hqd⟩ : ∃ q, with8P p k (wd L k) = q := ⟨_, rfl⟩
            rw [hok, hqd] at HWi
            rw [hqd] at HWP
            have Hok := hid_ hok
            clear hok hqd
            cases ok with
            | false =>
              have Hdn2 : Hid (∀ m, m < k + 1 → doneAt L qs p.left m) := hid_ (fun m hm => by
                by_cases e : m = k
                · subst e; intro r hr
                  obtain ⟨q', hq', -⟩ := Hso.out r hr
                  have := Hok.out; rw [hq'] at this; cases this
                · exact Hdn.out m (by omega))
              go_wp2_with (go_at_call 76; (with_reducible refine HWi.out.mono ?_); rintro e w4 ⟨x1, x2, x3, rfl, hp4, hb4⟩; obtain ⟨f1, k1', h1', f2, k2', h2', f3, k3', h3', rfl, rfl, rfl⟩ := PrAt.lits hp4; obtain ⟨w5, hw5⟩ : ∃ w5, w4.alloc (.cells #[.slice f1 k1' h1', .slice f2 k2' h2', .slice f3 k3' h3'] 91) = w5 := ⟨_, rfl⟩; have c5 : Below w4.heap.size w4 w5 := (by rw [← hw5]; exact below_alloc _ _); have e50 : w5.cell? ⟨w4.heap.size, 0, none⟩ = some (.slice f1 k1' h1') := (by rw [← hw5]; exact cells_alloc _ _ _ 0); have e51 : w5.cell? ⟨w4.heap.size, 1, none⟩ = some (.slice f2 k2' h2') := (by rw [← hw5]; exact cells_alloc _ _ _ 1); have e52 : w5.cell? ⟨w4.heap.size, 2, none⟩ = some (.slice f3 k3' h3') := (by rw [← hw5]; exact cells_alloc _ _ _ 2); have hb5 := hb4.trans (c5.mono hb4.size); have Hb5 := hid_ hb5; have HO5 := hid_ (HOd.out.below hb5 (Nat.le_refl _)); have z0 := cell_below yd0 hb5; have z1' := cell_below yd1 hb5; have z2' := cell_below yd2 hb5; have Hpp5 := hid_ (Hppd.out.below hb5 (Nat.le_refl _)); have Hb15 := hid_ (Hb1d.out.trans (hb5.mono Hb1d.out.size)); have hz5 := Hb15.out.size; have Hp5 := hid_ (hp4.below c5 (Nat.le_refl _)); have Hbz := hid_ (World.block_lt_of_cell? w5 _ z0); clear hp4 hb4 c5 hb5)
              go_roundw
              case rel => exact ⟨k + 1, qs, cs, by omega, by go_num, HI.out, by rw [Hql.out]; exact hnq2, Hqp.out, Hdn2.out, HO5.out, Hb15.out, z0, z1', z2', hux, Hpp5.out⟩
              case measure => simp [intOf]; omega
            | true =>
              have Hq : Hid (with8 p k (wd L k) = some q) := hid_ (by
                obtain ⟨q', hq'⟩ := Option.isSome_iff_exists.1 Hok.out
                have := HWP.out; rw [hq'] at this; rw [hq', this]; rfl)
              obtain ⟨hgq, hlq⟩ := Hnx.out q Hq.out
              have Hgq := hid_ hgq; have Hlq := hid_ hlq
              have Hdk := hid_ (fun (qs' : List Pr) (hh : ∃ p' ∈ qs', p'.left = q.left) => show doneAt L qs' p.left k from fun r hr => by
                obtain ⟨q', hq', er⟩ := Hso.out r hr
                have e2 := Hq.out
                rw [hq'] at e2; injection e2 with e2
                rw [← er, e2]; exact hh)
              clear hgq hlq
              cases hil : isLeftB qs q.left with
              | true =>
                have Hdn2 : Hid (∀ m, m < k + 1 → doneAt L qs p.left m) := hid_ (fun m hm => by
                  by_cases e : m = k
                  · subst e
                    refine Hdk.out qs ?_
                    rw [isLeftB, List.any_eq_true] at hil
                    obtain ⟨p', hp', e'⟩ := hil
                    exact ⟨p', hp', of_decide_eq_true e'⟩
                  · exact Hdn.out m (by omega))
                go_wp2_with (first
                  | (go_at_call 76; (with_reducible refine HWi.out.mono ?_); rintro e w4 ⟨x1, x2, x3, rfl, hp4, hb4⟩; obtain ⟨f1, k1', h1', f2, k2', h2', f3, k3', h3', rfl, rfl, rfl⟩ := PrAt.lits hp4; obtain ⟨w5, hw5⟩ : ∃ w5, w4.alloc (.cells #[.slice f1 k1' h1', .slice f2 k2' h2', .slice f3 k3' h3'] 91) = w5 := ⟨_, rfl⟩; have c5 : Below w4.heap.size w4 w5 := (by rw [← hw5]; exact below_alloc _ _); have e50 : w5.cell? ⟨w4.heap.size, 0, none⟩ = some (.slice f1 k1' h1') := (by rw [← hw5]; exact cells_alloc _ _ _ 0); have e51 : w5.cell? ⟨w4.heap.size, 1, none⟩ = some (.slice f2 k2' h2') := (by rw [← hw5]; exact cells_alloc _ _ _ 1); have e52 : w5.cell? ⟨w4.heap.size, 2, none⟩ = some (.slice f3 k3' h3') := (by rw [← hw5]; exact cells_alloc _ _ _ 2); have hb5 := hb4.trans (c5.mono hb4.size); have Hb5 := hid_ hb5; have HO5 := hid_ (HOd.out.below hb5 (Nat.le_refl _)); have z0 := cell_below yd0 hb5; have z1' := cell_below yd1 hb5; have z2' := cell_below yd2 hb5; have Hpp5 := hid_ (Hppd.out.below hb5 (Nat.le_refl _)); have Hb15 := hid_ (Hb1d.out.trans (hb5.mono Hb1d.out.size)); have hz5 := Hb15.out.size; have Hp5 := hid_ (hp4.below c5 (Nat.le_refl _)); have Hbz := hid_ (World.block_lt_of_cell? w5 _ z0); clear hp4 hb4 c5 hb5; have HIs := hid_ (isLeft_calls f3 k3' h3' q.left _ _ ql _ qs w5 (SlAt.int Hp5.out.2.2) (OwnP.prs HO5.out)); rw [hil] at HIs)
                  | (go_at_call 77; (with_reducible refine HIs.out.mono ?_); rintro e w6 ⟨rfl, hb6⟩; have HO6 := hid_ (HO5.out.below hb6 (Nat.le_refl _)); have z60 := cell_below z0 hb6; have z61 := cell_below z1' hb6; have z62 := cell_below z2' hb6; have Hpp6 := hid_ (Hpp5.out.below hb6 (Nat.le_refl _)); have Hb16 := hid_ (Hb15.out.trans (hb6.mono hz5)); have hz6 := Hb16.out.size; have Hp6 := hid_ (Hp5.out.below hb6 (Nat.le_refl _)); have e60 := cell_below e50 hb6; have e61 := cell_below e51 hb6; have e62 := cell_below e52 hb6; clear hb6; have ht6 := HO6.out.top; rw [Hql.out] at ht6))
                go_roundw
                case rel => exact ⟨k + 1, qs, cs, by omega, by go_num, HI.out, by rw [Hql.out]; exact hnq2, Hqp.out, Hdn2.out, HO6.out, Hb16.out, z60, z61, z62, hux, Hpp6.out⟩
                case measure => simp [intOf]; omega
              | false =>
                have Hpush := hid_ (HI.out.push (by rw [Hql.out]; omega) Hgq.out (by rw [Hlq.out, Hql.out]; have := Hlp2.out; omega) hil)
                go_wp2_with (first
                  | (go_at_call 76; (with_reducible refine HWi.out.mono ?_); rintro e w4 ⟨x1, x2, x3, rfl, hp4, hb4⟩; obtain ⟨f1, k1', h1', f2, k2', h2', f3, k3', h3', rfl, rfl, rfl⟩ := PrAt.lits hp4; obtain ⟨w5, hw5⟩ : ∃ w5, w4.alloc (.cells #[.slice f1 k1' h1', .slice f2 k2' h2', .slice f3 k3' h3'] 91) = w5 := ⟨_, rfl⟩; have c5 : Below w4.heap.size w4 w5 := (by rw [← hw5]; exact below_alloc _ _); have e50 : w5.cell? ⟨w4.heap.size, 0, none⟩ = some (.slice f1 k1' h1') := (by rw [← hw5]; exact cells_alloc _ _ _ 0); have e51 : w5.cell? ⟨w4.heap.size, 1, none⟩ = some (.slice f2 k2' h2') := (by rw [← hw5]; exact cells_alloc _ _ _ 1); have e52 : w5.cell? ⟨w4.heap.size, 2, none⟩ = some (.slice f3 k3' h3') := (by rw [← hw5]; exact cells_alloc _ _ _ 2); have hb5 := hb4.trans (c5.mono hb4.size); have Hb5 := hid_ hb5; have HO5 := hid_ (HOd.out.below hb5 (Nat.le_refl _)); have z0 := cell_below yd0 hb5; have z1' := cell_below yd1 hb5; have z2' := cell_below yd2 hb5; have Hpp5 := hid_ (Hppd.out.below hb5 (Nat.le_refl _)); have Hb15 := hid_ (Hb1d.out.trans (hb5.mono Hb1d.out.size)); have hz5 := Hb15.out.size; have Hp5 := hid_ (hp4.below c5 (Nat.le_refl _)); have Hbz := hid_ (World.block_lt_of_cell? w5 _ z0); clear hp4 hb4 c5 hb5; have HIs := hid_ (isLeft_calls f3 k3' h3' q.left _ _ ql _ qs w5 (SlAt.int Hp5.out.2.2) (OwnP.prs HO5.out)); rw [hil] at HIs)
                  | (go_at_call 77; (with_reducible refine HIs.out.mono ?_); rintro e w6 ⟨rfl, hb6⟩; have HO6 := hid_ (HO5.out.below hb6 (Nat.le_refl _)); have z60 := cell_below z0 hb6; have z61 := cell_below z1' hb6; have z62 := cell_below z2' hb6; have Hpp6 := hid_ (Hpp5.out.below hb6 (Nat.le_refl _)); have Hb16 := hid_ (Hb15.out.trans (hb6.mono hz5)); have hz6 := Hb16.out.size; have Hp6 := hid_ (Hp5.out.below hb6 (Nat.le_refl _)); have e60 := cell_below e50 hb6; have e61 := cell_below e51 hb6; have e62 := cell_below e52 hb6; clear hb6; have ht6 := HO6.out.top; rw [Hql.out] at ht6)
                  | (at_builtin; refine wpList_push3 _ rfl (.tmp 53) (.tmp 55) _ rfl w2.heap.size 91 i0 Try.underlying105 hi0 hz0 rfl hz1 hz2 (by omega) _ _ _ rfl ht6 _ _ _ rfl rfl rfl 91 rfl (by omega) hz6 ?_; intro v7 w7 hown7 hg7 hat7))
                have hY : v7.ownBlock = (Value.slice ue ql uf).ownBlock ∨ ∃ g, v7.ownBlock = some g ∧ (w6.alloc (.cells #[.slice f1 k1' h1', .slice f2 k2' h2', .slice f3 k3' h3'] 91)).heap.size ≤ g := hat7.imp id fun e => ⟨_, e, by simp⟩
                have HP7 := hid_ (OwnP.push HO6.out Hp6.out (by rw [Hql.out]; exact hown7) hg7 hat7)
                have Hb7 : Hid (Below w2.heap.size w2 w7) := hid_ ((Hb16.out.alloc hz6 _).grown hg7 (by simp; omega) (fun b q => (ht6.lt b q).1))
                have Hpp7 := hid_ ((Hpp6.out.below (below_alloc w6 _) (Nat.le_refl _)).next hg7 hY)
                have Hz70 := hid_ (hg7.cell (cell_below z60 (below_alloc w6 _)) (fun e => hux e.symm))
                have Hz71 := hid_ (hg7.cell (cell_below z61 (below_alloc w6 _)) (fun e => hux e.symm))
                have Hz72 := hid_ (hg7.cell (cell_below z62 (below_alloc w6 _)) (fun e => hux e.symm))
                have hbx6 := World.block_lt_of_cell? w6 _ z60
                have Hbx6 : Hid (bx < w6.heap.size) := hid_ hbx6
                clear hown7 hg7 ht6 hY hbx6
                go_roundw
                case rel => exact ⟨k + 1, qs ++ [q], _, by omega, by go_num, Hpush.out, by rw [List.length_append, Hql.out]; omega, by rw [getD_snocP (by rw [Hql.out]; exact hnq2)]; exact Hqp.out, fun m hm => (by
                  by_cases e : m = k
                  · subst e; exact Hdk.out _ ⟨q, List.mem_append_right _ (by simp), rfl⟩
                  · exact (Hdn.out m (by omega)).more _), HP7.out, Hb7.out, Hz70.out, Hz71.out, Hz72.out, fun e => hat7.elim (fun h => hux (h.symm.trans e)) (fun h => by rw [h] at e; injection e with e; have := Hbx6.out; omega), Hpp7.out⟩
                case measure => simp [intOf]; omega
          · obtain rfl : n1 = k := by omega
            have Hnext := hid_ (HI.out.next (by rw [Hqp.out]; exact Hne.out) (fun i hi => by rw [Hqp.out]; exact Hdn.out i (by rw [← Hl1.out]; exact hi)))
            have HO' := hid_ hO; have Hb' := hid_ hbi
            clear hO hbi y0 y1 y2 hux hpp hI hdn hqp
            go_wp2
            go_step3
            refine ⟨rfl, ⟨n + 1, qs, cs, _, _, _, _, _, _, _, _, _, _, _, _, _, _, _, _, _, _, _, _, _, _, _, _, _, _, _, _, _, _, _, _, _, _, _, _, _, _, _, _, _, _, _, _, _, _, _, _, _, _, _, _, _, rfl, Hnext.out, by rw [Hql.out]; omega, HO'.out, Hb'.out⟩, ?_⟩
            simp [intOf]; omega
  · intro hpass
    go_wp2_with (go_at_call 75; (with_reducible refine HF.out.mono ?_); rintro e w3 ⟨u, cs, rfl, hO, hb3⟩)
    go_step3
    simp only [Exit.then]
    rename_i K hK
    refine hK _ _ ?_
    exact hpass _ _ ⟨0, _, cs, u, _, _, _, _, _, _, _, _, _, _, _, _, _, _, _, _, _, _, _, _, _, _, _, _, _, _, _, _, _, _, _, _, _, _, _, _, _, _, _, _, _, _, _, _, _, _, _, _, _, _, _, _, rfl, HInit.out, Nat.zero_le _, hO, hb3⟩
end Go.Proofs.Ytgpenbajhndhiaa
