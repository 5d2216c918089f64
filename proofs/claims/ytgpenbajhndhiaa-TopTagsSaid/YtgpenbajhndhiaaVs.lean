import Derived.Test.YtgpenbajhndhiaaVr
namespace Go.Proofs.Ytgpenbajhndhiaa
open Go.RowKit Go.Proofs.Kv Go

/-! ### the first pairs -/
def fpI (L : Lx) (j i : Nat) : List Pr := (List.range i).filterMap fun k => with8 ⟨[], [(j : Int)], wd L j⟩ k (wd L k)
def fpL (L : Lx) (m : Nat) : List Pr := (List.range m).flatMap fun j => fpI L j j
theorem fpI_hit {L : Lx} {j i : Nat} (h : (with8 ⟨[], [(j : Int)], wd L j⟩ i (wd L i)).isSome = true) : fpI L j (i + 1) = fpI L j i ++ [with8P ⟨[], [(j : Int)], wd L j⟩ i (wd L i)] := by
  obtain ⟨q, hq⟩ := Option.isSome_iff_exists.1 h
  unfold fpI with8P
  rw [List.range_succ, List.filterMap_append, hq]
  simp [hq]
theorem fpI_miss {L : Lx} {j i : Nat} (h : (with8 ⟨[], [(j : Int)], wd L j⟩ i (wd L i)).isSome = false) : fpI L j (i + 1) = fpI L j i := by
  have hq : with8 ⟨[], [(j : Int)], wd L j⟩ i (wd L i) = none := by simpa using h
  unfold fpI
  rw [List.range_succ, List.filterMap_append]
  simp [hq]
theorem fpI_le (L : Lx) (j i : Nat) : (fpI L j i).length ≤ i := by
  unfold fpI; refine Nat.le_trans (List.length_filterMap_le _ _) (by simp)
theorem fpL_succ (L : Lx) (m : Nat) : fpL L (m + 1) = fpL L m ++ fpI L m m := by unfold fpL; rw [List.range_succ, List.flatMap_append]; simp
theorem fpL_le (L : Lx) : ∀ m, m ≤ 8 → (fpL L m).length ≤ m * 8
  | 0, _ => by simp [fpL]
  | m + 1, h => by
    have := fpL_le L m (by omega)
    have := fpI_le L m m
    rw [fpL_succ, List.length_append]; omega
theorem Try.infoPair : (Try.prog.info? 91).map (fun i => (i.zero, i.size, i.bytes)) = some (some (.agg #[.slice none 0 0, .slice none 0 0, .slice none 0 0]), 3, 72) := by kernel_rfl
theorem own_sliceV {w : World} {B E s n : Nat} {v : Value} {xs : List Value} (h : w.ownsRow B E s v n xs) : ∃ a c, v = .slice a n c := by
  rcases h.2 with ⟨rfl, rfl⟩ | ⟨g, cap, cur, e, -⟩
  · exact ⟨_, _, rfl⟩
  · exact ⟨_, _, e⟩
theorem SlAt.old {w w' : World} {X : Option Nat} {a : Option Addr} {n c : Nat} {l : List Int} (h : IntsAt w a n c l) (hb : Below w.heap.size w w') (hX : ∀ b, X = some b → w.heap.size ≤ b) : SlAt w' X (.slice a n c) l := by
  have hl := h.len
  subst hl
  refine ⟨a, c, rfl, h.below hb (Nat.le_refl _), fun b off ha hp q => ?_⟩
  obtain ⟨b', off', e, hlt, -⟩ := h.cells 0 hp
  rw [ha] at e; injection e with e; injection e with e1 e2; subst e1
  have := hX b q
  omega
theorem SlAt.lit {w : World} {X : Option Nat} {v : Value} {l : List Int} (h : SlAt w X v l) : ∃ a n c, v = .slice a n c := by
  obtain ⟨a, c, e, -⟩ := h; exact ⟨_, _, _, e⟩
theorem PrAt.lits {w : World} {X : Option Nat} {v1 v2 v3 : Value} {p : Pr} (h : PrAt w X v1 v2 v3 p) : ∃ g1 m1 d1 g2 m2 d2 g3 m3 d3, v1 = .slice g1 m1 d1 ∧ v2 = .slice g2 m2 d2 ∧ v3 = .slice g3 m3 d3 := by
  obtain ⟨h1, h2, h3⟩ := h
  obtain ⟨a1, c1, e1, -⟩ := h1
  obtain ⟨a2, c2, e2, -⟩ := h2
  obtain ⟨a3, c3, e3, -⟩ := h3
  exact ⟨_, _, _, _, _, _, _, _, _, e1, e2, e3⟩
set_option maxRecDepth 100000 in
set_option maxHeartbeats 4000000 in
theorem firstPairs_calls (v : Value) (L : Lx) (w : World) (h : LexAt w v L) (g : GoodL L) :
    Calls Try.prog 75 #[v] w fun e w' => ∃ u cs, e = .returned u ∧ OwnP 91 w' w.heap.size u cs (fpL L L.items.length) ∧ Below w.heap.size w w' := by
  have HP := hid_ h
  obtain ⟨a1, n1, c1, a2, n2, c2, rfl, h1, h2⟩ := h
  obtain ⟨w1, hw1⟩ : ∃ w1, w.alloc (.cells #[.slice a1 n1 c1, .slice a2 n2 c2] 25) = w1 := ⟨_, rfl⟩
  have cb : Below w.heap.size w w1 := by rw [← hw1]; exact below_alloc _ _
  have q0 : w1.cell? ⟨w.heap.size, 0, none⟩ = some (.slice a1 n1 c1) := by rw [← hw1]; exact cells_alloc _ _ _ 0
  have q1 : w1.cell? ⟨w.heap.size, 1, none⟩ = some (.slice a2 n2 c2) := by rw [← hw1]; exact cells_alloc _ _ _ 1
  have HP1 := hid_ (HP.out.below cb (Nat.le_refl _)); have Hc1 := hid_ cb
  have hl1 := h1.len
  have hn8 := g.le
  have H1 := hid_ (h1.below cb (Nat.le_refl _))
  have HFs := hid_ (fun m => fpL_succ L m)
  have HFl := hid_ (fun m (hm : m ≤ 8) => fpL_le L m hm)
  have HIl := hid_ (fun j i => fpI_le L j i)
  have HHit := hid_ (fun j i hh => @fpI_hit L j i hh)
  have HMiss := hid_ (fun j i hh => @fpI_miss L j i hh)
  have HI0 : Hid (∀ j, fpI L j 0 = []) := hid_ (fun _ => rfl)
  have HWd : Hid (∀ j, wd L j = (L.items.getD j I0).word) := hid_ (fun _ => rfl)
  have Hww := hid_ (fun b (hb : b < w.heap.size) => (show b < w1.heap.size from Nat.lt_of_lt_of_le hb cb.size))
  obtain ⟨i0, hi0, hz0, hz1, hz2⟩ := info_parts Try.infoPair
  rw [hl1] at hn8 ⊢
  have hn1c := h1.le
  clear h1 h2 HP HP1 g hl1 cb
  go_enter Try.func75, Try.ntmps75
  go_wp2
  go_loopw [3, 13] (fun u i wr => ∃ (j : Nat) (cs : List Value), j ≤ n1 ∧ i = .int .i64 j ∧ OwnP 91 wr w1.heap.size u cs (fpL L j) ∧ Below w1.heap.size w1 wr) (fun _ i _ => n1 - (intOf i).toNat)
  case atStart => exact ⟨0, [], Nat.zero_le _, rfl, OwnP.nil _ _ _, Below.refl _ _⟩
  case round =>
    obtain ⟨j, cs, hj, rfl, hO, hbr⟩ := hrel
    have hsz := hbr.size
    have q0r := cell_below q0 hbr
    by_cases hlt : j < n1
    · obtain ⟨bj, offj, aj, nj, cj, rfl, hblt, k0, k1, k2, hw⟩ := H1.out.cells j hlt
      rw [← HWd.out] at hw
      generalize (L.items.getD j I0).kind = kd at *
      generalize (L.items.getD j I0).cost = co at *
      replace k0 := cell_below k0 hbr; replace k1 := cell_below k1 hbr; replace k2 := cell_below k2 hbr
      obtain ⟨bx, hbx⟩ : ∃ bx, wr.heap.size = bx := ⟨_, rfl⟩
      obtain ⟨wb, hwb⟩ : ∃ wb, wr.alloc (.cells #[.slice aj nj cj, .int .i64 kd, .int .i64 co] 42) = wb := ⟨_, rfl⟩
      have cbb : Below wr.heap.size wr wb := by rw [← hwb]; exact below_alloc _ _
      have s0 : wb.cell? ⟨bx, 0, none⟩ = some (.slice aj nj cj) := by rw [← hwb, ← hbx]; exact cells_alloc _ _ _ 0
      have HO := hid_ (hO.below cbb (Nat.le_refl _))
      have Hux := hid_ (fun q => by have := hO.lt bx q; omega : ¬ u3.ownBlock = some bx)
      have Hbb := hid_ (hbr.trans (cbb.mono hsz))
      have q0b := cell_below q0r cbb
      have hzr : bx < wb.heap.size := by rw [← hwb]; simp; omega
      have Hw := hid_ hw
      clear hO hbr cbb hw
      go_wp2
      clear q0r k0 k1 k2 hwb hbx
      go_loopw [3, 23] (fun u i wi => ∃ (k : Nat) (cs : List Value), k ≤ j ∧ i = .int .i64 k ∧ OwnP 91 wi w1.heap.size u cs (fpL L j ++ fpI L j k) ∧ Below w1.heap.size w1 wi ∧ wi.cell? ⟨bx, 0, none⟩ = some (.slice aj nj cj) ∧ u.ownBlock ≠ some bx) (fun _ i _ => j - (intOf i).toNat)
      case atStart => exact ⟨0, cs, Nat.zero_le _, rfl, by rw [HI0.out, List.append_nil]; exact HO.out, Hbb.out, s0, Hux.out⟩
      case round =>
        obtain ⟨k, cs, hk, rfl, hO, hbi, sx, hux⟩ := hrel
        have hsz := hbi.size
        by_cases hlk : k < j
        · obtain ⟨bk, offk, ak, nk, ck, e9, -, k0, k1, k2, hwk⟩ := H1.out.cells k (by omega)
          injection e9 with e9; injection e9 with e9 e10; subst e9; subst e10
          rw [← HWd.out] at hwk
          generalize (L.items.getD k I0).kind = kd2 at *
          generalize (L.items.getD k I0).cost = co2 at *
          replace k0 := cell_below k0 hbi; replace k1 := cell_below k1 hbi; replace k2 := cell_below k2 hbi
          obtain ⟨wc, hwc⟩ : ∃ wc, wr.alloc (.cells #[.slice ak nk ck, .int .i64 kd2, .int .i64 co2] 42) = wc := ⟨_, rfl⟩
          have cc : Below wr.heap.size wr wc := by rw [← hwc]; exact below_alloc _ _
          have y0 : wc.cell? ⟨wr.heap.size, 0, none⟩ = some (.slice ak nk ck) := by rw [← hwc]; exact cells_alloc _ _ _ 0
          obtain ⟨wd_, hwd⟩ : ∃ wd_, wc.alloc (.cells #[.int .i64 (j : Int)] 3) = wd_ := ⟨_, rfl⟩
          have cd : Below wc.heap.size wc wd_ := by rw [← hwd]; exact below_alloc _ _
          have hone : IntsAt wd_ (some ⟨wc.heap.size, 0, none⟩) 1 1 [(j : Int)] := by rw [← hwd]; exact IntsAt.one _ _ _
          have y0d := cell_below y0 cd
          have sxd := cell_below (cell_below sx cc) cd
          have hcd := cc.trans (cd.mono cc.size)
          have hOd := hO.below hcd (Nat.le_refl _)
          have hXb : ∀ b, u3.ownBlock = some b → w1.heap.size ≤ b := fun b q => (hO.top.lt b q).1
          have hXl : ∀ b, u3.ownBlock = some b → b < wr.heap.size := fun b q => hO.lt b q
          have hb1d := hbi.trans (hcd.mono hsz)
          have hzc : wr.heap.size < wc.heap.size := by rw [← hwc]; simp
          have hPr : PrAt wd_ u3.ownBlock (.slice none 0 0) (.slice (some ⟨wc.heap.size, 0, none⟩) 1 1) (.slice aj nj cj) ⟨[], [(j : Int)], wd L j⟩ :=
            ⟨⟨none, 0, rfl, IntsAt.nil _ _ _ (by omega), fun b off h _ => by cases h⟩, ⟨_, 1, rfl, hone, fun b off h _ q => by injection h with h; injection h with h1 h2; have := hXl b q; omega⟩, SlAt.old Hw.out hb1d hXb⟩
          have HWi := hid_ (with_calls u3.ownBlock _ _ _ (.slice ak nk ck) ⟨[], [(j : Int)], wd L j⟩ k (wd L k) wd_ (fun b q => by have := hXl b q; have := hcd.size; omega) hPr (SlAt.old hwk hb1d hXb) (by show 0 ≤ 1000; omega))
          have hhit := HHit.out j k
          have hmiss := HMiss.out j k
          have Hb1d := hid_ hb1d
          have HOd := hid_ hOd
          have HXl := hid_ hXl
          have Hcd := hid_ hcd
          have hll : (fpL L j ++ fpI L j k).length ≤ 100 := by
            have := HFl.out j (by omega); have := HIl.out j k
            rw [List.length_append]; omega
          have Hxlt : Hid (bx < wd_.heap.size) := hid_ (World.block_lt_of_cell? wd_ _ sxd)
          clear hPr hOd hb1d hone hcd hwk hO hbi sx y0 hXl hXb cc cd
          obtain ⟨u0, uc, eu⟩ := own_sliceV HOd.out.top
          generalize (with8 ⟨[], [(j : Int)], wd L j⟩ k (wd L k)).isSome = ok at *
          generalize with8P ⟨[], [(j : Int)], wd L j⟩ k (wd L k) = q at *
          obtain ⟨nl, hnl⟩ : ∃ nl, (fpL L j ++ fpI L j k).length = nl := ⟨_, rfl⟩
          rw [hnl] at eu hll
          have Hnl := hid_ hnl
          clear hnl
          subst eu
          cases ok with
          | true =>
            have Hf := hid_ (hhit rfl)
            clear hhit hmiss
            go_wp2_with (first
              | (go_at_call 76; (with_reducible refine HWi.out.mono ?_); rintro e w4 ⟨x1, x2, x3, rfl, hp4, hb4⟩; obtain ⟨g1, m1, d1, g2, m2, d2, g3, m3, d3, rfl, rfl, rfl⟩ := PrAt.lits hp4; have Hp4 := hid_ hp4; have Hb4 := hid_ hb4; have HO4 := hid_ (HOd.out.below hb4 (Nat.le_refl _)); have sx4 := cell_below sxd hb4; have Hb14 := hid_ (Hb1d.out.trans (hb4.mono Hb1d.out.size)); clear hp4 hb4; obtain ⟨w5, hw5⟩ : ∃ w5, w4.alloc (.cells #[.slice g1 m1 d1, .slice g2 m2 d2, .slice g3 m3 d3] 91) = w5 := ⟨_, rfl⟩; have c5 : Below w4.heap.size w4 w5 := (by rw [← hw5]; exact below_alloc _ _); have e50 : w5.cell? ⟨w4.heap.size, 0, none⟩ = some (.slice g1 m1 d1) := (by rw [← hw5]; exact cells_alloc _ _ _ 0); have e51 : w5.cell? ⟨w4.heap.size, 1, none⟩ = some (.slice g2 m2 d2) := (by rw [← hw5]; exact cells_alloc _ _ _ 1); have e52 : w5.cell? ⟨w4.heap.size, 2, none⟩ = some (.slice g3 m3 d3) := (by rw [← hw5]; exact cells_alloc _ _ _ 2); have HO5 := hid_ (HO4.out.below c5 (Nat.le_refl _)); have ht5 := HO5.out.top; rw [Hnl.out] at ht5; have Hb15 := hid_ (Hb14.out.trans (c5.mono Hb14.out.size)); have hz5 := Hb15.out.size; have Hp5 := hid_ (Hp4.out.below c5 (Nat.le_refl _)); have Hc5 := hid_ c5; clear c5)
              | (at_builtin; refine wpList_push3 _ rfl (.tmp 41) (.tmp 43) _ rfl w1.heap.size 91 i0 Try.underlying105 hi0 hz0 rfl hz1 hz2 (by omega) _ _ _ rfl ht5 _ _ _ rfl rfl rfl 91 rfl (by omega) hz5 ?_; intro v6 w6 hown6 hg6 hat6))
            have HP6 := hid_ (OwnP.push HO5.out Hp5.out (by rw [Hnl.out]; exact hown6) hg6 hat6)
            have Hb6 : Hid (Below w1.heap.size w1 w6) := hid_ ((Hb15.out.alloc hz5 _).grown hg6 (by simp; omega) (fun b q => (ht5.lt b q).1))
            have Hbx5 : Hid (bx < w5.heap.size) := hid_ (Nat.lt_of_lt_of_le Hxlt.out (Nat.le_trans Hb4.out.size Hc5.out.size))
            have Hsx6 := hid_ (hg6.cell (cell_below (cell_below sx4 Hc5.out) (below_alloc w5 _)) (fun e => hux e.symm))
            clear hown6 hg6 ht5
            go_roundw
            case rel => exact ⟨k + 1, _, by omega, by go_num, by rw [Hf.out, ← List.append_assoc]; exact HP6.out, Hb6.out, Hsx6.out, fun e => hat6.elim (fun h => hux (h.symm.trans e)) (fun h => by rw [h] at e; injection e with e; have := Hbx5.out; omega)⟩
            case measure => simp [intOf]; omega
          | false =>
            have Hf := hid_ (hmiss rfl)
            clear hhit hmiss
            go_wp2_with (go_at_call 76; (with_reducible refine HWi.out.mono ?_); rintro e w4 ⟨x1, x2, x3, rfl, hp4, hb4⟩; obtain ⟨g1, m1, d1, g2, m2, d2, g3, m3, d3, rfl, rfl, rfl⟩ := PrAt.lits hp4; have Hp4 := hid_ hp4; have Hb4 := hid_ hb4; have HO4 := hid_ (HOd.out.below hb4 (Nat.le_refl _)); have sx4 := cell_below sxd hb4; have Hb14 := hid_ (Hb1d.out.trans (hb4.mono Hb1d.out.size)); clear hp4 hb4)
            go_roundw
            case rel => exact ⟨k + 1, _, by omega, by go_num, by rw [Hf.out]; exact HO4.out.below (below_alloc _ _) (Nat.le_refl _), Hb14.out.alloc Hb14.out.size _, cell_below sx4 (below_alloc _ _), hux⟩
            case measure => simp [intOf]; omega
        · obtain rfl : j = k := by omega
          have Hf := hid_ (HFs.out j)
          have HO' := hid_ hO
          have Hb' := hid_ hbi
          clear hO hbi sx hux
          go_wp2
          go_roundw
          case rel => exact ⟨j + 1, _, by omega, by go_num, by rw [Hf.out]; exact HO'.out, Hb'.out⟩
          case measure => simp [intOf]; omega
    · obtain rfl : n1 = j := by omega
      have HO' := hid_ hO
      clear hO
      go_wp2
      go_ret
      exact ⟨_, cs, rfl, HO'.out.base Hc1.out.size, Hc1.out.trans (hbr.mono Hc1.out.size)⟩
end Go.Proofs.Ytgpenbajhndhiaa
