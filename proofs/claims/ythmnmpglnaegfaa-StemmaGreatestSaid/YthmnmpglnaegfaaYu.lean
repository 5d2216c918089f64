import Derived.Test.YthmnmpglnaegfaaYt
namespace Go.Proofs.Ythmnmpglnaegfaa
open Go.RowKit Go.Proofs.Kv

theorem Try.infoCnt : (Try.prog.info? 92).map (fun i => (i.zero, i.size, i.bytes)) = some (some (.agg #[.int .i64 0, .int .i64 0, .int .i64 0]), 3, 24) := by kernel_rfl
theorem tab_made (w : World) (n : Nat) (E : TypeId) : TabAt (w.alloc (.cells (madeCells #[.int .i64 0, .int .i64 0, .int .i64 0] (n * 3)) E)) w.heap.size n (fun _ _ => 0) := by
  intro i hi r hr
  refine ⟨?_, World.frozen?_alloc_at _ _ _ _ (by simp)⟩
  rw [cells_alloc]
  have h1 : i * 3 + r < (madeCells #[.int .i64 0, .int .i64 0, .int .i64 0] (n * 3)).size := by rw [size_madeCells]; omega
  rw [Array.getElem?_eq_getElem h1]
  simp only [madeCells, Array.getElem_map, Array.getElem_range]
  rw [show (i * 3 + r) % (#[Value.int .i64 0, .int .i64 0, .int .i64 0] : Array Value).size = r by show (i * 3 + r) % 3 = r; omega]
  rcases (show r = 0 ∨ r = 1 ∨ r = 2 by omega) with rfl | rfl | rfl <;> rfl
/-- the table behind t nodes -/
def tabK (X : Tr) (K : List Int) (t : Nat) : Tab := proT (parX X) (badK K) X.par.length t
set_option maxRecDepth 100000 in
set_option maxHeartbeats 4000000 in
theorem countBelow_calls (v : Value) (X : Tr) (ak : Option Addr) (n ck : Nat) (K : List Int) (w : World) (h : TreeAt w v X) (hK : IntsAt w ak n ck K) (gX : GoodX X) (gK : GoodK K X.par.length) :
    Calls Try.prog 66 #[v, .slice ak n ck] w fun e w' => ∃ g, e = .returned (.slice (some ⟨g, 0, none⟩) n n) ∧ w.heap.size ≤ g ∧ TabAt w' g n (tabK X K n) ∧ Below w.heap.size w w' := by
  have HP := hid_ h
  obtain ⟨a1, n1, c1, a2, n2, c2, rfl, h1, h2⟩ := h
  obtain ⟨w1, hw1⟩ : ∃ w1, w.alloc (.cells #[.slice a1 n1 c1, .slice a2 n2 c2] 31) = w1 := ⟨_, rfl⟩
  have cb : Below w.heap.size w w1 := by rw [← hw1]; exact below_alloc _ _
  have q0 : w1.cell? ⟨w.heap.size, 0, none⟩ = some (.slice a1 n1 c1) := by rw [← hw1]; exact cells_alloc _ _ _ 0
  have q1 : w1.cell? ⟨w.heap.size, 1, none⟩ = some (.slice a2 n2 c2) := by rw [← hw1]; exact cells_alloc _ _ _ 1
  have HP1 := hid_ (HP.out.below cb (Nat.le_refl _)); have Hc1 := hid_ cb
  have H1 := hid_ (h1.below cb (Nat.le_refl _))
  have HK1 := hid_ (hK.below cb (Nat.le_refl _))
  have L1 := hid_ h1.len
  have hnn : n1 = n := by rw [← h1.len, ← hK.len, gK.len]
  subst hnn
  have g1 := gX.ge; have g16 := gX.le
  rw [L1.out] at g1 g16
  have HP := hid_ (fun v h0 (hv : v < n1) => parX_lt gX v h0 (by rw [L1.out]; exact hv))
  have HPar := hid_ (fun v h0 (hv : v < n1) => gX.par v h0 (by rw [L1.out]; exact hv))
  have HK := hid_ gK.ok
  have HG := hid_ (badK_good gK)
  have hTab : ∀ t, tabK X K t = proT (parX X) (badK K) n1 t := fun t => by rw [tabK, L1.out]
  have HT := hid_ (hTab n1)
  have HLe := hid_ (fun t (ht : t < n1) i (hi : i < n1 - t) r => proT_le HG.out (par := parX X) HP.out (t := t) ht i hi r)
  have HSz := hid_ (fun t (ht : t < n1) i (h0 : 0 < i) (hi : i < n1 - t) => szT_le (par := parX X) HP.out ht h0 hi)
  have HRt := hid_ (fun t (ht : t < n1) => szT_root (par := parX X) HP.out ht)
  have HS : Hid (∀ t, proT (parX X) (badK K) n1 (t + 1) = if n1 - 1 - t = 0 then ovr (badK K) (n1 - 1 - t) (proT (parX X) (badK K) n1 t) else elim (parX X) (n1 - 1 - t) (ovr (badK K) (n1 - 1 - t) (proT (parX X) (badK K) n1 t))) := hid_ (fun t => rfl)
  have H00 : Hid (proT (parX X) (badK K) n1 0 = fun _ _ => 0) := hid_ rfl
  have Hpx : Hid (∀ v, parX X v = (X.par.getD v 0).toNat) := hid_ (fun v => rfl)
  have Hbd : Hid (∀ v r, badK K v r = (decide (K.getD v 0 ≠ -1) && decide (K.getD v 0 ≠ (r : Int)))) := hid_ (fun v r => rfl)
  have hmk : ∀ W' : World, (Instr.makeSlice 89 (.int .i64 (n1 : Int)) (.int .i64 (n1 : Int))).run Try.prog W' = .ok (.slice (some ⟨W'.heap.size, 0, none⟩) n1 n1) (W'.alloc (.cells (madeCells #[.int .i64 0, .int .i64 0, .int .i64 0] (n1 * 3)) 92)) := fun W' => by
    obtain ⟨i0, hi0, hz0, hz1, hz2⟩ := info_parts Try.infoCnt
    have := run_make (P := Try.prog) W' 89 92 i0 (.agg #[.int .i64 0, .int .i64 0, .int .i64 0]) Try.underlying89 hi0 hz0 .i64 .i64 n1 n1 (by omega) (by omega) (by rw [hz2]; omega) (by omega)
    simpa [hz1, Value.cells] using this
  have HM := hid_ (tab_made w1 n1 92)
  clear h1 h2 cb hK gX gK hTab
  generalize hpr : proT (parX X) (badK K) n1 = PT at *
  generalize tabK X K n1 = TT at *
  clear hpr
  go_enter Try.func66, Try.ntmps66
  go_wp2
  go_loopw [18] (fun i wr => ∃ t : Nat, t ≤ n1 ∧ i = .int .i64 t ∧ TabAt wr w1.heap.size n1 (PT t) ∧ Below w1.heap.size w1 wr) (fun i _ => n1 - (intOf i).toNat)
  case atStart => exact ⟨0, Nat.zero_le _, rfl, by rw [H00.out]; exact HM.out, below_alloc _ _⟩
  case round =>
    obtain ⟨t, ht, rfl, htab, hb⟩ := hrel
    have hwl : w1.heap.size < wr.heap.size := by
      have := (htab 0 (by omega) 0 (by omega)).1
      exact World.block_lt_of_cell? _ _ this
    by_cases hlt : t < n1
    · obtain ⟨u, hu⟩ : ∃ u, n1 - 1 - t = u := ⟨_, rfl⟩
      have hun : u < n1 := by omega
      have hw1 : ((n1 : Int) - 1 - (t : Int)) = (u : Int) := by omega
      have hle := HLe.out t hlt
      have hsz := HSz.out t hlt
      have hrt := HRt.out t hlt
      have hs := HS.out t
      rw [hu] at hs
      have Hs := hid_ hs
      have Hle := hid_ hle; have Hsz := hid_ hsz; have Hrt := hid_ hrt
      have Htab := hid_ htab; have Hb := hid_ hb
      have Hu := hid_ hu
      clear hs hle hsz hrt htab hb hu
      go_wp2_with fail
      obtain ⟨wo, hwo⟩ : ∃ wo, wo = wr := ⟨_, rfl⟩
      rw [← hwo] at Htab Hb hwl ⊢
      clear hwo
      go_loopw [26] (fun i wr => ∃ j : Nat, j ≤ 3 ∧ i = .int .i64 j ∧ TabAt wr w1.heap.size n1 (ovrS (badK K) u j (PT t)) ∧ Below w1.heap.size w1 wr) (fun i _ => 3 - (intOf i).toNat)
      case atStart => exact ⟨0, by omega, rfl, by rw [ovrS_zero]; exact Htab.out, Hb.out⟩
      case round =>
        obtain ⟨j, hj, rfl, htab, hb⟩ := hrel
        have Htab := hid_ htab; have Hb2 := hid_ hb
        by_cases hltj : j < 3
        · obtain ⟨b, off, rfl, hb0, hcell⟩ := (HK1.out.below hb (Nat.le_refl _)).cells u hun
          obtain ⟨hc1, hf1⟩ := htab u hun j hltj
          have hlw1 := World.block_lt_of_cell? _ _ hc1
          have hbd := Hbd.out u j
          have Hhit := hid_ (fun hh => @ovrS_hit (badK K) u j (PT t) hh)
          have Hmis := hid_ (fun hh => @ovrS_miss (badK K) u j (PT t) hh)
          clear htab hb
          generalize K.getD u 0 = z at *
          by_cases h1 : z = -1
          · have Hf := hid_ (Hmis.out (hbd.trans (by rw [h1]; rfl)))
            have hq : (z != -1) = false := by rw [h1]; rfl
            clear h1 hbd hc1 hf1
            go_wp2
            go_roundw
            case rel => exact ⟨j + 1, by omega, by go_num, by rw [← Hf.out]; exact Htab.out, Hb2.out⟩
            case measure => simp [intOf]; omega
          · have hq : (z != -1) = true := by simpa using h1
            by_cases h2 : z = (j : Int)
            · have Hf := hid_ (Hmis.out (hbd.trans (by rw [h2]; simp)))
              have hq2 : (z != (j : Int)) = false := by simpa using h2
              clear h1 h2 hbd hc1 hf1
              go_wp2
              go_roundw
              case rel => exact ⟨j + 1, by omega, by go_num, by rw [← Hf.out]; exact Htab.out, Hb2.out⟩
              case measure => simp [intOf]; omega
            · have Hf := hid_ (Hhit.out (hbd.trans (by simp [h1, h2])))
              have hq2 : (z != (j : Int)) = true := by simpa using h2
              clear h1 h2 hbd
              go_wp2
              go_roundw
              case rel => exact ⟨j + 1, by omega, by go_num, by rw [← Hf.out]; exact Htab.out.set hltj 16 rfl hun, Hb2.out.setCell (p := ⟨w1.heap.size, u * 3 + j, none⟩) (Nat.le_refl _) _⟩
              case measure => simp [intOf]; omega
        · have hj3 : j = 3 := by omega
          rw [hj3] at htab
          clear hj3
          obtain ⟨D, hD⟩ : ∃ D, ovr (badK K) u (PT t) = D := ⟨_, rfl⟩
          have Htd : Hid (TabAt wr w1.heap.size n1 D) := hid_ (by rw [← hD]; exact htab.congr fun i _ r hr => ovrS_all (badK K) u (PT t) i r hr)
          have hs2 := Hs.out
          rw [hD] at hs2
          by_cases hu0 : u = 0
          · have Hf := hid_ (hs2.trans (if_pos hu0))
            have hq : ¬ (0 < (u : Int)) := by omega
            clear hs2 hu0 hD htab hb
            go_wp2
            go_roundw
            case rel => exact ⟨t + 1, by omega, by go_num, by rw [Hf.out]; exact Htd.out, Hb2.out⟩
            case measure => simp [intOf]; omega
          · have Hf := hid_ (hs2.trans (if_neg hu0))
            have hq : 0 < (u : Int) := by omega
            have hqn : 0 < u := by omega
            have hqd : decide (0 < u) = true := decide_eq_true hqn
            have hpl := HP.out u (by omega) hun
            have hpr := HPar.out u (by omega) hun
            have hpx := Hpx.out u
            have hq1 := cell_below q0 hb
            obtain ⟨b, off, rfl, hb0, hcell⟩ := (H1.out.below hb (Nat.le_refl _)).cells u hun
            have Hrow : Hid (∀ r, r < 3 → D u r ≤ 16) := hid_ (fun r hr => by
              rw [← hD]
              unfold ovr
              split
              · exact Nat.le_refl _
              · have h1 := Hle.out u (by have := Hu.out; omega) r
                have h2 := Hsz.out u (by omega) (by have := Hu.out; omega)
                omega)
            have Hpar : Hid (∀ r, r < 3 → D (parX X u) r + mn (D u) (r : Int) ≤ 100 ∧ mn (D u) (r : Int) ≤ 20) := hid_ (fun r hr => by
              have hrow := fun r hr => Hrow.out r hr
              have hmn := mn_le (D u) (r : Int) (s := 0) (by omega)
              have := ne1_le ((0 : Nat) : Int) (r : Int)
              have := hrow 0 (by omega)
              have hpp : D (parX X u) r ≤ 16 := by
                rw [← hD, ovr_other (by omega)]
                have h1 := Hle.out (parX X u) (by have := Hu.out; omega) r
                by_cases hz : parX X u = 0
                · have h3 := Hrt.out
                  rw [hz] at h1 ⊢; omega
                · have h2 := Hsz.out (parX X u) (by omega) (by have := Hu.out; omega)
                  omega
              omega)
            have HBest := hid_ (fun (r : Int) W => best_calls (D u) r (fun s hs => by have := Hrow.out s hs; omega) W)
            generalize X.par.getD u 0 = y at *
            obtain ⟨y, rfl⟩ := nat_of hpr.1
            rw [Int.toNat_natCast] at hpx
            have hyu : y < u := by omega
            have Hpx2 := hid_ hpx
            clear hs2 hD htab hb hpx hpr hpl hu0
            go_wp2
            obtain ⟨wq, hwq⟩ : ∃ wq, wq = wr := ⟨_, rfl⟩
            rw [← hwq] at Htd Hb2 hq1 hcell ⊢
            clear hwq
            go_loopw [55] (fun i wr => ∃ j : Nat, j ≤ 3 ∧ i = .int .i64 j ∧ TabAt wr w1.heap.size n1 (elimS (parX X) u j D) ∧ Below w1.heap.size w1 wr) (fun i _ => 3 - (intOf i).toNat)
            case atStart => exact ⟨0, by omega, rfl, by rw [elimS_zero]; exact Htd.out, Hb2.out⟩
            case round =>
              obtain ⟨j, hj, rfl, htab, hb⟩ := hrel
              by_cases hltj : j < 3
              · have hrow : elimS (parX X) u j D u = D u := elimS_row D (by rw [Hpx2.out]; exact hyu)
                obtain ⟨hA0, -⟩ := htab u hun 0 (by omega)
                obtain ⟨hA1, -⟩ := htab u hun 1 (by omega)
                obtain ⟨hA2, -⟩ := htab u hun 2 (by omega)
                rw [hrow] at hA0 hA1 hA2
                rw [Nat.add_zero] at hA0
                have HX := hid_ (fun W (hW : Below wr.heap.size wr W) => (htab.below hW (World.block_lt_of_cell? _ _ hA0)) y (by omega) j hltj)
                have hpj : elimS (parX X) u j D y j = D y j := if_neg (by omega)
                have hpar := Hpar.out j hltj
                rw [Hpx2.out] at hpar
                rw [hpj] at HX
                have Hst := hid_ (@elimS_step (parX X) u j (D y j + mn (D u) (j : Int)) D (by rw [Hpx2.out]))
                rw [Hpx2.out] at Hst
                have Htab3 := hid_ htab; have Hb3 := hid_ hb
                have hlw := World.block_lt_of_cell? _ _ hA0
                have HBj := hid_ (HBest.out (j : Int) wr)
                clear htab hb hrow hpj
                generalize am (D u) (j : Int) = A at *
                generalize mn (D u) (j : Int) = M at *
                go_wp2_with (go_at_call 67; (with_reducible refine HBj.out.mono ?_); rintro e w5 ⟨rfl, hb5⟩; obtain ⟨hx1, hx2⟩ := HX.out _ hb5)
                have gx := cell_regrown hx1
                have Hb5 := hid_ (Hb3.out.trans (hb5.mono Hb3.out.size))
                have Htab5 := hid_ (Htab3.out.below hb5 hlw)
                have hlw5 : w1.heap.size < w5.heap.size := Nat.lt_of_lt_of_le hlw hb5.size
                have Hpar2 := hid_ hpar
                have hw5 : IntKind.i64.wrap (((D y j : Nat) : Int) + (M : Int)) = ((D y j : Nat) : Int) + (M : Int) := IntWalk.i64_in _ (by omega)
                clear hx1 hx2 hb5 hpar
                refine wp_region_tail 10 (by kernel_rfl) (by kernel_rfl) ?_
                simp only [List.take_succ_cons, List.take_zero, List.drop_succ_cons, List.drop_zero]
                repeat (first | go_big_quiet_skip | (go_big_quiet_want; go_big_quiet_op; first | go_big_quiet_on | go_big_quiet_call (fail)))
                refine wpQuiet_nil ?_
                rintro wq ⟨pq, hpq⟩
                clear hw5 gx
                have hbq := below_wq hpq
                have Hbq := hid_ (Hb5.out.trans (hbq.mono Hb5.out.size))
                have Htabq := hid_ (Htab5.out.below hbq hlw5)
                have hE : elimS (parX X) u j D y j = D y j := if_neg (by omega)
                obtain ⟨hc4, hf4⟩ := Htabq.out y (by omega) j hltj
                rw [hE] at hc4
                clear hpq hbq hE
                go_wp2
                exact ⟨⟨j + 1, by omega, by go_num, by rw [← Hst.out]; exact Htabq.out.set hltj _ (by simp) (by omega), Hbq.out.setCell (p := ⟨w1.heap.size, y * 3 + j, none⟩) (Nat.le_refl _) _⟩, by simp [intOf]; omega⟩
              · obtain rfl : j = 3 := by omega
                have Hnew : Hid (TabAt wr w1.heap.size n1 (PT (t + 1))) := hid_ (by rw [Hf.out]; exact htab.congr fun i _ r hr => elimS_all (parX X) u D i r hr)
                have Hb4 := hid_ hb
                clear htab hb
                go_wp2
                go_roundw
                case rel => exact ⟨t + 1, by omega, by go_num, Hnew.out, Hb4.out⟩
                case measure => simp [intOf]; omega
    · obtain rfl : t = n1 := by omega
      have htt : TT = PT t := HT.out
      go_wp2
      go_ret
      exact ⟨_, rfl, Hc1.out.size, by rw [htt]; exact htab, Hc1.out.trans (hb.mono Hc1.out.size)⟩
end Go.Proofs.Ythmnmpglnaegfaa
