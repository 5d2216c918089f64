import Derived.Test.YtdhmcmkpeaoigaaY4
namespace Go.Proofs.Ytdhmcmkpeaoigaa
open Go.RowKit Go.Proofs.Kv

def mrN (c : Nat → Nat) (s : Nat) : Nat := if s = 1 then c 0 else if s = 2 then min (c 0) (c 1) else minR c
theorem Try.infoArr3 : (Try.prog.info? 101).map (fun i => (i.zero, i.size, i.bytes)) = some (some (.agg #[.int .i64 0, .int .i64 0, .int .i64 0]), 3, 24) := by kernel_rfl
set_option maxRecDepth 100000 in
set_option maxHeartbeats 8000000 in
theorem r7fewest_calls (a : Option Addr) (n c : Nat) (T : List (List Int)) (v : Value) (X : Tr) (p : Nat) (w : World) (hT : ListsAt w a n c T) (h : TreeAt w v X) (gT : GoodT T) (gX : GoodX X) (hl : X.at_.length = T.length) (hp : p < n0 T) :
    Calls Try.prog 78 #[.slice a n c, v, .int .i64 (p : Int)] w fun e w' => e = .returned (.int .i64 (refMin X T p : Nat)) ∧ Below w.heap.size w w' := by
  have HP := hid_ h
  obtain ⟨a1, n1, c1, a2, n2, c2, rfl, h1, h2⟩ := h
  obtain ⟨w1, hw1⟩ : ∃ w1, w.alloc (.cells #[.slice a1 n1 c1, .slice a2 n2 c2] 45) = w1 := ⟨_, rfl⟩
  have cb : Below w.heap.size w w1 := by rw [← hw1]; exact below_alloc _ _
  have q0 : w1.cell? ⟨w.heap.size, 0, none⟩ = some (.slice a1 n1 c1) := by rw [← hw1]; exact cells_alloc _ _ _ 0
  have q1 : w1.cell? ⟨w.heap.size, 1, none⟩ = some (.slice a2 n2 c2) := by rw [← hw1]; exact cells_alloc _ _ _ 1
  have HP1 := hid_ (HP.out.below cb (Nat.le_refl _)); have Hc1 := hid_ cb
  have H1 := hid_ (h1.below cb (Nat.le_refl _))
  have H2 := hid_ (h2.below cb (Nat.le_refl _))
  have HT1 := hid_ (hT.below cb (Nat.le_refl _))
  have L1 := hid_ h1.len
  have L2 := hid_ h2.len
  have LT := hid_ hT.len
  have Hn21 : Hid (n2 = n) := hid_ (by rw [← L2.out, ← LT.out]; exact hl)
  have g1 := gX.ge; have g16 := gX.le; have g6 := gT.le; have gt1 := gT.ge
  rw [L1.out] at g1 g16
  rw [LT.out] at g6 gt1
  have HP := hid_ (fun v h0 (hv : v < n1) => parX_lt gX v h0 (by rw [L1.out]; exact hv))
  have HPar := hid_ (fun v h0 (hv : v < n1) => gX.par v h0 (by rw [L1.out]; exact hv))
  have HAt := hid_ (fun i (hi : i < n) => gX.at_ i (by rw [hl, LT.out]; exact hi))
  have HOk := hid_ (fun i (hi : i < n) => gT.ok i (by rw [LT.out]; exact hi) p hp)
  have HRl := hid_ (fun i (hi : i < n) => gT.len i (by rw [LT.out]; exact hi))
  have HSm := hid_ (fun t (ht : t < n1) i (hi : i < n1 - t) r (hr : r < 3) => @refT_small X T p gX gT.le hl t (by rw [L1.out]; exact ht) i (by rw [L1.out]; exact hi) r hr)
  have HMin : Hid (refMin X T p = minR (refT (parX X) n1 (misT X T p n) (n1 - 1) 0)) := hid_ (by rw [refMin, L1.out, LT.out])
  rw [L1.out, LT.out] at HSm
  have HMis := hid_ (fun k i r => misN_le X T p i r k)
  have HMz : Hid (misT X T p 0 = fun _ _ => 0) := hid_ rfl
  have Hpx : Hid (∀ v, parX X v = (X.par.getD v 0).toNat) := hid_ (fun v => rfl)
  have Hnx : Hid (∀ v, nodeX X v = (X.at_.getD v 0).toNat) := hid_ (fun v => rfl)
  have Hrd : Hid (∀ k, rdT T p k = (T.getD k []).getD p 0) := hid_ (fun v => rfl)
  have HRT : Hid (∀ t, refT (parX X) n1 (misT X T p n) (t + 1) = elim (parX X) (n1 - 1 - t) (refT (parX X) n1 (misT X T p n) t)) := hid_ (fun t => rfl)
  have HRT0 : Hid (refT (parX X) n1 (misT X T p n) 0 = misT X T p n) := hid_ rfl
  have hmk : ∀ W' : World, (Instr.makeSlice 100 (.int .i64 (n1 : Int)) (.int .i64 (n1 : Int))).run Try.prog W' = .ok (.slice (some ⟨W'.heap.size, 0, none⟩) n1 n1) (W'.alloc (.cells (madeCells #[.int .i64 0, .int .i64 0, .int .i64 0] (n1 * 3)) 101)) := fun W' => by
    obtain ⟨i0, hi0, hz0, hz1, hz2⟩ := info_parts Try.infoArr3
    have := run_make (P := Try.prog) W' 100 101 i0 (.agg #[.int .i64 0, .int .i64 0, .int .i64 0]) Try.underlying100 hi0 hz0 .i64 .i64 n1 n1 (by omega) (by omega) (by rw [hz2]; omega) (by omega)
    simpa [hz1, Value.cells] using this
  have HM := hid_ (tab_made w1 n1 101)
  have hrl2 := Nat.le_trans h2.le h2.small
  have hrl1 := Nat.le_trans h1.le h1.small
  clear h1 h2 cb hT gT gX hl
  generalize hRT : refT (parX X) n1 (misT X T p n) = RT at *
  generalize refMin X T p = RM at *
  clear hRT
  go_enter Try.func78, Try.ntmps78
  go_wp2
  go_loopw [8] (fun i wr => ∃ k : Nat, k ≤ n ∧ i = .int .i64 k ∧ TabAt wr w1.heap.size n1 (misT X T p k) ∧ Below w1.heap.size w1 wr) (fun i _ => n - (intOf i).toNat)
  case atStart => exact ⟨0, Nat.zero_le _, rfl, by rw [HMz.out]; exact HM.out, below_alloc _ _⟩
  case round =>
    obtain ⟨k, hk, rfl, htab, hb⟩ := hrel
    have Htab := hid_ htab; have Hb := hid_ hb
    have hwl : w1.heap.size < wr.heap.size := World.block_lt_of_cell? _ _ (htab 0 (by omega) 0 (by omega)).1
    by_cases hlt : k < n
    · clear htab hb
      have hat := HAt.out k hlt
      rw [L1.out] at hat
      have hnx := Hnx.out k
      have hrd := Hrd.out k
      have hok := HOk.out k hlt
      have hms := HMis.out k
      generalize hy : X.at_.getD k 0 = y at *
      obtain ⟨y, rfl⟩ := nat_of hat.1
      rw [Int.toNat_natCast] at hnx
      have Hy := hid_ hy
      have Hnx2 := hid_ hnx; have Hrd2 := hid_ hrd
      clear hy hnx hrd
      have hyn : y < n1 := by omega
      go_wp2_with fail
      obtain ⟨wo, hwo⟩ : ∃ wo, wo = wr := ⟨_, rfl⟩
      rw [← hwo] at Htab Hb hwl ⊢
      clear hwo
      go_loopw [9] (fun j wr => ∃ j' : Nat, j' ≤ 3 ∧ j = .int .i64 j' ∧ TabAt wr w1.heap.size n1 (misS X T p k j') ∧ Below w1.heap.size w1 wr) (fun j _ => 3 - (intOf j).toNat)
      case atStart => exact ⟨0, by omega, rfl, by rw [misS_zero]; exact Htab.out, Hb.out⟩
      case round =>
        obtain ⟨j, hj, rfl, htab, hb⟩ := hrel
        have Htab2 := hid_ htab; have Hb2 := hid_ hb
        by_cases hltj : j < 3
        · have hj2 : (j : Int) ≤ 2 := by omega
          obtain ⟨b1, off1, a3, n3, c3, rfl, hb1, hcell1, hrow⟩ := (HT1.out.below hb (Nat.le_refl _)).cells k hlt
          have hpn : p < n3 := by rw [← hrow.len, HRl.out k hlt]; exact hp
          have hr3 := Nat.le_trans hrow.le hrow.small
          obtain ⟨b2, off2, rfl, hb2, hcell2⟩ := hrow.cells p hpn
          have q1r := cell_below q1 hb
          obtain ⟨b, off, rfl, hb0, hcell⟩ := (H2.out.below hb (Nat.le_refl _)).cells k (by rw [Hn21.out]; exact hlt)
          rw [Hy.out] at hcell
          have hkn2 : k < n2 := by rw [Hn21.out]; exact hlt
          rw [← Hrd2.out] at hcell2 hok
          have hhit := fun hh z hz => @misS_hit X T p k j hh z hz
          have hmis := fun hh => @misS_miss X T p k j hh
          rw [Hnx2.out] at hhit
          generalize rdT T p k = r at *
          by_cases hrj : (j : Int) = r
          · have Hm := hid_ (hmis hrj.symm)
            have hq : ((j : Int) != r) = false := by simpa using hrj
            clear hrj hhit hmis hrow htab hb
            go_wp2
            go_roundw
            case rel => exact ⟨j + 1, by omega, by go_num, by rw [← Hm.out]; exact Htab2.out, Hb2.out⟩
            case measure => simp [intOf]; omega
          · have Hm := hid_ (hhit (fun e => hrj e.symm))
            have hq : ((j : Int) != r) = true := by simpa using hrj
            obtain ⟨hc1, hf1⟩ := htab y hyn j hltj
            have hlw := World.block_lt_of_cell? _ _ hc1
            have hE : misS X T p k j y j = misT X T p k y j := by unfold misS; rw [if_neg (fun h => absurd h.2.1 (by omega)), Nat.add_zero]
            have hbd : misT X T p k y j ≤ 6000 := by
              have := hms y j
              unfold misT; omega
            rw [hE] at hc1
            clear hrj hhit hmis hrow htab hb hE
            generalize hmm : misT X T p k y j = z at *
            clear hmm
            have gA := cell_regrown q1r
            have gB := cell_regrown hcell
            have gC := cell_regrown hc1
            have hw5 : IntKind.i64.wrap ((z : Int) + 1000) = (z : Int) + 1000 := IntWalk.i64_in _ (by omega)
            go_wp2_with fail
            refine wp_region_tail 13 (by kernel_rfl) (by kernel_rfl) ?_
            simp only [List.take_succ_cons, List.take_zero, List.drop_succ_cons, List.drop_zero]
            repeat (first | go_big_quiet_skip | (go_big_quiet_want; go_big_quiet_op; first | go_big_quiet_on | go_big_quiet_call (fail)))
            refine wpQuiet_nil ?_
            rintro wq ⟨pq, hpq⟩
            clear hw5 gA gB gC
            have hbq := below_wq hpq
            have Hbq := hid_ (Hb2.out.trans (hbq.mono Hb2.out.size))
            have Htabq := hid_ (Htab2.out.below hbq hlw)
            obtain ⟨hc4, hf4⟩ := Htabq.out y hyn j hltj
            clear hpq hbq hc1 hf1
            go_wp2
            exact ⟨⟨j + 1, by omega, by go_num, by rw [← Hm.out (z + 1000) rfl]; exact Htabq.out.set hltj _ (by simp) hyn, Hbq.out.setCell (p := ⟨w1.heap.size, y * 3 + j, none⟩) (Nat.le_refl _) _⟩, by simp [intOf]; omega⟩
        · have hj3 : j = 3 := by omega
          rw [hj3] at htab
          have hj2 : ¬ (j : Int) ≤ 2 := by omega
          clear hj3
          have Hnew : Hid (TabAt wr w1.heap.size n1 (misT X T p (k + 1))) := hid_ (htab.congr fun i _ r hr => misS_all X T p k i r hr)
          clear htab hb
          go_wp2
          go_roundw
          case rel => exact ⟨k + 1, by omega, by go_num, Hnew.out, Hb2.out⟩
          case measure => simp [intOf]; omega
    · have hkn : k = n := by omega
      rw [hkn, ← HRT0.out] at Htab
      have q0r := cell_below q0 hb
      clear hkn htab hb
      go_wp2
      obtain ⟨ws, hws⟩ : ∃ ws, ws = wr := ⟨_, rfl⟩
      rw [← hws] at Htab Hb hwl q0r ⊢
      clear hws
      go_loopw [10] (fun i wr => ∃ t : Nat, t < n1 ∧ i = .int .i64 ((n1 - 1 - t : Nat) : Int) ∧ TabAt wr w1.heap.size n1 (RT t) ∧ Below w1.heap.size w1 wr) (fun i _ => (intOf i).toNat)
      case atStart => exact ⟨0, by omega, by rw [show ((n1 - 1 - 0 : Nat) : Int) = (n1 : Int) - 1 by omega], Htab.out, Hb.out⟩
      case round =>
        obtain ⟨t, ht, rfl, htab, hb⟩ := hrel
        have hsm := HSm.out t ht
        have hrt := HRT.out t
        obtain ⟨u, hu⟩ : ∃ u, n1 - 1 - t = u := ⟨_, rfl⟩
        have hun : u < n1 := by omega
        have hut : u < n1 - t := by omega
        have hnx1 : 0 < u → n1 - 1 - (t + 1) = u - 1 := by omega
        have ht1 : 0 < u → t + 1 < n1 := by omega
        have ht2 : u = 0 → t = n1 - 1 := by omega
        rw [hu] at hrt ⊢
        clear hu
        have Htab3 := hid_ htab; have Hb3 := hid_ hb
        have hwl3 : w1.heap.size < wr.heap.size := World.block_lt_of_cell? _ _ (htab 0 (by omega) 0 (by omega)).1
        by_cases hu0 : 0 < u
        · have hui : 0 < (u : Int) := by omega
          have hpl := HP.out u hu0 hun
          have hpr := HPar.out u hu0 hun
          have hpx := Hpx.out u
          have Hnx1 := hid_ (hnx1 hu0)
          have Ht1 := hid_ (ht1 hu0)
          obtain ⟨D, hD⟩ : ∃ D, RT t = D := ⟨_, rfl⟩
          rw [hD] at Htab3 hsm hrt
          generalize hy : X.par.getD u 0 = y at *
          obtain ⟨y, rfl⟩ := nat_of hpr.1
          rw [Int.toNat_natCast] at hpx
          have hyu : y < u := by omega
          have Hpx2 := hid_ hpx
          have Hy := hid_ hy
          have Hrt := hid_ hrt
          have Hsm := hid_ hsm
          clear hy hpx hpr hpl hsm hrt hD htab hb hnx1 ht1 ht2
          go_wp2_with fail
          obtain ⟨wo, hwo⟩ : ∃ wo, wo = wr := ⟨_, rfl⟩
          rw [← hwo] at Htab3 Hb3 hwl3 ⊢
          clear hwo
          go_loopw [11] (fun j wr => ∃ j' : Nat, j' ≤ 3 ∧ j = .int .i64 j' ∧ TabAt wr w1.heap.size n1 (elimS (parX X) u j' D) ∧ Below w1.heap.size w1 wr) (fun j _ => 3 - (intOf j).toNat)
          case atStart => exact ⟨0, by omega, rfl, by rw [elimS_zero]; exact Htab3.out, Hb3.out⟩
          case round =>
            obtain ⟨j, hj, rfl, htab, hb⟩ := hrel
            have Htab4 := hid_ htab; have Hb4 := hid_ hb
            by_cases hltj : j < 3
            · have hj2 : (j : Int) ≤ 2 := by omega
              have hrow : elimS (parX X) u j D u = D u := elimS_row D (by rw [Hpx2.out]; exact hyu)
              have HRow : Hid (∀ s, s < 3 → wr.cell? ⟨w1.heap.size, u * 3 + s, none⟩ = some (.int .i64 (D u s : Nat))) := hid_ (fun s hs => by have := (htab u hun s hs).1; rwa [hrow] at this)
              have HDs : Hid (∀ s, s < 3 → D u s ≤ 6000) := hid_ (fun s hs => Hsm.out u hut s hs)
              have hmn : mn (D u) (j : Int) ≤ 6001 := by
                have h1 := mn_le (D u) (j : Int) (s := 0) (by omega)
                have h2 := ne1_le ((0 : Nat) : Int) (j : Int)
                have h3 := HDs.out 0 (by omega)
                omega
              have HBB := hid_ (bb_all (c := D u) (r := (j : Int)) (by omega))
              have HBs : Hid (∀ s, bb (D u) (j : Int) (s + 1) = min (bb (D u) (j : Int) s) (D u s + ne1 (s : Int) (j : Int))) := hid_ (fun s => rfl)
              have HB0 : Hid (bb (D u) (j : Int) 0 = 1000000) := hid_ rfl
              have HBl := hid_ (bb_le (D u) (j : Int))
              have hpy : D y j ≤ 6000 := Hsm.out y (by omega) j hltj
              have hE : elimS (parX X) u j D y j = D y j := if_neg (by omega)
              obtain ⟨hcy, -⟩ := htab y (by omega) j hltj
              rw [hE] at hcy
              have Hcy := hid_ hcy
              have Hst := hid_ (@elimS_step (parX X) u j (D y j + mn (D u) (j : Int)) D (by rw [Hpx2.out]))
              rw [Hpx2.out] at Hst
              clear htab hb hrow hE hcy
              go_wp2_with fail
              go_loop [12, 13] (fun b o => ∃ s : Nat, s ≤ 3 ∧ o = .int .i64 s ∧ b = .int .i64 (bb (D u) (j : Int) s : Nat)) (fun _ o => 3 - (intOf o).toNat)
              case atStart => exact ⟨0, by omega, rfl, by rw [HB0.out]; rfl⟩
              case round =>
                obtain ⟨s, hs, rfl, rfl⟩ := hrel
                have hbl := HBl.out s
                have hbs := HBs.out s
                by_cases hlts : s < 3
                · have hs2 : (s : Int) ≤ 2 := by omega
                  have hc := HRow.out s hlts
                  have hds := HDs.out s hlts
                  generalize hbv : bb (D u) (j : Int) s = B at *
                  clear hbv
                  by_cases hsj : (s : Int) = (j : Int)
                  · have hq : ((s : Int) != (j : Int)) = false := by simpa using hsj
                    rw [hsj, ne1_same, Nat.add_zero] at hbs
                    clear hsj
                    rw [Nat.min_def] at hbs
                    have Hbs := hid_ hbs
                    clear hbs
                    go_wp2
                    exact ⟨⟨s + 1, by omega, by go_num, by rw [Hbs.out]; congr 1; split <;> split <;> omega⟩, by simp [intOf]; omega⟩
                  · have hq : ((s : Int) != (j : Int)) = true := by simpa using hsj
                    have hn1 : ne1 (s : Int) (j : Int) = 1 := if_neg hsj
                    rw [hn1, Nat.min_def] at hbs
                    have Hbs := hid_ hbs
                    clear hsj hbs hn1
                    go_wp2
                    exact ⟨⟨s + 1, by omega, by go_num, by rw [Hbs.out]; congr 1; split <;> split <;> omega⟩, by simp [intOf]; omega⟩
                · have hs3 : s = 3 := by omega
                  have Hbv : Hid (bb (D u) (j : Int) s = mn (D u) (j : Int)) := hid_ (by rw [hs3]; exact HBB.out)
                  have hs2 : ¬ (s : Int) ≤ 2 := by omega
                  rw [Hbv.out]
                  clear hs3 hbl hbs
                  generalize mn (D u) (j : Int) = M at *
                  have hbw := Hb4.out
                  have q0w := cell_below q0 hbw
                  obtain ⟨b, off, rfl, hb0, hcell⟩ := (H1.out.below hbw (Nat.le_refl _)).cells u hun
                  rw [Hy.out] at hcell
                  have hlw : w1.heap.size < wr.heap.size := World.block_lt_of_cell? _ _ Hcy.out
                  have hcy := Hcy.out
                  generalize hz : D y j = z at *
                  clear hz hbw
                  have gA := cell_regrown q0w
                  have gB := cell_regrown hcell
                  have gC := cell_regrown hcy
                  have hw5 : IntKind.i64.wrap ((z : Int) + (M : Int)) = (z : Int) + (M : Int) := IntWalk.i64_in _ (by omega)
                  go_wp2_with fail
                  refine wp_region_tail 14 (by kernel_rfl) (by kernel_rfl) ?_
                  simp only [List.take_succ_cons, List.take_zero, List.drop_succ_cons, List.drop_zero]
                  repeat (first | go_big_quiet_skip | (go_big_quiet_want; go_big_quiet_op; first | go_big_quiet_on | go_big_quiet_call (fail)))
                  refine wpQuiet_nil ?_
                  rintro wq ⟨pq, hpq⟩
                  clear hw5 gA gB gC
                  have hbq := below_wq hpq
                  have Hbq := hid_ (Hb4.out.trans (hbq.mono Hb4.out.size))
                  have Htabq := hid_ (Htab4.out.below hbq hlw)
                  obtain ⟨hc4, hf4⟩ := Htabq.out y (by omega) j hltj
                  clear hpq hbq hcy
                  go_wp2
                  exact ⟨⟨j + 1, by omega, by go_num, by rw [← Hst.out]; exact Htabq.out.set hltj _ (by simp) (by omega), Hbq.out.setCell (p := ⟨w1.heap.size, y * 3 + j, none⟩) (Nat.le_refl _) _⟩, by simp [intOf]; omega⟩
            · have hj3 : j = 3 := by omega
              rw [hj3] at htab
              have hj2 : ¬ (j : Int) ≤ 2 := by omega
              clear hj3
              have Hnew : Hid (TabAt wr w1.heap.size n1 (RT (t + 1))) := hid_ (by rw [Hrt.out]; exact htab.congr fun i _ r hr => elimS_all (parX X) u D i r hr)
              clear htab hb
              go_wp2
              go_roundw
              case rel => exact ⟨t + 1, Ht1.out, by rw [Hnx1.out]; congr 1; omega, Hnew.out, Hb4.out⟩
              case measure => simp [intOf]; omega
        · have hu00 : u = 0 := by omega
          have Ht2 := ht2 hu00
          rw [Ht2] at htab
          have HtabL := hid_ htab
          have hA : ∀ r, r < 3 → wr.cell? ⟨w1.heap.size, r, none⟩ = some (.int .i64 (RT (n1 - 1) 0 r : Nat)) := fun r hr => by have := (htab 0 (by omega) r hr).1; simpa using this
          have hA0 := hA 0 (by omega); have hA1 := hA 1 (by omega); have hA2 := hA 2 (by omega)
          have HB0 : Hid (∀ r, r < 3 → RT (n1 - 1) 0 r ≤ 6000) := hid_ (fun r hr => by have := hsm 0 (by omega) r hr; rwa [Ht2] at this)
          have hui : ¬ 0 < (u : Int) := by omega
          have HMn := HMin.out
          generalize hc : RT (n1 - 1) 0 = cc at *
          clear hc hu00 Ht2 htab hb hA ht2 hsm hrt
          have HM2 := hid_ HMn
          have Hm1 : Hid (mrN cc 1 = cc 0) := hid_ rfl
          have Hm2 : Hid (mrN cc 2 = if mrN cc 1 ≤ cc 1 then mrN cc 1 else cc 1) := hid_ (Nat.min_def)
          have Hm3 : Hid (minR cc = if mrN cc 2 ≤ cc 2 then mrN cc 2 else cc 2) := hid_ (Nat.min_def)
          have Hm4 : Hid (mrN cc 3 = minR cc) := hid_ rfl
          have hb0 := HB0.out 0 (by omega); have hb1 := HB0.out 1 (by omega); have hb2 := HB0.out 2 (by omega)
          clear HMn
          go_wp2
          go_loop [15, 16] (fun o r => ∃ s : Nat, 1 ≤ s ∧ s ≤ 3 ∧ r = .int .i64 s ∧ o = .int .i64 (mrN cc s : Nat)) (fun _ r => 3 - (intOf r).toNat)
          case atStart => exact ⟨1, by omega, by omega, rfl, by rw [Hm1.out]⟩
          case round =>
            obtain ⟨s, hs1, hs3, rfl, rfl⟩ := hrel
            rcases (show s = 1 ∨ s = 2 ∨ s = 3 by omega) with rfl | rfl | rfl
            · have hle : mrN cc 1 ≤ 6000 := by rw [Hm1.out]; exact hb0
              obtain ⟨z, hz⟩ : ∃ z, mrN cc 1 = z := ⟨_, rfl⟩
              rw [hz] at hle Hm2 ⊢
              clear hz
              go_wp2
              exact ⟨⟨2, by omega, by omega, by go_num, by rw [Hm2.out]; congr 1; split <;> split <;> omega⟩, by simp [intOf]⟩
            · obtain ⟨z, hz⟩ : ∃ z, mrN cc 2 = z := ⟨_, rfl⟩
              have hle : z ≤ 6000 := by rw [← hz, Hm2.out]; split <;> (try rw [Hm1.out]) <;> omega
              rw [hz] at Hm3 ⊢
              clear hz
              go_wp2
              exact ⟨⟨3, by omega, by omega, by go_num, by rw [Hm4.out, Hm3.out]; congr 1; split <;> split <;> omega⟩, by simp [intOf]⟩
            · rw [Hm4.out, ← HM2.out]
              go_wp2
              go_ret
              exact ⟨rfl, Hc1.out.trans (Hb3.out.mono Hc1.out.size)⟩
end Go.Proofs.Ytdhmcmkpeaoigaa
