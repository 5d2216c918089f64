import Derived.Test.YtdnlpikfibdjoaaYmd
namespace Go.Proofs.Ytdnlpikfibdjoaa
open Go.RowKit Go.Proofs.Kv

theorem Try.infoCnt : (Try.prog.info? 139).map (fun i => (i.zero, i.size, i.bytes)) = some (some (.agg #[.int .i64 0, .int .i64 0, .int .i64 0]), 3, 24) := by kernel_rfl
theorem tab_made (w : World) (n : Nat) (E : TypeId) : TabAt (w.alloc (.cells (madeCells #[.int .i64 0, .int .i64 0, .int .i64 0] (n * 3)) E)) w.heap.size n (fun _ _ => 0) := by
  intro i hi r hr
  refine ⟨?_, World.frozen?_alloc_at _ _ _ _ (by simp)⟩
  rw [cells_alloc]
  have h1 : i * 3 + r < (madeCells #[.int .i64 0, .int .i64 0, .int .i64 0] (n * 3)).size := by rw [size_madeCells]; omega
  rw [Array.getElem?_eq_getElem h1]
  simp only [madeCells, Array.getElem_map, Array.getElem_range]
  rw [show (i * 3 + r) % (#[Value.int .i64 0, .int .i64 0, .int .i64 0] : Array Value).size = r by show (i * 3 + r) % 3 = r; omega]
  rcases (show r = 0 ∨ r = 1 ∨ r = 2 by omega) with rfl | rfl | rfl <;> rfl
/-- the table behind t nodes -/
def tabK (X : Tr) (K : List Int) (t : Nat) : Tab := proT (parX X) (badK K) X.par.length t
set_option maxRecDepth 100000 in
set_option maxHeartbeats 4000000 in
theorem countBelow_calls (v : Value) (X : Tr) (ak : Option Addr) (n ck : Nat) (K : List Int) (w : World) (h : TreeAt w v X) (hK : IntsAt w ak n ck K) (gX : GoodX X) (gK : GoodK K X.par.length) :
    Calls Try.prog 128 #[v, .slice ak n ck] w fun e w' => ∃ g, e = .returned (.slice (some ⟨g, 0, none⟩) n n) ∧ w.heap.size ≤ g ∧ TabAt w' g n (tabK X K n) ∧ Below w.heap.size w w' := by
  have HP := hid_ h
  obtain ⟨a1, n1, c1, a2, n2, c2, rfl, h1, h2⟩ := h
  obtain ⟨w1, hw1⟩ : ∃ w1, w.alloc (.cells #[.slice a1 n1 c1, .slice a2 n2 c2] 46) = w1 := ⟨_, rfl⟩
  have cb : Below w.heap.size w w1 := by rw [← hw1]; exact below_alloc _ _
  have q0 : w1.cell? ⟨w.heap.size, 0, none⟩ = some (.slice a1 n1 c1) := by rw [← hw1]; exact cells_alloc _ _ _ 0
  have q1 : w1.cell? ⟨w.heap.size, 1, none⟩ = some (.slice a2 n2 c2) := by rw [← hw1]; exact cells_alloc _ _ _ 1
  have HP1 := hid_ (HP.out.below cb (Nat.le_refl _)); have Hc1 := hid_ cb
  have H1 := hid_ (h1.below cb (Nat.le_refl _))
  have HK1 := hid_ (hK.below cb (Nat.le_refl _))
  have L1 := hid_ h1.len
  have hnn : n1 = n := by rw [← h1.len, ← hK.len, gK.len]
  subst hnn
  have g1 := gX.ge; have g16 := gX.le
  rw [L1.out] at g1 g16
  have HP := hid_ (fun v h0 (hv : v < n1) => parX_lt gX v h0 (by rw [L1.out]; exact hv))
  have HPar := hid_ (fun v h0 (hv : v < n1) => gX.par v h0 (by rw [L1.out]; exact hv))
  have HK := hid_ gK.ok
  have HG := hid_ (badK_good gK)
  have hTab : ∀ t, tabK X K t = proT (parX X) (badK K) n1 t := fun t => by rw [tabK, L1.out]
  have HT := hid_ (hTab n1)
  have HLe := hid_ (fun t (ht : t < n1) i (hi : i < n1 - t) r => proT_le HG.out (par := parX X) HP.out (t := t) ht i hi r)
  have HSz := hid_ (fun t (ht : t < n1) i (h0 : 0 < i) (hi : i < n1 - t) => szT_le (par := parX X) HP.out ht h0 hi)
  have HRt := hid_ (fun t (ht : t < n1) => szT_root (par := parX X) HP.out ht)
  have HS : Hid (∀ t, proT (parX X) (badK K) n1 (t + 1) = if n1 - 1 - t = 0 then ovr (badK K) (n1 - 1 - t) (proT (parX X) (badK K) n1 t) else elim (parX X) (n1 - 1 - t) (ovr (badK K) (n1 - 1 - t) (proT (parX X) (badK K) n1 t))) := hid_ (fun t => rfl)
  have H00 : Hid (proT (parX X) (badK K) n1 0 = fun _ _ => 0) := hid_ rfl
  have Hpx : Hid (∀ v, parX X v = (X.par.getD v 0).toNat) := hid_ (fun v => rfl)
  have Hbd : Hid (∀ v r, badK K v r = (decide (K.getD v 0 ≠ -1) && decide (K.getD v 0 ≠ (r : Int)))) := hid_ (fun v r => rfl)
  have hmk : ∀ W' : World, (Instr.makeSlice 136 (.int .i64 (n1 : Int)) (.int .i64 (n1 : Int))).run Try.prog W' = .ok (.slice (some ⟨W'.heap.size, 0, none⟩) n1 n1) (W'.alloc (.cells (madeCells #[.int .i64 0, .int .i64 0, .int .i64 0] (n1 * 3)) 139)) := fun W' => by
    obtain ⟨i0, hi0, hz0, hz1, hz2⟩ := info_parts Try.infoCnt
    have := run_make (P := Try.prog) W' 136 139 i0 (.agg #[.int .i64 0, .int .i64 0, .int .i64 0]) Try.underlying136 hi0 hz0 .i64 .i64 n1 n1 (by omega) (by omega) (by rw [hz2]; omega) (by omega)
    simpa [hz1, Value.cells] using this
  have HM := hid_ (tab_made w1 n1 139)
  clear h1 h2 cb hK gX gK hTab
  generalize hpr : proT (parX X) (badK K) n1 = PT at *
  generalize tabK X K n1 = TT at *
  clear hpr
  go_enter Try.func128, Try.ntmps128
  go_wp2
  go_loopw [18] (fun i wr => ∃ t : Nat, t ≤ n1 ∧ i = .int .i64 t ∧ TabAt wr w1.heap.size n1 (PT t) ∧ Below w1.heap.size w1 wr) (fun i _ => n1 - (intOf i).toNat)
  case atStart => exact ⟨0, Nat.zero_le _, rfl, by rw [H00.out]; exact HM.out, below_alloc _ _⟩
  case round =>
    obtain ⟨t, ht, rfl, htab, hb⟩ := hrel
    have hwl : w1.heap.size < wr.heap.size := by
      have := (htab 0 (by omega) 0 (by omega)).1
      exact World.block_lt_of_cell? _ _ this
    by_cases hlt : t < n1
    · obtain ⟨u, hu⟩ : ∃ u, n1 - 1 - t = u := ⟨_, rfl⟩
      have hun : u < n1 := by omega
      have hw1 : ((n1 : Int) - 1 - (t : Int)) = (u : Int) := by omega
      have hle := HLe.out t hlt
      have hsz := HSz.out t hlt
      have hrt := HRt.out t hlt
      have hs := HS.out t
      rw [hu] at hs
      have Hs := hid_ hs
      have Hle := hid_ hle; have Hsz := hid_ hsz; have Hrt := hid_ hrt
      have Htab := hid_ htab; have Hb := hid_ hb
      have Hu := hid_ hu
      clear hs hle hsz hrt htab hb hu
      go_wp2_with fail
      obtain ⟨wo, hwo⟩ : ∃ wo, wo = wr := ⟨_, rfl⟩
      rw [← hwo] at Htab Hb hwl ⊢
      clear hwo
      go_loopw [26] (fun i wr => ∃ j : Nat, j ≤ 3 ∧ i = .int .i64 j ∧ TabAt wr w1.heap.size n1 (ovrS (badK K) u j (PT t)) ∧ Below w1.heap.size w1 wr) (fun i _ => 3 - (intOf i).toNat)
      case atStart => exact ⟨0, by omega, rfl, by rw [ovrS_zero]; exact Htab.out, Hb.out⟩
      case round =>
        obtain ⟨j, hj, rfl, htab, hb⟩ := hrel
        have Htab := hid_ htab; have Hb2 := hid_ hb
        by_cases hltj : j < 3
        · obtain ⟨b, off, rfl, hb0, hcell⟩ := (HK1.out.below hb (Nat.le_refl _)).cells u hun
          obtain ⟨hc1, hf1⟩ := htab u hun j hltj
          have hlw1 := World.block_lt_of_cell? _ _ hc1
          have hbd := Hbd.out u j
          have Hhit := hid_ (fun hh => @ovrS_hit (badK K) u j (PT t) hh)
          have Hmis := hid_ (fun hh => @ovrS_miss (badK K) u j (PT t) hh)
          clear htab hb
          generalize K.getD u 0 = z at *
          by_cases h1 : z = -1
          · have Hf := hid_ (Hmis.out (hbd.trans (by rw [h1]; rfl)))
            have hq : (z != -1) = false := by rw [h1]; rfl
            clear h1 hbd hc1 hf1
            go_wp2
            go_roundw
            case rel => exact ⟨j + 1, by omega, by go_num, by rw [← Hf.out]; exact Htab.out, Hb2.out⟩
            case measure => simp [intOf]; omega
          · have hq : (z != -1) = true := by simpa using h1
            by_cases h2 : z = (j : Int)
            · have Hf := hid_ (Hmis.out (hbd.trans (by rw [h2]; simp)))
              have hq2 : (z != (j : Int)) = false := by simpa using h2
              clear h1 h2 hbd hc1 hf1
              go_wp2
              go_roundw
              case rel => exact ⟨j + 1, by omega, by go_num, by rw [← Hf.out]; exact Htab.out, Hb2.out⟩
              case measure => simp [intOf]; omega
            · have Hf := hid_ (Hhit.out (hbd.trans (by simp [h1, h2])))
              have hq2 : (z != (j : Int)) = true := by simpa using h2
              clear h1 h2 hbd
              go_wp2
              go_roundw
              case rel => exact ⟨j + 1, by omega, by go_num, by rw [← Hf.out]; exact Htab.out.set hltj 16 rfl hun, Hb2.out.setCell (p := ⟨w1.heap.size, u * 3 + j, none⟩) (Nat.le_refl _) _⟩
              case measure => simp [intOf]; omega
        · have hj3 : j = 3 := by omega
          rw [hj3] at htab
          clear hj3
          obtain ⟨D, hD⟩ : ∃ D, ovr (badK K) u (PT t) = D := ⟨_, rfl⟩
          have Htd : Hid (TabAt wr w1.heap.size n1 D) := hid_ (by rw [← hD]; exact htab.congr fun i _ r hr => ovrS_all (badK K) u (PT t) i r hr)
          have hs2 := Hs.out
          rw [hD] at hs2
          by_cases hu0 : u = 0
          · have Hf := hid_ (hs2.trans (if_pos hu0))
            have hq : ¬ (0 < (u : Int)) := by omega
            clear hs2 hu0 hD htab hb
            go_wp2
            go_roundw
            case rel => exact ⟨t + 1, by omega, by go_num, by rw [Hf.out]; exact Htd.out, Hb2.out⟩
            case measure => simp [intOf]; omega
          · have Hf := hid_ (hs2.trans (if_neg hu0))
            have hq : 0 < (u : Int) := by omega
            have hqn : 0 < u := by omega
            have hqd : decide (0 < u) = true := decide_eq_true hqn
            have hpl := HP.out u (by omega) hun
            have hpr := HPar.out u (by omega) hun
            have hpx := Hpx.out u
            have hq1 := cell_below q0 hb
            obtain ⟨b, off, rfl, hb0, hcell⟩ := (H1.out.below hb (Nat.le_refl _)).cells u hun
            have Hrow : Hid (∀ r, r < 3 → D u r ≤ 16) := hid_ (fun r hr => by
              rw [← hD]
              unfold ovr
              split
              · exact Nat.le_refl _
              · have h1 := Hle.out u (by have := Hu.out; omega) r
                have h2 := Hsz.out u (by omega) (by have := Hu.out; omega)
                omega)
            have Hpar : Hid (∀ r, r < 3 → D (parX X u) r + mn (D u) (r : Int) ≤ 100 ∧ mn (D u) (r : Int) ≤ 20) := hid_ (fun r hr => by
              have hrow := fun r hr => Hrow.out r hr
              have hmn := mn_le (D u) (r : Int) (s := 0) (by omega)
              have := ne1_le ((0 : Nat) : Int) (r : Int)
              have := hrow 0 (by omega)
              have hpp : D (parX X u) r ≤ 16 := by
                rw [← hD, ovr_other (by omega)]
                have h1 := Hle.out (parX X u) (by have := Hu.out; omega) r
                by_cases hz : parX X u = 0
                · have h3 := Hrt.out
                  rw [hz] at h1 ⊢; omega
                · have h2 := Hsz.out (parX X u) (by omega) (by have := Hu.out; omega)
                  omega
              omega)
            have HBest := hid_ (fun (r : Int) W => best_calls (D u) r (fun s hs => by have := Hrow.out s hs; omega) W)
            generalize X.par.getD u 0 = y at *
            obtain ⟨y, rfl⟩ := nat_of hpr.1
            rw [Int.toNat_natCast] at hpx
            have hyu : y < u := by omega
            have Hpx2 := hid_ hpx
            clear hs2 hD htab hb hpx hpr hpl hu0
            go_wp2
            obtain ⟨wq, hwq⟩ : ∃ wq, wq = wr := ⟨_, rfl⟩
            rw [← hwq] at Htd Hb2 hq1 hcell ⊢
            clear hwq
            go_loopw [55] (fun i wr => ∃ j : Nat, j ≤ 3 ∧ i = .int .i64 j ∧ TabAt wr w1.heap.size n1 (elimS (parX X) u j D) ∧ Below w1.heap.size w1 wr) (fun i _ => 3 - (intOf i).toNat)
            case atStart => exact ⟨0, by omega, rfl, by rw [elimS_zero]; exact Htd.out, Hb2.out⟩
            case round =>
              obtain ⟨j, hj, rfl, htab, hb⟩ := hrel
              by_cases hltj : j < 3
              · have hrow : elimS (parX X) u j D u = D u := elimS_row D (by rw [Hpx2.out]; exact hyu)
                obtain ⟨hA0, -⟩ := htab u hun 0 (by omega)
                obtain ⟨hA1, -⟩ := htab u hun 1 (by omega)
                obtain ⟨hA2, -⟩ := htab u hun 2 (by omega)
                rw [hrow] at hA0 hA1 hA2
                rw [Nat.add_zero] at hA0
                have HX := hid_ (fun W (hW : Below wr.heap.size wr W) => (htab.below hW (World.block_lt_of_cell? _ _ hA0)) y (by omega) j hltj)
                have hpj : elimS (parX X) u j D y j = D y j := if_neg (by omega)
                have hpar := Hpar.out j hltj
                rw [Hpx2.out] at hpar
                rw [hpj] at HX
                have Hst := hid_ (@elimS_step (parX X) u j (D y j + mn (D u) (j : Int)) D (by rw [Hpx2.out]))
                rw [Hpx2.out] at Hst
                have Htab3 := hid_ htab; have Hb3 := hid_ hb
                have hlw := World.block_lt_of_cell? _ _ hA0
                have HBj := hid_ (HBest.out (j : Int) wr)
                clear htab hb hrow hpj
                generalize am (D u) (j : Int) = A at *
                generalize mn (D u) (j : Int) = M at *
                go_wp2_with (go_at_call 129; (with_reducible refine HBj.out.mono ?_); rintro e w5 ⟨rfl, hb5⟩; obtain ⟨hx1, hx2⟩ := HX.out _ hb5)
                have gx := cell_regrown hx1
                have Hb5 := hid_ (Hb3.out.trans (hb5.mono Hb3.out.size))
                have Htab5 := hid_ (Htab3.out.below hb5 hlw)
                have hlw5 : w1.heap.size < w5.heap.size := Nat.lt_of_lt_of_le hlw hb5.size
                have Hpar2 := hid_ hpar
                have hw5 : IntKind.i64.wrap (((D y j : Nat) : Int) + (M : Int)) = ((D y j : Nat) : Int) + (M : Int) := IntWalk.i64_in _ (by omega)
                clear hx1 hx2 hb5 hpar
                refine wp_region_tail 10 (by kernel_rfl) (by kernel_rfl) ?_
                simp only [List.take_succ_cons, List.take_zero, List.drop_succ_cons, List.drop_zero]
                repeat (first | go_big_quiet_skip | (go_big_quiet_want; go_big_quiet_op; first | go_big_quiet_on | go_big_quiet_call (fail)))
                refine wpQuiet_nil ?_
                rintro wq ⟨pq, hpq⟩
                clear hw5 gx
                have hbq := below_wq hpq
                have Hbq := hid_ (Hb5.out.trans (hbq.mono Hb5.out.size))
                have Htabq := hid_ (Htab5.out.below hbq hlw5)
                have hE : elimS (parX X) u j D y j = D y j := if_neg (by omega)
                obtain ⟨hc4, hf4⟩ := Htabq.out y (by omega) j hltj
                rw [hE] at hc4
                clear hpq hbq hE
                go_wp2
                exact ⟨⟨j + 1, by omega, by go_num, by rw [← Hst.out]; exact Htabq.out.set hltj _ (by simp) (by omega), Hbq.out.setCell (p := ⟨w1.heap.size, y * 3 + j, none⟩) (Nat.le_refl _) _⟩, by simp [intOf]; omega⟩
              · obtain rfl : j = 3 := by omega
                have Hnew : Hid (TabAt wr w1.heap.size n1 (PT (t + 1))) := hid_ (by rw [Hf.out]; exact htab.congr fun i _ r hr => elimS_all (parX X) u D i r hr)
                have Hb4 := hid_ hb
                clear htab hb
                go_wp2
                go_roundw
                case rel => exact ⟨t + 1, by omega, by go_num, Hnew.out, Hb4.out⟩
                case measure => simp [intOf]; omega
    · obtain rfl : t = n1 := by omega
      have htt : TT = PT t := HT.out
      go_wp2
      go_ret
      exact ⟨_, rfl, Hc1.out.size, by rw [htt]; exact htab, Hc1.out.trans (hb.mono Hc1.out.size)⟩
end Go.Proofs.Ytdnlpikfibdjoaa
namespace Go.Proofs.Kv
open Go.RowKit
theorem own_made7 (w : World) (n : Nat) (E : TypeId) (h : n ≤ 1000) : (w.alloc (.cells (madeCells #[.int .i64 0] n) E)).ownsRow w.heap.size E 1 (.slice (some ⟨w.heap.size, 0, none⟩) n n) n ((List.replicate n (0 : Int)).map (Value.int .i64)) := by
  refine ⟨by simp, .inr ⟨w.heap.size, n, madeCells #[.int .i64 0] n, rfl, Nat.le_refl _, by show (w.heap.push _)[w.heap.size]? = _; simp, Nat.le_refl _, by unfold maxLen; omega, by rw [size_madeCells]; omega, ?_⟩⟩
  rw [List.take_of_length_le (by rw [Array.length_toList, size_madeCells]; omega)]
  apply List.ext_getElem
  · simp [madeCells]
  · intro i h1 h2
    simp [madeCells]
    rw [Nat.mod_one]; rfl
end Go.Proofs.Kv
namespace Go.Proofs.Ytdnlpikfibdjoaa
open Go.RowKit Go.Proofs.Kv

/-! ### the readings with the fewest changes -/
def labI (F : Tab) (par : Nat → Nat) (k : Nat) : List Int := (labA F par k).map fun x : Nat => (x : Int)
def partI (F : Tab) (par : Nat → Nat) (n k : Nat) : List Int := labI F par k ++ List.replicate (n - k) 0
def compL (X : Tr) (K : List Int) : List Int := labI (tabK X K X.par.length) (parX X) X.par.length
theorem labI_len (F : Tab) (par : Nat → Nat) (k : Nat) : (labI F par k).length = k := by simp [labI, labA_len]
theorem labI_get (F : Tab) (par : Nat → Nat) {k i : Nat} (h : i < k) : (labI F par k).getD i 0 = (((labA F par k).getD i 0 : Nat) : Int) := by
  have := labA_len F par k
  simp [labI, List.getD, List.getElem?_eq_getElem (show i < (labA F par k).length by omega)]
theorem partI_get (F : Tab) (par : Nat → Nat) {n k i : Nat} (h : i < k) : (partI F par n k).getD i 0 = (((labA F par k).getD i 0 : Nat) : Int) := by
  rw [← labI_get F par h, partI]
  simp [List.getD, List.getElem?_append_left (show i < (labI F par k).length by rw [labI_len]; exact h)]
theorem partI_set (F : Tab) (par : Nat → Nat) {n k : Nat} (h : k < n) {y : Int} (hy : y = (am (F k) (if k = 0 then -1 else (((labA F par k).getD (par k) 0 : Nat) : Int)) : Nat)) : (partI F par n k).set k y = partI F par n (k + 1) := by
  have hl := labI_len F par k
  have e : labI F par (k + 1) = labI F par k ++ [y] := by rw [hy]; simp [labI, labA]
  rw [partI, partI, e, List.set_append_right _ _ (by omega), hl, Nat.sub_self]
  rw [show n - k = (n - (k + 1)) + 1 by omega, List.replicate_succ, List.set_cons_zero, List.append_assoc]; rfl
set_option maxRecDepth 100000 in
set_option maxHeartbeats 4000000 in
theorem complete_calls (v : Value) (X : Tr) (ak : Option Addr) (n ck : Nat) (K : List Int) (w : World) (h : TreeAt w v X) (hK : IntsAt w ak n ck K) (gX : GoodX X) (gK : GoodK K X.par.length) :
    Calls Try.prog 100 #[v, .slice ak n ck] w fun e w' => ∃ v', e = .returned v' ∧ Made 3 w w' v' (compL X K) := by
  have HP := hid_ h
  obtain ⟨a1, n1, c1, a2, n2, c2, rfl, h1, h2⟩ := h
  obtain ⟨w1, hw1⟩ : ∃ w1, w.alloc (.cells #[.slice a1 n1 c1, .slice a2 n2 c2] 46) = w1 := ⟨_, rfl⟩
  have cb : Below w.heap.size w w1 := by rw [← hw1]; exact below_alloc _ _
  have q0 : w1.cell? ⟨w.heap.size, 0, none⟩ = some (.slice a1 n1 c1) := by rw [← hw1]; exact cells_alloc _ _ _ 0
  have q1 : w1.cell? ⟨w.heap.size, 1, none⟩ = some (.slice a2 n2 c2) := by rw [← hw1]; exact cells_alloc _ _ _ 1
  have HP1 := hid_ (HP.out.below cb (Nat.le_refl _)); have Hc1 := hid_ cb
  have H1 := hid_ (h1.below cb (Nat.le_refl _))
  have HK1 := hid_ (hK.below cb (Nat.le_refl _))
  have L1 := hid_ h1.len
  have hnn : n1 = n := by rw [← h1.len, ← hK.len, gK.len]
  subst hnn
  have g1 := gX.ge; have g16 := gX.le
  rw [L1.out] at g1 g16
  have HC := hid_ (countBelow_calls _ X ak n1 ck K w1 HP1.out HK1.out gX gK)
  have HP := hid_ (fun v h0 (hv : v < n1) => parX_lt gX v h0 (by rw [L1.out]; exact hv))
  have HPar := hid_ (fun v h0 (hv : v < n1) => gX.par v h0 (by rw [L1.out]; exact hv))
  have Hpx : Hid (∀ v, parX X v = (X.par.getD v 0).toNat) := hid_ (fun v => rfl)
  have hCL : Hid (compL X K = partI (tabK X K n1) (parX X) n1 n1) := hid_ (by rw [compL, L1.out, partI]; simp)
  have HR : Hid (∀ i, i < n1 → ∀ r, r < 3 → tabK X K n1 i r ≤ 100000) := hid_ (fun i hi r hr => by
    have hp := fun v h0 (hv : v < X.par.length) => parX_lt gX v h0 hv
    rw [tabK, L1.out]
    rw [L1.out] at hp
    rw [proT_last hp hi]
    unfold ovr
    split
    · omega
    · have h1 := proT_le (badK_good gK) hp (t := n1 - 1 - i) (by omega) i (by omega) r
      have h2 := szT_sum (par := parX X) hp (t := n1 - 1 - i) (by omega)
      have h3 := sumN_ge (szT (parX X) n1 (n1 - 1 - i)) (k := n1 - (n1 - 1 - i)) (i := i) (by omega)
      omega)
  have hmk : ∀ W' : World, (Instr.makeSlice 22 (.int .i64 (n1 : Int)) (.int .i64 (n1 : Int))).run Try.prog W' = .ok (.slice (some ⟨W'.heap.size, 0, none⟩) n1 n1) (W'.alloc (.cells (madeCells #[.int .i64 0] n1) 3)) := fun W' => by
    obtain ⟨i0, hi0, hz0, hz1, hz2⟩ := info_parts Try.infoInt
    have := run_make (P := Try.prog) W' 22 3 i0 (.int .i64 0) Try.underlying22 hi0 hz0 .i64 .i64 n1 n1 (by omega) (by omega) (by rw [hz2]; omega) (by omega)
    simpa [hz1, Value.cells] using this
  have HMk := hid_ (fun W => own_made7 W n1 3 (by omega))
  have H0 : Hid (∀ F, partI F (parX X) n1 0 = List.replicate n1 0) := hid_ (fun F => by simp [partI, labI, labA])
  have HSet := hid_ (fun F k (hk : k < n1) y hy => @partI_set F (parX X) n1 k hk y hy)
  have HGet := hid_ (fun F k i (hi : i < k) => @partI_get F (parX X) n1 k i hi)
  have Hlast : Hid (∀ F, (partI F (parX X) n1 n1).length = n1) := hid_ (fun F => by simp [partI, labI_len])
  clear h1 h2 cb hK gX gK
  generalize compL X K = CL at *
  go_enter Try.func100, Try.ntmps100
  go_wp2_with (go_at_call 128; (with_reducible refine HC.out.mono ?_); rintro e w2 ⟨g, rfl, hg, htab, hb2⟩)
  have hgl : g < w2.heap.size := by
    have := (htab 0 (by omega) 0 (by omega)).1
    exact World.block_lt_of_cell? _ _ this
  have Htab := hid_ htab
  have Hb2 := hid_ hb2
  clear htab hb2
  obtain ⟨F, hF⟩ : ∃ F, tabK X K n1 = F := ⟨_, rfl⟩
  rw [hF] at Htab HR hCL
  clear hF
  go_loopw [17] (fun i wr => ∃ k : Nat, k ≤ n1 ∧ i = .int .i64 k ∧ wr.ownsRow w2.heap.size 3 1 (.slice (some ⟨w2.heap.size, 0, none⟩) n1 n1) n1 ((partI F (parX X) n1 k).map (Value.int .i64)) ∧ Below w2.heap.size w2 wr) (fun i _ => n1 - (intOf i).toNat)
  case atStart => exact ⟨0, Nat.zero_le _, rfl, by rw [H0.out]; exact HMk.out w2, below_alloc _ _⟩
  case round =>
    obtain ⟨k, hk, rfl, hown, hb⟩ := hrel
    have Hown := hid_ hown
    have Hb := hid_ hb
    have hbb := Hb2.out.trans (hb.mono Hb2.out.size)
    by_cases hlt : k < n1
    · have htb := Htab.out.below hb hgl
      obtain ⟨hA0, -⟩ := htb k hlt 0 (by omega)
      obtain ⟨hA1, -⟩ := htb k hlt 1 (by omega)
      obtain ⟨hA2, -⟩ := htb k hlt 2 (by omega)
      rw [Nat.add_zero] at hA0
      have HBest := hid_ (fun (r : Int) W => best_calls (F k) r (fun s hs => HR.out k hlt s hs) W)
      by_cases hk0 : k = 0
      · have hq : ¬ (0 < (k : Int)) := by omega
        have Hst := hid_ (HSet.out F k hlt (am (F k) (-1) : Nat) (by rw [if_pos hk0]))
        have HBk := hid_ (HBest.out (-1) wr)
        clear hk0 hown hb hbb htb
        generalize am (F k) (-1) = A at *
        go_wp2_with (go_at_call 129; (with_reducible refine HBk.out.mono ?_); rintro e w5 ⟨rfl, hb5⟩; have hown5 := own_below Hown.out hb5 (Nat.le_refl _); have Hown5 := hid_ hown5; obtain ⟨hc5, hf5⟩ := own_cell7 hown5 hlt; clear hown5)
        go_roundw
        case rel => exact ⟨k + 1, by omega, by go_num, by rw [← Hst.out]; exact own_put7 Hown5.out k A, (Hb.out.trans (hb5.mono Hb.out.size)).setCell (p := ⟨w2.heap.size, k, none⟩) (Nat.le_refl _) _⟩
        case measure => simp [intOf]; omega
      · have hq : 0 < (k : Int) := by omega
        have hqn : 0 < k := by omega
        have hqd : decide (0 < k) = true := decide_eq_true hqn
        have hpl := HP.out k hqn hlt
        have hpr := HPar.out k hqn hlt
        have hpx := Hpx.out k
        have hq1 := cell_below q0 hbb
        obtain ⟨b, off, rfl, hb0, hcell⟩ := (H1.out.below hbb (Nat.le_refl _)).cells k hlt
        have hget := HGet.out F k (parX X k) hpl
        have Hst := hid_ (HSet.out F k hlt (am (F k) (((labA F (parX X) k).getD (parX X k) 0 : Nat) : Int) : Nat) (by rw [if_neg hk0]))
        obtain ⟨hcp, -⟩ := own_cell7 hown (show parX X k < n1 by omega)
        rw [hget] at hcp
        generalize X.par.getD k 0 = y at *
        obtain ⟨y, rfl⟩ := nat_of hpr.1
        rw [Int.toNat_natCast] at hpx
        rw [hpx] at hcp Hst hpl
        clear hk0 hown hb hbb htb hget hpx hpr
        generalize (labA F (parX X) k).getD y 0 = z at *
        have HBk := hid_ (HBest.out (z : Int) wr)
        generalize am (F k) (z : Int) = A at *
        go_wp2_with (go_at_call 129; (with_reducible refine HBk.out.mono ?_); rintro e w5 ⟨rfl, hb5⟩; have hown5 := own_below Hown.out hb5 (Nat.le_refl _); have Hown5 := hid_ hown5; obtain ⟨hc5, hf5⟩ := own_cell7 hown5 hlt; clear hown5)
        go_roundw
        case rel => exact ⟨k + 1, by omega, by go_num, by rw [← Hst.out]; exact own_put7 Hown5.out k A, (Hb.out.trans (hb5.mono Hb.out.size)).setCell (p := ⟨w2.heap.size, k, none⟩) (Nat.le_refl _) _⟩
        case measure => simp [intOf]; omega
    · obtain rfl : k = n1 := by omega
      have hll := Hlast.out F
      rw [← hCL.out] at hll
      clear hown hb
      have Hll := hid_ hll
      clear hll
      go_wp2
      go_ret
      exact ⟨_, rfl, ⟨by rw [Hll.out, hCL.out]; exact own_base Hown.out (Nat.le_trans Hc1.out.size Hb2.out.size), Hc1.out.trans (hbb.mono Hc1.out.size)⟩⟩
end Go.Proofs.Ytdnlpikfibdjoaa
namespace Go.Proofs.Ytdnlpikfibdjoaa
open Go.RowKit Go.Proofs.Kv

/-! ### changes, Readings, Fewest of the program -/
def chgR (X : Tr) (R : List Int) : Nat := sumN (fun i => if i = 0 then 0 else ne1 (R.getD i 0) (R.getD (parX X i) 0)) X.par.length
def chgI (X : Tr) (R : List Int) (k : Nat) : Nat := sumN (fun i => if i = 0 then 0 else ne1 (R.getD i 0) (R.getD (parX X i) 0)) k
theorem chgI_le (X : Tr) (R : List Int) (k : Nat) : chgI X R k ≤ k := by
  induction k with
  | zero => exact Nat.le_refl _
  | succ k ih =>
    have e : chgI X R (k + 1) = chgI X R k + if k = 0 then 0 else ne1 (R.getD k 0) (R.getD (parX X k) 0) := rfl
    rw [e]
    have := ne1_le (R.getD k 0) (R.getD (parX X k) 0)
    split <;> omega
set_option maxRecDepth 100000 in
set_option maxHeartbeats 2000000 in
theorem changes_calls (v : Value) (X : Tr) (ar : Option Addr) (m cr : Nat) (R : List Int) (w : World) (h : TreeAt w v X) (hR : IntsAt w ar m cr R) (gX : GoodX X) (hm : m = X.par.length) :
    Calls Try.prog 97 #[v, .slice ar m cr] w fun e w' => e = .returned (.int .i64 (chgR X R : Nat)) ∧ Below w.heap.size w w' := by
  have HP := hid_ h
  obtain ⟨a1, n1, c1, a2, n2, c2, rfl, h1, h2⟩ := h
  obtain ⟨w1, hw1⟩ : ∃ w1, w.alloc (.cells #[.slice a1 n1 c1, .slice a2 n2 c2] 46) = w1 := ⟨_, rfl⟩
  have cb : Below w.heap.size w w1 := by rw [← hw1]; exact below_alloc _ _
  have q0 : w1.cell? ⟨w.heap.size, 0, none⟩ = some (.slice a1 n1 c1) := by rw [← hw1]; exact cells_alloc _ _ _ 0
  have q1 : w1.cell? ⟨w.heap.size, 1, none⟩ = some (.slice a2 n2 c2) := by rw [← hw1]; exact cells_alloc _ _ _ 1
  have HP1 := hid_ (HP.out.below cb (Nat.le_refl _)); have Hc1 := hid_ cb
  have H1 := hid_ (h1.below cb (Nat.le_refl _))
  have HR1 := hid_ (hR.below cb (Nat.le_refl _))
  have L1 := hid_ h1.len
  have hnn : n1 = m := by rw [← h1.len, hm]
  subst hnn
  have g1 := gX.ge; have g16 := gX.le
  rw [L1.out] at g1 g16
  have HP := hid_ (fun v h0 (hv : v < n1) => parX_lt gX v h0 (by rw [L1.out]; exact hv))
  have HPar := hid_ (fun v h0 (hv : v < n1) => gX.par v h0 (by rw [L1.out]; exact hv))
  have Hpx : Hid (∀ v, parX X v = (X.par.getD v 0).toNat) := hid_ (fun v => rfl)
  have HC : Hid (chgR X R = chgI X R n1) := hid_ (by rw [chgR, L1.out]; rfl)
  have HS : Hid (∀ k, chgI X R (k + 1) = chgI X R k + if k = 0 then 0 else ne1 (R.getD k 0) (R.getD (parX X k) 0)) := hid_ (fun k => rfl)
  have HL := hid_ (chgI_le X R)
  have Hz : Hid (chgI X R 0 = 0) := hid_ rfl
  clear h1 h2 cb hR gX hm
  generalize chgR X R = CR at *
  go_enter Try.func97, Try.ntmps97
  go_wp2
  go_loopw [5, 10] (fun v i wr => ∃ (k q : Nat), k ≤ n1 ∧ i = .int .i64 k ∧ v = .int .i64 (chgI X R k : Nat) ∧ wr = w1.drewN q) (fun _ i _ => n1 - (intOf i).toNat)
  case atStart => exact ⟨0, 0, Nat.zero_le _, rfl, by rw [Hz.out]; rfl, rfl⟩
  case round =>
    obtain ⟨k, q, hk, rfl, rfl, hq⟩ := hrel
    have Hq := hid_ hq
    have q0r : wr.cell? ⟨w.heap.size, 0, none⟩ = some (.slice a1 n1 c1) := by rw [hq]; exact q0
    have hI1 : IntsAt wr a1 n1 c1 X.par := by rw [hq]; exact H1.out.drewN q
    have hIR : IntsAt wr ar n1 cr R := by rw [hq]; exact HR1.out.drewN q
    clear hq
    have hl := HL.out k
    have hs := HS.out k
    by_cases hlt : k < n1
    · by_cases hk0 : k = 0
      · have hq0 : ¬ (0 < (k : Int)) := by omega
        have hs' : chgI X R (k + 1) = chgI X R k := by rw [hs, if_pos hk0, Nat.add_zero]
        have Hs := hid_ hs'
        have hqd : decide (0 < k) = false := decide_eq_false (by omega)
        clear hs hk0 hs'
        generalize chgI X R k = z at *
        go_wp2_with fail
        go_quiet (fail)
        go_wp2
        go_roundw
        case rel => exact ⟨k + 1, _, by omega, by go_num, by rw [Hs.out], by rw [Hq.out, drewN2]⟩
        case measure => simp [intOf]; omega
      · have hq0 : 0 < (k : Int) := by omega
        have hqn : 0 < k := by omega
        have hqd : decide (0 < k) = true := decide_eq_true hqn
        rw [if_neg hk0] at hs
        have hpl := HP.out k hqn hlt
        have hpr := HPar.out k hqn hlt
        have hpx := Hpx.out k
        obtain ⟨b, off, rfl, hb0, hcell⟩ := hI1.cells k hlt
        obtain ⟨b1, off1, rfl, hb1, hcell1⟩ := hIR.cells k hlt
        obtain ⟨b2, off2, e, hb2, hcell2⟩ := hIR.cells (parX X k) (by omega)
        injection e with e; injection e with e1 e2; subst e1; subst e2
        generalize X.par.getD k 0 = y at *
        obtain ⟨y, rfl⟩ := nat_of hpr.1
        rw [Int.toNat_natCast] at hpx
        rw [hpx] at hcell2 hs hpl
        generalize hz : chgI X R k = z at *
        clear hz
        generalize R.getD k 0 = r at *
        generalize R.getD y 0 = s at *
        clear hpx hk0 hI1 hIR
        by_cases hrs : r = s
        · have hqq : (r != s) = false := by simpa using hrs
          have hs' : chgI X R (k + 1) = z := by rw [hs, ne1, if_pos hrs, Nat.add_zero]
          have Hs := hid_ hs'
          clear hs hrs hs'
          go_wp2_with fail
          go_quiet (fail)
          go_wp2
          go_roundw
          case rel => exact ⟨k + 1, _, by omega, by go_num, by rw [Hs.out], by rw [Hq.out, drewN2]⟩
          case measure => simp [intOf]; omega
        · have hqq : (r != s) = true := by simpa using hrs
          have Hs := hid_ (hs.trans (by rw [ne1, if_neg hrs]))
          clear hs hrs
          go_wp2_with fail
          go_quiet (fail)
          go_wp2
          go_roundw
          case rel => exact ⟨k + 1, _, by omega, by go_num, by rw [Hs.out]; go_num, by rw [Hq.out, drewN2]⟩
          case measure => simp [intOf]; omega
    · obtain rfl : k = n1 := by omega
      clear hs
      rw [← HC.out]
      go_wp2
      go_ret
      exact ⟨rfl, by rw [Hq.out]; exact below_drewN Hc1.out _⟩
theorem foldK_ok {X : Tr} {T : List (List Int)} {p : Nat} (gT : GoodT T) (gX : GoodX X) (hp : p < n0 T) (hl : X.at_.length = T.length) : ∀ {k : Nat} {K : List Int}, k ≤ T.length → foldK X T p k = some K → (∀ v, -1 ≤ K.getD v 0 ∧ K.getD v 0 ≤ 2) ∧ (∀ c, c < k → K.getD (nodeX X c) 0 = rdT T p c) ∧ ∀ v, v < X.par.length → K.getD v 0 ≠ -1 → ∃ c, c < k ∧ nodeX X c = v
  | 0, K, _, h => by
    injection h with h
    subst h
    refine ⟨fun v => ?_, fun c hc => absurd hc (by omega), fun v hv hne => ?_⟩
    · by_cases hv : v < X.par.length
      · simp [List.getD, hv]
      · simp [List.getD, List.getElem?_eq_none (show (List.replicate X.par.length (-1 : Int)).length ≤ v by simp; omega)]
    · exact absurd (by simp [List.getD, hv]) hne
  | k + 1, K, hk, h => by
    rw [foldK] at h
    obtain ⟨K', h1, h2⟩ := Option.bind_eq_some_iff.1 h
    obtain ⟨i1, i2, i3⟩ := foldK_ok gT gX hp hl (by omega) h1
    have hlen := foldK_len h1
    have hat := gX.at_ k (by omega)
    have hn : nodeX X k < X.par.length := by unfold nodeX; omega
    have hr := gT.ok k (by omega) p hp
    have hr' : 0 ≤ rdT T p k ∧ rdT T p k ≤ 2 := hr
    unfold stepK at h2
    split at h2
    · cases h2
    · rename_i hc
      injection h2 with h2
      subst h2
      have hg : ∀ v, (K'.set (nodeX X k) (rdT T p k)).getD v 0 = if v = nodeX X k then rdT T p k else K'.getD v 0 := fun v => by
        simp only [List.getD, List.getElem?_set]
        by_cases e : nodeX X k = v
        · subst e; simp [show nodeX X k < K'.length by omega]
        · rw [if_neg e, if_neg (Ne.symm e)]
      refine ⟨fun v => ?_, fun c hc' => ?_, fun v hv hne => ?_⟩
      · rw [hg]
        split
        · omega
        · exact i1 v
      · rw [hg]
        by_cases e : c = k
        · subst e; rw [if_pos rfl]
        · have hck := i2 c (by omega)
          by_cases e2 : nodeX X c = nodeX X k
          · rw [if_pos e2]
            rw [e2] at hck
            rw [not_and, Decidable.not_not] at hc
            by_cases e3 : K'.getD (nodeX X k) 0 = -1
            · rw [e3] at hck
              have := gT.ok c (by omega) p hp
              have : 0 ≤ rdT T p c := this.1
              omega
            · rw [← hck]; exact (hc e3).symm
          · rw [if_neg e2]; exact hck
      · rw [hg] at hne
        by_cases e : v = nodeX X k
        · exact ⟨k, by omega, e.symm⟩
        · rw [if_neg e] at hne
          obtain ⟨c, hc1, hc2⟩ := i3 v hv hne
          exact ⟨c, by omega, hc2⟩
theorem atK_good {X : Tr} {T : List (List Int)} {p : Nat} (gT : GoodT T) (gX : GoodX X) (hp : p < n0 T) (hl : X.at_.length = T.length) {K : List Int} (h : atK X T p = some K) : GoodK K X.par.length :=
  ⟨foldK_len h, (foldK_ok gT gX hp hl (Nat.le_refl _) h).1⟩
def okRead (T : List (List Int)) (X : Tr) (p : Int) : Bool := decide (errA T X p = 0) && (atK X T p.toNat).isSome
def readL (T : List (List Int)) (X : Tr) (p : Int) : List Int := if okRead T X p = true then compL X (atV (atK X T p.toNat)) else []
def fewR (T : List (List Int)) (X : Tr) (p : Int) : Nat := if okRead T X p = true then chgR X (readL T X p) else 0
set_option maxRecDepth 100000 in
set_option maxHeartbeats 2000000 in
theorem stReadings_calls (a : Option Addr) (n c : Nat) (T : List (List Int)) (v : Value) (X : Tr) (p : Int) (w : World) (hT : ListsAt w a n c T) (h : TreeAt w v X) :
    Calls Try.prog 46 #[.slice a n c, v, .int .i64 p] w fun e w' => ∃ v', e = .returned (.tuple #[v', .bool (okRead T X p), .int .i64 (errA T X p)]) ∧ Made 3 w w' v' (readL T X p) := by
  have HP := hid_ h
  obtain ⟨a1, n1, c1, a2, n2, c2, rfl, h1, h2⟩ := h
  obtain ⟨w1, hw1⟩ : ∃ w1, w.alloc (.cells #[.slice a1 n1 c1, .slice a2 n2 c2] 46) = w1 := ⟨_, rfl⟩
  have cb : Below w.heap.size w w1 := by rw [← hw1]; exact below_alloc _ _
  have q0 : w1.cell? ⟨w.heap.size, 0, none⟩ = some (.slice a1 n1 c1) := by rw [← hw1]; exact cells_alloc _ _ _ 0
  have q1 : w1.cell? ⟨w.heap.size, 1, none⟩ = some (.slice a2 n2 c2) := by rw [← hw1]; exact cells_alloc _ _ _ 1
  have HP1 := hid_ (HP.out.below cb (Nat.le_refl _)); have Hc1 := hid_ cb
  have HT1 := hid_ (hT.below cb (Nat.le_refl _))
  have HV := hid_ (vall_calls a n c T _ X p w1 HT1.out HP1.out)
  have HO : Hid (okRead T X p = (decide (errA T X p = 0) && (atK X T p.toNat).isSome)) := hid_ rfl
  have HR : Hid (readL T X p = if okRead T X p = true then compL X (atV (atK X T p.toNat)) else []) := hid_ rfl
  clear h1 h2 cb hT
  by_cases he : errA T X p = 0
  · obtain ⟨gT, gX, hl, hp0, hp1⟩ := errA_ok he
    rw [he] at HV HO ⊢
    clear he
    obtain ⟨k, rfl⟩ := nat_of hp0
    rw [Int.toNat_natCast] at HO HR
    have hp : k < n0 T := by omega
    have HAt := hid_ (fun W (hW : Below w1.heap.size w1 W) => atNodes_calls a n c T _ X k W (HT1.out.below hW (Nat.le_refl _)) (HP1.out.below hW (Nat.le_refl _)) gT gX hl hp)
    have HGK := hid_ (fun K hK => @atK_good X T k gT gX hp hl K hK)
    generalize okRead T X (k : Int) = O at *
    generalize readL T X (k : Int) = RL at *
    cases hat : atK X T k with
    | none =>
      rw [hat] at HAt HO
      have Ho : Hid (O = false) := hid_ HO.out
      have Hr : Hid (RL = []) := hid_ (HR.out.trans (if_neg (by rw [Ho.out]; decide)))
      clear hat HO HR hp hp0 hp1
      rw [Ho.out, Hr.out]
      go_enter Try.func46, Try.ntmps46
      go_wp2_with (first
        | (go_at_call 98; (with_reducible refine HV.out.mono ?_); rintro e w2 ⟨rfl, hb2⟩; have q02 := cell_below q0 hb2; have q12 := cell_below q1 hb2)
        | (go_at_call 99; (with_reducible refine (HAt.out _ hb2).mono ?_); rintro e w3 ⟨v3, rfl, hm⟩))
      go_ret3
      exact ⟨_, rfl, Made.none_ _ (Hc1.out.trans ((hb2.trans (hm.bel.mono hb2.size)).mono Hc1.out.size))⟩
    | some K =>
      have gK := HGK.out K hat
      rw [hat] at HAt HO HR
      simp only [show atV (some K) = K from rfl] at HAt HR
      have Ho : Hid (O = true) := hid_ HO.out
      have Hr : Hid (RL = compL X K) := hid_ (HR.out.trans (if_pos Ho.out))
      have hKl : Hid (K.length = X.par.length) := hid_ gK.len
      have HCo := hid_ (fun W (hW : Below w1.heap.size w1 W) ak ck (hK : IntsAt W ak K.length ck K) => complete_calls _ X ak K.length ck K W (HP1.out.below hW (Nat.le_refl _)) hK gX gK)
      clear hat HO HR hp hp0 hp1
      rw [Ho.out, Hr.out]
      go_enter Try.func46, Try.ntmps46
      go_wp2_with (first
        | (go_at_call 98; (with_reducible refine HV.out.mono ?_); rintro e w2 ⟨rfl, hb2⟩; have q02 := cell_below q0 hb2; have q12 := cell_below q1 hb2)
        | (go_at_call 99; (with_reducible refine (HAt.out _ hb2).mono ?_); rintro e w3 ⟨v3, rfl, hm⟩; have hb3 := hb2.trans (hm.bel.mono hb2.size); have q03 := cell_below q0 hb3; have q13 := cell_below q1 hb3; obtain ⟨a3, c3, rfl, hi3⟩ := hm.at_; have Hi3 := hid_ hi3; clear hi3)
        | (go_at_call 100; (with_reducible refine (HCo.out _ hb3 _ _ Hi3.out).mono ?_); rintro e w4 ⟨v4, rfl, hm4⟩))
      go_ret3
      exact ⟨_, rfl, hm4.after (Hc1.out.trans (hb3.mono Hc1.out.size))⟩
  · have Ho : Hid (okRead T X p = false) := hid_ (HO.out.trans (by rw [decide_eq_false he, Bool.false_and]))
    have Hr : Hid (readL T X p = []) := hid_ (HR.out.trans (if_neg (by rw [Ho.out]; decide)))
    have hq : (errA T X p != 0) = true := by simpa using he
    rw [Ho.out, Hr.out]
    generalize errA T X p = x at *
    clear he HR HO Ho Hr
    go_enter Try.func46, Try.ntmps46
    go_wp2_with (go_at_call 98; (with_reducible refine HV.out.mono ?_); rintro e w2 ⟨rfl, hb2⟩; have q02 := cell_below q0 hb2; have q12 := cell_below q1 hb2)
    go_ret3
    exact ⟨_, rfl, Made.none_ _ (Hc1.out.trans (hb2.mono Hc1.out.size))⟩
theorem compL_len (X : Tr) (K : List Int) : (compL X K).length = X.par.length := labI_len _ _ _
set_option maxRecDepth 100000 in
set_option maxHeartbeats 2000000 in
theorem stFewest_calls (a : Option Addr) (n c : Nat) (T : List (List Int)) (v : Value) (X : Tr) (p : Int) (w : World) (hT : ListsAt w a n c T) (h : TreeAt w v X) :
    Calls Try.prog 45 #[.slice a n c, v, .int .i64 p] w fun e w' => e = .returned (.tuple #[.int .i64 (fewR T X p : Nat), .bool (okRead T X p), .int .i64 (errA T X p)]) ∧ Below w.heap.size w w' := by
  have HP := hid_ h
  obtain ⟨a1, n1, c1, a2, n2, c2, rfl, h1, h2⟩ := h
  obtain ⟨w1, hw1⟩ : ∃ w1, w.alloc (.cells #[.slice a1 n1 c1, .slice a2 n2 c2] 46) = w1 := ⟨_, rfl⟩
  have cb : Below w.heap.size w w1 := by rw [← hw1]; exact below_alloc _ _
  have q0 : w1.cell? ⟨w.heap.size, 0, none⟩ = some (.slice a1 n1 c1) := by rw [← hw1]; exact cells_alloc _ _ _ 0
  have q1 : w1.cell? ⟨w.heap.size, 1, none⟩ = some (.slice a2 n2 c2) := by rw [← hw1]; exact cells_alloc _ _ _ 1
  have HP1 := hid_ (HP.out.below cb (Nat.le_refl _)); have Hc1 := hid_ cb
  have HT1 := hid_ (hT.below cb (Nat.le_refl _))
  have HRd := hid_ (stReadings_calls a n c T _ X p w1 HT1.out HP1.out)
  have HF : Hid (fewR T X p = if okRead T X p = true then chgR X (readL T X p) else 0) := hid_ rfl
  have HO : okRead T X p = true → errA T X p = 0 ∧ GoodX X ∧ (readL T X p).length = X.par.length := fun ho => by
    have h1 := ho
    rw [okRead, Bool.and_eq_true, decide_eq_true_eq] at h1
    obtain ⟨-, gX, -⟩ := errA_ok h1.1
    exact ⟨h1.1, gX, by rw [readL, if_pos ho]; exact compL_len _ _⟩
  clear h1 h2 cb hT
  generalize fewR T X p = FR at *
  generalize errA T X p = x at *
  generalize readL T X p = RL at *
  cases ho : okRead T X p with
  | false =>
    rw [ho] at HRd HF
    have Hf : Hid (FR = 0) := hid_ (HF.out.trans (if_neg (by decide)))
    clear ho HO HF
    rw [Hf.out]
    go_enter Try.func45, Try.ntmps45
    go_wp2_with (go_at_call 46; (with_reducible refine HRd.out.mono ?_); rintro e w2 ⟨v2, rfl, hm⟩)
    go_ret3
    exact ⟨rfl, Hc1.out.trans (hm.bel.mono Hc1.out.size)⟩
  | true =>
    obtain ⟨hx0, gX, hl⟩ := HO ho
    subst hx0
    rw [ho] at HRd HF
    have Hf : Hid (FR = chgR X RL) := hid_ (HF.out.trans (if_pos rfl))
    have Hch := hid_ (fun W (hW : Below w1.heap.size w1 W) ar cr (hR : IntsAt W ar RL.length cr RL) => changes_calls _ X ar RL.length cr RL W (HP1.out.below hW (Nat.le_refl _)) hR gX hl)
    clear ho HO HF gX hl
    rw [Hf.out]
    go_enter Try.func45, Try.ntmps45
    go_wp2_with (first
      | (go_at_call 46; (with_reducible refine HRd.out.mono ?_); rintro e w2 ⟨v2, rfl, hm⟩; have hb2 := hm.bel; have q02 := cell_below q0 hb2; have q12 := cell_below q1 hb2; obtain ⟨a3, c3, rfl, hi3⟩ := hm.at_; have Hi3 := hid_ hi3; clear hi3)
      | (go_at_call 97; (with_reducible refine (Hch.out _ hb2 _ _ Hi3.out).mono ?_); rintro e w4 ⟨rfl, hb4⟩))
    go_ret3
    exact ⟨rfl, Hc1.out.trans ((hb2.trans (hb4.mono hb2.size)).mono Hc1.out.size)⟩
end Go.Proofs.Ytdnlpikfibdjoaa
namespace Go.Proofs.Kv
open Go.RowKit
theorem lists2 (u : World) (F : TypeId) {a0 a1 : Option Addr} {n0 c0 n1 c1 : Nat} {l0 l1 : List Int} (h0 : IntsAt u a0 n0 c0 l0) (h1 : IntsAt u a1 n1 c1 l1) :
    ListsAt (u.alloc (.cells #[.slice a0 n0 c0, .slice a1 n1 c1] F)) (some ⟨u.heap.size, 0, none⟩) 2 2 [l0, l1] := by
  have hb := below_alloc u (.cells #[.slice a0 n0 c0, .slice a1 n1 c1] F)
  refine ⟨rfl, Nat.le_refl _, by omega, fun i hi => ?_⟩
  rcases (show i = 0 ∨ i = 1 by omega) with rfl | rfl
  · exact ⟨u.heap.size, 0, _, _, _, rfl, by simp, cells_alloc _ _ _ 0, h0.below hb (Nat.le_refl _)⟩
  · exact ⟨u.heap.size, 0, _, _, _, rfl, by simp, cells_alloc _ _ _ 1, h1.below hb (Nat.le_refl _)⟩
theorem lists3 (u : World) (F : TypeId) {a0 a1 a2 : Option Addr} {n0 c0 n1 c1 n2 c2 : Nat} {l0 l1 l2 : List Int} (h0 : IntsAt u a0 n0 c0 l0) (h1 : IntsAt u a1 n1 c1 l1) (h2 : IntsAt u a2 n2 c2 l2) :
    ListsAt (u.alloc (.cells #[.slice a0 n0 c0, .slice a1 n1 c1, .slice a2 n2 c2] F)) (some ⟨u.heap.size, 0, none⟩) 3 3 [l0, l1, l2] := by
  have hb := below_alloc u (.cells #[.slice a0 n0 c0, .slice a1 n1 c1, .slice a2 n2 c2] F)
  refine ⟨rfl, Nat.le_refl _, by omega, fun i hi => ?_⟩
  rcases (show i = 0 ∨ i = 1 ∨ i = 2 by omega) with rfl | rfl | rfl
  · exact ⟨u.heap.size, 0, _, _, _, rfl, by simp, cells_alloc _ _ _ 0, h0.below hb (Nat.le_refl _)⟩
  · exact ⟨u.heap.size, 0, _, _, _, rfl, by simp, cells_alloc _ _ _ 1, h1.below hb (Nat.le_refl _)⟩
  · exact ⟨u.heap.size, 0, _, _, _, rfl, by simp, cells_alloc _ _ _ 2, h2.below hb (Nat.le_refl _)⟩
theorem lists4 (u : World) (F : TypeId) {a0 a1 a2 a3 : Option Addr} {n0 c0 n1 c1 n2 c2 n3 c3 : Nat} {l0 l1 l2 l3 : List Int} (h0 : IntsAt u a0 n0 c0 l0) (h1 : IntsAt u a1 n1 c1 l1) (h2 : IntsAt u a2 n2 c2 l2) (h3 : IntsAt u a3 n3 c3 l3) :
    ListsAt (u.alloc (.cells #[.slice a0 n0 c0, .slice a1 n1 c1, .slice a2 n2 c2, .slice a3 n3 c3] F)) (some ⟨u.heap.size, 0, none⟩) 4 4 [l0, l1, l2, l3] := by
  have hb := below_alloc u (.cells #[.slice a0 n0 c0, .slice a1 n1 c1, .slice a2 n2 c2, .slice a3 n3 c3] F)
  refine ⟨rfl, Nat.le_refl _, by omega, fun i hi => ?_⟩
  rcases (show i = 0 ∨ i = 1 ∨ i = 2 ∨ i = 3 by omega) with rfl | rfl | rfl | rfl
  · exact ⟨u.heap.size, 0, _, _, _, rfl, by simp, cells_alloc _ _ _ 0, h0.below hb (Nat.le_refl _)⟩
  · exact ⟨u.heap.size, 0, _, _, _, rfl, by simp, cells_alloc _ _ _ 1, h1.below hb (Nat.le_refl _)⟩
  · exact ⟨u.heap.size, 0, _, _, _, rfl, by simp, cells_alloc _ _ _ 2, h2.below hb (Nat.le_refl _)⟩
  · exact ⟨u.heap.size, 0, _, _, _, rfl, by simp, cells_alloc _ _ _ 3, h3.below hb (Nat.le_refl _)⟩
theorem ints3 (w : World) (x y z : Int) (E : TypeId) : IntsAt (w.alloc (.cells #[.int .i64 x, .int .i64 y, .int .i64 z] E)) (some ⟨w.heap.size, 0, none⟩) 3 3 [x, y, z] :=
  ⟨rfl, Nat.le_refl _, by omega, fun i hi => ⟨w.heap.size, 0, rfl, by simp, by
    rcases (show i = 0 ∨ i = 1 ∨ i = 2 by omega) with rfl | rfl | rfl
    · exact cells_alloc _ _ _ 0
    · exact cells_alloc _ _ _ 1
    · exact cells_alloc _ _ _ 2⟩⟩
theorem IntsAt.up {w : World} {a : Option Addr} {n c : Nat} {l : List Int} (h : IntsAt w a n c l) (o : Obj) : IntsAt (w.alloc o) a n c l := h.below (below_alloc w o) (Nat.le_refl _)
theorem ListsAt.up {w : World} {a : Option Addr} {n c : Nat} {l : List (List Int)} (h : ListsAt w a n c l) (o : Obj) : ListsAt (w.alloc o) a n c l := h.below (below_alloc w o) (Nat.le_refl _)
theorem below_up {w w' : World} (h : Below w.heap.size w w') (o : Obj) : Below w.heap.size w (w'.alloc o) := h.alloc h.size o
end Go.Proofs.Kv
namespace Go.Proofs.Ytdnlpikfibdjoaa
open Go.RowKit Go.Proofs.Kv

/-! ### the sanity check -/
theorem lit4 (w : World) (x0 y0 x1 y1 x2 y2 x3 y3 : Int) (E F : TypeId) :
    ListsAt (((((w.alloc (.cells #[.int .i64 x0, .int .i64 y0] E)).alloc (.cells #[.int .i64 x1, .int .i64 y1] E)).alloc (.cells #[.int .i64 x2, .int .i64 y2] E)).alloc (.cells #[.int .i64 x3, .int .i64 y3] E)).alloc
      (.cells #[.slice (some ⟨w.heap.size, 0, none⟩) 2 2, .slice (some ⟨w.heap.size + 1, 0, none⟩) 2 2, .slice (some ⟨w.heap.size + 1 + 1, 0, none⟩) 2 2, .slice (some ⟨w.heap.size + 1 + 1 + 1, 0, none⟩) 2 2] F)) (some ⟨w.heap.size + 1 + 1 + 1 + 1, 0, none⟩) 4 4 [[x0, y0], [x1, y1], [x2, y2], [x3, y3]] := by
  have h0 := ints_two7 w x0 y0 E
  have h1 := ints_two7 (w.alloc (.cells #[.int .i64 x0, .int .i64 y0] E)) x1 y1 E
  have h2 := ints_two7 ((w.alloc (.cells #[.int .i64 x0, .int .i64 y0] E)).alloc (.cells #[.int .i64 x1, .int .i64 y1] E)) x2 y2 E
  have h3 := ints_two7 (((w.alloc (.cells #[.int .i64 x0, .int .i64 y0] E)).alloc (.cells #[.int .i64 x1, .int .i64 y1] E)).alloc (.cells #[.int .i64 x2, .int .i64 y2] E)) x3 y3 E
  have := lists4 _ F (((h0.up _).up _).up _) ((h1.up _).up _) (h2.up _) h3
  simpa only [size_alloc_one] using this
theorem lit3 (w : World) (x0 y0 x1 y1 x2 y2 : Int) (E F : TypeId) :
    ListsAt ((((w.alloc (.cells #[.int .i64 x0, .int .i64 y0] E)).alloc (.cells #[.int .i64 x1, .int .i64 y1] E)).alloc (.cells #[.int .i64 x2, .int .i64 y2] E)).alloc
      (.cells #[.slice (some ⟨w.heap.size, 0, none⟩) 2 2, .slice (some ⟨w.heap.size + 1, 0, none⟩) 2 2, .slice (some ⟨w.heap.size + 1 + 1, 0, none⟩) 2 2] F)) (some ⟨w.heap.size + 1 + 1 + 1, 0, none⟩) 3 3 [[x0, y0], [x1, y1], [x2, y2]] := by
  have h0 := ints_two7 w x0 y0 E
  have h1 := ints_two7 (w.alloc (.cells #[.int .i64 x0, .int .i64 y0] E)) x1 y1 E
  have h2 := ints_two7 ((w.alloc (.cells #[.int .i64 x0, .int .i64 y0] E)).alloc (.cells #[.int .i64 x1, .int .i64 y1] E)) x2 y2 E
  have := lists3 _ F ((h0.up _).up _) (h1.up _) h2
  simpa only [size_alloc_one] using this
theorem lit1 (w : World) (x0 x1 x2 : Int) (E F : TypeId) :
    ListsAt ((((w.alloc (.cells #[.int .i64 x0] E)).alloc (.cells #[.int .i64 x1] E)).alloc (.cells #[.int .i64 x2] E)).alloc
      (.cells #[.slice (some ⟨w.heap.size, 0, none⟩) 1 1, .slice (some ⟨w.heap.size + 1, 0, none⟩) 1 1, .slice (some ⟨w.heap.size + 1 + 1, 0, none⟩) 1 1] F)) (some ⟨w.heap.size + 1 + 1 + 1, 0, none⟩) 3 3 [[x0], [x1], [x2]] := by
  have h0 := IntsAt.one w x0 E
  have h1 := IntsAt.one (w.alloc (.cells #[.int .i64 x0] E)) x1 E
  have h2 := IntsAt.one ((w.alloc (.cells #[.int .i64 x0] E)).alloc (.cells #[.int .i64 x1] E)) x2 E
  have := lists3 _ F ((h0.up _).up _) (h1.up _) h2
  simpa only [size_alloc_one] using this
def exX : Tr := ⟨[-1, 0, 0], [1, 2]⟩
theorem litX (w : World) (E F : TypeId) :
    ListsAt (((((w.alloc (.cells #[.int .i64 0] E)).alloc (.cells #[.int .i64 1] E)).alloc (.cells #[.slice (some ⟨w.heap.size, 0, none⟩) 1 1, .slice (some ⟨w.heap.size + 1, 0, none⟩) 1 1] F)).alloc (.cells #[.int .i64 (-1), .int .i64 0, .int .i64 0] E)).alloc (.cells #[.int .i64 1, .int .i64 2] E)) (some ⟨w.heap.size + 1 + 1, 0, none⟩) 2 2 [[0], [1]] ∧
    TreeAt (((((w.alloc (.cells #[.int .i64 0] E)).alloc (.cells #[.int .i64 1] E)).alloc (.cells #[.slice (some ⟨w.heap.size, 0, none⟩) 1 1, .slice (some ⟨w.heap.size + 1, 0, none⟩) 1 1] F)).alloc (.cells #[.int .i64 (-1), .int .i64 0, .int .i64 0] E)).alloc (.cells #[.int .i64 1, .int .i64 2] E)) (.agg #[.slice (some ⟨w.heap.size + 1 + 1 + 1, 0, none⟩) 3 3, .slice (some ⟨w.heap.size + 1 + 1 + 1 + 1, 0, none⟩) 2 2]) exX := by
  have h0 := IntsAt.one w 0 E
  have h1 := IntsAt.one (w.alloc (.cells #[.int .i64 0] E)) 1 E
  have hl := lists2 _ F (h0.up _) h1
  obtain ⟨u, hu⟩ : ∃ u, ((w.alloc (.cells #[.int .i64 0] E)).alloc (.cells #[.int .i64 1] E)).alloc (.cells #[.slice (some ⟨w.heap.size, 0, none⟩) 1 1, .slice (some ⟨w.heap.size + 1, 0, none⟩) 1 1] F) = u := ⟨_, rfl⟩
  simp only [size_alloc_one] at hl
  have hz : u.heap.size = w.heap.size + 1 + 1 + 1 := by rw [← hu]; simp only [size_alloc_one]
  rw [hu] at hl ⊢
  have k1 := ints3 u (-1) 0 0 E
  have k2 := ints_two7 (u.alloc (.cells #[.int .i64 (-1), .int .i64 0, .int .i64 0] E)) 1 2 E
  have k1' := k1.up (.cells #[.int .i64 1, .int .i64 2] E)
  simp only [size_alloc_one, hz] at k1' k2
  exact ⟨(hl.up _).up _, _, _, _, _, _, _, rfl, k1', k2⟩
theorem sane_facts : resConf [[0, 0], [0, 1], [1, 0], [1, 1]] 0 1 = true ∧ placesE [[0, 0], [0, 1], [1, 0], [1, 1]] [0, 1] = 0 ∧ resConf [[0, 0], [0, 1], [1, 0]] 0 1 = false ∧ placesE [[0, 0], [0, 1], [1, 0]] [0, 1] = 0 ∧
    fewR [[0], [1]] exX 0 = 1 ∧ okRead [[0], [1]] exX 0 = true ∧ errA [[0], [1]] exX 0 = 0 ∧ resDiff [[0], [1], [2]] 0 = 3 ∧ placesE [[0], [1], [2]] [0] = 0 := by decide +kernel
set_option maxRecDepth 100000 in
set_option maxHeartbeats 4000000 in
theorem sane_calls (w : World) :
    Calls Try.prog 22 #[] w fun e w' => e = .returned (.bool true) ∧ Below w.heap.size w w' := by
  obtain ⟨s1, s2, s3, s4, s5, s6, s7, s8, s9⟩ := sane_facts
  have HC1 := hid_ (fun W a n c (h : ListsAt W a n c [[0, 0], [0, 1], [1, 0], [1, 1]]) => stConflict_calls a n c _ 0 1 W h)
  have HC2 := hid_ (fun W a n c (h : ListsAt W a n c [[0, 0], [0, 1], [1, 0]]) => stConflict_calls a n c _ 0 1 W h)
  have HF := hid_ (fun W a n c (h : ListsAt W a n c [[0], [1]]) v (h' : TreeAt W v exX) => stFewest_calls a n c _ v exX 0 W h h')
  have HD := hid_ (fun W a n c (h : ListsAt W a n c [[0], [1], [2]]) => stDifferent_calls a n c _ 0 W h)
  simp only [s1, s2] at HC1
  simp only [s3, s4] at HC2
  simp only [s5, s6, s7] at HF
  simp only [s8, s9] at HD
  clear s1 s2 s3 s4 s5 s6 s7 s8 s9
  go_enter Try.func22, Try.ntmps22
  go_wp2_with (first
    | (go_at_call 64; (with_reducible refine (HC1.out _ _ _ _ (lit4 w 0 0 0 1 1 0 1 1 _ _)).mono ?_); rintro e w2 ⟨rfl, hb2⟩; have hb2 : Below w.heap.size w w2 := (below_up (below_up (below_up (below_up (below_alloc _ _) _) _) _) _).trans (hb2.mono (below_up (below_up (below_up (below_up (below_alloc w _) _) _) _) _).size))
    | (go_at_call 64; (with_reducible refine (HC2.out _ _ _ _ (lit3 w2 0 0 0 1 1 0 _ _)).mono ?_); rintro e w3 ⟨rfl, hb3⟩; have hb3 : Below w2.heap.size w2 w3 := (below_up (below_up (below_up (below_alloc _ _) _) _) _).trans (hb3.mono (below_up (below_up (below_up (below_alloc w2 _) _) _) _).size))
    | (go_at_call 45; (with_reducible refine (HF.out _ _ _ _ (litX w3 _ _).1 _ (litX w3 _ _).2).mono ?_); rintro e w4 ⟨rfl, hb4⟩; have hb4 : Below w3.heap.size w3 w4 := (below_up (below_up (below_up (below_up (below_alloc _ _) _) _) _) _).trans (hb4.mono (below_up (below_up (below_up (below_up (below_alloc w3 _) _) _) _) _).size))
    | (go_at_call 49; (with_reducible refine (HD.out _ _ _ _ (lit1 w4 0 1 2 _ _)).mono ?_); rintro e w5 ⟨rfl, hb5⟩; have hb5 : Below w4.heap.size w4 w5 := (below_up (below_up (below_up (below_alloc _ _) _) _) _).trans (hb5.mono (below_up (below_up (below_up (below_alloc w4 _) _) _) _).size)))
  go_ret
  exact ⟨rfl, below_then (below_then (below_then hb2 hb3) hb4) hb5⟩
end Go.Proofs.Ytdnlpikfibdjoaa
