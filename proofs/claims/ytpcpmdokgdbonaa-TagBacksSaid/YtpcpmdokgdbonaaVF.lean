import Derived.Test.YtpcpmdokgdbonaaVme
namespace Go.Proofs.Ytpcpmdokgdbonaa
open Go.RowKit Go.Proofs.Kv Go

set_option maxRecDepth 100000 in
set_option maxHeartbeats 16000000 in
theorem r8CheckProof_calls (v : Value) (L : Lx) (a : Option Addr) (n c : Nat) (t : List Int) (a' : Option Addr) (n' c' : Nat) (P : List (List Int)) (w : World) (h : LexAt w v L) (ht : IntsAt w a n c t) (hL : ListsAt w a' n' c' P) :
    Calls Try.prog 24 #[v, .slice a n c, .slice a' n' c'] w fun e w' => e = .returned (.tuple #[.int .i64 (prfP L t P).1, .bool (prfP L t P).2, .int .i64 (proofE L t P)]) ∧ Below w.heap.size w w' := by
  have HP := hid_ h
  obtain ⟨a1, n1, c1, a2, n2, c2, rfl, h1, h2⟩ := h
  obtain ⟨w1, hw1⟩ : ∃ w1, w.alloc (.cells #[.slice a1 n1 c1, .slice a2 n2 c2] 25) = w1 := ⟨_, rfl⟩
  have cb : Below w.heap.size w w1 := by rw [← hw1]; exact below_alloc _ _
  have q0 : w1.cell? ⟨w.heap.size, 0, none⟩ = some (.slice a1 n1 c1) := by rw [← hw1]; exact cells_alloc _ _ _ 0
  have q1 : w1.cell? ⟨w.heap.size, 1, none⟩ = some (.slice a2 n2 c2) := by rw [← hw1]; exact cells_alloc _ _ _ 1
  have HP1 := hid_ (HP.out.below cb (Nat.le_refl _)); have Hc1 := hid_ cb
  have HV := hid_ (texted_calls _ L a n c t w1 HP1.out (ht.below cb (Nat.le_refl _)))
  have HQ := hid_ (fun W (hW : Below w1.heap.size w1 W) => (⟨cell_below q0 hW, cell_below q1 hW⟩ : _ ∧ _))
  have hl1 := h1.len
  have htl := ht.len
  have hPl := hL.len
  have HL := hid_ (fun W (hW : Below w1.heap.size w1 W) => (hL.below cb (Nat.le_refl _)).below hW (Nat.le_refl _))
  have HIt := hid_ (fun W (hW : Below w1.heap.size w1 W) => (h1.below cb (Nat.le_refl _)).below hW (Nat.le_refl _))
  have HCo := hid_ (fun W (hW : Below w1.heap.size w1 W) (g : GoodL L) i j z (hj : j < L.items.length) (hi : i ≤ n) (hn : n ≤ 1000) hz => comes_end _ L a n c t i j z W (HP1.out.below hW (Nat.le_refl _)) ((ht.below cb (Nat.le_refl _)).below hW (Nat.le_refl _)) g hj hi hn hz)
  have HFo := hid_ (fun W (hW : Below w1.heap.size w1 W) (g : GoodL L) k j (hk : k < L.items.length) (hj : j < L.items.length) => r8follow_calls _ L k j W (HP1.out.below hW (Nat.le_refl _)) g hk hj)
  have HRo : Hid (rowsP L t P = rowsB P ((n : Int) + 1) (n1 : Int) (-100000) 100000) := hid_ (by rw [rowsP, htl, hl1])
  have HGp := hid_ (@rowsP_good L t P)
  have hn'1 : n' ≤ 9223372036854775807 := Nat.le_trans hL.le hL.small
  have hle := ht.le
  have hsm := ht.small
  clear h1 h2 HP HP1 cb ht hL
  by_cases he : textE L t = 0
  · obtain ⟨g, h12, -⟩ := textE_ok he
    have H1e := hid_ (@proofE_1 L t P he)
    have H7e := hid_ (@proofE_7 L t P he)
    have H0e := hid_ (@proofE_0 L t P he)
    have HWt : Hid (wthP L t P = if n = 0 then (0, true) else wP L t (P.getD n []) L.items.length) := hid_ (by rw [wthP, htl])
    rw [he] at HV
    rw [htl] at h12
    have hn8 : n1 ≤ 8 := by have := g.le; omega
    have Hg := hid_ g
    have Htl := hid_ htl; have Hl1 := hid_ hl1; have HPl := hid_ hPl
    clear he g htl hl1 hPl
    have hwn : IntKind.i64.wrap ((n : Int) + 1) = (n : Int) + 1 := IntWalk.i64_in _ (by omega)
    generalize hE : proofE L t P = E at *
    generalize hR : prfP L t P = R at *
    clear hE hR
    by_cases hnn : n' = n + 1
    · have hq : (((n' : Nat) : Int) != (n : Int) + 1) = false := by simp [hnn]
      have Hnn := hid_ hnn
      clear hnn
      go_enter Try.func24, Try.ntmps24
      go_wp2_with (go_at_call 45; (with_reducible refine HV.out.mono ?_); rintro e w2 ⟨rfl, hb2⟩)
      go_loopw [10] (fun iv wr => ∃ i : Nat, i ≤ n' ∧ iv = .int .i64 i ∧ (∀ i', i' < i → rowOk8 (n1 : Int) (-100000) 100000 (P.getD i' []) = true) ∧ Below w1.heap.size w1 wr) (fun iv _ => n' - (intOf iv).toNat)
      case atStart => exact ⟨0, Nat.zero_le _, rfl, fun _ h => absurd h (by omega), hb2⟩
      case round =>
        obtain ⟨i, hi, rfl, hall, hb⟩ := hrel
        have Hall := hid_ hall
        obtain ⟨q0r, q1r⟩ := HQ.out wr hb
        have hib : i ≤ 1001 := by have := Hnn.out; omega
        clear hall
        by_cases hlt : i < n'
        · obtain ⟨bp, op, ar, nr, cr, ea, -, hcP, hrow⟩ := (HL.out wr hb).cells i hlt
          subst ea
          have Hrow := hid_ (hrow.below (below_drewN (Below.refl _ wr) 0) (Nat.le_refl _))
          have Hrl := hid_ hrow.len
          have hnr := Nat.le_trans hrow.le hrow.small
          by_cases hne : nr = n1
          · have hq2 : ((nr : Int) != (n1 : Int)) = false := by simp [hne]
            have Hne := hid_ hne
            have Hbo := hid_ hb
            have Hrw := hid_ hrow
            clear hne hb hrow
            go_wp2_with fail
            go_quiet (fail)
            obtain ⟨wx, hwx⟩ : ∃ wx, wr.drewN nq = wx := ⟨_, rfl⟩
            have Hbx := hid_ (show Below wr.heap.size wr wx by rw [← hwx]; exact below_drewN (Below.refl _ _) _)
            have hcPx := cell_below hcP Hbx.out
            rw [hwx]
            clear hwx
            go_wp2
            go_loopw [11] (fun jv wr' => ∃ j : Nat, j ≤ nr ∧ jv = .int .i64 j ∧ wr' = wx ∧ (∀ j', j' < j → Within ((P.getD i []).getD j' 0) (-100000) 100000 = true)) (fun jv _ => nr - (intOf jv).toNat)
            case atStart => exact ⟨0, Nat.zero_le _, rfl, rfl, fun _ h => absurd h (by omega)⟩
            case round =>
              obtain ⟨j, hj, rfl, hww, hall2⟩ := hrel
              subst hww
              by_cases hltj : j < nr
              · obtain ⟨br, offr, er, -, hck⟩ := (Hrw.out.below Hbx.out (Nat.le_refl _)).cells j hltj
                subst er
                have hbad := rowOk_bad (m := n1) Hrl.out hltj
                have hsn := fun hx => lt_snoc (p := fun j' => Within ((P.getD i []).getD j' 0) (-100000) 100000 = true) hall2 hx
                clear hall2
                have HW8 := hid_ (fun W => within8_calls ((P.getD i []).getD j 0) (-100000) 100000 W)
                generalize (P.getD i []).getD j 0 = x at *
                cases hx : Within x (-100000) 100000 with
                | true =>
                  rw [hx] at HW8
                  have Hn := hid_ (hsn hx)
                  clear hx hbad hsn
                  go_wp2_with (go_at_call 56; (with_reducible refine (HW8.out _).mono ?_); rintro e w4 ⟨rfl, rfl⟩)
                  go_roundw
                  case rel => exact ⟨j + 1, by omega, by go_num, by first | rfl | trivial, Hn.out⟩
                  case measure => simp [intOf]; omega
                | false =>
                  rw [hx] at HW8
                  have HRr := hid_ (H1e.out (HRo.out.trans (rowsB_no (by rw [HPl.out]; exact hlt) (hbad hx))))
                  clear hx hbad hsn
                  go_wp2_with (go_at_call 56; (with_reducible refine (HW8.out _).mono ?_); rintro e w4 ⟨rfl, rfl⟩)
                  go_ret3
                  exact ⟨by rw [HRr.out.1, HRr.out.2]; rfl, Hc1.out.trans ((Hbo.out.trans (Hbx.out.mono Hbo.out.size)).mono Hc1.out.size)⟩
              · obtain rfl : nr = j := by omega
                have Hn := hid_ (lt_snoc (p := fun i' => rowOk8 (n1 : Int) (-100000) 100000 (P.getD i' []) = true) Hall.out (rowOk_yes (Hrl.out.trans Hne.out) (fun k hk => hall2 k (by rw [Hne.out]; exact hk))))
                go_wp2
                go_roundw
                case rel => exact ⟨i + 1, by omega, by go_num, Hn.out, Hbo.out.trans (Hbx.out.mono Hbo.out.size)⟩
                case measure => simp [intOf]; omega
          · have hq2 : ((nr : Int) != (n1 : Int)) = true := by simpa using (fun e : (nr : Int) = (n1 : Int) => hne (by omega))
            have HRr := hid_ (H1e.out (HRo.out.trans (rowsB_no (by rw [HPl.out]; exact hlt) (rowOk_no hrow.len hne))))
            clear hne hrow
            go_wp2_with fail
            go_quiet (fail)
            go_wp2
            go_ret3
            exact ⟨by rw [HRr.out.1, HRr.out.2]; rfl, Hc1.out.trans ((below_drewN hb _).mono Hc1.out.size)⟩
        · obtain rfl : n' = i := by omega
          have hro : rowsP L t P = true := by
            rw [HRo.out, rowsB_all HPl.out Hall.out, decide_eq_true_eq, Hnn.out]; omega
          have hP := HGp.out hro
          have HP := hid_ hP
          have HYes := hid_ (@holdsB_yes L t P n' n1 HPl.out Hl1.out)
          have HNo := hid_ (fun i j (hi : i < n') (hj : j < n1) (hok : okE L t P i j = false) => H7e.out hro (@holdsB_no L t P i j (by rw [HPl.out]; exact hi) (by rw [Hl1.out]; exact hj) hok))
          have H0 := hid_ (fun hh => H0e.out hro hh)
          have Hrow := hid_ (fun i (hi : i < n') => (hP.row i (by rw [Htl.out, ← Hnn.out]; exact hi)).1.trans Hl1.out)
          have Hpv := hid_ (fun i j (hi : i < n') (hj : j < n1) => hP.at_ (i := i) (j := j) (by rw [Htl.out, ← Hnn.out]; exact hi) (by rw [Hl1.out]; exact hj))
          clear hro hP H1e H7e H0e Hall HRo HGp hi hib hlt
          go_wp2
          go_loopw [12] (fun iv wr => ∃ i : Nat, i ≤ n' ∧ iv = .int .i64 i ∧ (∀ i', i' < i → ∀ j, j < n1 → okE L t P i' j = true) ∧ Below w1.heap.size w1 wr) (fun iv _ => n' - (intOf iv).toNat)
          case atStart => exact ⟨0, Nat.zero_le _, rfl, fun _ h => absurd h (by omega), hb⟩
          case round =>
            clear hb q0r q1r
            obtain ⟨i, hi, rfl, hall, hb⟩ := hrel
            have Hall := hid_ hall
            have hib : i ≤ 1001 := by have := Hnn.out; omega
            clear hall
            by_cases hlt : i < n'
            · go_wp2
              go_loopw [13] (fun jv wr' => ∃ j : Nat, j ≤ n1 ∧ jv = .int .i64 j ∧ (∀ j', j' < j → okE L t P i j' = true) ∧ Below w1.heap.size w1 wr') (fun jv _ => n1 - (intOf jv).toNat)
              case atStart => exact ⟨0, Nat.zero_le _, rfl, fun _ h => absurd h (by omega), hb⟩
              case round =>
                clear hb
                obtain ⟨j, hj, rfl, hall2, hb⟩ := hrel
                obtain ⟨q0r, q1r⟩ := HQ.out wr hb
                by_cases hltj : j < n1
                · obtain ⟨bi, off, a3, n3, c3, e3, -, k0, k1, k2, hiw⟩ := (HIt.out wr hb).cells j hltj
                  have hwl : ln L j = n3 := hiw.len
                  have hge1 : 1 ≤ n3 := by rw [← hiw.len]; exact (Hg.out.word j (by rw [Hl1.out]; exact hltj)).1
                  have hge2 : n3 ≤ 6 := by rw [← hiw.len]; exact (Hg.out.word j (by rw [Hl1.out]; exact hltj)).2.1
                  have hcj := Hg.out.cost j (by rw [Hl1.out]; exact hltj)
                  obtain ⟨z, hz⟩ : ∃ z : Int, (i : Int) - (n3 : Int) = z := ⟨_, rfl⟩
                  have hCo := HCo.out wr hb Hg.out i j z (by rw [Hl1.out]; exact hltj) (by have := Hnn.out; omega) (by omega) (by rw [hwl]; exact hz)
                  have hwf : IntKind.i64.wrap ((i : Int) - (n3 : Int)) = z := by rw [hz]; exact IntWalk.i64_in _ (by omega)
                  have hsn := fun hx => lt_snoc (p := fun j' => okE L t P i j' = true) hall2 hx
                  have hno := HNo.out i j hlt hltj
                  subst e3
                  clear hall2 hiw
                  cases hx : endB L t i j with
                  | false =>
                    rw [hx] at hCo
                    have HC := hid_ hCo
                    have Hn := hid_ (hsn (okE_off hx))
                    clear hx hCo hsn hno hz hwl
                    go_wp2_with (go_at_call 57; (with_reducible refine HC.out.mono ?_); rintro e w4 ⟨rfl, hb4⟩)
                    go_roundw
                    case rel => exact ⟨j + 1, by omega, by go_num, Hn.out, below_then8 hb hb4⟩
                    case measure => simp [intOf]; omega
                  | true =>
                    rw [hx] at hCo
                    have HC := hid_ hCo
                    have hni : n3 ≤ i := by
                      unfold endB at hx
                      rw [hwl] at hx
                      exact of_decide_eq_true (Bool.and_eq_true_iff.1 hx).1
                    obtain ⟨fr, hfr⟩ : ∃ fr, i - n3 = fr := ⟨_, rfl⟩
                    obtain rfl : z = (fr : Int) := by omega
                    have hfn : fr < n' := by omega
                    have hfr2 : i - ln L j = fr := by rw [hwl]; exact hfr
                    obtain ⟨pl, ph⟩ := Hpv.out i j hlt hltj
                    by_cases h0 : fr = 0
                    · have hz0 : ((fr : Int) == 0) = true := by simp [h0]
                      have hzg : ¬ 0 < fr := by omega
                      have hok := okE_z (P := P) hx (hfr2.trans h0)
                      obtain ⟨y, hy⟩ : ∃ y, pv P i j = y := ⟨_, rfl⟩
                      rw [hy] at hok
                      generalize (L.items.getD j I0).cost = cost at *
                      have Hy := hid_ hy
                      have Harm := hid_ (fun W (hW : Below w1.heap.size w1 W) => (by obtain ⟨bp, op, ar, nr, cr, ea, -, hcP, hrow⟩ := (HL.out W hW).cells i hlt; obtain rfl : nr = n1 := (by rw [← Hrow.out i hlt, hrow.len]); obtain ⟨br, offr, er, -, hck⟩ := hrow.cells j hltj; exact ⟨bp, op, br, offr, cr, ea, by rw [← er]; exact hcP, hck.trans (congrArg some (congrArg (Value.int .i64) Hy.out))⟩ : ∃ bp op br offr cr, a' = some ⟨bp, op, none⟩ ∧ W.cell? ⟨bp, op + i, none⟩ = some (.slice (some ⟨br, offr, none⟩) n1 cr) ∧ W.cell? ⟨br, offr + j, none⟩ = some (.int .i64 y)))
                      by_cases hlg : cost < y
                      · rw [decide_eq_true hlg] at hok
                        have HR := hid_ (hno hok)
                        have hgt : decide (y > cost) = true := decide_eq_true hlg
                        clear hok hsn hno hx hCo hz hwl hni hfr hfr2 hy h0 hfn
                        go_wp2_with (go_at_call 57; (with_reducible refine HC.out.mono ?_); rintro e w4 ⟨rfl, hb4'⟩; have hb4 := below_then8 hb hb4'; obtain ⟨q4, r4⟩ := HQ.out w4 hb4; obtain ⟨bp, op, br, offr, cr, rfl, p0, p1⟩ := Harm.out w4 hb4; have k2c := cell_below k2 hb4')
                        go_wp2_with fail
                        go_quiet (fail)
                        go_wp2
                        go_ret3
                        exact ⟨by rw [HR.out.1, HR.out.2]; rfl, Hc1.out.trans ((below_drewN hb4 _).mono Hc1.out.size)⟩
                      · rw [decide_eq_false hlg] at hok
                        have Hn := hid_ (hsn hok)
                        have hgt : decide (y > cost) = false := decide_eq_false hlg
                        clear hok hsn hno hx hCo hz hwl hni hfr hfr2 hy h0 hfn
                        go_wp2_with (go_at_call 57; (with_reducible refine HC.out.mono ?_); rintro e w4 ⟨rfl, hb4'⟩; have hb4 := below_then8 hb hb4'; obtain ⟨q4, r4⟩ := HQ.out w4 hb4; obtain ⟨bp, op, br, offr, cr, rfl, p0, p1⟩ := Harm.out w4 hb4; have k2c := cell_below k2 hb4')
                        go_wp2_with fail
                        go_quiet (fail)
                        obtain ⟨wx, hwx⟩ : ∃ wx, w4.drewN nq = wx := ⟨_, rfl⟩
                        have Hbx := hid_ (show Below w1.heap.size w1 wx by rw [← hwx]; exact below_drewN hb4 _)
                        obtain ⟨q5, r5⟩ := HQ.out wx Hbx.out
                        rw [hwx]
                        clear hwx
                        have h0n : 0 < n1 := by omega
                        go_wp2
                        go_loopw [15] (fun kv wr' => kv = .int .i64 0 ∧ wr' = wx) (fun _ _ => 0)
                        case atStart => exact ⟨rfl, rfl⟩
                        case round =>
                          obtain ⟨rfl, hww⟩ := hrel
                          subst hww
                          go_wp2
                          go_roundw
                          case rel => exact ⟨j + 1, by omega, by go_num, Hn.out, Hbx.out⟩
                          case measure => simp [intOf]; omega
                    · have hz0 : ((fr : Int) == 0) = false := by simpa using (fun e : (fr : Int) = 0 => h0 (by omega))
                      have hzg : 0 < fr := by omega
                      have hyes := okE_yes hx hfr2 h0 ph
                      have hnoo := fun k' => @okE_no L t P i j fr k' hx hfr2 h0
                      rw [Hl1.out] at hyes hnoo
                      obtain ⟨y, hy⟩ : ∃ y, pv P i j = y := ⟨_, rfl⟩
                      rw [hy] at hyes hnoo pl ph
                      generalize (L.items.getD j I0).cost = cost at *
                      have Hy := hid_ hy
                      have Harm := hid_ (fun W (hW : Below w1.heap.size w1 W) => (by obtain ⟨bp, op, ar, nr, cr, ea, -, hcP, hrow⟩ := (HL.out W hW).cells i hlt; obtain rfl : nr = n1 := (by rw [← Hrow.out i hlt, hrow.len]); obtain ⟨br, offr, er, -, hck⟩ := hrow.cells j hltj; exact ⟨bp, op, br, offr, cr, ea, by rw [← er]; exact hcP, hck.trans (congrArg some (congrArg (Value.int .i64) Hy.out))⟩ : ∃ bp op br offr cr, a' = some ⟨bp, op, none⟩ ∧ W.cell? ⟨bp, op + i, none⟩ = some (.slice (some ⟨br, offr, none⟩) n1 cr) ∧ W.cell? ⟨br, offr + j, none⟩ = some (.int .i64 y)))
                      have Harm2 := hid_ (fun W (hW : Below w1.heap.size w1 W) k (hk : k < n1) => (by obtain ⟨bp, op, ar, nr, cr, ea, -, hcP, hrow⟩ := (HL.out W hW).cells fr hfn; obtain rfl : nr = n1 := (by rw [← Hrow.out fr hfn, hrow.len]); obtain ⟨br, offr, er, -, hck⟩ := hrow.cells k hk; exact ⟨bp, op, br, offr, cr, ea, by rw [← er]; exact hcP, hck⟩ : ∃ bp op br offr cr, a' = some ⟨bp, op, none⟩ ∧ W.cell? ⟨bp, op + fr, none⟩ = some (.slice (some ⟨br, offr, none⟩) n1 cr) ∧ W.cell? ⟨br, offr + k, none⟩ = some (.int .i64 (pv P fr k))))
                      have Hpf := hid_ (fun k (hk : k < n1) => Hpv.out fr k hfn hk)
                      have Hyes := hid_ hyes; have Hnoo := hid_ hnoo; have Hsn := hid_ hsn; have Hno := hid_ hno
                      have Hk2 := hid_ (fun W (hW : Below wr.heap.size wr W) => cell_below k2 hW)
                      have Hwr := hid_ hb.size
                      clear hx hCo hz hwl hni hfr hfr2 hy hyes hnoo hsn hno h0
                      go_wp2_with (go_at_call 57; (with_reducible refine HC.out.mono ?_); rintro e w4 ⟨rfl, hb4'⟩; have hb4 := below_then8 hb hb4'; obtain ⟨q4, r4⟩ := HQ.out w4 hb4)
                      go_wp2_with fail
                      go_quiet (fail)
                      obtain ⟨wx, hwx⟩ : ∃ wx, w4.drewN nq = wx := ⟨_, rfl⟩
                      have Hbx := hid_ (show Below wr.heap.size wr wx by rw [← hwx]; exact below_drewN hb4' _)
                      rw [hwx]
                      have Hb0 := hid_ hb
                      obtain ⟨wo, hwo⟩ : ∃ wo, wr = wo := ⟨_, rfl⟩
                      rw [hwo] at Hbx Hb0 Hk2
                      clear hwx hb4 hb4' hb q0r q1r k0 k1 k2 q4 r4
                      go_wp2
                      go_loopw [15] (fun kv wr' => ∃ k : Nat, k ≤ n1 ∧ kv = .int .i64 k ∧ (∀ k', k' < k → 0 ≤ follV L k' j → ¬ pv P fr k' + follV L k' j + cost < y) ∧ Below wo.heap.size wo wr') (fun kv _ => n1 - (intOf kv).toNat)
                      case atStart => exact ⟨0, Nat.zero_le _, rfl, fun _ h => absurd h (by omega), Hbx.out⟩
                      case round =>
                        obtain ⟨k, hk, rfl, hall3, hbk⟩ := hrel
                        have hb := below_then8 Hb0.out hbk
                        obtain ⟨q0k, q1k⟩ := HQ.out wr hb
                        by_cases hltk : k < n1
                        · have HF := hid_ (HFo.out wr hb Hg.out k j (by rw [Hl1.out]; exact hltk) (by rw [Hl1.out]; exact hltj))
                          have hfi := follV_in Hg.out (k := k) (j := j) (by rw [Hl1.out]; exact hltk) (by rw [Hl1.out]; exact hltj)
                          have Hsk := hid_ (fun hx => lt_snoc (p := fun k' => 0 ≤ follV L k' j → ¬ pv P fr k' + follV L k' j + cost < y) hall3 hx)
                          have Hbad := hid_ (fun h1 h2 => Hno.out (Hnoo.out k hltk h1 h2))
                          have Harm3 := hid_ (fun W hW => Harm2.out W hW k hltk)
                          have Hbk := hid_ hbk
                          obtain ⟨p1, p2⟩ := Hpf.out k hltk
                          clear hall3
                          generalize follV L k j = f at *
                          generalize pv P fr k = p at *
                          by_cases hf : 0 ≤ f
                          · have hfd : decide (f ≥ 0) = true := decide_eq_true hf
                            have hw1 : IntKind.i64.wrap (p + f) = p + f := IntWalk.i64_in _ (by omega)
                            have hw2 : IntKind.i64.wrap (p + f + cost) = p + f + cost := IntWalk.i64_in _ (by omega)
                            by_cases hlg : p + f + cost < y
                            · have hgt : decide (y > p + f + cost) = true := decide_eq_true hlg
                              have HR := hid_ (Hbad.out hf hlg)
                              go_wp2_with (go_at_call 50; (with_reducible refine HF.out.mono ?_); rintro e w5 ⟨rfl, hb5'⟩; have hb5 := below_then8 hb hb5'; obtain ⟨q5, r5⟩ := HQ.out w5 hb5; obtain ⟨bp, op, br, offr, cr, rfl, s0, s1⟩ := Harm.out w5 hb5; obtain ⟨bp2, op2, br2, offr2, cr2, e2, s2, s3⟩ := Harm3.out w5 hb5; injection e2 with e2; injection e2 with e2 e3; subst e2; subst e3; have k2c := Hk2.out w5 (below_then8 Hbk.out hb5'))
                              go_wp2_with fail
                              go_quiet (fail)
                              go_wp2
                              go_ret3
                              exact ⟨by rw [HR.out.1, HR.out.2]; rfl, Hc1.out.trans ((below_drewN hb5 _).mono Hc1.out.size)⟩
                            · have hgt : decide (y > p + f + cost) = false := decide_eq_false hlg
                              have Hn := hid_ (Hsk.out (fun _ => hlg))
                              go_wp2_with (go_at_call 50; (with_reducible refine HF.out.mono ?_); rintro e w5 ⟨rfl, hb5'⟩; have hb5 := below_then8 hb hb5'; obtain ⟨q5, r5⟩ := HQ.out w5 hb5; obtain ⟨bp, op, br, offr, cr, rfl, s0, s1⟩ := Harm.out w5 hb5; obtain ⟨bp2, op2, br2, offr2, cr2, e2, s2, s3⟩ := Harm3.out w5 hb5; injection e2 with e2; injection e2 with e2 e3; subst e2; subst e3; have k2c := Hk2.out w5 (below_then8 Hbk.out hb5'))
                              go_wp2_with fail
                              go_quiet (fail)
                              go_wp2
                              go_roundw
                              case rel => exact ⟨k + 1, by omega, by go_num, fun k' h1 h2 => Int.not_lt.2 (Hn.out k' h1 h2), below_drewN (below_then8 Hbk.out hb5') _⟩
                              case measure => simp [intOf]; omega
                          · have hfd : decide (f ≥ 0) = false := decide_eq_false hf
                            have Hn := hid_ (Hsk.out (fun h => absurd h hf))
                            go_wp2_with (go_at_call 50; (with_reducible refine HF.out.mono ?_); rintro e w5 ⟨rfl, hb5'⟩)
                            go_wp2_with fail
                            go_quiet (fail)
                            go_wp2
                            go_roundw
                            case rel => exact ⟨k + 1, by omega, by go_num, fun k' h1 h2 => Int.not_lt.2 (Hn.out k' h1 h2), below_drewN (below_then8 Hbk.out hb5') _⟩
                            case measure => simp [intOf]; omega
                        · obtain rfl : n1 = k := by omega
                          have Hn := hid_ (Hsn.out (Hyes.out (fun k' h1 h2 => Int.not_lt.1 (hall3 k' h1 h2))))
                          go_wp2
                          go_roundw
                          case rel => exact ⟨j + 1, by omega, by go_num, Hn.out, hb⟩
                          case measure => simp [intOf]; omega
                · obtain rfl : n1 = j := by omega
                  have Hn := hid_ (lt_snoc (p := fun i' => ∀ j, j < n1 → okE L t P i' j = true) Hall.out hall2)
                  go_wp2
                  go_roundw
                  case rel => exact ⟨i + 1, by omega, by go_num, Hn.out, hb⟩
                  case measure => simp [intOf]; omega
            · obtain rfl : n' = i := by omega
              have HR := hid_ (H0.out (HYes.out Hall.out))
              obtain ⟨q0r, q1r⟩ := HQ.out wr hb
              have HWo := hid_ HWt.out
              have htt : (n : Int) = (n : Int) := rfl
              by_cases h0 : n = 0
              · have hz : ((n : Int) == 0) = true := by simp [h0]
                have HW' := hid_ (HWt.out.trans (if_pos h0))
                clear h0
                go_wp2
                go_ret3
                exact ⟨by rw [HR.out.1, HR.out.2, HW'.out]; rfl, Hc1.out.trans (hb.mono Hc1.out.size)⟩
              · have hz : ((n : Int) == 0) = false := by simpa using (fun e : (n : Int) = 0 => h0 (by omega))
                have HW' := hid_ (HWt.out.trans (if_neg h0))
                have hnn2 : n < n' := by have := Hnn.out; omega
                clear h0
                rw [Hl1.out] at HW'
                obtain ⟨wo, hwo⟩ : ∃ wo, wr = wo := ⟨_, rfl⟩
                have Hb0 := hid_ hb
                rw [hwo] at Hb0
                clear hb q0r q1r htt
                go_wp2
                go_loopw [17, 18, 19] (fun xv bv jv wr' => ∃ (j : Nat) (x : Int) (b : Bool), j ≤ n1 ∧ wP L t (P.getD n []) j = (x, b) ∧ xv = .int .i64 x ∧ bv = .bool b ∧ jv = .int .i64 j ∧ Below wo.heap.size wo wr') (fun _ _ jv _ => n1 - (intOf jv).toNat)
                case atStart => exact ⟨0, 0, false, Nat.zero_le _, rfl, rfl, rfl, rfl, by first | exact Below.refl _ _ | (rw [hwo]; exact Below.refl _ _)⟩
                case round =>
                  obtain ⟨j, x, b, hj, hB, rfl, rfl, rfl, hbj⟩ := hrel
                  have hb := below_then8 Hb0.out hbj
                  obtain ⟨q0r, q1r⟩ := HQ.out wr hb
                  have HB := hid_ hB
                  clear hB
                  by_cases hltj : j < n1
                  · obtain ⟨bi, off, a3, n3, c3, e3, -, k0, k1, k2, hiw⟩ := (HIt.out wr hb).cells j hltj
                    have hwl : ln L j = n3 := hiw.len
                    have hge2 : n3 ≤ 6 := by rw [← hiw.len]; exact (Hg.out.word j (by rw [Hl1.out]; exact hltj)).2.1
                    obtain ⟨bp, op, ar, nr, cr, ea, -, hcP, hrow⟩ := (HL.out wr hb).cells n hnn2
                    obtain rfl : nr = n1 := by rw [← Hrow.out n hnn2, hrow.len]
                    obtain ⟨br, offr, er, -, hck⟩ := hrow.cells j hltj
                    subst e3; subst ea; subst er
                    obtain ⟨z, hz2⟩ : ∃ z : Int, (n : Int) - (n3 : Int) = z := ⟨_, rfl⟩
                    have hwf : IntKind.i64.wrap ((n : Int) - (n3 : Int)) = z := by rw [hz2]; exact IntWalk.i64_in _ (by omega)
                    have HCr := hid_ (fun d os => HCo.out (Go.Sort.grow (redrawn wr d) os) (hb.trans ((below_regrown wr d os).mono hb.size)) Hg.out n j z (by rw [Hl1.out]; exact hltj) (Nat.le_refl _) (by omega) (by rw [hwl]; exact hz2))
                    have hy := wP_yes HB.out
                    have hno := wP_no HB.out
                    have hno' := fun (hbb : b = true) => wP_no' (hbb ▸ HB.out)
                    rw [Htl.out] at hy hno
                    have gA := cell_regrown q0r; have gB := cell_regrown q1r; have gI := cell_regrown k0
                    have Hbj := hid_ hbj
                    generalize (P.getD n []).getD j 0 = y at *
                    clear hiw hrow hz2 hwl hbj hb
                    cases hx : endB L t n j with
                    | false =>
                      simp only [hx] at HCr
                      have Hn := hid_ (hno hx)
                      clear hx hy hno hno'
                      go_wp2_with fail
                      refine wp_region_quiet_below (by kernel_rfl) (by kernel_rfl) ?_
                      repeat (first | go_big_quiet_skip | (go_big_quiet_want; go_big_quiet_op; first | go_big_quiet_on | go_big_quiet_call ((go_at_call 57; with_reducible exact Calls.regrown_of (HCr.out _ _)))))
                      refine wpQuiet_nil ?_
                      rintro wq ⟨pq, hpq⟩
                      have Hbq := hid_ (below_wq hpq)
                      clear hpq gA gB gI
                      go_wp2
                      go_roundw
                      case rel => exact ⟨j + 1, x, b, by omega, Hn.out, rfl, rfl, by go_num, Hbj.out.trans (Hbq.out.mono Hbj.out.size)⟩
                      case measure => simp [intOf]; omega
                    | true =>
                      simp only [hx] at HCr
                      cases b with
                      | false =>
                        have Hn := hid_ (hy hx (.inl rfl))
                        clear hx hy hno hno'
                        go_wp2_with fail
                        refine wp_region_quiet_below (by kernel_rfl) (by kernel_rfl) ?_
                        repeat (first | go_big_quiet_skip | (go_big_quiet_want; go_big_quiet_op; first | go_big_quiet_on | go_big_quiet_call ((go_at_call 57; with_reducible exact Calls.regrown_of (HCr.out _ _)))))
                        refine wpQuiet_nil ?_
                        rintro wq ⟨pq, hpq⟩
                        have Hbq := hid_ (below_wq hpq)
                        clear hpq gA gB gI
                        go_wp2
                        go_roundw
                        case rel => exact ⟨j + 1, y, true, by omega, Hn.out, rfl, rfl, by go_num, Hbj.out.trans (Hbq.out.mono Hbj.out.size)⟩
                        case measure => simp [intOf]; omega
                      | true =>
                        by_cases hlg : y < x
                        · have Hn := hid_ (hy hx (.inr hlg))
                          clear hx hy hno hno'
                          go_wp2_with fail
                          refine wp_region_quiet_below (by kernel_rfl) (by kernel_rfl) ?_
                          repeat (first | go_big_quiet_skip | (go_big_quiet_want; go_big_quiet_op; first | go_big_quiet_on | go_big_quiet_call ((go_at_call 57; with_reducible exact Calls.regrown_of (HCr.out _ _)))))
                          refine wpQuiet_nil ?_
                          rintro wq ⟨pq, hpq⟩
                          have Hbq := hid_ (below_wq hpq)
                          clear hpq gA gB gI
                          go_wp2
                          go_roundw
                          case rel => exact ⟨j + 1, y, true, by omega, Hn.out, rfl, rfl, by go_num, Hbj.out.trans (Hbq.out.mono Hbj.out.size)⟩
                          case measure => simp [intOf]; omega
                        · have Hn := hid_ (hno' rfl hlg)
                          clear hx hy hno hno'
                          go_wp2_with fail
                          refine wp_region_quiet_below (by kernel_rfl) (by kernel_rfl) ?_
                          repeat (first | go_big_quiet_skip | (go_big_quiet_want; go_big_quiet_op; first | go_big_quiet_on | go_big_quiet_call ((go_at_call 57; with_reducible exact Calls.regrown_of (HCr.out _ _)))))
                          refine wpQuiet_nil ?_
                          rintro wq ⟨pq, hpq⟩
                          have Hbq := hid_ (below_wq hpq)
                          clear hpq gA gB gI
                          go_wp2
                          go_roundw
                          case rel => exact ⟨j + 1, x, true, by omega, Hn.out, rfl, rfl, by go_num, Hbj.out.trans (Hbq.out.mono Hbj.out.size)⟩
                          case measure => simp [intOf]; omega
                  · obtain rfl : n1 = j := by omega
                    go_wp2
                    go_ret3
                    exact ⟨by rw [HR.out.1, HR.out.2, HW'.out, HB.out]; rfl, Hc1.out.trans (hb.mono Hc1.out.size)⟩
    · have hq : (((n' : Nat) : Int) != (n : Int) + 1) = true := by simpa using (fun e : (n' : Int) = (n : Int) + 1 => hnn (by omega))
      have HRr := hid_ (H1e.out (HRo.out.trans (by rw [rowsB, HPl.out, decide_eq_false (by omega), Bool.and_false])))
      clear hnn
      go_enter Try.func24, Try.ntmps24
      go_wp2_with (go_at_call 45; (with_reducible refine HV.out.mono ?_); rintro e w2 ⟨rfl, hb2⟩)
      go_ret3
      exact ⟨by rw [HRr.out.1, HRr.out.2]; rfl, Hc1.out.trans (hb2.mono Hc1.out.size)⟩
  · have hq : (textE L t != 0) = true := by simpa using he
    have HE : Hid (proofE L t P = textE L t) := hid_ (by unfold proofE; rw [if_neg he])
    have HR' : Hid (prfP L t P = (0, false)) := hid_ (by unfold prfP; rw [HE.out, if_neg he])
    generalize prfP L t P = R at *
    generalize proofE L t P = E at *
    generalize textE L t = x at *
    clear he
    go_enter Try.func24, Try.ntmps24
    go_wp2_with (go_at_call 45; (with_reducible refine HV.out.mono ?_); rintro e w2 ⟨rfl, hb2⟩)
    go_ret3
    exact ⟨by rw [HR'.out, HE.out]; rfl, Hc1.out.trans (hb2.mono Hc1.out.size)⟩
end Go.Proofs.Ytpcpmdokgdbonaa
