import Derived.Test.YtdhmcmkpeaoigaaY6
import Derived.Test.YtdhmcmkpeaoigaaYy
namespace Go.Proofs.Ytdhmcmkpeaoigaa
open Go.RowKit Go.Proofs.Kv

theorem areR_mk {R : List Int} (h : ∀ i, i < R.length → 0 ≤ R.getD i 0 ∧ R.getD i 0 ≤ 2) : areR R = true := areR_yes rfl fun j hj => by
  have := h j hj
  generalize R.getD j 0 = y at *
  simp [Within]; omega
set_option maxRecDepth 100000 in
set_option maxHeartbeats 4000000 in
theorem r7Check_calls (a : Option Addr) (n c : Nat) (T : List (List Int)) (v : Value) (X : Tr) (p : Int) (ar : Option Addr) (m cr : Nat) (R : List Int) (w : World) (hT : ListsAt w a n c T) (h : TreeAt w v X) (hR : IntsAt w ar m cr R) :
    Calls Try.prog 41 #[.slice a n c, v, .int .i64 p, .slice ar m cr] w fun e w' => e = .returned (.tuple #[.int .i64 (valC T X p R : Nat), .int .i64 (errC T X p R)]) ∧ Below w.heap.size w w' := by
  have HP := hid_ h
  obtain ⟨a1, n1, c1, a2, n2, c2, rfl, h1, h2⟩ := h
  obtain ⟨w1, hw1⟩ : ∃ w1, w.alloc (.cells #[.slice a1 n1 c1, .slice a2 n2 c2] 45) = w1 := ⟨_, rfl⟩
  have cb : Below w.heap.size w w1 := by rw [← hw1]; exact below_alloc _ _
  have q0 : w1.cell? ⟨w.heap.size, 0, none⟩ = some (.slice a1 n1 c1) := by rw [← hw1]; exact cells_alloc _ _ _ 0
  have q1 : w1.cell? ⟨w.heap.size, 1, none⟩ = some (.slice a2 n2 c2) := by rw [← hw1]; exact cells_alloc _ _ _ 1
  have HP1 := hid_ (HP.out.below cb (Nat.le_refl _)); have Hc1 := hid_ cb
  have HT1 := hid_ (hT.below cb (Nat.le_refl _))
  have HR1 := hid_ (hR.below cb (Nat.le_refl _))
  have H1 := hid_ (h1.below cb (Nat.le_refl _))
  have H2 := hid_ (h2.below cb (Nat.le_refl _))
  have HV := hid_ (treed_calls a n c T _ X w1 HT1.out HP1.out)
  have HU := hid_ (fun W (hW : Below w1.heap.size w1 W) => placed_calls a n c T p W (HT1.out.below hW (Nat.le_refl _)))
  have HVa : Hid (valC T X p R = if errC T X p R = 0 then chgR X R else 0) := hid_ rfl
  have HEr : errC T X p R = if errA T X p = 0 then (if R.length = X.par.length then (if areR R = true then (if misB T X p.toNat R = true then 7 else 0) else 1) else 1) else errA T X p := rfl
  have HAA := @errA_and T X p
  have L1 := hid_ h1.len
  have L2 := hid_ h2.len
  have LT := hid_ hT.len
  have LR := hid_ hR.len
  have hrl1 := Nat.le_trans h1.le h1.small
  have hrl2 := Nat.le_trans h2.le h2.small
  have hrm := Nat.le_trans hR.le hR.small
  rw [L1.out, LR.out] at HEr
  clear h1 h2 cb hT hR
  by_cases hb : errB T X = 0
  · rw [if_pos hb] at HAA
    rw [hb] at HV
    by_cases hf : placesE T [p] = 0
    · have he := HAA.trans hf
      rw [hf] at HU
      obtain ⟨gT, gX, hl, hp0, hp1⟩ := errA_ok he
      rw [if_pos he] at HEr
      clear he hb hf HAA
      by_cases hm : m = n1
      · rw [if_pos hm] at HEr
        have hq : ((m : Int) != (n1 : Int)) = false := by subst hm; simp
        obtain ⟨k, rfl⟩ := nat_of hp0
        rw [Int.toNat_natCast] at HEr
        have hp : k < n0 T := by omega
        have HANo := hid_ (fun k hk hh => @areR_no R k (by rw [LR.out]; exact hk) hh)
        have HAYes := hid_ (@areR_yes R m LR.out)
        have HHit := hid_ (fun j hj hh => @misB_hit T X k R j hj hh)
        have HNo := hid_ (@misB_no T X k R n LT.out)
        have HAt := hid_ (fun i (hi : i < n) => gX.at_ i (by rw [hl, LT.out]; exact hi))
        have HRl := hid_ (fun i (hi : i < n) => gT.len i (by rw [LT.out]; exact hi))
        have Hnx : Hid (∀ v, nodeX X v = (X.at_.getD v 0).toNat) := hid_ (fun v => rfl)
        have Hrd : Hid (∀ j, rdT T k j = (T.getD j []).getD k 0) := hid_ (fun v => rfl)
        have Hn21 : Hid (n2 = n) := hid_ (by rw [← L2.out, ← LT.out]; exact hl)
        have HPX := hid_ (fun v h0 (hv : v < n1) => parX_lt gX v h0 (by rw [L1.out]; exact hv))
        have HPar := hid_ (fun v h0 (hv : v < n1) => gX.par v h0 (by rw [L1.out]; exact hv))
        have Hpx : Hid (∀ v, parX X v = (X.par.getD v 0).toNat) := hid_ (fun v => rfl)
        have HC : Hid (chgR X R = chgI X R n1) := hid_ (by rw [chgR, L1.out]; rfl)
        have HS : Hid (∀ k, chgI X R (k + 1) = chgI X R k + if k = 0 then 0 else ne1 (R.getD k 0) (R.getD (parX X k) 0)) := hid_ (fun k => rfl)
        have HCl := hid_ (chgI_le X R)
        have HC1 : Hid (chgI X R 1 = 0) := hid_ rfl
        have g1 := gX.ge; have g16 := gX.le
        rw [L1.out] at g1 g16
        have HEr := hid_ HEr
        have hmm := hid_ hm
        clear gT gX hl hp0 hp1 hm
        generalize valC T X (k : Int) R = VC at *
        generalize errC T X (k : Int) R = EC at *
        rw [L1.out] at HAt
        generalize haa : areR R = aa at *
        clear haa
        go_enter Try.func41, Try.ntmps41
        go_wp2_with (first
          | (go_at_call 77; (with_reducible refine HV.out.mono ?_); rintro e w2 ⟨rfl, hb2⟩; have q02 := cell_below q0 hb2; have q12 := cell_below q1 hb2)
          | (go_at_call 61; (with_reducible refine (HU.out _ hb2).mono ?_); rintro e w3 ⟨rfl, q, rfl⟩; have hb3 := below_drewN hb2 q; obtain ⟨w4, hw4⟩ : ∃ w4, w2.drewN q = w4 := ⟨_, rfl⟩; rw [hw4] at hb3 ⊢; have q03 := cell_below q0 hb3; have q13 := cell_below q1 hb3; clear hw4 q02 q12))
        have Hb3 := hid_ hb3
        clear hb2 hb3
        go_loop [11] (fun i => ∃ j : Nat, j ≤ m ∧ i = .int .i64 j ∧ ∀ l, l < j → Within (R.getD l 0) 0 2 = true) (fun i => m - (intOf i).toNat)
        case atStart => exact ⟨0, Nat.zero_le _, rfl, fun _ h => absurd h (by omega)⟩
        case round =>
          obtain ⟨j, hj, rfl, hall⟩ := hrel
          have Hall := hid_ hall; clear hall
          by_cases hlt : j < m
          · obtain ⟨b, off, rfl, hb0, hcell⟩ := (HR1.out.below Hb3.out (Nat.le_refl _)).cells j hlt
            have hNo := HANo.out j hlt
            have hYes := fun hx => lt_snoc (p := fun j => Within (R.getD j 0) 0 2 = true) Hall.out hx
            generalize R.getD j 0 = y at hcell hNo hYes
            have HW := hid_ (within7_calls y 0 2 w4)
            generalize hz : Within y 0 2 = z at *
            clear hz
            cases z with
            | false =>
              have Hf := hid_ (hNo rfl)
              have HE1 : Hid (EC = 1) := hid_ (HEr.out.trans (if_neg (by rw [Hf.out]; decide)))
              have HV0 : Hid (VC = 0) := hid_ (by rw [HVa.out, HE1.out]; rfl)
              clear hNo hYes
              go_wp2_with (go_at_call 66; refine (HW.out).mono ?_; rintro e w' ⟨rfl, rfl⟩)
              go_ret2
              exact ⟨by rw [HE1.out, HV0.out]; rfl, Hc1.out.trans (Hb3.out.mono Hc1.out.size)⟩
            | true =>
              have Hf := hid_ (hYes rfl)
              clear hNo hYes
              go_wp2_with (go_at_call 66; refine (HW.out).mono ?_; rintro e w' ⟨rfl, rfl⟩)
              go_round
              case rel => exact ⟨j + 1, by omega, by go_num, Hf.out⟩
              case measure => simp [intOf]; omega
          · have hjm : j = m := by omega
            rw [hjm] at Hall
            have Haa := HAYes.out Hall.out
            have hEr := HEr.out
            rw [Haa, if_pos rfl] at hEr
            have HEr2 := hid_ hEr
            clear hjm Haa hEr
            go_wp2
            go_loopw [12] (fun i wr => ∃ (j q : Nat), j ≤ n ∧ i = .int .i64 j ∧ wr = w4.drewN q ∧ ∀ l, l < j → R.getD (nodeX X l) 0 = rdT T k l) (fun i _ => n - (intOf i).toNat)
            case atStart => exact ⟨0, 0, Nat.zero_le _, rfl, rfl, fun _ h => absurd h (by omega)⟩
            case round =>
              obtain ⟨j, q, hj, rfl, hq', hall⟩ := hrel
              have Hall2 := hid_ hall; have Hq := hid_ hq'
              have hbr : Below w1.heap.size w1 wr := by rw [hq']; exact below_drewN Hb3.out q
              have Hbr := hid_ hbr
              have q0r := cell_below q0 hbr
              have q1r := cell_below q1 hbr
              clear hall hq'
              by_cases hlt : j < n
              · have hjn2 : j < n2 := by rw [Hn21.out]; exact hlt
                obtain ⟨b, off, rfl, hb0, hcell⟩ := (H2.out.below hbr (Nat.le_refl _)).cells j hjn2
                obtain ⟨b1, off1, a3, n3, c3, rfl, hb1, hcell1, hrow⟩ := (HT1.out.below hbr (Nat.le_refl _)).cells j hlt
                have hpn : k < n3 := by rw [← hrow.len, HRl.out j hlt]; exact hp
                have hr3 := Nat.le_trans hrow.le hrow.small
                obtain ⟨b2, off2, rfl, hb2, hcell2⟩ := hrow.cells k hpn
                have hat := HAt.out j hlt
                have hnx := Hnx.out j
                generalize X.at_.getD j 0 = y at *
                obtain ⟨y, rfl⟩ := nat_of hat.1
                rw [Int.toNat_natCast] at hnx
                have hym : y < m := by have := hmm.out; omega
                obtain ⟨b3, off3, rfl, hb3, hcell3⟩ := (HR1.out.below hbr (Nat.le_refl _)).cells y hym
                rw [← Hrd.out] at hcell2
                have hhit := HHit.out j (by rw [LT.out]; exact hlt)
                have hno := fun hx => lt_snoc (p := fun l => R.getD (nodeX X l) 0 = rdT T k l) Hall2.out hx
                rw [hnx] at hhit hno
                generalize R.getD y 0 = s at *
                generalize rdT T k j = r at *
                clear hnx hrow hbr
                by_cases hsr : s = r
                · have Hf := hid_ (hno hsr)
                  have hqq : (s != r) = false := by simpa using hsr
                  clear hsr hno hhit
                  go_wp2_with fail
                  go_quiet (fail)
                  go_wp2
                  go_roundw
                  case rel => exact ⟨j + 1, _, by omega, by go_num, by rw [Hq.out, drewN2], Hf.out⟩
                  case measure => simp [intOf]; omega
                · have Hf := hid_ (hhit hsr)
                  have hqq : (s != r) = true := by simpa using hsr
                  have HE7 : Hid (EC = 7) := hid_ (HEr2.out.trans (if_pos Hf.out))
                  have HV0 : Hid (VC = 0) := hid_ (by rw [HVa.out, HE7.out]; rfl)
                  clear hsr hno hhit
                  go_wp2_with fail
                  go_quiet (fail)
                  go_wp2
                  go_ret2
                  exact ⟨by rw [HE7.out, HV0.out]; rfl, Hc1.out.trans ((below_drewN Hbr.out _).mono Hc1.out.size)⟩
              · have hjn : j = n := by omega
                rw [hjn] at Hall2
                have Hf := hid_ (HNo.out Hall2.out)
                have HE0 : Hid (EC = 0) := hid_ (HEr2.out.trans (if_neg (by rw [Hf.out]; decide)))
                have HV0 : Hid (VC = chgR X R) := hid_ (by rw [HVa.out, HE0.out]; rfl)
                clear hjn hbr
                go_wp2
                obtain ⟨ws, hws⟩ : ∃ ws, ws = wr := ⟨_, rfl⟩
                rw [← hws] at Hbr q0r q1r ⊢
                clear hws Hq
                go_loopw [13, 14] (fun v i wr => ∃ (j q : Nat), 1 ≤ j ∧ j ≤ m ∧ i = .int .i64 j ∧ v = .int .i64 (chgI X R j : Nat) ∧ wr = ws.drewN q) (fun _ i _ => m - (intOf i).toNat)
                case atStart => exact ⟨1, 0, Nat.le_refl _, by have := hmm.out; omega, rfl, by rw [HC1.out]; rfl, rfl⟩
                case round =>
                  obtain ⟨j, q, hj1, hj, rfl, rfl, hq'⟩ := hrel
                  have Hq := hid_ hq'
                  have hbw : Below w1.heap.size w1 wr := by rw [hq']; exact below_drewN Hbr.out q
                  have Hbw := hid_ hbw
                  have q0w := cell_below q0 hbw
                  have hcl := HCl.out j
                  have hs := HS.out j
                  clear hq'
                  by_cases hlt2 : j < m
                  · have hjn1 : j < n1 := by have := hmm.out; omega
                    rw [if_neg (by omega)] at hs
                    have hpl := HPX.out j (by omega) hjn1
                    have hpr := HPar.out j (by omega) hjn1
                    have hpx := Hpx.out j
                    obtain ⟨b, off, rfl, hb0, hcell⟩ := (H1.out.below hbw (Nat.le_refl _)).cells j hjn1
                    obtain ⟨b1, off1, rfl, hb1, hcell1⟩ := (HR1.out.below hbw (Nat.le_refl _)).cells j hlt2
                    obtain ⟨b2, off2, e, hb2, hcell2⟩ := (HR1.out.below hbw (Nat.le_refl _)).cells (parX X j) (by omega)
                    injection e with e; injection e with e1 e2; subst e1; subst e2
                    generalize X.par.getD j 0 = y at *
                    obtain ⟨y, rfl⟩ := nat_of hpr.1
                    rw [Int.toNat_natCast] at hpx
                    rw [hpx] at hcell2 hs hpl
                    generalize hz : chgI X R j = z at *
                    generalize R.getD j 0 = r at *
                    generalize R.getD y 0 = s at *
                    have hym : y < m := by omega
                    clear hpx hz hbw
                    by_cases hrs : r = s
                    · have hqq : (r != s) = false := by simpa using hrs
                      have hs' : chgI X R (j + 1) = z := by rw [hs, ne1, if_pos hrs, Nat.add_zero]
                      have Hs := hid_ hs'
                      clear hs hrs hs'
                      go_wp2_with fail
                      go_quiet (fail)
                      go_wp2
                      go_roundw
                      case rel => exact ⟨j + 1, _, by omega, by omega, by go_num, by rw [Hs.out], by rw [Hq.out, drewN2]⟩
                      case measure => simp [intOf]; omega
                    · have hqq : (r != s) = true := by simpa using hrs
                      have hs' : chgI X R (j + 1) = z + 1 := by rw [hs, ne1, if_neg hrs]
                      have Hs := hid_ hs'
                      clear hs hrs hs'
                      go_wp2_with fail
                      go_quiet (fail)
                      go_wp2
                      go_roundw
                      case rel => exact ⟨j + 1, _, by omega, by omega, by go_num, by rw [Hs.out]; go_num, by rw [Hq.out, drewN2]⟩
                      case measure => simp [intOf]; omega
                  · have hjn1 : j = n1 := by have := hmm.out; omega
                    have Hz : Hid (VC = chgI X R j) := hid_ (by rw [HV0.out, HC.out, hjn1])
                    clear hjn1 hs
                    generalize chgI X R j = z at *
                    go_wp2
                    go_ret2
                    exact ⟨by rw [HE0.out, Hz.out]; rfl, Hc1.out.trans (Hbw.out.mono Hc1.out.size)⟩
      · rw [if_neg hm] at HEr
        have hq : ((m : Int) != (n1 : Int)) = true := by simp; omega
        have HV0 : Hid (valC T X p R = 0) := hid_ (by rw [HVa.out, HEr]; rfl)
        rw [HEr, HV0.out]
        clear HEr HV0 HVa gT gX hl hp0 hp1 hm
        go_enter Try.func41, Try.ntmps41
        go_wp2_with (first
          | (go_at_call 77; (with_reducible refine HV.out.mono ?_); rintro e w2 ⟨rfl, hb2⟩; have q02 := cell_below q0 hb2; have q12 := cell_below q1 hb2)
          | (go_at_call 61; (with_reducible refine (HU.out _ hb2).mono ?_); rintro e w3 ⟨rfl, q, rfl⟩; have hb3 := below_drewN hb2 q))
        go_ret2
        exact ⟨rfl, Hc1.out.trans (hb3.mono Hc1.out.size)⟩
    · have he : ¬ errA T X p = 0 := by rw [HAA]; exact hf
      rw [if_neg he, HAA] at HEr
      have hq : (placesE T [p] != 0) = true := by simpa using hf
      have HV0 : Hid (valC T X p R = 0) := hid_ (by rw [HVa.out, HEr, if_neg hf])
      rw [HEr, HV0.out]
      clear HEr HV0 HVa he hf hb HAA
      generalize placesE T [p] = x at *
      go_enter Try.func41, Try.ntmps41
      go_wp2_with (first
        | (go_at_call 77; (with_reducible refine HV.out.mono ?_); rintro e w2 ⟨rfl, hb2⟩; have q02 := cell_below q0 hb2; have q12 := cell_below q1 hb2)
        | (go_at_call 61; (with_reducible refine (HU.out _ hb2).mono ?_); rintro e w3 ⟨rfl, q, rfl⟩; have hb3 := below_drewN hb2 q))
      go_ret2
      exact ⟨rfl, Hc1.out.trans (hb3.mono Hc1.out.size)⟩
  · rw [if_neg hb] at HAA
    have he : ¬ errA T X p = 0 := by rw [HAA]; exact hb
    rw [if_neg he, HAA] at HEr
    have hq : (errB T X != 0) = true := by simpa using hb
    have HV0 : Hid (valC T X p R = 0) := hid_ (by rw [HVa.out, HEr, if_neg hb])
    rw [HEr, HV0.out]
    clear HEr HV0 HVa he hb HAA
    generalize errB T X = x at *
    go_enter Try.func41, Try.ntmps41
    go_wp2_with (go_at_call 77; (with_reducible refine HV.out.mono ?_); rintro e w2 ⟨rfl, hb2⟩; have q02 := cell_below q0 hb2; have q12 := cell_below q1 hb2)
    go_ret2
    exact ⟨rfl, Hc1.out.trans (hb2.mono Hc1.out.size)⟩
end Go.Proofs.Ytdhmcmkpeaoigaa
