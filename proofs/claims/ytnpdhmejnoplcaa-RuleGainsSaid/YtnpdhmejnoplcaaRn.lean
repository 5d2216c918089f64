import Derived.Test.YtnpdhmejnoplcaaRm
import Derived.Test.YtnpdhmejnoplcaaPk
namespace Go.Proofs.Ytnpdhmejnoplcaa
open Go.RowKit Go.Proofs.Kv

/-! ### Along -/
set_option maxRecDepth 100000 in
set_option maxHeartbeats 4000000 in
theorem refAlong_calls (v : Value) (R : Rl) (a : Option Addr) (n c : Nat) (l : List Int) (w : World) (hr : RuleAt w v R) (h : IntsAt w a n c l) :
    Calls Try.prog 45 #[v, .slice a n c] w fun e w' => ∃ v', e = .returned (.tuple #[v', .int .i64 (errAlong R l)]) ∧ Made 3 w w' v' (resAlong R l) := by
  have Hr := hid_ hr
  obtain ⟨a1, n1, c1, a2, n2, c2, a3, n3, c3, rfl, h1, h2, h3⟩ := hr
  have Ho1 : Hid (R.o.length = n1) := hid_ h1.len
  clear h1 h2 h3
  obtain ⟨w1, hw1⟩ : ∃ w1, w.alloc (.cells #[.int .i64 R.f, .slice a1 n1 c1, .slice a2 n2 c2, .slice a3 n3 c3] 24) = w1 := ⟨_, rfl⟩
  have Hb1 : Hid (Below w.heap.size w w1) := hid_ (by rw [← hw1]; exact below_alloc _ _)
  obtain ⟨k0, k1, k2, k3⟩ := box4 hw1 (Below.refl _ _)
  have HW1 := hid_ hw1
  have HR1 := hid_ (fun W (hW : Below w1.heap.size w1 W) => (Hr.out.below Hb1.out (Nat.le_refl _)).below hW (Nat.le_refl _))
  have HI1 := hid_ (fun W (hW : Below w1.heap.size w1 W) => (h.below Hb1.out (Nat.le_refl _)).below hW (Nat.le_refl _))
  have HV := hid_ (asked_calls _ R a n c l w1 (HR1.out w1 (Below.refl _ _)) (HI1.out w1 (Below.refl _ _)))
  have Hlen := hid_ h.len
  clear h
  by_cases he : err2 R l = 0
  · have HF : Hid (resAlong R l = (alongP R l).getD []) := hid_ (if_pos he)
    have HE : Hid (errAlong R l = if (alongP R l).isSome then 0 else 3) := hid_ (if_pos he)
    have HA : Hid (alongP R l = alongF R (n + 1) l 0) := hid_ (by rw [alongP, Hlen.out])
    obtain ⟨e1, e2⟩ := err2_ok he
    obtain ⟨g1, g2, g3, g4, g5, g6⟩ := validR_ok e1
    obtain ⟨g7, g8⟩ := validW_ok e2
    have hn8 : n ≤ 8 := by rw [← Hlen.out]; exact g7
    have Hll := hid_ g7
    have HP := hid_ (fun W hW av N cv L (hI : IntsAt W av N cv L) (hN : N ≤ 100) (k : Int) => show Calls Try.prog 121 _ W (fun e w' => e = .returned (.bool (plB R.f R.le R.ri L k)) ∧ Below W.heap.size W w') from by have := isPlace_calls _ R av N cv L k W (HR1.out W hW) hI hN; rwa [isPl_eq g1] at this)
    have HPut := hid_ (fun W hW av N cv L (hI : IntsAt W av N cv L) (hN : N ≤ 1000) k (hfit : k + tkN R ≤ N) => putR_calls _ R av N cv L k W (HR1.out W hW) hI hN g1 g3 hfit)
    have hn12 : n1 ≤ 2 := by have := Ho1.out; omega
    have Hneg : Hid (tkN R = if R.f < 0 then 0 else 1) := hid_ (by unfold tkN; split <;> split <;> omega)
    rw [he] at HV
    clear he e1 e2 g1 g2 g3 g4 g5 g6 g7 g8
    go_enter Try.func45, Try.ntmps45
    go_wp2_with (first
      | (go_at_call 111; refine HV.out.mono ?_; rintro e w2 ⟨rfl, hb2⟩)
      | (at_builtin; refine wpList_copy_ints _ rfl (.tmp 15) (.tmp 16) rfl rfl _ _ _ _ rfl (HI1.out _ hb2) (by omega) ?_; intro v3 w3 hm3; have HM3 := hid_ hm3; clear hm3))
    have hown3 := own_base HM3.out.own hb2.size
    have hb3 : Below w1.heap.size w1 w3 := hb2.trans (HM3.out.bel.mono hb2.size)
    clear k0 k1 k2 k3
    go_loopg [7, 8] (n + 1) (fun g vv i wr => ∃ L : List Int, ∃ k : Nat, i = .int .i64 k ∧ g = L.length + 1 - k ∧ k ≤ L.length + 1 ∧ alongF R (L.length + 1 - k) L k = alongP R l ∧ L.length ≤ 8 ∧ wr.ownsRow w1.heap.size 3 1 vv L.length (L.map (Value.int .i64)) ∧ Below w1.heap.size w1 wr)
    case atStart => exact ⟨l, 0, rfl, by rw [Hlen.out]; omega, by omega, by rw [HA.out, Hlen.out, Nat.sub_zero], Hll.out, hown3, hb3⟩
    case round =>
      clear hown3
      obtain ⟨L, k, rfl, hgk, hk1, hrest, hL8, hown, hbel⟩ := hrel
      obtain ⟨av, cv, rfl, hI⟩ := IntsAt.own hown
      have Hgk := hid_ hgk; clear hgk
      have Hown := hid_ hown; clear hown
      have HI := hid_ hI; clear hI
      have hsz := hbel.size
      obtain ⟨q0, q1, q2, q3⟩ := box4 HW1.out hbel
      by_cases hlt : k ≤ L.length
      · obtain ⟨m, hm⟩ : ∃ m, L.length + 1 - k = m + 1 := ⟨L.length - k, by omega⟩
        rw [hm, alongF] at hrest
        have Hm := hid_ hm; clear hm
        have Hc := hid_ (HP.out wr hbel av L.length cv L HI.out (by omega) k)
        have hki : (k : Int) ≤ (L.length : Int) := by omega
        cases hh : plB R.f R.le R.ri L k with
        | false =>
          rw [hh] at Hc hrest
          have Hrest := hid_ hrest; clear hrest
          have hk8 : k ≤ 8 := by omega
          have Hlt := hid_ hlt
          have HL8 := hid_ hL8
          clear hh hlt hL8
          generalize hN : L.length = N at *
          have HN := hid_ hN; clear hN
          go_wp2_with (go_at_call 121; refine (Hc.out).mono ?_; rintro e w' ⟨rfl, hbc⟩)
          go_roundg m
          case rel => exact ⟨L, k + 1, by go_num, by have := Hm.out; have := HN.out; omega, by have := HN.out; have := Hlt.out; omega, by rw [show L.length + 1 - (k + 1) = m by have := Hm.out; have := HN.out; omega]; exact Hrest.out, by rw [HN.out]; exact HL8.out, by rw [HN.out]; exact own_grown Hown.out hbc, hbel.trans (hbc.mono hsz)⟩
          case measure => have := Hgk.out; have := Hm.out; omega
        | true =>
          have hfit := pl_fit hh
          rw [hh] at Hc hrest
          simp only [if_true] at hrest
          have hplen := putL_length (o := R.o) (show k ≤ k + tkN R by omega) hfit
          have Hput := hid_ (fun W hW hI => HPut.out W hW av L.length cv L hI (by omega) k hfit)
          have hk8 : k ≤ 8 := by omega
          have htk1 : tkN R ≤ 1 := by unfold tkN; split <;> omega
          have hn1' := Ho1.out
          have hnx : (putL L k (k + tkN R) R.o).length + 1 - (k + R.o.length + 1 - tkN R) = m := by
            rw [hplen]; have := Hm.out; omega
          have hnx2 : k + R.o.length + 1 - tkN R ≤ (putL L k (k + tkN R) R.o).length + 1 := by rw [hplen]; omega
          generalize hLL : putL L k (k + tkN R) R.o = LL at *
          clear hLL hplen
          by_cases h8 : 8 < LL.length
          · rw [if_pos h8] at hrest
            have Hrest := hid_ hrest
            have hL8' : (8 : Int) < (LL.length : Int) := by omega
            clear hrest hnx hnx2 hfit hh hlt hL8 htk1 hn1'
            generalize hN : L.length = N at *
            clear hN
            go_wp2_with (first
              | (go_at_call 121; refine Hc.out.mono ?_; rintro e w8 ⟨rfl, hbc⟩; have hb18 := hbel.trans (hbc.mono hsz); obtain ⟨t0, t1, t2, t3⟩ := box4 HW1.out hb18)
              | (go_at_call 123; refine (Hput.out w8 hb18 (HI.out.below hbc (Nat.le_refl _))).mono ?_; rintro e w10 ⟨v10, rfl, hm10⟩; obtain ⟨a10, c10, rfl, hi10⟩ := hm10.at_; clear hi10; have hb10 := hb18.trans (hm10.bel.mono hb18.size); clear hm10))
            go_ret2
            exact ⟨_, by rw [HE.out, ← Hrest.out] <;> rfl, by rw [HF.out, ← Hrest.out]; exact Made.none_ _ (Hb1.out.trans (hb10.mono Hb1.out.size))⟩
          · rw [if_neg h8] at hrest
            have Hrest := hid_ hrest
            have hL8' : ¬ (8 : Int) < (LL.length : Int) := by omega
            have Hnx := hid_ hnx; have Hnx2 := hid_ hnx2; have H8 := hid_ h8
            by_cases hneg : R.f < 0
            · have Hnum : Hid (((k : Int) + (n1 : Int) + 1) = ((k + R.o.length + 1 - tkN R : Nat) : Int)) := hid_ (by have := Hneg.out; rw [if_pos hneg] at this; omega)
              clear hrest hnx hnx2 hfit hh hlt hL8 htk1 hn1'
              generalize hN : L.length = N at *
              clear hN
              have hx1 : IntKind.i64.wrap ((k : Int) + (n1 : Int)) = (k : Int) + (n1 : Int) := IntWalk.i64_in _ (by omega)
              have hx2 : IntKind.i64.wrap ((k : Int) + (n1 : Int) + 1) = (k : Int) + (n1 : Int) + 1 := IntWalk.i64_in _ (by omega)
              go_wp2_with (first
                | (go_at_call 121; refine Hc.out.mono ?_; rintro e w8 ⟨rfl, hbc⟩; have hb18 := hbel.trans (hbc.mono hsz); obtain ⟨t0, t1, t2, t3⟩ := box4 HW1.out hb18)
                | (go_at_call 123; refine (Hput.out w8 hb18 (HI.out.below hbc (Nat.le_refl _))).mono ?_; rintro e w10 ⟨v10, rfl, hm10⟩; have Hown10 := hid_ (own_base hm10.own hb18.size); obtain ⟨a10, c10, rfl, hi10⟩ := hm10.at_; clear hi10; have hb10 := hb18.trans (hm10.bel.mono hb18.size); clear hm10; obtain ⟨u0, u1, u2, u3⟩ := box4 HW1.out hb10))
              go_roundg m
              case rel => exact ⟨LL, k + R.o.length + 1 - tkN R, by rw [← Hnum.out], Hnx.out.symm, Hnx2.out, by rw [Hnx.out]; exact Hrest.out, by have := H8.out; omega, Hown10.out, hb10⟩
              case measure => have := Hgk.out; have := Hm.out; omega
            · have Hnum : Hid (((k : Int) + (n1 : Int)) = ((k + R.o.length + 1 - tkN R : Nat) : Int)) := hid_ (by have := Hneg.out; rw [if_neg hneg] at this; omega)
              clear hrest hnx hnx2 hfit hh hlt hL8 htk1 hn1'
              generalize hN : L.length = N at *
              clear hN
              have hx1 : IntKind.i64.wrap ((k : Int) + (n1 : Int)) = (k : Int) + (n1 : Int) := IntWalk.i64_in _ (by omega)
              go_wp2_with (first
                | (go_at_call 121; refine Hc.out.mono ?_; rintro e w8 ⟨rfl, hbc⟩; have hb18 := hbel.trans (hbc.mono hsz); obtain ⟨t0, t1, t2, t3⟩ := box4 HW1.out hb18)
                | (go_at_call 123; refine (Hput.out w8 hb18 (HI.out.below hbc (Nat.le_refl _))).mono ?_; rintro e w10 ⟨v10, rfl, hm10⟩; have Hown10 := hid_ (own_base hm10.own hb18.size); obtain ⟨a10, c10, rfl, hi10⟩ := hm10.at_; clear hi10; have hb10 := hb18.trans (hm10.bel.mono hb18.size); clear hm10; obtain ⟨u0, u1, u2, u3⟩ := box4 HW1.out hb10))
              go_roundg m
              case rel => exact ⟨LL, k + R.o.length + 1 - tkN R, by rw [← Hnum.out], Hnx.out.symm, Hnx2.out, by rw [Hnx.out]; exact Hrest.out, by have := H8.out; omega, Hown10.out, hb10⟩
              case measure => have := Hgk.out; have := Hm.out; omega
      · have hkn : L.length + 1 - k = 0 := by omega
        rw [hkn, alongF] at hrest
        have Hrest := hid_ hrest; clear hrest
        have hki : ¬ (k : Int) ≤ (L.length : Int) := by omega
        clear hL8 hkn hlt
        generalize hN : L.length = N at *
        have HN := hid_ hN; clear hN
        go_wp2
        go_ret2
        exact ⟨_, by rw [HE.out, ← Hrest.out] <;> rfl, by rw [HF.out, ← Hrest.out]; exact ⟨by rw [Option.getD_some, HN.out]; exact own_base Hown.out Hb1.out.size, Hb1.out.trans (hbel.mono Hb1.out.size)⟩⟩
  · have HE : Hid (errAlong R l = err2 R l) := hid_ (if_neg he)
    have HF : Hid (resAlong R l = []) := hid_ (if_neg he)
    generalize err2 R l = er at *
    have hq : (er != 0) = true := by simpa using he
    clear he
    go_enter Try.func45, Try.ntmps45
    go_wp2_with (go_at_call 111; refine HV.out.mono ?_; rintro e w4 ⟨rfl, hb2⟩)
    go_ret2
    exact ⟨_, by rw [HE.out] <;> rfl, by rw [HF.out]; exact Made.none_ _ (Hb1.out.trans (hb2.mono Hb1.out.size))⟩
end Go.Proofs.Ytnpdhmejnoplcaa
