import Derived.Test.YtnpdhmejnoplcaaMc
import Derived.Test.YtnpdhmejnoplcaaRs
import Derived.Test.YtnpdhmejnoplcaaRn
import Derived.Deep.RegionHeld3
namespace Go.Proofs.Ytnpdhmejnoplcaa
open Go.RowKit Go.Proofs.Kv

/-! ### the reference's Gain -/
theorem gain_ref_no {R S : Rl} {l : List Int} {p : Int} (h : errTwo R S ≠ 0) : errGain R S l p = errTwo R S ∧ resGain R S l p = 0 := by
  have : errGain R S l p = errTwo R S := by rw [errGain, if_neg h]
  exact ⟨this, by rw [resGain, this, if_neg h]⟩
set_option maxRecDepth 100000 in
set_option maxHeartbeats 4000000 in
theorem r2Gain_calls (v u : Value) (R S : Rl) (a : Option Addr) (n c : Nat) (l : List Int) (p : Int) (w : World) (hr : RuleAt w v R) (hs : RuleAt w u S) (h : IntsAt w a n c l) :
    Calls Try.prog 56 #[v, u, .slice a n c, .int .i64 p] w fun e w' => e = .returned (.tuple #[.int .i64 (resGain R S l p), .int .i64 (errGain R S l p)]) ∧ Below w.heap.size w w' := by
  have Hr := hid_ hr
  have Hs := hid_ hs
  obtain ⟨a1, n1, c1, a2, n2, c2, a3, n3, c3, rfl, h1, h2, h3⟩ := hr
  obtain ⟨b1, m1, d1, b2, m2, d2, b3, m3, d3, rfl, h4, h5, h6⟩ := hs
  obtain ⟨w0, hw0⟩ : ∃ w0, w.alloc (.cells #[.int .i64 R.f, .slice a1 n1 c1, .slice a2 n2 c2, .slice a3 n3 c3] 24) = w0 := ⟨_, rfl⟩
  have hz0 : w0.heap.size = w.heap.size + 1 := by rw [← hw0]; simp
  have Hb0 : Hid (Below w.heap.size w w0) := hid_ (by rw [← hw0]; exact below_alloc _ _)
  obtain ⟨w1, hw1⟩ : ∃ w1, w0.alloc (.cells #[.int .i64 S.f, .slice b1 m1 d1, .slice b2 m2 d2, .slice b3 m3 d3] 24) = w1 := ⟨_, rfl⟩
  have Hb01 : Hid (Below w0.heap.size w0 w1) := hid_ (by rw [← hw1]; exact below_alloc _ _)
  have Hb1 : Hid (Below w.heap.size w w1) := hid_ (Hb0.out.trans (Hb01.out.mono Hb0.out.size))
  have HW0 := hid_ hw0
  have HW1 := hid_ hw1
  have HZ0 := hid_ hz0
  have HZ1 : Hid (w1.heap.size = w.heap.size + 2) := hid_ (by rw [← hw1]; simp [HZ0.out])
  have HQ : Hid (∀ W, Below w1.heap.size w1 W → (W.cell? ⟨w.heap.size, 0, none⟩ = some (.int .i64 R.f) ∧ W.cell? ⟨w.heap.size, 1, none⟩ = some (.slice a1 n1 c1) ∧ W.cell? ⟨w.heap.size, 2, none⟩ = some (.slice a2 n2 c2) ∧ W.cell? ⟨w.heap.size, 3, none⟩ = some (.slice a3 n3 c3)) ∧ W.cell? ⟨w.heap.size + 1, 0, none⟩ = some (.int .i64 S.f) ∧ W.cell? ⟨w.heap.size + 1, 1, none⟩ = some (.slice b1 m1 d1) ∧ W.cell? ⟨w.heap.size + 1, 2, none⟩ = some (.slice b2 m2 d2) ∧ W.cell? ⟨w.heap.size + 1, 3, none⟩ = some (.slice b3 m3 d3)) := hid_ (fun W hW => ⟨box4 HW0.out (Hb01.out.trans (hW.mono Hb01.out.size)), by have := box4 HW1.out hW; rwa [HZ0.out] at this⟩)
  have HR := hid_ (fun W (hW : Below w1.heap.size w1 W) => (Hr.out.below Hb1.out (Nat.le_refl _)).below hW (Nat.le_refl _))
  have HS := hid_ (fun W (hW : Below w1.heap.size w1 W) => (Hs.out.below Hb1.out (Nat.le_refl _)).below hW (Nat.le_refl _))
  have hb1 : Below w1.heap.size w1 w1 := Below.refl _ _
  obtain ⟨⟨q0, q1, q2, q3⟩, s0, s1, s2, s3⟩ := HQ.out w1 hb1

  have HI := hid_ (fun W (hW : Below w1.heap.size w1 W) => (h.below Hb1.out (Nat.le_refl _)).below hW (Nat.le_refl _))
  have hnl := hid_ h.len
  clear h h1 h2 h3 h4 h5 h6
  have HT := hid_ (two_calls _ _ R S w1 (HR.out w1 hb1) (HS.out w1 hb1))
  by_cases he : errTwo R S = 0
  · have y1 : errGain R S l p = errApply R l p := by rw [errGain, if_pos he]
    have HA := hid_ (fun W hW => refApply_calls _ R a n c l p W (HR.out W hW) (HI.out W hW))
    have HG : Hid (resGain R S l p = if errApply R l p = 0 then ((plP S (resApply R l p)).length : Int) - (plP S l).length else 0) := hid_ (by rw [resGain, y1])
    obtain ⟨g1, -, -, -, -, -⟩ := validR_ok (errTwo_ok he).2
    rw [he] at HT
    rw [y1]
    by_cases ha : errApply R l p = 0
    · have HE : Hid (resGain R S l p = ((plP S (resApply R l p)).length : Int) - (plP S l).length) := hid_ (by rw [HG.out, if_pos ha])
      have e2 : err2 R l = 0 := by
        by_cases h2 : err2 R l = 0
        · exact h2
        · rw [errApply, if_neg h2] at ha; exact ha
      have k1 := (validW_ok (err2_ok e2).2).1
      have hn8 : n ≤ 8 := by rw [← hnl.out]; exact k1
      have z2 : (resApply R l p).length ≤ 8 := by
        have h3 : apE R l p = 0 := by rw [errApply, if_pos e2] at ha; exact ha
        rw [resApply, if_pos e2]
        exact (apV_ok h3 (validR_ok (err2_ok e2).1).2.2.2.1 (validW_ok (err2_ok e2).2).2).2
      have HP1 := hid_ (fun W hW a c (hi : IntsAt W a (resApply R l p).length c (resApply R l p)) => placesOf_calls _ S a _ c (resApply R l p) W (HS.out W hW) hi (by omega))
      have HP2 := hid_ (fun W hW => placesOf_calls _ S a n c l W (HS.out W hW) (HI.out W hW) (by omega))
      have p1 : pl (isPl S (resApply R l p)) ((resApply R l p).length + 1) = plP S (resApply R l p) := by rw [isPl_eq g1]; rfl
      have p2 : pl (isPl S l) (n + 1) = plP S l := by rw [isPl_eq g1, ← hnl.out]; rfl
      rw [p1] at HP1
      rw [p2] at HP2
      have hL1 : (plP S (resApply R l p)).length ≤ 9 := Nat.le_trans plP_len (by omega)
      have hL2 : (plP S l).length ≤ 9 := Nat.le_trans plP_len (by omega)
      rw [ha] at HA ⊢
      clear HG ha he y1 e2 k1 z2 p1 p2 g1
      generalize resGain R S l p = rg at *
      generalize plP S (resApply R l p) = P1 at *
      generalize plP S l = P2 at *
      generalize resApply R l p = m at *
      go_enter Try.func56, Try.ntmps56
      go_wp2_with (first
        | (go_at_call 133; ((with_reducible refine (HT.out).mono ?_); rintro e w5 ⟨rfl, hb5⟩; clear q0 q1 q2 q3 s0 s1 s2 s3; obtain ⟨⟨q0, q1, q2, q3⟩, s0, s1, s2, s3⟩ := HQ.out w5 hb5))
        | (go_at_call 39; (with_reducible refine (HA.out _ hb5).mono ?_); rintro e w6 ⟨v6, rfl, hm6⟩; have hb6 := hb5.trans (hm6.bel.mono hb5.size); clear q0 q1 q2 q3 s0 s1 s2 s3; obtain ⟨⟨q0, q1, q2, q3⟩, s0, s1, s2, s3⟩ := HQ.out w6 hb6; obtain ⟨a6, k6, rfl, hi6⟩ := hm6.at_; have Hx := hid_ hi6; clear hm6 hi6))
      have hbd : Below w1.heap.size w1 w6.drew := Below.drew hb6
      have HSq := hid_ (fun W (hW : Below w6.heap.size w6 W) => (⟨(HQ.out W (hb6.trans (hW.mono hb6.size))).2, hW⟩ : (W.cell? ⟨w.heap.size + 1, 0, none⟩ = some (.int .i64 S.f) ∧ W.cell? ⟨w.heap.size + 1, 1, none⟩ = some (.slice b1 m1 d1) ∧ W.cell? ⟨w.heap.size + 1, 2, none⟩ = some (.slice b2 m2 d2) ∧ W.cell? ⟨w.heap.size + 1, 3, none⟩ = some (.slice b3 m3 d3)) ∧ Below w6.heap.size w6 W))
      have hbd6 : Below w6.heap.size w6 w6.drew := Below.drew (Below.refl _ _)
      have hwr : IntKind.i64.wrap ((P1.length : Int) - (P2.length : Int)) = (P1.length : Int) - (P2.length : Int) := IntWalk.i64_in _ (by omega)
      go_region_held3 (fun W => (W.cell? ⟨w.heap.size + 1, 0, none⟩ = some (.int .i64 S.f) ∧ W.cell? ⟨w.heap.size + 1, 1, none⟩ = some (.slice b1 m1 d1) ∧ W.cell? ⟨w.heap.size + 1, 2, none⟩ = some (.slice b2 m2 d2) ∧ W.cell? ⟨w.heap.size + 1, 3, none⟩ = some (.slice b3 m3 d3)) ∧ Below w6.heap.size w6 W) ((refine HSq.out _ ?_; assumption))
        (first
          | ((go_at_call 112; (with_reducible refine (HP1.out _ hbd _ _ (Hx.out.below hbd6 (Nat.le_refl _))).mono ?_); rintro e w9 ⟨v9, rfl, hm9⟩; have hb9 := hbd6.trans (hm9.bel.mono hbd6.size); have hb91 := hbd.trans (hm9.bel.mono hbd.size); obtain ⟨a9, k9, rfl, hi9⟩ := hm9.at_; have hl9 := hid_ hi9.small; clear hm9 hi9))
          | ((go_at_call 112; (with_reducible refine (HP2.out _ hb91).mono ?_); rintro e w10 ⟨v10, rfl, hm10⟩; have hb10 := hb9.trans (hm10.bel.mono hb9.size); have hb101 := hb91.trans (hm10.bel.mono hb91.size); obtain ⟨a10, k10, rfl, hi10⟩ := hm10.at_; clear hm10 hi10)))
      go_wp2
      go_ret2
      exact ⟨by rw [HE.out]; rfl, Hb1.out.trans (hb101.mono Hb1.out.size)⟩
    · have HE : Hid (resGain R S l p = 0) := hid_ (by rw [HG.out, if_neg ha])
      have hqa : (errApply R l p != 0) = true := by simpa using ha
      clear HG ha he y1 g1
      generalize resGain R S l p = rg at *
      generalize errApply R l p = x0 at *
      generalize resApply R l p = m at *
      go_enter Try.func56, Try.ntmps56
      go_wp2_with (first
        | (go_at_call 133; ((with_reducible refine (HT.out).mono ?_); rintro e w5 ⟨rfl, hb5⟩; clear q0 q1 q2 q3 s0 s1 s2 s3; obtain ⟨⟨q0, q1, q2, q3⟩, s0, s1, s2, s3⟩ := HQ.out w5 hb5))
        | (go_at_call 39; (with_reducible refine (HA.out _ hb5).mono ?_); rintro e w6 ⟨v6, rfl, hm6⟩; have hb6 := hb5.trans (hm6.bel.mono hb5.size); clear q0 q1 q2 q3 s0 s1 s2 s3; obtain ⟨⟨q0, q1, q2, q3⟩, s0, s1, s2, s3⟩ := HQ.out w6 hb6; obtain ⟨a6, k6, rfl, hi6⟩ := hm6.at_; have Hx := hid_ hi6; clear hm6 hi6))
      go_ret2
      exact ⟨by rw [HE.out]; rfl, Hb1.out.trans (hb6.mono Hb1.out.size)⟩
  · obtain ⟨y1, y2⟩ := gain_ref_no (l := l) (p := p) he
    rw [y1, y2]
    have hq : (errTwo R S != 0) = true := by simpa using he
    generalize errTwo R S = er at *
    clear he y1 y2
    go_enter Try.func56, Try.ntmps56
    go_wp2_with (go_at_call 133; ((with_reducible refine (HT.out).mono ?_); rintro e w5 ⟨rfl, hb5⟩; clear q0 q1 q2 q3 s0 s1 s2 s3; obtain ⟨⟨q0, q1, q2, q3⟩, s0, s1, s2, s3⟩ := HQ.out w5 hb5))
    go_ret2
    exact ⟨rfl, Hb1.out.trans (hb5.mono Hb1.out.size)⟩
end Go.Proofs.Ytnpdhmejnoplcaa
