import Derived.Test.YtnpdhmejnoplcaaRk
import Derived.Test.YtnpdhmejnoplcaaLe
import Derived.Test.YtnpdhmejnoplcaaPj
namespace Go.Proofs.Ytnpdhmejnoplcaa
open Go.RowKit Go.Proofs.Kv

/-! ### all, AtAll -/
theorem putAll_drop {R : Rl} {P l : List Int} {j : Nat} (hj : j < P.length) : putAll R (P.drop j) l = putL (putAll R (P.drop (j + 1)) l) (P.getD j 0).toNat ((P.getD j 0).toNat + tkN R) R.o := by
  rw [List.drop_eq_getElem_cons hj]
  show putL _ _ _ _ = _
  rw [List.getD, List.getElem?_eq_getElem hj]
  rfl
theorem putAll_fitD {R : Rl} {P l : List Int} {j : Nat} (h : PutOk R P l) (hj : j < P.length) : (P.getD j 0).toNat + tkN R ≤ (putAll R (P.drop (j + 1)) l).length := by
  have := h.drop j
  rw [List.drop_eq_getElem_cons hj] at this
  have h2 := putAll_fit this
  rw [List.getD, List.getElem?_eq_getElem hj]
  exact h2
theorem putAll_len {R : Rl} {P l : List Int} {j : Nat} (h : PutOk R P l) (ho : R.o.length ≤ 2) : (putAll R (P.drop j) l).length ≤ l.length + P.length * 2 := by
  have h1 := (putAll_bd (h.drop j)).2.1
  have h2 : (P.drop j).length ≤ P.length := by rw [List.length_drop]; omega
  have h3 : (P.drop j).length * R.o.length ≤ P.length * 2 := Nat.mul_le_mul h2 ho
  omega
set_option maxRecDepth 100000 in
set_option maxHeartbeats 4000000 in
theorem refAll_calls (v : Value) (R : Rl) (a : Option Addr) (n c : Nat) (l : List Int) (w : World) (hr : RuleAt w v R) (h : IntsAt w a n c l) (hn : n ≤ 100) (hf : -1 ≤ R.f) (ho : R.o.length ≤ 2) :
    Calls Try.prog 125 #[v, .slice a n c] w fun e w' => ∃ v', e = .returned v' ∧ Made 3 w w' v' (putAll R (plP R l) l) := by
  have Hr := hid_ hr
  obtain ⟨a1, n1, c1, a2, n2, c2, a3, n3, c3, rfl, h1, h2, h3⟩ := hr
  clear h1 h2 h3
  obtain ⟨w1, hw1⟩ : ∃ w1, w.alloc (.cells #[.int .i64 R.f, .slice a1 n1 c1, .slice a2 n2 c2, .slice a3 n3 c3] 24) = w1 := ⟨_, rfl⟩
  have Hb1 : Hid (Below w.heap.size w w1) := hid_ (by rw [← hw1]; exact below_alloc _ _)
  obtain ⟨k0, k1, k2, k3⟩ := box4 hw1 (Below.refl _ _)
  have HW1 := hid_ hw1
  have HR1 := hid_ (fun W (hW : Below w1.heap.size w1 W) => (Hr.out.below Hb1.out (Nat.le_refl _)).below hW (Nat.le_refl _))
  have HI1 := hid_ (fun W (hW : Below w1.heap.size w1 W) => (h.below Hb1.out (Nat.le_refl _)).below hW (Nat.le_refl _))
  have HL := hid_ h.len
  have hpl : pl (isPl R l) (n + 1) = plP R l := by rw [isPl_eq hf, ← h.len]; rfl
  have HV := hid_ (placesOf_calls _ R a n c l w1 (HR1.out w1 (Below.refl _ _)) (HI1.out w1 (Below.refl _ _)) hn)
  rw [hpl] at HV
  have Hok : Hid (PutOk R (plP R l) l) := hid_ plP_ok
  have hPn : (plP R l).length ≤ 101 := by have := plP_len (R := R) (l := l); have := h.len; omega
  clear h hpl
  generalize plP R l = P at *
  have HPut := hid_ (fun W hW a' n' c' m i (hi : IntsAt W a' n' c' m) (hm : n' ≤ 1000) (hfit : i + tkN R ≤ n') => putR_calls _ R a' n' c' m i W (HR1.out W hW) hi hm hf ho hfit)
  have HLen : Hid (∀ j, (putAll R (P.drop j) l).length ≤ 1000) := hid_ (fun j => by have := putAll_len (j := j) Hok.out ho; have := HL.out; omega)
  have HFit := hid_ (fun j => putAll_fitD (j := j) Hok.out)
  have HDrop := hid_ (fun j => putAll_drop (R := R) (P := P) (l := l) (j := j))
  have HPos : Hid (∀ j, j < P.length → 0 ≤ P.getD j 0) := hid_ (fun j hj => (Hok.out.2 _ (getD_mem hj)).1)
  have HLast : Hid (putAll R (P.drop P.length) l = l) := hid_ (by rw [List.drop_of_length_le (Nat.le_refl _)]; rfl)
  generalize hP : P.length = M at *
  clear hf ho
  go_enter Try.func125, Try.ntmps125
  go_wp2_with (first
    | (go_at_call 112; refine HV.out.mono ?_; rintro e w2 ⟨v2, rfl, hm2⟩; have hb2 := hm2.bel; obtain ⟨ap, cp, rfl, hip⟩ := hm2.at_; rw [hP] at hip; have Hp := hid_ hip; clear hip hm2; rw [hP])
    | (at_builtin; refine wpList_copy_ints _ rfl (.tmp 11) (.tmp 12) rfl rfl _ _ _ _ rfl (HI1.out _ hb2) (by omega) ?_; intro v3 w3 hm3; have HM3 := hid_ hm3; clear hm3))
  have hb3 : Below w1.heap.size w1 w3 := hb2.trans (HM3.out.bel.mono hb2.size)
  have hb23 : Below w2.heap.size w2 w3 := HM3.out.bel
  clear k0 k1 k2 k3
  go_loopw [6, 7] (fun v i wr => ∃ j : Nat, j ≤ M ∧ i = .int .i64 ((j : Int) - 1) ∧ Made 3 w1 wr v (putAll R (P.drop j) l) ∧ Below w2.heap.size w2 wr) (fun _ i _ => (intOf i + 1).toNat)
  case atStart => exact ⟨M, by omega, by go_num, by rw [HLast.out]; exact HM3.out.after hb2, hb23⟩
  case round =>
    obtain ⟨j, hj, rfl, hmr, hb2r⟩ := hrel
    have HMr := hid_ hmr; clear hmr
    by_cases hpos : 0 < j
    · obtain ⟨k, rfl⟩ : ∃ k, j = k + 1 := ⟨j - 1, by omega⟩
      have hkM : k < M := by omega
      have hx0 := HPos.out k hkM
      obtain ⟨i, hi⟩ : ∃ i : Nat, P.getD k 0 = (i : Int) := ⟨(P.getD k 0).toNat, by omega⟩
      have hfit := HFit.out k hkM
      have hdrop := HDrop.out k hkM
      obtain ⟨b, off, hap, hbl, hcell⟩ := Hp.out.cells k hkM
      rw [hi] at hcell hfit hdrop
      simp only [Int.toNat_natCast] at hfit hdrop
      subst hap
      obtain ⟨ao, co, rfl, hio⟩ := HMr.out.at_
      have hlen := HLen.out (k + 1)
      have hb1r := HMr.out.bel
      obtain ⟨q0, q1, q2, q3⟩ := box4 HW1.out hb1r
      have hc' : wr.cell? ⟨b, off + k, none⟩ = some (.int .i64 (i : Int)) := (hb2r.cell hbl).trans hcell
      have Hc := hid_ hc'
      have HDr := hid_ hdrop
      clear hcell hdrop HFit HDrop HLen HPos HLast
      generalize putAll R (P.drop (k + 1)) l = m at *
      have Hio := hid_ hio
      clear hio
      generalize hN : m.length = N at *
      have hik : (((k + 1 : Nat) : Int) - 1) = (k : Int) := by omega
      have hkM' : (k : Int) < (M : Int) := by omega
      rw [hik]
      have e0 := cell_regrown q0
      have e1 := cell_regrown q1
      have e2 := cell_regrown q2
      have e3 := cell_regrown q3
      have ec := cell_regrown hc'
      clear q0 q1 q2 q3 hc' hik
      go_wp2
      refine wp_region_tail 6 (by kernel_rfl) (by kernel_rfl) ?_
      simp only [List.take_succ_cons, List.take_zero, List.drop_succ_cons, List.drop_zero]
      repeat (first | go_big_quiet_skip | (go_big_quiet_want; go_big_quiet_op; first | go_big_quiet_on | go_big_quiet_call ((fail))))
      refine wpQuiet_nil ?_
      rintro wq ⟨pq, hpq⟩
      have hbq := below_wq hpq
      clear hpq e0 e1 e2 e3 ec
      have hbq1 : Below w1.heap.size w1 wq := hb1r.trans (hbq.mono hb1r.size)
      go_wp2_with (go_at_call 123; refine (HPut.out wq hbq1 _ _ _ _ i (Hio.out.below hbq (Nat.le_refl _)) hlen hfit).mono ?_; rintro e w5 ⟨v5, rfl, hm5⟩)
      go_roundw
      case rel => exact ⟨k, by omega, by go_num, by rw [HDr.out]; exact hm5.after hbq1, hb2r.trans ((hbq.trans (hm5.bel.mono hbq.size)).mono hb2r.size)⟩
      case measure => simp [intOf]
    · obtain rfl : j = 0 := by omega
      go_wp2
      go_ret
      exact ⟨_, rfl, HMr.out.after Hb1.out⟩
set_option maxRecDepth 100000 in
set_option maxHeartbeats 2000000 in
theorem refAtAll_calls (v : Value) (R : Rl) (a : Option Addr) (n c : Nat) (l : List Int) (w : World) (hr : RuleAt w v R) (h : IntsAt w a n c l) :
    Calls Try.prog 43 #[v, .slice a n c] w fun e w' => ∃ v', e = .returned (.tuple #[v', .int .i64 (errAll R l)]) ∧ Made 3 w w' v' (resAll R l) := by
  have Hr := hid_ hr
  obtain ⟨a1, n1, c1, a2, n2, c2, a3, n3, c3, rfl, h1, h2, h3⟩ := hr
  clear h1 h2 h3
  obtain ⟨w1, hw1⟩ : ∃ w1, w.alloc (.cells #[.int .i64 R.f, .slice a1 n1 c1, .slice a2 n2 c2, .slice a3 n3 c3] 24) = w1 := ⟨_, rfl⟩
  have Hb1 : Hid (Below w.heap.size w w1) := hid_ (by rw [← hw1]; exact below_alloc _ _)
  obtain ⟨k0, k1, k2, k3⟩ := box4 hw1 (Below.refl _ _)
  have HW1 := hid_ hw1
  have HR1 := hid_ (fun W (hW : Below w1.heap.size w1 W) => (Hr.out.below Hb1.out (Nat.le_refl _)).below hW (Nat.le_refl _))
  have HI1 := hid_ (fun W (hW : Below w1.heap.size w1 W) => (h.below Hb1.out (Nat.le_refl _)).below hW (Nat.le_refl _))
  have HV := hid_ (asked_calls _ R a n c l w1 (HR1.out w1 (Below.refl _ _)) (HI1.out w1 (Below.refl _ _)))
  have HL := hid_ h.len
  clear h
  by_cases he : err2 R l = 0
  · have HE : Hid (errAll R l = toldE (putAll R (plP R l) l)) := hid_ (if_pos he)
    have HF : Hid (resAll R l = toldV (putAll R (plP R l) l)) := hid_ (if_pos he)
    obtain ⟨e1, e2⟩ := err2_ok he
    obtain ⟨g1, g2, g3, g4, g5, g6⟩ := validR_ok e1
    obtain ⟨g7, g8⟩ := validW_ok e2
    have hn8 : n ≤ 8 := by rw [← HL.out]; exact g7
    have HP := hid_ (fun W hW => refAll_calls _ R a n c l W (HR1.out W hW) (HI1.out W hW) (by omega) g1 g3)
    have HT := hid_ told_calls
    rw [he] at HV
    clear he e1 e2 g1 g2 g3 g4 g5 g6 g7 g8
    generalize putAll R (plP R l) l = m at *
    go_enter Try.func43, Try.ntmps43
    go_wp2_with (first
      | (go_at_call 111; refine HV.out.mono ?_; rintro e w4 ⟨rfl, hb2⟩; obtain ⟨q0, q1, q2, q3⟩ := box4 HW1.out hb2)
      | (go_at_call 125; refine (HP.out _ hb2).mono ?_; rintro e w6 ⟨v6, rfl, hm6⟩)
      | (go_at_call 122; refine (HT.out _ _ _ _ hm6).mono ?_; rintro e w7 ⟨v7, rfl, hm7⟩))
    go_ret2
    exact ⟨_, by rw [HE.out] <;> rfl, by rw [HF.out]; exact hm7.after (Hb1.out.trans (hb2.mono Hb1.out.size))⟩
  · have HE : Hid (errAll R l = err2 R l) := hid_ (if_neg he)
    have HF : Hid (resAll R l = []) := hid_ (if_neg he)
    generalize err2 R l = er at *
    have hq : (er != 0) = true := by simpa using he
    clear he
    go_enter Try.func43, Try.ntmps43
    go_wp2_with (go_at_call 111; refine HV.out.mono ?_; rintro e w4 ⟨rfl, hb2⟩)
    go_ret2
    exact ⟨_, by rw [HE.out] <;> rfl, by rw [HF.out]; exact Made.none_ _ (Hb1.out.trans (hb2.mono Hb1.out.size))⟩
end Go.Proofs.Ytnpdhmejnoplcaa
