import Derived.Test.YtnpdhmejnoplcaaRg
import Derived.Test.YtnpdhmejnoplcaaRh
import Derived.Test.YtnpdhmejnoplcaaPi
namespace Go.Proofs.Ytnpdhmejnoplcaa
open Go.RowKit Go.Proofs.Kv

/-! ### told, Apply -/
def toldE (l : List Int) : Int := if 8 < l.length then 3 else 0
def toldV (l : List Int) : List Int := if 8 < l.length then [] else l
theorem pl_fit0 {R : Rl} {l : List Int} {i : Nat} (h : plB R.f R.le R.ri l i = true) : i + tkN R ≤ l.length := by
  have := (one_ok h).2 (i : Int) (by simp)
  simpa using this.2
set_option maxRecDepth 100000 in
theorem told_calls (w0 w : World) (v : Value) (l : List Int) (hm : Made 3 w0 w v l) :
    Calls Try.prog 122 #[v] w fun e w' => ∃ v', e = .returned (.tuple #[v', .int .i64 (toldE l)]) ∧ Made 3 w0 w' v' (toldV l) := by
  have HM := hid_ hm
  unfold toldE toldV
  obtain ⟨a, c, rfl, hi⟩ := hm.at_
  have hle := hi.le; have hsm := hi.small
  have HB := hid_ (hm.bel)
  generalize hn : l.length = n at *
  clear hm
  by_cases h8 : 8 < n
  · have h8' : (8 : Int) < (n : Int) := by omega
    rw [if_pos h8, if_pos h8]
    go_enter Try.func122, Try.ntmps122
    go_wp2
    go_ret2
    exact ⟨_, rfl, Made.none_ _ HB.out⟩
  · have h8' : ¬ (8 : Int) < (n : Int) := by omega
    rw [if_neg h8, if_neg h8]
    go_enter Try.func122, Try.ntmps122
    go_wp2
    go_ret2
    exact ⟨_, rfl, HM.out⟩
theorem made_base {w0 w1 w : World} {v : Value} {l : List Int} (hb : Below w0.heap.size w0 w1) (h : Made 3 w1 w v l) : Made 3 w0 w v l := h.after hb
set_option maxRecDepth 100000 in
set_option maxHeartbeats 2000000 in
theorem refApply_calls (v : Value) (R : Rl) (a : Option Addr) (n c : Nat) (l : List Int) (p : Int) (w : World) (hr : RuleAt w v R) (h : IntsAt w a n c l) :
    Calls Try.prog 39 #[v, .slice a n c, .int .i64 p] w fun e w' => ∃ v', e = .returned (.tuple #[v', .int .i64 (errApply R l p)]) ∧ Made 3 w w' v' (resApply R l p) := by
  have Hr := hid_ hr
  obtain ⟨a1, n1, c1, a2, n2, c2, a3, n3, c3, rfl, h1, h2, h3⟩ := hr
  clear h1 h2 h3
  obtain ⟨w1, hw1⟩ : ∃ w1, w.alloc (.cells #[.int .i64 R.f, .slice a1 n1 c1, .slice a2 n2 c2, .slice a3 n3 c3] 24) = w1 := ⟨_, rfl⟩
  have Hb1 : Hid (Below w.heap.size w w1) := hid_ (by rw [← hw1]; exact below_alloc _ _)
  obtain ⟨k0, k1, k2, k3⟩ := box4 hw1 (Below.refl _ _)
  have HW1 := hid_ hw1
  have HR1 := hid_ (fun W (hW : Below w1.heap.size w1 W) => (Hr.out.below Hb1.out (Nat.le_refl _)).below hW (Nat.le_refl _))
  have HI1 := hid_ (fun W (hW : Below w1.heap.size w1 W) => (h.below Hb1.out (Nat.le_refl _)).below hW (Nat.le_refl _))
  have HV := hid_ (asked_calls _ R a n c l w1 (HR1.out w1 (Below.refl _ _)) (HI1.out w1 (Below.refl _ _)))
  have HL := hid_ h.len
  clear h
  by_cases he : err2 R l = 0
  · have HE : Hid (errApply R l p = apE R l p) := hid_ (if_pos he)
    have HF : Hid (resApply R l p = apV R l p) := hid_ (if_pos he)
    obtain ⟨e1, e2⟩ := err2_ok he
    obtain ⟨g1, g2, g3, g4, g5, g6⟩ := validR_ok e1
    obtain ⟨g7, g8⟩ := validW_ok e2
    have hn8 : n ≤ 8 := by rw [← HL.out]; exact g7
    have HP := hid_ (fun W hW => isPlace_calls _ R a n c l p W (HR1.out W hW) (HI1.out W hW) (by omega))
    rw [isPl_eq g1] at HP
    rw [he] at HV
    cases hp : plB R.f R.le R.ri l p with
    | false =>
      have HE' : Hid (errApply R l p = 6) := hid_ (by rw [HE.out, apE, hp]; rfl)
      have HF' : Hid (resApply R l p = []) := hid_ (by rw [HF.out, apV, hp]; rfl)
      rw [hp] at HP
      clear hp he e1 e2 g1 g2 g3 g4 g5 g6 g7 g8
      go_enter Try.func39, Try.ntmps39
      go_wp2_with (first
        | (go_at_call 111; refine HV.out.mono ?_; rintro e w4 ⟨rfl, hb2⟩; obtain ⟨q0, q1, q2, q3⟩ := box4 HW1.out hb2)
        | (go_at_call 121; refine (HP.out _ hb2).mono ?_; rintro e w5 ⟨rfl, hb5⟩))
      go_ret2
      exact ⟨_, by rw [HE'.out] <;> rfl, by rw [HF'.out]; exact Made.none_ _ (Hb1.out.trans ((hb2.trans (hb5.mono hb2.size)).mono Hb1.out.size))⟩
    | true =>
      have hok := one_ok hp
      obtain ⟨i, rfl⟩ : ∃ i : Nat, p = (i : Int) := ⟨p.toNat, by have := (hok.2 p (by simp)).1; omega⟩
      have hfit := pl_fit0 hp
      have HPut := hid_ (fun W hW => putR_calls _ R a n c l i W (HR1.out W hW) (HI1.out W hW) (by omega) g1 g3 (by rw [← HL.out]; exact hfit))
      have HE' : Hid (errApply R l (i : Int) = toldE (putL l i (i + tkN R) R.o)) := hid_ (by rw [HE.out, apE, hp]; rfl)
      have HF' : Hid (resApply R l (i : Int) = toldV (putL l i (i + tkN R) R.o)) := hid_ (by rw [HF.out, apV, hp]; rfl)
      rw [hp] at HP
      have HT := hid_ told_calls
      clear hp he e1 e2 g1 g2 g3 g4 g5 g6 g7 g8 hok hfit
      generalize putL l i (i + tkN R) R.o = m at *
      go_enter Try.func39, Try.ntmps39
      go_wp2_with (first
        | (go_at_call 111; refine HV.out.mono ?_; rintro e w4 ⟨rfl, hb2⟩; obtain ⟨q0, q1, q2, q3⟩ := box4 HW1.out hb2)
        | (go_at_call 121; refine (HP.out _ hb2).mono ?_; rintro e w5 ⟨rfl, hb5⟩; have hb51 := hb2.trans (hb5.mono hb2.size); obtain ⟨q0, q1, q2, q3⟩ := box4 HW1.out hb51)
        | (go_at_call 123; refine (HPut.out _ hb51).mono ?_; rintro e w6 ⟨v6, rfl, hm6⟩)
        | (go_at_call 122; refine (HT.out _ _ _ _ hm6).mono ?_; rintro e w7 ⟨v7, rfl, hm7⟩))
      go_ret2
      exact ⟨_, by rw [HE'.out] <;> rfl, by rw [HF'.out]; exact hm7.after (Hb1.out.trans (hb51.mono Hb1.out.size))⟩
  · have HE : Hid (errApply R l p = err2 R l) := hid_ (if_neg he)
    have HF : Hid (resApply R l p = []) := hid_ (if_neg he)
    generalize err2 R l = er at *
    have hq : (er != 0) = true := by simpa using he
    clear he
    go_enter Try.func39, Try.ntmps39
    go_wp2_with (go_at_call 111; refine HV.out.mono ?_; rintro e w4 ⟨rfl, hb2⟩)
    go_ret2
    exact ⟨_, by rw [HE.out] <;> rfl, by rw [HF.out]; exact Made.none_ _ (Hb1.out.trans (hb2.mono Hb1.out.size))⟩
end Go.Proofs.Ytnpdhmejnoplcaa
