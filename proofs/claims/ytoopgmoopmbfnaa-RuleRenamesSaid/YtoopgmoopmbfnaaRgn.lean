import Derived.Test.YtoopgmoopmbfnaaRbe
import Derived.Test.YtoopgmoopmbfnaaRz
import Derived.Test.YtoopgmoopmbfnaaPgk
import Derived.Deep.RegionHeld3
import Derived.Test.YtoopgmoopmbfnaaLae
namespace Go.Proofs.Ytoopgmoopmbfnaa
open Go.RowKit Go.Proofs.Kv

/-! ### put -/
theorem _root_.Go.Proofs.Kv.IntsAt.cut {w : World} {a : Option Addr} {n c : Nat} {l : List Int} (h : IntsAt w a n c l) {i : Nat} (hi : i ≤ n) (hic : i < c) : IntsAt w (a.map (·.add i)) (n - i) (c - i) (l.drop i) :=
  ⟨by rw [List.length_drop, h.len], by have := h.le; omega, by have := h.small; omega, fun j hj => by
    obtain ⟨b, off, rfl, hb, hc⟩ := h.cells (i + j) (by omega)
    refine ⟨b, off + i, by simp [add_at], hb, ?_⟩
    rw [Nat.add_assoc, hc]
    simp [List.getD]⟩
end Go.Proofs.Ytoopgmoopmbfnaa
namespace Go.Proofs.Ytoopgmoopmbfnaa
open Go.RowKit Go.Proofs.Kv

/-! ### the reference's places are the program's -/
theorem isPl_eq {R : Rl} {l : List Int} (hf : -1 ≤ R.f) : isPl R l = plB R.f R.le R.ri l := by
  funext i
  unfold isPl plB
  by_cases h : R.f < 0
  · obtain h1 : R.f = -1 := by omega
    rw [if_pos h, if_pos h1]
    unfold Within
    by_cases h2 : i < 0
    · rw [if_pos h2, decide_eq_false (by omega : ¬ 0 ≤ i)]; simp
    · by_cases h3 : (l.length : Int) < i
      · rw [if_neg h2, if_pos h3, decide_eq_false (by omega : ¬ i ≤ (l.length : Int))]; simp
      · rw [if_neg h2, if_neg h3, decide_eq_true (by omega : 0 ≤ i), decide_eq_true (by omega : i ≤ (l.length : Int))]; simp
  · rw [if_neg h, if_neg (by omega : ¬ R.f = -1)]
    have ha : atL l i = if Within i 0 ((l.length : Int) - 1) then l.getD i.toNat 0 else -1 := rfl
    by_cases h2 : i < 0
    · rw [if_pos h2, Within, decide_eq_false (by omega : ¬ 0 ≤ i)]; simp
    · by_cases h3 : (l.length : Int) < i
      · rw [if_neg h2, if_pos h3, Within, decide_eq_false (by omega : ¬ i ≤ (l.length : Int) - 1)]; simp
      · rw [if_neg h2, if_neg h3, ha]
        cases hw : Within i 0 ((l.length : Int) - 1) with
        | true => simp
        | false =>
          have : ((-1 : Int) == R.f) = false := by simp; omega
          simp [this]

/-! ### asked, Places -/
end Go.Proofs.Ytoopgmoopmbfnaa
namespace Go.Proofs.Ytoopgmoopmbfnaa
open Go.RowKit Go.Proofs.Kv

/-! ### told, Apply -/
def toldE (l : List Int) : Int := if 8 < l.length then 3 else 0
def toldV (l : List Int) : List Int := if 8 < l.length then [] else l
theorem pl_fit0 {R : Rl} {l : List Int} {i : Nat} (h : plB R.f R.le R.ri l i = true) : i + tkN R ≤ l.length := by
  have := (one_ok h).2 (i : Int) (by simp)
  simpa using this.2
theorem made_base {w0 w1 w : World} {v : Value} {l : List Int} (hb : Below w0.heap.size w0 w1) (h : Made 3 w1 w v l) : Made 3 w0 w v l := h.after hb
end Go.Proofs.Ytoopgmoopmbfnaa
namespace Go.Proofs.Ytoopgmoopmbfnaa
open Go.RowKit Go.Proofs.Kv

/-! ### First -/
end Go.Proofs.Ytoopgmoopmbfnaa
namespace Go.Proofs.Ytoopgmoopmbfnaa
open Go.RowKit Go.Proofs.Kv

/-! ### all, AtAll -/
theorem putAll_drop {R : Rl} {P l : List Int} {j : Nat} (hj : j < P.length) : putAll R (P.drop j) l = putL (putAll R (P.drop (j + 1)) l) (P.getD j 0).toNat ((P.getD j 0).toNat + tkN R) R.o := by
  rw [List.drop_eq_getElem_cons hj]
  show putL _ _ _ _ = _
  rw [List.getD, List.getElem?_eq_getElem hj]
  rfl
theorem putAll_fitD {R : Rl} {P l : List Int} {j : Nat} (h : PutOk R P l) (hj : j < P.length) : (P.getD j 0).toNat + tkN R ≤ (putAll R (P.drop (j + 1)) l).length := by
  have := h.drop j
  rw [List.drop_eq_getElem_cons hj] at this
  have h2 := putAll_fit this
  rw [List.getD, List.getElem?_eq_getElem hj]
  exact h2
theorem putAll_len {R : Rl} {P l : List Int} {j : Nat} (h : PutOk R P l) (ho : R.o.length ≤ 2) : (putAll R (P.drop j) l).length ≤ l.length + P.length * 2 := by
  have h1 := (putAll_bd (h.drop j)).2.1
  have h2 : (P.drop j).length ≤ P.length := by rw [List.length_drop]; omega
  have h3 : (P.drop j).length * R.o.length ≤ P.length * 2 := Nat.mul_le_mul h2 ho
  omega
end Go.Proofs.Ytoopgmoopmbfnaa
namespace Go.Proofs.Ytoopgmoopmbfnaa
open Go.RowKit Go.Proofs.Kv

/-! ### Along -/
end Go.Proofs.Ytoopgmoopmbfnaa
