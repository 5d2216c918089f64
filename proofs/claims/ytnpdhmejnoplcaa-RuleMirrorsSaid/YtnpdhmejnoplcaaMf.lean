import Derived.Test.YtnpdhmejnoplcaaMe
import Derived.Test.YtnpdhmejnoplcaaLj
namespace Go.Proofs.Ytnpdhmejnoplcaa
open Go.RowKit Go.Proofs.Kv

/-! ### mirrored places -/
theorem asc_eq : ∀ {l m : List Int}, l.Pairwise (· < ·) → m.Pairwise (· < ·) → (∀ x, x ∈ l ↔ x ∈ m) → l = m
  | [], [], _, _, _ => rfl
  | [], y :: m, _, _, h => absurd ((h y).2 (by simp)) (by simp)
  | x :: l, [], _, _, h => absurd ((h x).1 (by simp)) (by simp)
  | x :: l, y :: m, hl, hm, h => by
    obtain ⟨hx, hl'⟩ := List.pairwise_cons.1 hl
    obtain ⟨hy, hm'⟩ := List.pairwise_cons.1 hm
    have e : x = y := by
      rcases List.mem_cons.1 ((h x).1 (by simp)) with h1 | h1
      · exact h1
      · rcases List.mem_cons.1 ((h y).2 (by simp)) with h2 | h2
        · exact h2.symm
        · have := hx _ h2; have := hy _ h1; omega
    subst e
    congr 1
    refine asc_eq hl' hm' fun z => ?_
    constructor
    · intro hz
      rcases List.mem_cons.1 ((h z).1 (by simp [hz])) with h1 | h1
      · have := hx z hz; omega
      · exact h1
    · intro hz
      rcases List.mem_cons.1 ((h z).2 (by simp [hz])) with h1 | h1
      · have := hy z hz; omega
      · exact h1
def farP (R : Rl) (n : Nat) (p : Int) : Int := if R.f < 0 then (n : Int) - p else (n : Int) - 1 - p
theorem mir_places {R : Rl} {l : List Int} (h : validR R = 0) : plP (mirR R) l.reverse = ((plP R l).map (farP R l.length)).reverse := by
  have hs : (plP R l).Pairwise (· < ·) := (plP_ok (R := R) (l := l)).1
  refine asc_eq (plP_ok (R := mirR R) (l := l.reverse)).1 ?_ fun x => ?_
  · rw [List.pairwise_reverse, List.pairwise_map]
    exact hs.imp (fun {a b} hab => by unfold farP; split <;> omega)
  · rw [List.mem_reverse, List.mem_map, plP, mem_pl, List.length_reverse]
    have h1 := (validR_ok h).1
    by_cases hf : R.f = -1
    · have hF : ∀ p, farP R l.length p = (l.length : Int) - p := fun p => if_pos (by omega)
      rw [mir_place0 h hf]
      constructor
      · rintro ⟨a, b, c⟩
        exact ⟨(l.length : Int) - x, mem_pl.2 ⟨by omega, by omega, c⟩, by rw [hF]; omega⟩
      · rintro ⟨p, hp, rfl⟩
        obtain ⟨a, b, c⟩ := mem_pl.1 hp
        rw [hF]
        exact ⟨by omega, by omega, by rw [show (l.length : Int) - ((l.length : Int) - p) = p by omega]; exact c⟩
    · have hF : ∀ p, farP R l.length p = (l.length : Int) - 1 - p := fun p => if_neg (by omega)
      have hb : ∀ p, plB R.f R.le R.ri l p = true → 0 ≤ p ∧ p ≤ (l.length : Int) - 1 := by
        intro p hp
        obtain ⟨a, b, c, -, -⟩ := plB_iff.1 hp
        have c := c.resolve_left hf
        unfold atL at c
        split at c
        · rename_i hw; simp [Within] at hw; omega
        · omega
      rw [mir_place1 h hf]
      constructor
      · rintro ⟨a, b, c⟩
        have := hb _ c
        exact ⟨(l.length : Int) - 1 - x, mem_pl.2 ⟨by omega, by omega, c⟩, by rw [hF]; omega⟩
      · rintro ⟨p, hp, rfl⟩
        obtain ⟨a, b, c⟩ := mem_pl.1 hp
        have := hb _ c
        rw [hF]
        exact ⟨by omega, by omega, by rw [show (l.length : Int) - 1 - ((l.length : Int) - 1 - p) = p by omega]; exact c⟩
theorem mir_nth {P : List Int} {f : Int → Int} {k : Nat} (hk : k < P.length) : (P.map f).reverse.getD (P.length - 1 - k) 0 = f (P.getD k 0) := by
  have h1 : P.length - 1 - k < (P.map f).length := by simp; omega
  simp only [List.getD_eq_getElem?_getD]
  rw [List.getElem?_reverse h1, List.length_map, List.getElem?_map, show P.length - 1 - (P.length - 1 - k) = k by omega, List.getElem?_eq_getElem hk]
  rfl
theorem mir_two2 {R : Rl} {l : List Int} (h : validR R = 0) (hw : validW l = 0) : err2 (mirR R) l.reverse = 0 ∧ validW (resAll R l) = 0 := by
  have hm : validR (mirR R) = 0 := (mir_ok h).1
  have e1 : err2 R l = 0 := by rw [err2, if_pos h]; exact hw
  obtain ⟨h1, h2⟩ := validW_ok hw
  have hb : validW l.reverse = 0 := by
    have : isWord l.reverse = true := by rw [isWord, List.all_reverse]; exact h2
    rw [validW, if_neg (by rw [List.length_reverse]; omega), this]; rfl
  refine ⟨by rw [err2, if_pos hm]; exact hb, ?_⟩
  rw [resAll, if_pos e1, stp_res]
  split
  · rfl
  · rename_i h8
    rw [validW, if_neg h8, stp_word (validR_ok h).2.2.2.1 h2]; rfl
theorem mir_all2 {R : Rl} {l : List Int} (h : validR R = 0) (hw : validW l = 0) : errAll (mirR R) l.reverse = errAll R l ∧ resAll (mirR R) l.reverse = (resAll R l).reverse := by
  have e1 : err2 R l = 0 := by rw [err2, if_pos h]; exact hw
  have e2 := (mir_two2 h hw).1
  rw [errAll, if_pos e2, errAll, if_pos e1, resAll, if_pos e2, resAll, if_pos e1, stp_err, stp_err, stp_res, stp_res, stp_mir h, List.length_reverse]
  refine ⟨rfl, ?_⟩
  split <;> simp
end Go.Proofs.Ytnpdhmejnoplcaa
