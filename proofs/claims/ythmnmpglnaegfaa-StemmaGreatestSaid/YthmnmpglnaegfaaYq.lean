import Derived.WalkKit
namespace Go.Proofs.Kv
/-! ### the fewest changes on a tree: mathematics -/
def sumN (f : Nat → Nat) : Nat → Nat
  | 0 => 0
  | k + 1 => sumN f k + f k
theorem sumN_congr {f g : Nat → Nat} : ∀ {k : Nat}, (∀ i, i < k → f i = g i) → sumN f k = sumN g k
  | 0, _ => rfl
  | k + 1, h => by rw [sumN, sumN, sumN_congr fun i hi => h i (by omega), h k (by omega)]
theorem sumN_le {f g : Nat → Nat} : ∀ {k : Nat}, (∀ i, i < k → f i ≤ g i) → sumN f k ≤ sumN g k
  | 0, _ => Nat.le_refl _
  | k + 1, h => Nat.add_le_add (sumN_le fun i hi => h i (by omega)) (h k (by omega))
theorem sumN_upd (f : Nat → Nat) (p m : Nat) : ∀ {k : Nat}, p < k → sumN (fun i => if i = p then f i + m else f i) k = sumN f k + m
  | 0, h => absurd h (by omega)
  | k + 1, h => by
    rw [sumN, sumN]
    by_cases e : k = p
    · subst e
      rw [if_pos rfl, sumN_congr (g := f) fun i hi => if_neg (by omega)]; omega
    · rw [if_neg e, sumN_upd f p m (by omega)]; omega
theorem sumN_ge (f : Nat → Nat) : ∀ {k i : Nat}, i < k → f i ≤ sumN f k
  | 0, _, h => absurd h (by omega)
  | k + 1, i, h => by
    rw [sumN]
    by_cases e : i = k
    · subst e; omega
    · have := sumN_ge f (k := k) (i := i) (by omega); omega
theorem sumN_zero : ∀ {f : Nat → Nat} {k : Nat}, (∀ i, i < k → f i = 0) → sumN f k = 0
  | _, 0, _ => rfl
  | f, k + 1, h => by rw [sumN, sumN_zero fun i hi => h i (by omega), h k (by omega)]
theorem sumN_add (f g : Nat → Nat) : ∀ k : Nat, sumN (fun i => f i + g i) k = sumN f k + sumN g k
  | 0 => rfl
  | k + 1 => by rw [sumN, sumN, sumN, sumN_add f g k]; omega

def ne1 (a b : Int) : Nat := if a = b then 0 else 1
theorem ne1_le (a b : Int) : ne1 a b ≤ 1 := by unfold ne1; split <;> omega
theorem ne1_same (a : Int) : ne1 a a = 0 := if_pos rfl
/-- a table: a number for each node and reading -/
abbrev Tab := Nat → Nat → Nat
def mn (c : Nat → Nat) (p : Int) : Nat := min (min (c 0 + ne1 0 p) (c 1 + ne1 1 p)) (c 2 + ne1 2 p)
def am (c : Nat → Nat) (p : Int) : Nat := if c 1 + ne1 1 p < c 0 + ne1 0 p then (if c 2 + ne1 2 p < c 1 + ne1 1 p then 2 else 1) else (if c 2 + ne1 2 p < c 0 + ne1 0 p then 2 else 0)
theorem mn_le (c : Nat → Nat) (p : Int) {s : Nat} (h : s < 3) : mn c p ≤ c s + ne1 (s : Int) p := by
  rcases (show s = 0 ∨ s = 1 ∨ s = 2 by omega) with rfl | rfl | rfl
  · exact Nat.le_trans (Nat.min_le_left _ _) (Nat.min_le_left _ _)
  · exact Nat.le_trans (Nat.min_le_left _ _) (Nat.min_le_right _ _)
  · exact Nat.min_le_right _ _
theorem am_lt (c : Nat → Nat) (p : Int) : am c p < 3 := by unfold am; split <;> split <;> omega
theorem am_eq (c : Nat → Nat) (p : Int) : c (am c p) + ne1 ((am c p : Nat) : Int) p = mn c p := by
  unfold am mn
  have e0 : ((0 : Nat) : Int) = 0 := rfl
  have e1 : ((1 : Nat) : Int) = 1 := rfl
  have e2 : ((2 : Nat) : Int) = 2 := rfl
  split <;> split <;> simp only [e0, e1, e2] <;> omega
theorem mn_congr {c d : Nat → Nat} {p : Int} (h : ∀ s, s < 3 → c s = d s) : mn c p = mn d p := by
  unfold mn; rw [h 0 (by omega), h 1 (by omega), h 2 (by omega)]

section
variable (par : Nat → Nat)
def chgN (L : Nat → Nat) (k : Nat) : Nat := sumN (fun i => if i = 0 then 0 else ne1 (L i : Int) (L (par i) : Int)) k
def totN (D : Tab) (L : Nat → Nat) (k : Nat) : Nat := sumN (fun i => D i (L i)) k + chgN par L k
def elim (v : Nat) (D : Tab) : Tab := fun i r => if i = par v then D i r + mn (D v) (r : Int) else D i r
variable {par}
theorem totN_elim {v : Nat} (hv : 0 < v) (hp : par v < v) (D : Tab) (L : Nat → Nat) : totN par D L (v + 1) + mn (D v) (L (par v) : Int) = totN par (elim par v D) L v + (D v (L v) + ne1 (L v : Int) (L (par v) : Int)) := by
  have e1 : sumN (fun i => elim par v D i (L i)) v = sumN (fun i => D i (L i)) v + mn (D v) (L (par v) : Int) := by
    rw [← sumN_upd (fun i => D i (L i)) (par v) (mn (D v) (L (par v) : Int)) hp]
    refine sumN_congr fun i hi => ?_
    unfold elim
    by_cases e : i = par v
    · subst e; simp
    · rw [if_neg e, if_neg e]
  have e2 : sumN (fun i => D i (L i)) (v + 1) = sumN (fun i => D i (L i)) v + D v (L v) := rfl
  have e3 : chgN par L (v + 1) = chgN par L v + ne1 (L v : Int) (L (par v) : Int) := by
    unfold chgN
    rw [sumN, if_neg (by omega)]
  unfold totN
  rw [e1, e2, e3]
  omega
theorem elim_le {v : Nat} (hv : 0 < v) (hp : par v < v) (D : Tab) {L : Nat → Nat} (hL : L v < 3) : totN par (elim par v D) L v ≤ totN par D L (v + 1) := by
  have h1 := totN_elim hv hp D L
  have h2 := mn_le (D v) (L (par v) : Int) hL
  omega
theorem elim_eq {v : Nat} (hv : 0 < v) (hp : par v < v) (D : Tab) {L : Nat → Nat} (hL : L v = am (D v) (L (par v) : Int)) : totN par (elim par v D) L v = totN par D L (v + 1) := by
  have h1 := totN_elim hv hp D L
  have h2 := am_eq (D v) (L (par v) : Int)
  rw [← hL] at h2
  omega
theorem totN_congr {D D' : Tab} {L : Nat → Nat} {k : Nat} (h : ∀ i, i < k → D i (L i) = D' i (L i)) : totN par D L k = totN par D' L k := by
  unfold totN; rw [sumN_congr h]
theorem totN_one (D : Tab) (L : Nat → Nat) : totN par D L 1 = D 0 (L 0) := by simp [totN, chgN, sumN]

/-! #### the document's table: all labelings -/
def refT (par : Nat → Nat) (n : Nat) (D0 : Tab) : Nat → Tab
  | 0 => D0
  | t + 1 => elim par (n - 1 - t) (refT par n D0 t)
/-- from the last node on, each node but 0 is taken away -/
theorem refT_le {n : Nat} (hp : ∀ v, 0 < v → v < n → par v < v) (D0 : Tab) {L : Nat → Nat} (hL : ∀ v, v < n → L v < 3) : ∀ {t : Nat}, t < n → totN par (refT par n D0 t) L (n - t) ≤ totN par D0 L n
  | 0, _ => Nat.le_refl _
  | t + 1, h => by
    have ih := refT_le hp D0 hL (t := t) (by omega)
    have := elim_le (par := par) (v := n - 1 - t) (by omega) (hp _ (by omega) (by omega)) (refT par n D0 t) (L := L) (hL _ (by omega))
    rw [show n - 1 - t + 1 = n - t by omega] at this
    rw [show n - (t + 1) = n - 1 - t by omega]
    exact Nat.le_trans this ih
/-- rows that are behind stay -/
theorem refT_row {n : Nat} (hp : ∀ v, 0 < v → v < n → par v < v) (D0 : Tab) {t : Nat} : ∀ {s : Nat}, t + s < n → ∀ i, n - 1 - t ≤ i → i < n → refT par n D0 (t + s) i = refT par n D0 t i
  | 0, _, i, _, _ => rfl
  | s + 1, h, i, h1, h2 => by
    have ih := refT_row hp D0 (t := t) (s := s) (by omega) i h1 h2
    rw [← Nat.add_assoc, refT]
    funext r
    unfold elim
    have hlt := hp (n - 1 - (t + s)) (by omega) (by omega)
    rw [if_neg (by omega), ih]
/-- the labeling that takes the best for each node, in the order of the nodes -/
def labA (F : Tab) (par : Nat → Nat) : Nat → List Nat
  | 0 => []
  | i + 1 => labA F par i ++ [am (F i) (if i = 0 then -1 else (((labA F par i).getD (par i) 0 : Nat) : Int))]
theorem labA_len (F : Tab) (par : Nat → Nat) : ∀ i, (labA F par i).length = i
  | 0 => rfl
  | i + 1 => by rw [labA, List.length_append, labA_len F par i]; rfl
theorem labA_take (F : Tab) (par : Nat → Nat) {i : Nat} : ∀ {k : Nat}, i < k → (labA F par k).getD i 0 = (labA F par (i + 1)).getD i 0
  | 0, h => absurd h (by omega)
  | k + 1, h => by
    by_cases e : i = k
    · rw [e]
    · rw [labA]
      have hl := labA_len F par k
      simp only [List.getD]
      rw [List.getElem?_append_left (by omega)]
      have := labA_take F par (i := i) (k := k) (by omega)
      simpa [List.getD] using this
theorem labA_at (F : Tab) (par : Nat → Nat) {n i : Nat} (hi : i < n) (hp : 0 < i → par i < i) : (labA F par n).getD i 0 = am (F i) (if i = 0 then -1 else (((labA F par n).getD (par i) 0 : Nat) : Int)) := by
  rw [labA_take F par hi]
  have e : (labA F par (i + 1)).getD i 0 = am (F i) (if i = 0 then -1 else (((labA F par i).getD (par i) 0 : Nat) : Int)) := by
    rw [labA]
    have hl := labA_len F par i
    simp only [List.getD]
    rw [List.getElem?_append_right (by omega), hl]
    simp
  rw [e]
  by_cases h0 : i = 0
  · rw [if_pos h0, if_pos h0]
  · rw [if_neg h0, if_neg h0]
    have hpi := hp (by omega)
    rw [labA_take F par (k := i) hpi, labA_take F par (k := n) (i := par i) (by omega)]
theorem labA_lt (F : Tab) (par : Nat → Nat) {n i : Nat} (hi : i < n) (hp : 0 < i → par i < i) : (labA F par n).getD i 0 < 3 := by rw [labA_at F par hi hp]; exact am_lt _ _
theorem refT_eq {n : Nat} (hp : ∀ v, 0 < v → v < n → par v < v) (D0 : Tab) {L : Nat → Nat} (hL : ∀ v, 0 < v → v < n → L v = am (refT par n D0 (n - 1) v) (L (par v) : Int)) : ∀ {t : Nat}, t < n → totN par (refT par n D0 t) L (n - t) = totN par D0 L n
  | 0, _ => rfl
  | t + 1, h => by
    have ih := refT_eq hp D0 hL (t := t) (by omega)
    have e : refT par n D0 (n - 1) (n - 1 - t) = refT par n D0 t (n - 1 - t) := by
      have := refT_row hp D0 (t := t) (s := n - 1 - t) (by omega) (n - 1 - t) (Nat.le_refl _) (by omega)
      rwa [show t + (n - 1 - t) = n - 1 by omega] at this
    have hl := hL (n - 1 - t) (by omega) (by omega)
    rw [e] at hl
    have := elim_eq (par := par) (v := n - 1 - t) (by omega) (hp _ (by omega) (by omega)) (refT par n D0 t) hl
    rw [show n - 1 - t + 1 = n - t by omega] at this
    rw [show n - (t + 1) = n - 1 - t by omega, refT]
    exact this.trans ih
/-- the smallest number in row 0 is the smallest total -/
def minR (c : Nat → Nat) : Nat := min (min (c 0) (c 1)) (c 2)
theorem minR_le (c : Nat → Nat) {s : Nat} (h : s < 3) : minR c ≤ c s := by
  unfold minR
  rcases (show s = 0 ∨ s = 1 ∨ s = 2 by omega) with rfl | rfl | rfl <;> omega
theorem mn_open (c : Nat → Nat) : mn c (-1) = minR c + 1 := by
  unfold mn minR ne1
  simp only [show ¬ ((0 : Int) = -1) by omega, show ¬ ((1 : Int) = -1) by omega, show ¬ ((2 : Int) = -1) by omega, if_false]
  omega
theorem refT_all {n : Nat} (h0 : 0 < n) (hp : ∀ v, 0 < v → v < n → par v < v) (D0 : Tab) {L : Nat → Nat} (hL : ∀ v, v < n → L v < 3) : minR (refT par n D0 (n - 1) 0) ≤ totN par D0 L n := by
  have := refT_le hp D0 hL (t := n - 1) (by omega)
  rw [show n - (n - 1) = 1 by omega, totN_one] at this
  exact Nat.le_trans (minR_le _ (hL 0 h0)) this
theorem refT_one {n : Nat} (h0 : 0 < n) (hp : ∀ v, 0 < v → v < n → par v < v) (D0 : Tab) : ∃ L : Nat → Nat, (∀ v, v < n → L v < 3) ∧ totN par D0 L n = minR (refT par n D0 (n - 1) 0) := by
  obtain ⟨F, hF⟩ : ∃ F, refT par n D0 (n - 1) = F := ⟨_, rfl⟩
  refine ⟨fun v => (labA F par n).getD v 0, fun v hv => labA_lt F par hv fun h => hp v h hv, ?_⟩
  have := refT_eq (par := par) hp D0 (L := fun v => (labA F par n).getD v 0) (fun v h1 h2 => by
    rw [hF]
    have := labA_at F par h2 fun h => hp v h h2
    rw [if_neg (by omega)] at this
    exact this) (t := n - 1) (by omega)
  rw [show n - (n - 1) = 1 by omega, totN_one, hF] at this
  rw [hF, ← this]
  show F 0 ((labA F par n).getD 0 0) = _
  have hl := labA_at F par h0 fun h => absurd h (by omega)
  rw [if_pos rfl] at hl
  have := am_eq (F 0) (-1)
  rw [mn_open, ← hl] at this
  have h3 := labA_lt F par h0 fun h => absurd h (by omega)
  have : ne1 (((labA F par n).getD 0 0 : Nat) : Int) (-1) = 1 := if_neg (by omega)
  omega
end
end Go.Proofs.Kv
