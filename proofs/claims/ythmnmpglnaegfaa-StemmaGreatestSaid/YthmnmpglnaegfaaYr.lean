import Derived.Test.YthmnmpglnaegfaaYq
namespace Go.Proofs.Kv
section
variable (par : Nat → Nat) (bad : Nat → Nat → Bool)
/-! #### the program's table: what may not be is 16 -/
def ovr (v : Nat) (D : Tab) : Tab := fun i r => if i = v ∧ bad v r = true then 16 else D i r
def proT (n : Nat) : Nat → Tab
  | 0 => fun _ _ => 0
  | t + 1 => if n - 1 - t = 0 then ovr bad (n - 1 - t) (proT n t) else elim par (n - 1 - t) (ovr bad (n - 1 - t) (proT n t))
def szT (n : Nat) : Nat → Nat → Nat
  | 0 => fun _ => 1
  | t + 1 => fun i => if i = par (n - 1 - t) then szT n t i + szT n t (n - 1 - t) else szT n t i
variable {par bad}
theorem ovr_other {v i : Nat} (h : i ≠ v) (D : Tab) : ovr bad v D i = D i := by funext r; exact if_neg fun e => h e.1
theorem ovr_good {v r : Nat} (h : bad v r = false) (D : Tab) : ovr bad v D v r = D v r := if_neg fun e => by rw [h] at e; exact absurd e.2 (by decide)
theorem szT_sum {n : Nat} (hp : ∀ v, 0 < v → v < n → par v < v) : ∀ {t : Nat}, t < n → sumN (szT par n t) (n - t) = n
  | 0, _ => by
    have : ∀ k, sumN (szT par n 0) k = k := fun k => by induction k with | zero => rfl | succ k ih => rw [sumN, ih]; rfl
    exact this n
  | t + 1, h => by
    have ih := szT_sum hp (t := t) (by omega)
    have hv := hp (n - 1 - t) (by omega) (by omega)
    have e : sumN (szT par n (t + 1)) (n - 1 - t) = sumN (szT par n t) (n - 1 - t) + szT par n t (n - 1 - t) := by
      rw [← sumN_upd (szT par n t) (par (n - 1 - t)) (szT par n t (n - 1 - t)) hv]
      rfl
    rw [show n - (t + 1) = n - 1 - t by omega, e]
    rw [show n - t = n - 1 - t + 1 by omega, sumN] at ih
    exact ih
theorem szT_pos (n : Nat) : ∀ (t i : Nat), 1 ≤ szT par n t i
  | 0, _ => Nat.le_refl _
  | t + 1, i => by
    have := szT_pos n t i
    show 1 ≤ if i = par (n - 1 - t) then szT par n t i + szT par n t (n - 1 - t) else szT par n t i
    split <;> omega
theorem sumN_two (f : Nat → Nat) : ∀ {k i : Nat}, 0 < i → i < k → f 0 + f i ≤ sumN f k
  | 0, _, _, h => absurd h (by omega)
  | k + 1, i, h0, h => by
    rw [sumN]
    by_cases e : i = k
    · subst e
      have := sumN_ge f (k := i) (i := 0) h0; omega
    · have := sumN_two f (k := k) (i := i) h0 (by omega); omega
theorem szT_le {n : Nat} (hp : ∀ v, 0 < v → v < n → par v < v) {t i : Nat} (ht : t < n) (h0 : 0 < i) (hi : i < n - t) : szT par n t i + 1 ≤ n := by
  have h1 := szT_sum (par := par) hp ht
  have h2 := sumN_two (szT par n t) (k := n - t) h0 hi
  have h3 := szT_pos (par := par) n t 0
  omega
theorem szT_root {n : Nat} (hp : ∀ v, 0 < v → v < n → par v < v) {t : Nat} (ht : t < n) : szT par n t 0 ≤ n := by
  have h1 := szT_sum (par := par) hp ht
  have h2 := sumN_ge (szT par n t) (k := n - t) (i := 0) (by omega)
  omega
variable (good : ∀ v, ∃ s, s < 3 ∧ bad v s = false)
include good
theorem proT_le {n : Nat} (hp : ∀ v, 0 < v → v < n → par v < v) : ∀ {t : Nat}, t < n → ∀ i, i < n - t → ∀ r, proT par bad n t i r + 1 ≤ szT par n t i
  | 0, _, i, _, r => by show 0 + 1 ≤ 1; omega
  | t + 1, h, i, hi, r => by
    have ih := proT_le hp (t := t) (by omega)
    have hv := hp (n - 1 - t) (by omega) (by omega)
    have e1 : proT par bad n (t + 1) i r = elim par (n - 1 - t) (ovr bad (n - 1 - t) (proT par bad n t)) i r := by rw [proT, if_neg (by omega)]
    rw [e1]
    have hne : i ≠ n - 1 - t := by omega
    unfold elim
    show _ ≤ if i = par (n - 1 - t) then szT par n t i + szT par n t (n - 1 - t) else szT par n t i
    have hi' := ih i (by omega) r
    by_cases e : i = par (n - 1 - t)
    · rw [if_pos e, if_pos e, ovr_other hne]
      obtain ⟨s, hs, hb⟩ := good (n - 1 - t)
      have h1 := ih (n - 1 - t) (by omega) s
      have h2 := mn_le (ovr bad (n - 1 - t) (proT par bad n t) (n - 1 - t)) (r : Int) hs
      rw [ovr_good hb] at h2
      have := ne1_le (s : Int) (r : Int)
      omega
    · rw [if_neg e, if_neg e, ovr_other hne]; exact hi'
omit good in
theorem proT_row {n : Nat} (hp : ∀ v, 0 < v → v < n → par v < v) {t : Nat} : ∀ {s : Nat}, t + 1 + s ≤ n → ∀ i, n - 1 - t ≤ i → i < n → proT par bad n (t + 1 + s) i = proT par bad n (t + 1) i
  | 0, _, i, _, _ => rfl
  | s + 1, h, i, h1, h2 => by
    have ih := proT_row hp (t := t) (s := s) (by omega) i h1 h2
    rw [← Nat.add_assoc, proT]
    have hne : i ≠ n - 1 - (t + 1 + s) := by omega
    by_cases h0 : n - 1 - (t + 1 + s) = 0
    · rw [if_pos h0, ovr_other hne]; exact ih
    · rw [if_neg h0]
      have hlt := hp (n - 1 - (t + 1 + s)) (by omega) (by omega)
      funext r
      unfold elim
      rw [if_neg (by omega), ovr_other hne, ih]
omit good in
/-- the last table's row of a node is that with which it was taken away -/
theorem proT_last {n : Nat} (hp : ∀ v, 0 < v → v < n → par v < v) {v : Nat} (hv : v < n) : proT par bad n n v = ovr bad v (proT par bad n (n - 1 - v)) v := by
  have := proT_row (par := par) (bad := bad) hp (t := n - 1 - v) (s := v) (by omega) v (by omega) hv
  rw [show n - 1 - v + 1 + v = n by omega] at this
  rw [this, proT, show n - 1 - (n - 1 - v) = v by omega]
  by_cases h0 : v = 0
  · rw [if_pos h0]
  · rw [if_neg h0]
    have hlt := hp v (by omega) hv
    funext r
    unfold elim
    rw [if_neg (by omega)]
theorem proT_good {n : Nat} (h16 : n ≤ 16) (hp : ∀ v, 0 < v → v < n → par v < v) {v : Nat} (hv : v < n) (p : Int) (h0 : v = 0 → p = -1) : bad v (am (proT par bad n n v) p) = false := by
  obtain ⟨c, hc⟩ : ∃ c, proT par bad n n v = c := ⟨_, rfl⟩
  have hl := proT_last (par := par) (bad := bad) hp hv
  rw [hc] at hl
  rw [hc]
  cases hb : bad v (am c p) with
  | false => rfl
  | true =>
    exfalso
    have e16 : c (am c p) = 16 := by rw [hl]; exact if_pos ⟨rfl, by rw [← hl]; exact hb⟩
    have h1 := am_eq c p
    rw [e16] at h1
    obtain ⟨s, hs, hbs⟩ := good v
    have h2 := mn_le c p hs
    have hcs : c s = proT par bad n (n - 1 - v) v s := by rw [hl]; exact ovr_good hbs _
    have h3 := proT_le good hp (t := n - 1 - v) (by omega) v (by omega) s
    rw [← hcs] at h3
    have h4 := ne1_le (s : Int) p
    by_cases hz : v = 0
    · subst hz
      have h5 := szT_root (par := par) hp (t := n - 1 - 0) (by omega)
      have e1 : ne1 ((am c p : Nat) : Int) p = 1 := by rw [h0 rfl]; exact if_neg (by omega)
      omega
    · have h5 := szT_le (par := par) hp (t := n - 1 - v) (i := v) (by omega) (by omega) (by omega)
      omega
omit good in
theorem proT_tot {n : Nat} (hp : ∀ v, 0 < v → v < n → par v < v) {L : Nat → Nat} (hL : ∀ v, v < n → L v < 3 ∧ bad v (L v) = false) : ∀ {t : Nat}, t < n → totN par (proT par bad n t) L (n - t) ≤ chgN par L n
  | 0, _ => by
    show totN par (fun _ _ => 0) L n ≤ _
    have : totN par (fun _ _ => 0) L n = chgN par L n := by unfold totN; rw [sumN_zero fun i _ => rfl]; omega
    omega
  | t + 1, h => by
    have ih := proT_tot hp hL (t := t) (by omega)
    have := elim_le (par := par) (v := n - 1 - t) (by omega) (hp _ (by omega) (by omega)) (ovr bad (n - 1 - t) (proT par bad n t)) (L := L) (hL _ (by omega)).1
    rw [show n - 1 - t + 1 = n - t by omega] at this
    rw [show n - (t + 1) = n - 1 - t by omega, proT, if_neg (by omega)]
    refine Nat.le_trans this (Nat.le_trans (Nat.le_of_eq (totN_congr fun i hi => ?_)) ih)
    by_cases e : i = n - 1 - t
    · rw [e]; exact ovr_good (hL _ (by omega)).2 _
    · rw [ovr_other e]
omit good in
theorem proT_totE {n : Nat} (hp : ∀ v, 0 < v → v < n → par v < v) {L : Nat → Nat} (hL : ∀ v, v < n → L v < 3 ∧ bad v (L v) = false) (hE : ∀ v, 0 < v → v < n → L v = am (proT par bad n n v) (L (par v) : Int)) : ∀ {t : Nat}, t < n → totN par (proT par bad n t) L (n - t) = chgN par L n
  | 0, _ => by
    show totN par (fun _ _ => 0) L n = _
    unfold totN; rw [sumN_zero fun i _ => rfl]; omega
  | t + 1, h => by
    have ih := proT_totE hp hL hE (t := t) (by omega)
    have hl := hE (n - 1 - t) (by omega) (by omega)
    rw [proT_last hp (by omega), show n - 1 - (n - 1 - t) = t by omega] at hl
    have := elim_eq (par := par) (v := n - 1 - t) (by omega) (hp _ (by omega) (by omega)) (ovr bad (n - 1 - t) (proT par bad n t)) (L := L) hl
    rw [show n - 1 - t + 1 = n - t by omega] at this
    rw [show n - (t + 1) = n - 1 - t by omega, proT, if_neg (by omega), this, ← ih]
    refine totN_congr fun i hi => ?_
    by_cases e : i = n - 1 - t
    · rw [e]; exact ovr_good (hL _ (by omega)).2 _
    · rw [ovr_other e]
/-- the program's labeling is one that may be, with the fewest changes -/
def labP (par : Nat → Nat) (bad : Nat → Nat → Bool) (n : Nat) (v : Nat) : Nat := (labA (proT par bad n n) par n).getD v 0
theorem labP_good {n : Nat} (h16 : n ≤ 16) (hp : ∀ v, 0 < v → v < n → par v < v) : ∀ v, v < n → labP par bad n v < 3 ∧ bad v (labP par bad n v) = false := fun v hv => by
  refine ⟨labA_lt _ par hv fun h => hp v h hv, ?_⟩
  unfold labP
  rw [labA_at _ par hv fun h => hp v h hv]
  exact proT_good good h16 hp hv _ fun h => if_pos h
theorem labP_least {n : Nat} (h0 : 0 < n) (h16 : n ≤ 16) (hp : ∀ v, 0 < v → v < n → par v < v) {L : Nat → Nat} (hL : ∀ v, v < n → L v < 3 ∧ bad v (L v) = false) : chgN par (labP par bad n) n ≤ chgN par L n := by
  have hg := labP_good good h16 hp
  have e1 := proT_totE (par := par) (bad := bad) hp hg (fun v h1 h2 => by
    have := labA_at (proT par bad n n) par h2 fun h => hp v h h2
    rw [if_neg (by omega)] at this
    exact this) (t := n - 1) (by omega)
  have e2 := proT_tot (par := par) (bad := bad) hp hL (t := n - 1) (by omega)
  rw [show n - (n - 1) = 1 by omega, totN_one] at e1 e2
  have hl := proT_last (par := par) (bad := bad) hp h0
  rw [show n - 1 - 0 = n - 1 by omega] at hl
  have c1 : proT par bad n n 0 (labP par bad n 0) = proT par bad n (n - 1) 0 (labP par bad n 0) := by rw [hl]; exact ovr_good (hg 0 h0).2 _
  have c2 : proT par bad n n 0 (L 0) = proT par bad n (n - 1) 0 (L 0) := by rw [hl]; exact ovr_good (hL 0 h0).2 _
  have hat := labA_at (proT par bad n n) par h0 fun h => absurd h (by omega)
  rw [if_pos rfl] at hat
  have ham := am_eq (proT par bad n n 0) (-1)
  rw [mn_open, ← hat] at ham
  have hne : ne1 (((labA (proT par bad n n) par n).getD 0 0 : Nat) : Int) (-1) = 1 := if_neg (by omega)
  have hmin := minR_le (proT par bad n n 0) (hL 0 h0).1
  unfold labP at c1 e1
  unfold labP
  omega
omit good in
theorem chgN_lt {n : Nat} (h0 : 0 < n) (L : Nat → Nat) : chgN par L n < n := by
  have h1 : chgN par L n ≤ sumN (fun i => if i = 0 then 0 else 1) n := sumN_le fun i _ => by
    split
    · exact Nat.le_refl _
    · exact ne1_le _ _
  have h2 : ∀ k, 0 < k → sumN (fun i => if i = 0 then 0 else 1) k + 1 = k := fun k hk => by
    induction k with
    | zero => omega
    | succ k ih =>
      rw [sumN]
      by_cases e : k = 0
      · subst e; rfl
      · rw [if_neg e]; have := ih (by omega); omega
  have := h2 n h0
  omega
end
end Go.Proofs.Kv
