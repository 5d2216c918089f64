import Derived.Test.YtdhmcmkpeaoigaaY3
namespace Go.Proofs.Ytdhmcmkpeaoigaa
open Go.RowKit Go.Proofs.Kv

/-! ### the fewest changes by the document -/
def misN (X : Tr) (T : List (List Int)) (p : Nat) (k i r : Nat) : Nat := sumN (fun c => if nodeX X c = i ∧ rdT T p c ≠ (r : Int) then 1 else 0) k
def misT (X : Tr) (T : List (List Int)) (p k : Nat) : Tab := fun i r => 1000 * misN X T p k i r
def misS (X : Tr) (T : List (List Int)) (p k j : Nat) : Tab := fun i r => misT X T p k i r + if nodeX X k = i ∧ r < j ∧ rdT T p k ≠ (r : Int) then 1000 else 0
theorem misS_zero (X : Tr) (T : List (List Int)) (p k : Nat) : misS X T p k 0 = misT X T p k := by
  funext i r; unfold misS; rw [if_neg (fun h => absurd h.2.1 (by omega)), Nat.add_zero]
theorem misS_all (X : Tr) (T : List (List Int)) (p k : Nat) : ∀ i r, r < 3 → misS X T p k 3 i r = misT X T p (k + 1) i r := fun i r hr => by
  unfold misS misT
  have e : misN X T p (k + 1) i r = misN X T p k i r + if nodeX X k = i ∧ rdT T p k ≠ (r : Int) then 1 else 0 := rfl
  rw [e]
  by_cases h : nodeX X k = i ∧ rdT T p k ≠ (r : Int)
  · rw [if_pos h, if_pos ⟨h.1, hr, h.2⟩]; omega
  · rw [if_neg h, if_neg (fun h' => h ⟨h'.1, h'.2.2⟩)]; rfl
theorem misS_hit {X : Tr} {T : List (List Int)} {p k j : Nat} (h : rdT T p k ≠ (j : Int)) {y : Nat} (hy : y = misT X T p k (nodeX X k) j + 1000) : setT (misS X T p k j) (nodeX X k) j y = misS X T p k (j + 1) := by
  funext i r
  unfold setT misS
  by_cases e : i = nodeX X k ∧ r = j
  · obtain ⟨rfl, rfl⟩ := e
    rw [if_pos ⟨rfl, rfl⟩, if_pos ⟨rfl, by omega, h⟩, hy]
  · rw [if_neg e]
    congr 1
    by_cases f : nodeX X k = i ∧ r < j ∧ rdT T p k ≠ (r : Int)
    · rw [if_pos f, if_pos ⟨f.1, by omega, f.2.2⟩]
    · rw [if_neg f, if_neg fun h' => f ⟨h'.1, by have := h'.2.1; by_cases e2 : r = j; exact absurd ⟨h'.1.symm, e2⟩ e; omega, h'.2.2⟩]
theorem misS_miss {X : Tr} {T : List (List Int)} {p k j : Nat} (h : rdT T p k = (j : Int)) : misS X T p k j = misS X T p k (j + 1) := by
  funext i r
  unfold misS
  congr 1
  by_cases f : nodeX X k = i ∧ r < j ∧ rdT T p k ≠ (r : Int)
  · rw [if_pos f, if_pos ⟨f.1, by omega, f.2.2⟩]
  · rw [if_neg f, if_neg fun h' => f ⟨h'.1, by have := h'.2.1; by_cases e2 : r = j; rw [e2] at h'; exact absurd h h'.2.2; omega, h'.2.2⟩]
theorem misN_le (X : Tr) (T : List (List Int)) (p i r : Nat) : ∀ k, misN X T p k i r ≤ k
  | 0 => Nat.le_refl _
  | k + 1 => by
    have := misN_le X T p i r k
    have e : misN X T p (k + 1) i r = misN X T p k i r + if nodeX X k = i ∧ rdT T p k ≠ (r : Int) then 1 else 0 := rfl
    rw [e]; split <;> omega
/-- the best of the readings from 0 to s - 1 -/
def bb (c : Nat → Nat) (r : Int) : Nat → Nat
  | 0 => 1000000
  | s + 1 => min (bb c r s) (c s + ne1 (s : Int) r)
theorem bb_all {c : Nat → Nat} {r : Int} (h : mn c r ≤ 1000000) : bb c r 3 = mn c r := by
  have e : bb c r 3 = min (min (min 1000000 (c 0 + ne1 0 r)) (c 1 + ne1 1 r)) (c 2 + ne1 2 r) := rfl
  rw [e]; unfold mn at *; omega
theorem bb_le (c : Nat → Nat) (r : Int) : ∀ s, bb c r s ≤ 1000000
  | 0 => Nat.le_refl _
  | s + 1 => Nat.le_trans (Nat.min_le_left _ _) (bb_le c r s)
def refMin (X : Tr) (T : List (List Int)) (p : Nat) : Nat := minR (refT (parX X) X.par.length (misT X T p T.length) (X.par.length - 1) 0)
theorem mis_sum (X : Tr) (T : List (List Int)) (p : Nat) {n : Nat} (L : Nat → Nat) (hn : ∀ c, c < T.length → nodeX X c < n) : ∀ k, k ≤ T.length → sumN (fun i => misN X T p k i (L i)) n = sumN (fun c => if rdT T p c ≠ (L (nodeX X c) : Int) then 1 else 0) k
  | 0, _ => sumN_zero fun i _ => rfl
  | k + 1, hk => by
    have ih := mis_sum X T p L hn k (by omega)
    have e : (fun i => misN X T p (k + 1) i (L i)) = fun i => misN X T p k i (L i) + if i = nodeX X k then (if rdT T p k ≠ (L i : Int) then 1 else 0) else 0 := by
      funext i
      have e : misN X T p (k + 1) i (L i) = misN X T p k i (L i) + if nodeX X k = i ∧ rdT T p k ≠ (L i : Int) then 1 else 0 := rfl
      rw [e]
      congr 1
      by_cases h1 : i = nodeX X k
      · subst h1; rw [if_pos rfl]; simp
      · rw [if_neg h1, if_neg fun h => h1 h.1.symm]
    rw [e, sumN, ← ih]
    have e2 : ∀ (f : Nat → Nat) (g : Nat → Nat) (v : Nat), v < n → sumN (fun i => f i + if i = v then g i else 0) n = sumN f n + g v := fun f g v hv => by
      rw [← sumN_upd f v (g v) hv]
      refine sumN_congr fun i _ => ?_
      by_cases h1 : i = v
      · subst h1; rw [if_pos rfl, if_pos rfl]
      · rw [if_neg h1, if_neg h1, Nat.add_zero]
    exact e2 _ (fun i => if rdT T p k ≠ (L i : Int) then 1 else 0) _ (hn k (by omega))
theorem sumN_le_k (f : Nat → Nat) (h : ∀ i, f i ≤ 1) : ∀ k, sumN f k ≤ k
  | 0 => Nat.le_refl _
  | k + 1 => by rw [sumN]; have := sumN_le_k f h k; have := h k; omega
theorem sumN_mul (m : Nat) (f : Nat → Nat) : ∀ k, sumN (fun i => m * f i) k = m * sumN f k
  | 0 => rfl
  | k + 1 => by rw [sumN, sumN, sumN_mul m f k, Nat.mul_add]
/-- no number of the table is large -/
theorem refT_small {X : Tr} {T : List (List Int)} {p : Nat} (gX : GoodX X) (hT : T.length ≤ 6) (hl : X.at_.length = T.length) {t : Nat} (ht : t < X.par.length) {i : Nat} (hi : i < X.par.length - t) {r : Nat} (hr : r < 3) : refT (parX X) X.par.length (misT X T p T.length) t i r ≤ 6000 := by
  have h1 := refT_le (par := parX X) (fun v h0 hv => parX_lt gX v h0 hv) (misT X T p T.length) (L := fun _ => r) (fun v _ => hr) ht
  have h2 : totN (parX X) (refT (parX X) X.par.length (misT X T p T.length) t) (fun _ => r) (X.par.length - t) = sumN (fun i => refT (parX X) X.par.length (misT X T p T.length) t i r) (X.par.length - t) := by
    unfold totN chgN
    rw [sumN_zero (f := fun i => if i = 0 then 0 else ne1 (r : Int) (r : Int)) fun i _ => by rw [ne1_same]; split <;> rfl]; rfl
  have h3 : totN (parX X) (misT X T p T.length) (fun _ => r) X.par.length = 1000 * sumN (fun c => if rdT T p c ≠ (r : Int) then 1 else 0) T.length := by
    unfold totN chgN
    rw [sumN_zero (f := fun i => if i = 0 then 0 else ne1 (r : Int) (r : Int)) fun i _ => by rw [ne1_same]; split <;> rfl]
    rw [← mis_sum X T p (n := X.par.length) (fun _ => r) (fun c hc => by have := gX.at_ c (by omega); unfold nodeX; omega) T.length (Nat.le_refl _), ← sumN_mul]; rfl
  have h4 := sumN_le_k (fun c => if rdT T p c ≠ (r : Int) then 1 else 0) (fun c => by split <;> omega) T.length
  have h5 := sumN_ge (fun i => refT (parX X) X.par.length (misT X T p T.length) t i r) hi
  rw [h2, h3] at h1
  omega
/-- the document's number is the program's, or there is none -/
theorem refMin_some {X : Tr} {T : List (List Int)} {p : Nat} (gT : GoodT T) (gX : GoodX X) (hp : p < n0 T) (hl : X.at_.length = T.length) {K : List Int} (h : atK X T p = some K) : refMin X T p = chgR X (compL X K) ∧ refMin X T p < 1000 := by
  have gK := atK_good gT gX hp hl h
  obtain ⟨k1, k2, k3⟩ := foldK_ok gT gX hp hl (Nat.le_refl _) h
  have hpar := fun v h0 (hv : v < X.par.length) => parX_lt gX v h0 hv
  have h0 : 0 < X.par.length := by have := gX.ge; omega
  have hnode : ∀ c, c < T.length → nodeX X c < X.par.length := fun c hc => by have := gX.at_ c (by omega); unfold nodeX; omega
  obtain ⟨L, hL⟩ : ∃ L, labP (parX X) (badK K) X.par.length = L := ⟨_, rfl⟩
  have hgood := labP_good (par := parX X) (badK_good gK) gX.le hpar
  have hleast := fun {M : Nat → Nat} hM => labP_least (par := parX X) (badK_good gK) h0 gX.le hpar (L := M) hM
  rw [hL] at hgood hleast
  have hchg : chgR X (compL X K) = chgN (parX X) L X.par.length := by
    unfold chgR chgN
    refine sumN_congr fun i hi => ?_
    by_cases e : i = 0
    · rw [if_pos e, if_pos e]
    · rw [if_neg e, if_neg e, compL, labI_get _ _ hi, labI_get _ _ (by have := hpar i (by omega) hi; omega), ← hL]; rfl
  have hcons : ∀ M : Nat → Nat, (∀ v, v < X.par.length → M v < 3 ∧ badK K v (M v) = false) → sumN (fun c => if rdT T p c ≠ (M (nodeX X c) : Int) then 1 else 0) T.length = 0 := fun M hM => sumN_zero fun c hc => by
    have h1 := (hM _ (hnode c hc)).2
    have h2 := k2 c hc
    have h3 := gT.ok c hc p hp
    have h3 : 0 ≤ rdT T p c ∧ rdT T p c ≤ 2 := h3
    unfold badK at h1
    rw [h2] at h1
    rw [if_neg]
    intro hne
    simp only [Bool.and_eq_false_iff, decide_eq_false_iff_not, Decidable.not_not] at h1
    rcases h1 with h1 | h1
    · omega
    · exact hne h1
  have htot : ∀ M : Nat → Nat, totN (parX X) (misT X T p T.length) M X.par.length = 1000 * sumN (fun c => if rdT T p c ≠ (M (nodeX X c) : Int) then 1 else 0) T.length + chgN (parX X) M X.par.length := fun M => by
    unfold totN
    rw [← mis_sum X T p M hnode T.length (Nat.le_refl _), ← sumN_mul]; rfl
  have hle := refT_all (par := parX X) h0 hpar (misT X T p T.length) (L := L) fun v hv => (hgood v hv).1
  rw [htot L, hcons L hgood] at hle
  obtain ⟨M, hM1, hM2⟩ := refT_one (par := parX X) h0 hpar (misT X T p T.length)
  rw [htot M] at hM2
  have hlt := chgN_lt (par := parX X) h0 L
  have h16 := gX.le
  have hz : sumN (fun c => if rdT T p c ≠ (M (nodeX X c) : Int) then 1 else 0) T.length = 0 := by omega
  have hMgood : ∀ v, v < X.par.length → M v < 3 ∧ badK K v (M v) = false := fun v hv => by
    refine ⟨hM1 v hv, ?_⟩
    unfold badK
    by_cases e : K.getD v 0 = -1
    · rw [e]; rfl
    · obtain ⟨c, hc, rfl⟩ := k3 v hv e
      have h1 := sumN_ge (fun c => if rdT T p c ≠ (M (nodeX X c) : Int) then 1 else 0) hc
      rw [hz] at h1
      rw [k2 c hc]
      by_cases e2 : rdT T p c = (M (nodeX X c) : Int)
      · rw [e2]; simp
      · have h1 : (if rdT T p c ≠ (M (nodeX X c) : Int) then 1 else 0) ≤ 0 := h1
        rw [if_pos e2] at h1; omega
  have hge := hleast hMgood
  unfold refMin
  rw [hchg]
  omega
theorem foldK_clash {X : Tr} {T : List (List Int)} {p : Nat} (gT : GoodT T) (gX : GoodX X) (hp : p < n0 T) (hl : X.at_.length = T.length) : ∀ {k : Nat}, k ≤ T.length → foldK X T p k = none → ∃ c d, c < T.length ∧ d < T.length ∧ nodeX X c = nodeX X d ∧ rdT T p c ≠ rdT T p d
  | 0, _, h => by cases h
  | k + 1, hk, h => by
    rw [foldK] at h
    cases hf : foldK X T p k with
    | none => exact foldK_clash gT gX hp hl (by omega) hf
    | some K =>
      rw [hf] at h
      have h : stepK K (nodeX X k) (rdT T p k) = none := h
      unfold stepK at h
      split at h
      · rename_i hc
        obtain ⟨i1, i2, i3⟩ := foldK_ok gT gX hp hl (by omega) hf
        have hn : nodeX X k < X.par.length := by have := gX.at_ k (by omega); unfold nodeX; omega
        obtain ⟨c, hc1, hc2⟩ := i3 _ hn hc.1
        refine ⟨c, k, by omega, by omega, hc2, ?_⟩
        have := i2 c hc1
        rw [hc2] at this
        rw [← this]; exact hc.2
      · cases h
theorem refMin_none {X : Tr} {T : List (List Int)} {p : Nat} (gT : GoodT T) (gX : GoodX X) (hp : p < n0 T) (hl : X.at_.length = T.length) (h : atK X T p = none) : 1000 ≤ refMin X T p := by
  obtain ⟨c, d, hc, hd, hcd, hne⟩ := foldK_clash gT gX hp hl (Nat.le_refl _) h
  have hpar := fun v h0 (hv : v < X.par.length) => parX_lt gX v h0 hv
  have h0 : 0 < X.par.length := by have := gX.ge; omega
  have hnode : ∀ c, c < T.length → nodeX X c < X.par.length := fun c hc => by have := gX.at_ c (by omega); unfold nodeX; omega
  obtain ⟨M, hM1, hM2⟩ := refT_one (par := parX X) h0 hpar (misT X T p T.length)
  have htot : totN (parX X) (misT X T p T.length) M X.par.length = 1000 * sumN (fun c => if rdT T p c ≠ (M (nodeX X c) : Int) then 1 else 0) T.length + chgN (parX X) M X.par.length := by
    unfold totN
    rw [← mis_sum X T p M hnode T.length (Nat.le_refl _), ← sumN_mul]; rfl
  have h1 := sumN_ge (fun c => if rdT T p c ≠ (M (nodeX X c) : Int) then 1 else 0) hc
  have h2 := sumN_ge (fun c => if rdT T p c ≠ (M (nodeX X c) : Int) then 1 else 0) hd
  have h1 : (if rdT T p c ≠ (M (nodeX X c) : Int) then 1 else 0) ≤ _ := h1
  have h2 : (if rdT T p d ≠ (M (nodeX X d) : Int) then 1 else 0) ≤ _ := h2
  have h3 : 1 ≤ sumN (fun c => if rdT T p c ≠ (M (nodeX X c) : Int) then 1 else 0) T.length := by
    by_cases e : rdT T p c = (M (nodeX X c) : Int)
    · rw [if_pos (by rw [← hcd, ← e]; exact Ne.symm hne)] at h2; exact h2
    · rw [if_pos e] at h1; exact h1
  unfold refMin
  rw [← hM2, htot]
  omega
end Go.Proofs.Ytdhmcmkpeaoigaa
