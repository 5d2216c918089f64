import Derived.Test.YtdhmcmkpeaoigaaYR
namespace Go.Proofs.Ytdhmcmkpeaoigaa
open Go.RowKit Go.Proofs.Kv Go

/-! ### readings that are written otherwise at a place -/
def spF (l : List Int) (p : Nat) (r : List Int) : List Int := r.set p (l.getD (r.getD p 0).toNat 0)
def hqF (l : List Int) (p q : Nat) (x : Int) : Int := if q = p then l.getD x.toNat 0 else x
theorem allRB_good {l : List Int} (h : allRB l = true) : (∀ x : Int, 0 ≤ x → x ≤ 2 → 0 ≤ l.getD x.toNat 0 ∧ l.getD x.toNat 0 ≤ 2) ∧ ∀ x y : Int, 0 ≤ x → x ≤ 2 → 0 ≤ y → y ≤ 2 → l.getD x.toNat 0 = l.getD y.toNat 0 → x = y := by
  unfold allRB at h
  rw [Bool.and_eq_true, Bool.and_eq_true, Bool.and_eq_true, decide_eq_true_eq, decide_eq_true_eq, decide_eq_true_eq, decide_eq_true_eq] at h
  obtain ⟨h0, h1, h2, h3⟩ := h
  match l, h3 with
  | [a, b, c], _ =>
    simp only [List.mem_cons, List.not_mem_nil, or_false] at h0 h1 h2
    have e0 : ([a, b, c] : List Int).getD 0 0 = a := rfl
    have e1 : ([a, b, c] : List Int).getD 1 0 = b := rfl
    have e2 : ([a, b, c] : List Int).getD 2 0 = c := rfl
    have key : ∀ x : Int, 0 ≤ x → x ≤ 2 → (x = 0 ∧ ([a, b, c] : List Int).getD x.toNat 0 = a) ∨ (x = 1 ∧ ([a, b, c] : List Int).getD x.toNat 0 = b) ∨ (x = 2 ∧ ([a, b, c] : List Int).getD x.toNat 0 = c) := fun x h4 h5 => by
      rcases (show x = 0 ∨ x = 1 ∨ x = 2 by omega) with rfl | rfl | rfl
      · exact .inl ⟨rfl, e0⟩
      · exact .inr (.inl ⟨rfl, e1⟩)
      · exact .inr (.inr ⟨rfl, e2⟩)
    refine ⟨fun x h4 h5 => ?_, fun x y h4 h5 h6 h7 e => ?_⟩
    · rcases key x h4 h5 with ⟨-, k⟩ | ⟨-, k⟩ | ⟨-, k⟩ <;> rw [k] <;> omega
    · rcases key x h4 h5 with ⟨k1, k⟩ | ⟨k1, k⟩ | ⟨k1, k⟩ <;> rcases key y h6 h7 with ⟨k3, k2⟩ | ⟨k3, k2⟩ | ⟨k3, k2⟩ <;> rw [k, k2] at e <;> omega
theorem uq_map {α β : Type} [DecidableEq α] [DecidableEq β] (l : List α) (f : α → β) (hf : ∀ x ∈ l, ∀ y ∈ l, f x = f y → x = y) : (uq (l.map f)).length = (uq l).length := by
  have h1 : (uq (l.map f)).length ≤ ((uq l).map f).length := len_le_sub (uq_nodup _) fun x hx => by
    rw [mem_uq] at hx
    obtain ⟨y, hy, rfl⟩ := List.mem_map.1 hx
    exact List.mem_map.2 ⟨y, mem_uq.2 hy, rfl⟩
  have hn : ((uq l).map f).Nodup := List.pairwise_map.2 (List.Pairwise.imp_of_mem (fun {a b} ha hb hab e => hab (hf a (mem_uq.1 ha) b (mem_uq.1 hb) e)) (uq_nodup l))
  have h2 : ((uq l).map f).length ≤ (uq (l.map f)).length := len_le_sub hn fun x hx => by
    obtain ⟨y, hy, rfl⟩ := List.mem_map.1 hx
    exact mem_uq.2 (List.mem_map.2 ⟨y, mem_uq.1 hy, rfl⟩)
  rw [List.length_map] at h1 h2
  omega
theorem spF_get (l : List Int) {p : Nat} {r : List Int} (hp : p < r.length) (q : Nat) : (spF l p r).getD q 0 = hqF l p q (r.getD q 0) := by
  unfold spF hqF
  by_cases e : q = p
  · subst e
    rw [if_pos rfl]
    generalize l.getD _ 0 = z
    simp [List.getD, hp]
  · rw [if_neg e]
    generalize l.getD _ 0 = z
    simp only [List.getD]
    rw [List.getElem?_set_ne (Ne.symm e)]
theorem row_of {T : List (List Int)} (g : GoodT T) {r : List Int} (hr : r ∈ T) : r.length = n0 T := by
  obtain ⟨i, hi, rfl⟩ := List.mem_iff_getElem.1 hr
  have := g.len i hi
  simpa [List.getD, List.getElem?_eq_getElem hi] using this
theorem sp_col {T : List (List Int)} (g : GoodT T) (l : List Int) {p : Nat} (hp : p < n0 T) (q : Nat) : colR (T.map (spF l p)) q = (colR T q).map (hqF l p q) := by
  unfold colR
  rw [List.map_map, List.map_map]
  exact List.map_congr_left fun r hr => spF_get l (by rw [row_of g hr]; exact hp) q
theorem sp_colP {T : List (List Int)} (g : GoodT T) (l : List Int) {p : Nat} (hp : p < n0 T) (q s : Nat) : colP (T.map (spF l p)) q s = (colP T q s).map fun x => (hqF l p q x.1, hqF l p s x.2) := by
  unfold colP
  rw [List.map_map, List.map_map]
  exact List.map_congr_left fun r hr => by
    show (_, _) = (_, _)
    rw [spF_get l (by rw [row_of g hr]; exact hp) q, spF_get l (by rw [row_of g hr]; exact hp) s]
theorem hqF_inj {l : List Int} (hl : allRB l = true) {p q : Nat} {x y : Int} (hx : 0 ≤ x ∧ x ≤ 2) (hy : 0 ≤ y ∧ y ≤ 2) (h : hqF l p q x = hqF l p q y) : x = y := by
  unfold hqF at h
  split at h
  · exact (allRB_good hl).2 x y hx.1 hx.2 hy.1 hy.2 h
  · exact h
theorem sp_diff {T : List (List Int)} (g : GoodT T) {l : List Int} (hl : allRB l = true) {p : Nat} (hp : p < n0 T) {q : Nat} (hq : q < n0 T) : diffR (T.map (spF l p)) q = diffR T q := by
  unfold diffR
  rw [sp_col g l hp]
  exact uq_map _ _ fun x hx y hy e => hqF_inj hl (colR_mem g hq hx) (colR_mem g hq hy) e
theorem sp_cf {T : List (List Int)} (g : GoodT T) {l : List Int} (hl : allRB l = true) {p : Nat} (hp : p < n0 T) {q s : Nat} (hq : q < n0 T) (hs : s < n0 T) : cfR (T.map (spF l p)) q s = cfR T q s := by
  have e : (uq (colP (T.map (spF l p)) q s)).length = (uq (colP T q s)).length := by
    rw [sp_colP g l hp]
    refine uq_map _ _ fun x hx y hy e => ?_
    have h1 := colP_mem g hq hs hx
    have h2 := colP_mem g hq hs hy
    injection e with e1 e2
    exact Prod.ext (hqF_inj hl h1.1 h2.1 e1) (hqF_inj hl h1.2 h2.2 e2)
  unfold cfR splR
  rw [sp_diff g hl hp hq, sp_diff g hl hp hs, e]
theorem allC_congr {cf cf' : Nat → Nat → Bool} {m : Nat} (h : ∀ i j, i < m → j < m → cf' i j = cf i j) : ∀ p, p ≤ m → allC cf' m p = allC cf m p
  | 0, _ => rfl
  | p + 1, hp => by
    rw [allC_succ, allC_succ, allC_congr h p (by omega)]
    congr 1
    unfold rowC
    congr 1
    exact List.filter_congr fun q hq => by rw [h p q (by omega) (List.mem_range.1 hq)]
theorem sp_len (T : List (List Int)) (l : List Int) (p : Nat) : (T.map (spF l p)).length = T.length := List.length_map _
theorem sp_row (T : List (List Int)) (l : List Int) (p : Nat) {i : Nat} (hi : i < T.length) : (T.map (spF l p)).getD i [] = spF l p (T.getD i []) := by simp [List.getD, hi]
theorem sp_n0 {T : List (List Int)} (g : GoodT T) (l : List Int) (p : Nat) : n0 (T.map (spF l p)) = n0 T := by
  unfold n0
  rw [sp_row T l p (by have := g.ge; omega)]
  exact List.length_set
theorem sp_good {T : List (List Int)} (g : GoodT T) {l : List Int} (hl : allRB l = true) {p : Nat} (hp : p < n0 T) : GoodT (T.map (spF l p)) := by
  have h0 := sp_n0 g l p
  refine ⟨by rw [sp_len]; exact g.ge, by rw [sp_len]; exact g.le, by rw [h0]; exact g.w6, fun i hi => ?_, fun i hi q hq => ?_⟩
  · rw [sp_len] at hi
    rw [sp_row T l p hi, h0]
    exact (List.length_set).trans (g.len i hi)
  · rw [sp_len] at hi
    rw [h0] at hq
    rw [sp_row T l p hi, spF_get l (by rw [g.len i hi]; exact hp)]
    have := g.ok i hi q hq
    unfold hqF
    split
    · exact (allRB_good hl).1 _ this.1 this.2
    · exact this
theorem sp_conf {T : List (List Int)} (g : GoodT T) {l : List Int} (hl : allRB l = true) {p : Nat} (hp : p < n0 T) : confR (T.map (spF l p)) = confR T := by
  unfold confR
  rw [sp_n0 g l p]
  exact allC_congr (fun i j hi hj => sp_cf g hl hp hi hj) _ (Nat.le_refl _)
theorem sp_ap {T : List (List Int)} (g : GoodT T) {l : List Int} (hl : allRB l = true) {p : Nat} (hp : p < n0 T) {i j : Nat} (hi : i < T.length) (hj : j < T.length) : ∀ {m : Nat}, m ≤ n0 T → apN (spF l p (T.getD i [])) (spF l p (T.getD j [])) m = apN (T.getD i []) (T.getD j []) m
  | 0, _ => rfl
  | m + 1, h => by
    have ih := sp_ap g hl hp hi hj (m := m) (by omega)
    have h1 := g.ok i hi m (by omega)
    have h2 := g.ok j hj m (by omega)
    show apN _ _ m + ne1 _ _ = apN _ _ m + ne1 _ _
    rw [ih, spF_get l (by rw [g.len i hi]; exact hp), spF_get l (by rw [g.len j hj]; exact hp)]
    congr 1
    unfold ne1
    by_cases e : (T.getD i []).getD m 0 = (T.getD j []).getD m 0
    · rw [e, if_pos rfl, if_pos rfl]
    · rw [if_neg e, if_neg fun hh => e (hqF_inj hl h1 h2 hh)]
theorem copies_ok {T : List (List Int)} (g : GoodT T) {i j : Nat} (hi : i < T.length) (hj : j < T.length) : copiesE T [(i : Int), (j : Int)] = 0 := by
  rw [copiesE, if_pos (good_valid g), numE_two, if_pos ⟨isNum_iff.2 ⟨by omega, by omega⟩, isNum_iff.2 ⟨by omega, by omega⟩⟩]
theorem sp_apart {T : List (List Int)} (g : GoodT T) {l : List Int} (hl : allRB l = true) {p : Nat} (hp : p < n0 T) {i j : Nat} (hi : i < T.length) (hj : j < T.length) : resApart (T.map (spF l p)) i j = resApart T i j := by
  rw [resApart, resApart, if_pos (copies_ok g hi hj), if_pos (copies_ok (sp_good g hl hp) (by rw [sp_len]; exact hi) (by rw [sp_len]; exact hj)), Int.toNat_natCast, Int.toNat_natCast, sp_row T l p hi, sp_row T l p hj, sp_n0 g l p, sp_ap g hl hp hi hj (Nat.le_refl _)]
end Go.Proofs.Ytdhmcmkpeaoigaa
