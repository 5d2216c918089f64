import Derived.Test.YtdnlpikfibdjoaaY8
import Derived.Test.YtdnlpikfibdjoaaYg7
namespace Go.Proofs.Ytdnlpikfibdjoaa
open Go.RowKit Go.Proofs.Kv

/-! ### sides, and the tree that is built of them -/
theorem conf_none {T : List (List Int)} (h : resCan T = true) : validT T = 0 ∧ ∀ p q, p < n0 T → q < n0 T → p ≠ q → cfR T p q = false := by
  unfold resCan at h
  rw [Bool.and_eq_true, decide_eq_true_eq, decide_eq_true_eq] at h
  obtain ⟨hv, h0⟩ := h
  have key : ∀ p q, p < q → q < n0 T → cfR T p q = false := fun p q hpq hq => by
    cases hc : cfR T p q with
    | false => rfl
    | true =>
      have : ((p : Int), (q : Int)) ∈ confR T := by
        unfold confR allC
        refine List.mem_flatMap.2 ⟨p, List.mem_range.2 (by omega), ?_⟩
        unfold rowC
        refine List.mem_map.2 ⟨q, List.mem_filter.2 ⟨List.mem_range.2 hq, by rw [decide_eq_true hpq, hc]; rfl⟩, rfl⟩
      rw [List.eq_nil_of_length_eq_zero h0] at this
      cases this
  refine ⟨hv, fun p q hp hq hne => ?_⟩
  rcases Nat.lt_or_ge p q with hlt | hge
  · exact key p q hlt hq
  · rw [cfR_symm]; exact key q p (by omega) hp
/-- which copies a side has -/
theorem mem_side {T : List (List Int)} {p : Nat} {x : Int} : x ∈ sideR T p ↔ ∃ c : Nat, x = (c : Int) ∧ c < T.length ∧ rdT T p c ≠ rdT T p 0 := by
  unfold sideR
  rw [mem_pl]
  constructor
  · rintro ⟨h0, h1, h2⟩
    refine ⟨x.toNat, by omega, by omega, ?_⟩
    unfold sidB at h2
    exact of_decide_eq_true h2
  · rintro ⟨c, rfl, hc, hn⟩
    refine ⟨by omega, by omega, ?_⟩
    unfold sidB
    rw [Int.toNat_natCast]
    exact decide_eq_true hn
theorem mem_sideN {T : List (List Int)} {p c : Nat} : (c : Int) ∈ sideR T p ↔ c < T.length ∧ rdT T p c ≠ rdT T p 0 := by
  rw [mem_side]
  exact ⟨fun ⟨d, e, h⟩ => by obtain rfl : c = d := by omega
                             exact h, fun h => ⟨c, rfl, h⟩⟩
theorem two_vals {T : List (List Int)} {p : Nat} (g : GoodT T) (hs : splR T p = true) : ∃ b, b ≠ rdT T p 0 ∧ (∃ c, c < T.length ∧ rdT T p c = b) ∧ ∀ c, c < T.length → rdT T p c = rdT T p 0 ∨ rdT T p c = b := by
  have h2 : (uq (colR T p)).length = 2 := of_decide_eq_true hs
  have get : ∀ c, c < T.length → rdT T p c ∈ colR T p := fun c hc => by
    have : (colR T p).getD c 0 = rdT T p c := colR_get hc
    rw [← this]; exact getD_mem (by rw [colR_len]; exact hc)
  have hge := g.ge
  obtain ⟨b, hb, hm, hall⟩ := uq_two h2 (get 0 (by omega))
  obtain ⟨c, hc, e⟩ := mem_getD hm
  rw [colR_len] at hc
  rw [colR_get hc] at e
  exact ⟨b, hb, ⟨c, hc, by first | exact e | exact e.symm⟩, fun c hc => hall _ (get c hc)⟩
theorem side_ne {T : List (List Int)} {p : Nat} (g : GoodT T) (hs : splR T p = true) : sideR T p ≠ [] := by
  obtain ⟨b, hb, ⟨c, hc, e⟩, -⟩ := two_vals g hs
  intro h
  have : (c : Int) ∈ sideR T p := mem_sideN.2 ⟨hc, by rw [e]; exact hb⟩
  rw [h] at this; cases this
theorem filter_eq_of {α : Type} {f g : α → Bool} : ∀ {L : List α}, (∀ x ∈ L, f x = true → g x = true) → (L.filter g).length ≤ (L.filter f).length → L.filter f = L.filter g
  | [], _, _ => rfl
  | x :: L, h, hl => by
    have hm : (L.filter f).length ≤ (L.filter g).length := by
      have e : L.filter f = (L.filter g).filter f := by
        rw [List.filter_filter]
        exact List.filter_congr fun y hy => by
          cases hf : f y with
          | true => rw [h y (List.mem_cons_of_mem _ hy) hf]; rfl
          | false => rfl
      rw [e]; exact List.length_filter_le _ _
    have ih := filter_eq_of (L := L) (fun y hy => h y (List.mem_cons_of_mem _ hy))
    rw [List.filter_cons, List.filter_cons] at hl ⊢
    cases hf : f x with
    | true =>
      rw [h x List.mem_cons_self hf]
      simp only [hf, h x List.mem_cons_self hf, if_true, List.length_cons] at hl ⊢
      rw [ih (by omega)]
    | false =>
      cases hg : g x with
      | true => simp only [hf, hg, if_true, List.length_cons] at hl; simp at hl; omega
      | false => simp only [hf, hg] at hl ⊢; simpa using ih (by simpa using hl)
theorem side_eq {T : List (List Int)} {p q : Nat} (h : ∀ x ∈ sideR T p, x ∈ sideR T q) (hl : (sideR T q).length ≤ (sideR T p).length) : sideR T p = sideR T q := by
  unfold sideR pl at *
  refine filter_eq_of (fun x hx hf => ?_) hl
  have := h x (List.mem_filter.2 ⟨hx, hf⟩)
  exact (List.mem_filter.1 this).2
/-- two sides without a conflict: apart, or one inside the other one -/
theorem lam {T : List (List Int)} (g : GoodT T) {p q : Nat} (hp : splR T p = true) (hq : splR T q = true) (hc : cfR T p q = false) {x : Int} (hx : x ∈ sideR T p) (hx' : x ∈ sideR T q) :
    (∀ y ∈ sideR T p, y ∈ sideR T q) ∨ ∀ y ∈ sideR T q, y ∈ sideR T p := by
  refine Classical.byContradiction fun hn => ?_
  rw [not_or] at hn
  obtain ⟨h1, h2⟩ := hn
  simp only [Classical.not_forall] at h1 h2
  obtain ⟨y, hy, hy'⟩ := h1
  obtain ⟨z, hz, hz'⟩ := h2
  obtain ⟨i, rfl, hi, ip⟩ := mem_side.1 hx
  have iq := (mem_sideN.1 hx').2
  obtain ⟨j, rfl, hj, jp⟩ := mem_side.1 hy
  have jq : rdT T q j = rdT T q 0 := Classical.byContradiction fun e => hy' (mem_sideN.2 ⟨hj, e⟩)
  obtain ⟨k, rfl, hk, kq⟩ := mem_side.1 hz
  have kp : rdT T p k = rdT T p 0 := Classical.byContradiction fun e => hz' (mem_sideN.2 ⟨hk, e⟩)
  obtain ⟨b, hb, -, hbv⟩ := two_vals g hp
  obtain ⟨d, hd, -, hdv⟩ := two_vals g hq
  have h0 : 0 < T.length := g.ge
  have at_ : ∀ c, c < T.length → (rdT T p c, rdT T q c) ∈ uq (colP T p q) := fun c hc => by
    rw [mem_uq]
    unfold colP
    refine List.mem_map.2 ⟨T.getD c [], by simp [List.getD, List.getElem?_eq_getElem hc], rfl⟩
  have m0 := at_ 0 h0; have m1 := at_ i hi; have m2 := at_ j hj; have m3 := at_ k hk
  have ei : rdT T p i = b ∧ rdT T q i = d := ⟨(hbv i hi).resolve_left ip, (hdv i hi).resolve_left iq⟩
  have ej : rdT T p j = b := (hbv j hj).resolve_left jp
  have ek : rdT T q k = d := (hdv k hk).resolve_left kq
  rw [ei.1, ei.2] at m1; rw [ej, jq] at m2; rw [kp, ek] at m3
  have hlo : 4 ≤ (uq (colP T p q)).length := by
    refine len_le_sub (l := [(rdT T p 0, rdT T q 0), (b, d), (b, rdT T q 0), (rdT T p 0, d)]) ?_ ?_
    · simp [Ne.symm hb, Ne.symm hd, hb, hd]
    · intro y hy
      simp only [List.mem_cons, List.not_mem_nil, or_false] at hy
      rcases hy with rfl | rfl | rfl | rfl <;> assumption
  have hhi : (uq (colP T p q)).length ≤ 4 := by
    refine len_le_sub (m := [(rdT T p 0, rdT T q 0), (b, d), (b, rdT T q 0), (rdT T p 0, d)]) (uq_nodup _) ?_
    intro y hy
    rw [mem_uq] at hy
    unfold colP at hy
    obtain ⟨r, hr, rfl⟩ := List.mem_map.1 hy
    obtain ⟨c, hc, rfl⟩ := List.mem_iff_getElem.1 hr
    have e : ∀ s, (T[c]).getD s 0 = rdT T s c := fun s => by unfold rdT; simp [List.getD, List.getElem?_eq_getElem hc]
    rw [e, e]
    rcases hbv c hc with h1 | h1 <;> rcases hdv c hc with h2 | h2 <;> rw [h1, h2] <;> simp
  unfold cfR at hc
  rw [hp, hq, decide_eq_true (by omega)] at hc
  cases hc
end Go.Proofs.Ytdnlpikfibdjoaa
namespace Go.Proofs.Ytdnlpikfibdjoaa
open Go.RowKit Go.Proofs.Kv

/-! ### the tree that is built -/
/-- the sides of all places that split, each once, the larger ones first -/
structure GoodS (T S : List (List Int)) : Prop where
  mem : ∀ s, s ∈ S ↔ ∃ p, p < n0 T ∧ splR T p = true ∧ s = sideR T p
  nodup : S.Nodup
  desc : ∀ i j, i < j → j < S.length → (S.getD j []).length ≤ (S.getD i []).length
def homK (S : List (List Int)) (c : Int) : Nat → Nat
  | 0 => 0
  | k + 1 => if c ∈ S.getD k [] then k + 1 else homK S c k
def buildX (S : List (List Int)) (n : Nat) : Tr :=
  ⟨(-1 : Int) :: (((List.range S.length).map fun i => (homK S ((S.getD i []).getD 0 0) i : Int)) ++ (List.range n).map fun c : Nat => (homK S (c : Int) S.length : Int)), (List.range n).map fun c => ((1 + S.length + c : Nat) : Int)⟩
theorem homK_le (S : List (List Int)) (c : Int) : ∀ k, homK S c k ≤ k
  | 0 => Nat.le_refl _
  | k + 1 => by
    unfold homK
    split
    · exact Nat.le_refl _
    · exact Nat.le_succ_of_le (homK_le S c k)
theorem homK_none {S : List (List Int)} {c : Int} : ∀ {k}, homK S c k = 0 → ∀ j, j < k → c ∉ S.getD j []
  | 0, _, j, h => absurd h (by omega)
  | k + 1, h, j, hj => by
    unfold homK at h
    split at h
    · cases h
    · rename_i hc
      by_cases e : j = k
      · rw [e]; exact hc
      · exact homK_none h j (by omega)
theorem homK_some {S : List (List Int)} {c : Int} : ∀ {k j}, homK S c k = j + 1 → j < k ∧ c ∈ S.getD j [] ∧ ∀ i, j < i → i < k → c ∉ S.getD i []
  | 0, j, h => by cases h
  | k + 1, j, h => by
    unfold homK at h
    split at h
    · rename_i hc
      obtain rfl : k = j := by omega
      exact ⟨by omega, hc, fun i h1 h2 => absurd h1 (by omega)⟩
    · rename_i hc
      obtain ⟨h1, h2, h3⟩ := homK_some h
      refine ⟨by omega, h2, fun i hi hk => ?_⟩
      by_cases e : i = k
      · rw [e]; exact hc
      · exact h3 i hi (by omega)
theorem build_len (S : List (List Int)) (n : Nat) : (buildX S n).par.length = 1 + S.length + n := by
  unfold buildX; simp; omega
theorem build_side {S : List (List Int)} {n i : Nat} (hi : i < S.length) : (buildX S n).par.getD (i + 1) 0 = (homK S ((S.getD i []).getD 0 0) i : Int) := by
  unfold buildX
  simp only [List.getD, List.getElem?_cons_succ]
  rw [List.getElem?_append_left (by simpa using hi)]
  simp [hi]
theorem build_copy {S : List (List Int)} {n c : Nat} (hc : c < n) : (buildX S n).par.getD (1 + S.length + c) 0 = (homK S (c : Int) S.length : Int) := by
  unfold buildX
  rw [show 1 + S.length + c = (S.length + c) + 1 by omega]
  simp only [List.getD, List.getElem?_cons_succ]
  rw [List.getElem?_append_right (by simp)]
  simp [hc]
theorem build_at {S : List (List Int)} {n c : Nat} (hc : c < n) : nodeX (buildX S n) c = 1 + S.length + c := by
  unfold nodeX buildX
  simp [List.getD, hc]; omega
theorem good_le {T S : List (List Int)} (g : GoodT T) (gS : GoodS T S) : S.length ≤ 6 := by
  have : S.length ≤ ((List.range (n0 T)).map (sideR T)).length := len_le_sub gS.nodup fun s hs => by
    obtain ⟨p, hp, -, e⟩ := (gS.mem s).1 hs
    exact List.mem_map.2 ⟨p, List.mem_range.2 hp, e.symm⟩
  rw [List.length_map, List.length_range] at this
  have := g.w6
  omega
theorem getD_memL {S : List (List Int)} {i : Nat} (h : i < S.length) : S.getD i [] ∈ S := by simp [List.getD, List.getElem?_eq_getElem h]
theorem build_valid {T S : List (List Int)} (g : GoodT T) (gS : GoodS T S) : validX (buildX S T.length) = 0 := by
  have hr := good_le g gS
  have hn := g.le
  have hl := build_len S T.length
  have ha : (buildX S T.length).at_.length = T.length := by unfold buildX; simp
  unfold validX
  rw [if_neg (by rw [hl, ha]; omega), if_pos]
  constructor
  · unfold parsB
    rw [List.all_eq_true]
    intro i hi
    rw [List.mem_range, hl] at hi
    unfold parB
    by_cases h0 : i = 0
    · subst h0; rfl
    · rw [if_neg h0]
      have key : 0 ≤ (buildX S T.length).par.getD i 0 ∧ (buildX S T.length).par.getD i 0 < (i : Int) := by
        by_cases hs : i ≤ S.length
        · obtain ⟨j, rfl⟩ : ∃ j, i = j + 1 := ⟨i - 1, by omega⟩
          rw [build_side (by omega)]
          have := homK_le S ((S.getD j []).getD 0 0) j
          omega
        · obtain ⟨c, rfl⟩ : ∃ c, i = 1 + S.length + c := ⟨i - 1 - S.length, by omega⟩
          rw [build_copy (by omega)]
          have := homK_le S (c : Int) S.length
          omega
      rw [decide_eq_true key.1, decide_eq_true key.2]; rfl
  · rw [List.all_eq_true]
    intro x hx
    unfold buildX at hx
    obtain ⟨c, hc, rfl⟩ := List.mem_map.1 hx
    rw [List.mem_range] at hc
    unfold isNum
    rw [hl, decide_eq_true (by omega), decide_eq_true (by omega)]; rfl

/-! ### one change for each place that splits -/
theorem key1 {T S : List (List Int)} (g : GoodT T) (gS : GoodS T S) (hcan : resCan T = true) {p k : Nat} (hp : p < n0 T) (hs : splR T p = true) (hA : S.getD k [] = sideR T p) {j : Nat} (hkj : k ≤ j) (hj : j < S.length) {x : Int} (hx : x ∈ S.getD j []) (hx' : x ∈ sideR T p) : ∀ y ∈ S.getD j [], y ∈ sideR T p := by
  obtain ⟨q, hq, hsq, e⟩ := (gS.mem _).1 (getD_memL hj)
  rw [e] at hx ⊢
  by_cases hpq : p = q
  · rw [hpq]; exact fun y hy => hy
  · rcases lam g hs hsq ((conf_none hcan).2 p q hp hq hpq) hx' hx with h | h
    · have hl : (sideR T q).length ≤ (sideR T p).length := by
        rw [← e, ← hA]
        by_cases hkj' : k = j
        · rw [hkj']; exact Nat.le_refl _
        · exact gS.desc k j (by omega) hj
      rw [side_eq h hl]; exact fun y hy => hy
    · exact h
theorem key2 {T S : List (List Int)} (gS : GoodS T S) {p k : Nat} (hk : k < S.length) (hA : S.getD k [] = sideR T p) {j : Nat} (hj : j < S.length) (h : ∀ y ∈ S.getD j [], y ∈ sideR T p) : k ≤ j := by
  refine Classical.byContradiction fun hlt => ?_
  obtain ⟨q, hq, hsq, e⟩ := (gS.mem _).1 (getD_memL hj)
  have hl : (sideR T p).length ≤ (sideR T q).length := by rw [← e, ← hA]; exact gS.desc j k (by omega) hk
  have heq := side_eq (by rw [← e]; exact h) hl
  have h1 : S[j] = S[k] := by
    have a1 : S.getD j [] = S[j] := by simp [List.getD, List.getElem?_eq_getElem hj]
    have a2 : S.getD k [] = S[k] := by simp [List.getD, List.getElem?_eq_getElem hk]
    rw [← a1, ← a2, e, heq, hA]
  have := (List.getElem_inj gS.nodup).1 h1
  omega
def subB (s t : List Int) : Bool := s.all fun y => decide (y ∈ t)
theorem subB_iff {s t : List Int} : subB s t = true ↔ ∀ y ∈ s, y ∈ t := by unfold subB; simp
theorem subB_yes {s t : List Int} (h : ∀ y ∈ s, y ∈ t) : subB s t = true := subB_iff.2 h
theorem subB_no {s t : List Int} (h : ¬ ∀ y ∈ s, y ∈ t) : subB s t = false := eq_false_of_ne_true fun e => h (subB_iff.1 e)
theorem subB_eq {s t : List Int} {b : Bool} {q : Prop} (hb : b = true ↔ q) (h : q ↔ ∀ y ∈ s, y ∈ t) : b = subB s t := by
  cases hb' : b with
  | true => exact (subB_yes (h.1 (hb.1 hb'))).symm
  | false => exact (subB_no fun e => by rw [hb.2 (h.2 e)] at hb'; cases hb').symm
/-- which nodes have the other reading -/
def labB (T S : List (List Int)) (p v : Nat) : Bool := if v = 0 then false else if v ≤ S.length then subB (S.getD (v - 1) []) (sideR T p) else decide (((v - 1 - S.length : Nat) : Int) ∈ sideR T p)
theorem lab_zero (T S : List (List Int)) (p : Nat) : labB T S p 0 = false := rfl
theorem lab_side {T S : List (List Int)} {p i : Nat} (hi : i < S.length) : labB T S p (i + 1) = subB (S.getD i []) (sideR T p) := by
  unfold labB
  rw [if_neg (by omega), if_pos (by omega)]; rfl
theorem lab_copy {T S : List (List Int)} {p c : Nat} : labB T S p (1 + S.length + c) = decide ((c : Int) ∈ sideR T p) := by
  unfold labB
  rw [if_neg (by omega), if_neg (by omega), show 1 + S.length + c - 1 - S.length = c by omega]
theorem lab_change {T S : List (List Int)} (g : GoodT T) (gS : GoodS T S) (hcan : resCan T = true) {p k : Nat} (hp : p < n0 T) (hs : splR T p = true) (hk : k < S.length) (hA : S.getD k [] = sideR T p) {v : Nat} (h0 : v ≠ 0) (hv : v < 1 + S.length + T.length) :
    labB T S p v ≠ labB T S p (parX (buildX S T.length) v) ↔ v = k + 1 := by
  by_cases hvs : v ≤ S.length
  · obtain ⟨i, rfl⟩ : ∃ i, v = i + 1 := ⟨v - 1, by omega⟩
    have hi : i < S.length := by omega
    have hne : S.getD i [] ≠ [] := by
      obtain ⟨q, -, hsq, e⟩ := (gS.mem _).1 (getD_memL hi)
      rw [e]; exact side_ne g hsq
    have hm : (S.getD i []).getD 0 0 ∈ S.getD i [] := getD_mem (by
      rcases Nat.eq_zero_or_pos (S.getD i []).length with h | h
      · exact absurd (List.eq_nil_of_length_eq_zero h) hne
      · exact h)
    have hpar : parX (buildX S T.length) (i + 1) = homK S ((S.getD i []).getD 0 0) i := by unfold parX; rw [build_side hi, Int.toNat_natCast]
    rw [hpar]
    generalize (S.getD i []).getD 0 0 = x at *
    rw [lab_side hi]
    rcases hh : homK S x i with _ | j
    · rw [lab_zero]
      have hnone := homK_none hh
      constructor
      · intro h
        have hsub : ∀ y ∈ S.getD i [], y ∈ sideR T p := by
          refine Classical.byContradiction fun hc => h ?_
          exact subB_no hc
        have hki := key2 gS hk hA hi hsub
        by_cases e : k = i
        · omega
        · have := hnone k (by omega)
          rw [hA] at this
          exact absurd (hsub _ hm) this
      · intro e
        obtain rfl : i = k := by omega
        rw [hA, subB_yes (fun y hy => hy)]
        simp
    · obtain ⟨hj, hxj, hlast⟩ := homK_some hh
      rw [lab_side (by omega)]
      constructor
      · intro h
        refine Classical.byContradiction fun hik => h ?_
        have hik : i ≠ k := fun e => hik (by omega)
        refine subB_eq subB_iff ?_
        constructor
        · intro hsub
          have hki := key2 gS hk hA hi hsub
          have hxA := hsub _ hm
          have hkj : k ≤ j := Classical.byContradiction fun hlt => hlast k (by omega) (by omega) (by rw [hA]; exact hxA)
          exact key1 g gS hcan hp hs hA hkj (by omega) hxj hxA
        · intro hsub
          have hkj := key2 gS hk hA (by omega) hsub
          exact key1 g gS hcan hp hs hA (by omega) hi hm (hsub _ hxj)
      · intro e
        obtain rfl : i = k := by omega
        rw [hA, subB_yes (fun y hy => hy), subB_no (fun hsub => by
          have := key2 gS hk hA (by omega) hsub
          omega)]
        simp
  · obtain ⟨c, rfl⟩ : ∃ c, v = 1 + S.length + c := ⟨v - 1 - S.length, by omega⟩
    have hc : c < T.length := by omega
    have hpar : parX (buildX S T.length) (1 + S.length + c) = homK S (c : Int) S.length := by unfold parX; rw [build_copy hc, Int.toNat_natCast]
    rw [hpar, lab_copy]
    have hno : ¬ (1 + S.length + c = k + 1) := by omega
    refine iff_of_false (fun h => h ?_) hno
    rcases hh : homK S (c : Int) S.length with _ | j
    · rw [lab_zero]
      have := homK_none hh k hk
      rw [hA] at this
      exact decide_eq_false this
    · obtain ⟨hj, hxj, hlast⟩ := homK_some hh
      rw [lab_side hj]
      refine subB_eq (decide_eq_true_iff) ?_
      constructor
      · intro hcA
        have hkj : k ≤ j := Classical.byContradiction fun hlt => hlast k (by omega) hk (by rw [hA]; exact hcA)
        exact key1 g gS hcan hp hs hA hkj hj hxj hcA
      · intro hsub
        exact hsub _ hxj
end Go.Proofs.Ytdnlpikfibdjoaa
namespace Go.Proofs.Ytdnlpikfibdjoaa
open Go.RowKit Go.Proofs.Kv

/-! ### the tree that is built needs one change for each place that splits -/
theorem sumN_zero {f : Nat → Nat} : ∀ {n : Nat}, (∀ i, i < n → f i = 0) → sumN f n = 0
  | 0, _ => rfl
  | n + 1, h => by
    show sumN f n + f n = 0
    rw [sumN_zero (fun i hi => h i (by omega)), h n (by omega)]
theorem sumN_one {f : Nat → Nat} {m : Nat} : ∀ {n : Nat}, m < n → (∀ i, i < n → f i = if i = m then 1 else 0) → sumN f n = 1
  | 0, h, _ => absurd h (by omega)
  | n + 1, h, hf => by
    show sumN f n + f n = 1
    by_cases e : m = n
    · rw [sumN_zero (fun i hi => by rw [hf i (by omega), if_neg (by omega)]), hf n (by omega), if_pos e.symm]
    · rw [sumN_one (by omega) (fun i hi => hf i (by omega)), hf n (by omega), if_neg (fun h => e h.symm)]
def labR (T S : List (List Int)) (p : Nat) (b : Int) : List Int := (List.range (1 + S.length + T.length)).map fun v => if labB T S p v = true then b else rdT T p 0
theorem labR_len (T S : List (List Int)) (p : Nat) (b : Int) : (labR T S p b).length = 1 + S.length + T.length := by unfold labR; simp
theorem labR_at {T S : List (List Int)} {p v : Nat} {b : Int} (h : v < 1 + S.length + T.length) : (labR T S p b).getD v 0 = if labB T S p v = true then b else rdT T p 0 := by
  unfold labR
  simp [List.getD, h]
theorem build_few {T S : List (List Int)} (g : GoodT T) (gS : GoodS T S) (hcan : resCan T = true) {p : Nat} (hp : p < n0 T) (hs : splR T p = true) :
    errA T (buildX S T.length) (p : Int) = 0 ∧ okRead T (buildX S T.length) (p : Int) = true ∧ fewR T (buildX S T.length) (p : Int) = 1 := by
  have hv := (conf_none hcan).1
  have hX := build_valid g gS
  have ha : (buildX S T.length).at_.length = T.length := by unfold buildX; simp
  have hpl : placesE T [(p : Int)] = 0 := by
    unfold placesE numE isNum
    rw [if_pos hv, if_pos]
    simp; omega
  have herr : errA T (buildX S T.length) (p : Int) = 0 := by
    rw [errA_and]
    unfold errB orE
    rw [if_pos hv, if_pos hX, if_pos ha, if_pos rfl]
    exact hpl
  obtain ⟨b, hb, ⟨c0, hc0, ec0⟩, hbv⟩ := two_vals g hs
  have hmem : sideR T p ∈ S := (gS.mem _).2 ⟨p, hp, hs, rfl⟩
  obtain ⟨k, hk, hk'⟩ := List.mem_iff_getElem.1 hmem
  have hA : S.getD k [] = sideR T p := by simp [List.getD, List.getElem?_eq_getElem hk, hk']
  have hlen := build_len S T.length
  have hok := fun c (hc : c < T.length) => g.ok c hc p hp
  have hok0 : 0 ≤ rdT T p 0 ∧ rdT T p 0 ≤ 2 := hok 0 g.ge
  have hokb : 0 ≤ b ∧ b ≤ 2 := by rw [← ec0]; exact hok c0 hc0
  have hE : errC T (buildX S T.length) (p : Int) (labR T S p b) = 0 := by
    unfold errC
    rw [if_pos herr, if_pos (by rw [labR_len, hlen]), if_pos, if_neg]
    · rw [misB_no rfl]
      · simp
      · intro c hc
        rw [Int.toNat_natCast, build_at hc, labR_at (by omega), lab_copy]
        by_cases hcm : (c : Int) ∈ sideR T p
        · rw [decide_eq_true hcm, if_pos rfl]
          exact ((hbv c hc).resolve_left (mem_sideN.1 hcm).2).symm
        · rw [decide_eq_false hcm, if_neg (by simp)]
          exact (Classical.byContradiction fun e => hcm (mem_sideN.2 ⟨hc, e⟩) : rdT T p c = rdT T p 0).symm
    · refine areR_mk fun i hi => ?_
      rw [labR_len] at hi
      rw [labR_at hi]
      split
      · exact hokb
      · exact hok0
  obtain ⟨-, ho, hle⟩ := check_least hE
  have hval : valC T (buildX S T.length) (p : Int) (labR T S p b) = 1 := by
    unfold valC
    rw [if_pos hE]
    unfold chgR
    rw [hlen]
    refine sumN_one (m := k + 1) (by omega) fun v hv' => ?_
    by_cases h0 : v = 0
    · rw [if_pos h0, if_neg (by omega)]
    · rw [if_neg h0]
      have hpv : parX (buildX S T.length) v < v := parX_lt (validX_ok hX) v (by omega) (by rw [hlen]; exact hv')
      rw [labR_at hv', labR_at (by omega)]
      have hch := lab_change g gS hcan hp hs hk hA h0 hv'
      generalize labB T S p v = x at *
      generalize labB T S p (parX (buildX S T.length) v) = y at *
      unfold ne1
      by_cases e : v = k + 1
      · rw [if_pos e]
        have hxy := hch.2 e
        cases x <;> cases y <;> simp at hxy ⊢ <;> first | exact hb | exact fun h => hb h.symm | (intro h; exact hb h.symm) | (intro h; exact hb h)
      · rw [if_neg e]
        have hxy : x = y := Classical.byContradiction fun h => e (hch.1 h)
        rw [hxy, if_pos rfl]
  rw [hval] at hle
  have hd := (read_check ho).2.2.2
  have hrd : resDiff T (p : Int) = 2 := by
    unfold resDiff
    rw [if_pos hpl, Int.toNat_natCast]
    have : diffR T p = 2 := of_decide_eq_true hs
    omega
  rw [hrd] at hd
  exact ⟨herr, ho, by omega⟩
end Go.Proofs.Ytdnlpikfibdjoaa
