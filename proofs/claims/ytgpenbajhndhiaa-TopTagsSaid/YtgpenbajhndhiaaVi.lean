import Derived.Test.YtgpenbajhndhiaaVh
namespace Go.Proofs.Ytgpenbajhndhiaa
open Go.RowKit Go.Proofs.Kv Go

/-! ### the splits of the beginnings of a text -/
def ln (L : Lx) (j : Nat) : Nat := (L.items.getD j I0).word.length
def endB (L : Lx) (t : List Int) (i j : Nat) : Bool := decide (ln L j ≤ i) && decide ((t.take i).drop (i - ln L j) = (L.items.getD j I0).word)
def spl (L : Lx) (t : List Int) : Nat → Nat → Nat → List (List Int)
  | 0, _, _ => []
  | f + 1, i, j => if endB L t i j = true then (if i - ln L j = 0 then [[(j : Int)]] else (List.range L.items.length).flatMap fun k => if 0 ≤ follV L k j then (spl L t f (i - ln L j) k).map fun s => s ++ [(j : Int)] else []) else []
def S8 (L : Lx) (t : List Int) (i j : Nat) : List (List Int) := spl L t (i + 1) i j
def behL (L : Lx) (t : List Int) (i j k : Nat) : List (List Int) := if 0 ≤ follV L k j then (S8 L t i k).map (fun s => s ++ [(j : Int)]) else []
theorem flatMap_congr8 {α β : Type} {l : List α} {f g : α → List β} (h : ∀ x ∈ l, f x = g x) : l.flatMap f = l.flatMap g := by
  induction l with
  | nil => rfl
  | cons x l ih => rw [List.flatMap_cons, List.flatMap_cons, h x (by simp), ih fun y hy => h y (by simp [hy])]
theorem spl_stable {L : Lx} (g : GoodL L) (t : List Int) : ∀ (i f j : Nat), i < f → j < L.items.length → spl L t f i j = spl L t (i + 1) i j := by
  intro i
  induction i using Nat.strongRecOn with
  | ind i ih =>
    intro f j hf hj
    obtain ⟨f, rfl⟩ : ∃ f', f = f' + 1 := ⟨f - 1, by omega⟩
    have hl : 1 ≤ ln L j := (g.word j hj).1
    unfold spl
    by_cases he : endB L t i j = true
    · rw [if_pos he, if_pos he]
      by_cases h0 : i - ln L j = 0
      · rw [if_pos h0, if_pos h0]
      · rw [if_neg h0, if_neg h0]
        refine flatMap_congr8 fun k hk => ?_
        rw [List.mem_range] at hk
        rw [ih (i - ln L j) (by omega) f k (by omega) hk, ih (i - ln L j) (by omega) i k (by omega) hk]
    · rw [if_neg he, if_neg he]
theorem S8_eq {L : Lx} (g : GoodL L) (t : List Int) (i j : Nat) (hj : j < L.items.length) :
    S8 L t i j = if endB L t i j = true then (if i - ln L j = 0 then [[(j : Int)]] else (List.range L.items.length).flatMap (behL L t (i - ln L j) j)) else [] := by
  have hl : 1 ≤ ln L j := (g.word j hj).1
  unfold S8 spl
  by_cases he : endB L t i j = true
  · rw [if_pos he, if_pos he]
    by_cases h0 : i - ln L j = 0
    · rw [if_pos h0, if_pos h0]
    · rw [if_neg h0, if_neg h0]
      refine flatMap_congr8 fun k hk => ?_
      rw [List.mem_range] at hk
      unfold behL S8
      rw [spl_stable g t (i - ln L j) i k (by omega) hk]
  · rw [if_neg he, if_neg he]
def allS (L : Lx) (t : List Int) : List (List Int) := if t.length = 0 then [[]] else (List.range L.items.length).flatMap (S8 L t t.length)
/-! #### what they are -/
theorem itemsB_snoc {L : Lx} {s : List Int} {x : Int} : itemsB L (s ++ [x]) = true ↔ itemsB L s = true ∧ 0 ≤ x ∧ x < L.items.length := by
  simp only [itemsB, areB, List.all_append, List.all_cons, List.all_nil, Bool.and_true, Bool.and_eq_true, Within, decide_eq_true_eq]
  constructor
  · rintro ⟨h1, h2, h3⟩; exact ⟨h1, h2, by omega⟩
  · rintro ⟨h1, h2, h3⟩; exact ⟨h1, h2, by omega⟩
theorem wordsL_snoc (L : Lx) (s : List Int) (x : Int) : wordsL L (s ++ [x]) = wordsL L s ++ wordL L x := by simp [wordsL]
theorem getD_snoc_lt {s : List Int} {x : Int} {k : Nat} (h : k < s.length) : (s ++ [x]).getD k 0 = s.getD k 0 := by simp [List.getD, List.getElem?_append_left h]
theorem getD_snoc_eq (s : List Int) (x : Int) : (s ++ [x]).getD s.length 0 = x := by simp [List.getD]
theorem okC_snoc {L : Lx} {s : List Int} {x : Int} {k : Nat} (h : k < s.length) : okC L (s ++ [x]) k = okC L s k := by
  unfold okC
  by_cases h0 : k = 0
  · subst h0; simp
  · rw [getD_snoc_lt h, getD_snoc_lt (by omega)]
theorem stepC_snoc {L : Lx} {s : List Int} {x : Int} {k : Nat} (h : k < s.length) : stepC L (s ++ [x]) k = stepC L s k := by
  unfold stepC
  rw [getD_snoc_lt h]
  by_cases h0 : k = 0
  · rw [if_pos h0, if_pos h0]
  · rw [if_neg h0, if_neg h0, getD_snoc_lt (by omega)]
theorem sumK_snoc (L : Lx) (s : List Int) (x : Int) : ∀ k, k ≤ s.length → sumK L (s ++ [x]) k = sumK L s k
  | 0, _ => rfl
  | k + 1, h => by
    show sumK L (s ++ [x]) k + stepC L (s ++ [x]) k = sumK L s k + stepC L s k
    rw [sumK_snoc L s x k (by omega), stepC_snoc (by omega)]
theorem okF_snoc (L : Lx) (s : List Int) (x : Int) : okF L (s ++ [x]) = (okF L s && (decide (s.length = 0) || decide (0 ≤ fvI L (s.getD (s.length - 1) 0) x))) := by
  unfold okF
  rw [List.length_append, List.length_singleton, List.range_succ, List.all_append]
  congr 1
  · rw [Bool.eq_iff_iff, List.all_eq_true, List.all_eq_true]
    constructor
    · intro h k hk; rw [← okC_snoc (x := x) (List.mem_range.1 hk)]; exact h k hk
    · intro h k hk; rw [okC_snoc (List.mem_range.1 hk)]; exact h k hk
  · simp only [List.all_cons, List.all_nil, Bool.and_true]
    unfold okC
    by_cases h0 : s.length = 0
    · simp [h0]
    · rw [getD_snoc_eq, getD_snoc_lt (by omega)]
theorem sumC_snoc (L : Lx) (s : List Int) (x : Int) : sumC L (s ++ [x]) = sumC L s + (costI L x + if s.length = 0 then 0 else fvI L (s.getD (s.length - 1) 0) x) := by
  unfold sumC
  rw [List.length_append, List.length_singleton]
  show sumK L (s ++ [x]) s.length + stepC L (s ++ [x]) s.length = _
  rw [sumK_snoc L s x _ (Nat.le_refl _)]
  unfold stepC
  rw [getD_snoc_eq]
  by_cases h0 : s.length = 0
  · rw [if_pos h0, if_pos h0]
  · rw [if_neg h0, if_neg h0, getD_snoc_lt (by omega)]
/-- s is a split of t that ends with j -/
def isS (L : Lx) (t s : List Int) : Prop := itemsB L s = true ∧ wordsL L s = t ∧ okF L s = true
theorem snoc_cases (s : List Int) : s = [] ∨ ∃ s' x, s = s' ++ [x] := by
  rcases List.eq_nil_or_concat s with h | ⟨s', x, h⟩
  · exact .inl h
  · exact .inr ⟨s', x, by rw [h]; simp⟩
theorem mem_S8 {L : Lx} (g : GoodL L) (t : List Int) : ∀ (i j : Nat), i ≤ t.length → j < L.items.length → ∀ s, s ∈ S8 L t i j ↔ (∃ s', s = s' ++ [(j : Int)]) ∧ isS L (t.take i) s := by
  intro i
  induction i using Nat.strongRecOn with
  | ind i ih =>
    intro j hi hj s
    have hl : 1 ≤ ln L j := (g.word j hj).1
    have hwj : wordL L (j : Int) = (L.items.getD j I0).word := by rw [wordL, Int.toNat_natCast]
    rw [S8_eq g t i j hj]
    have htl : (t.take i).length = i := by rw [List.length_take]; omega
    constructor
    · intro h
      by_cases he : endB L t i j = true
      · rw [if_pos he] at h
        have he' := he
        rw [endB, Bool.and_eq_true, decide_eq_true_eq, decide_eq_true_eq] at he'
        obtain ⟨hle, hw⟩ := he'
        by_cases h0 : i - ln L j = 0
        · rw [if_pos h0, List.mem_singleton] at h
          subst h
          refine ⟨⟨[], rfl⟩, ?_, ?_, ?_⟩
          · exact (itemsB_snoc (s := [])).2 ⟨rfl, by omega, by omega⟩
          · rw [h0, List.drop_zero] at hw
            rw [show wordsL L [(j : Int)] = wordL L (j : Int) by simp [wordsL], hwj, hw]
          · rfl
        · rw [if_neg h0, List.mem_flatMap] at h
          obtain ⟨k, hk, h⟩ := h
          rw [List.mem_range] at hk
          unfold behL at h
          by_cases hf : 0 ≤ follV L k j
          · rw [if_pos hf, List.mem_map] at h
            obtain ⟨s', hs', rfl⟩ := h
            obtain ⟨⟨s2, e2⟩, q1, q2, q3⟩ := (ih (i - ln L j) (by omega) k (by omega) hk s').1 hs'
            refine ⟨⟨s', rfl⟩, itemsB_snoc.2 ⟨q1, by omega, by omega⟩, ?_, ?_⟩
            · rw [wordsL_snoc, q2, hwj, ← hw]
              rw [show t.take (i - ln L j) = (t.take i).take (i - ln L j) by rw [List.take_take]; congr 1; omega]
              exact List.take_append_drop _ _
            · rw [okF_snoc, q3, e2, List.length_append, List.length_singleton, Nat.add_sub_cancel, getD_snoc_eq, fvI, Int.toNat_natCast, Int.toNat_natCast, decide_eq_true hf]
              simp
          · rw [if_neg hf] at h; cases h
      · rw [if_neg he] at h; cases h
    · rintro ⟨⟨s', rfl⟩, q1, q2, q3⟩
      rw [wordsL_snoc, hwj] at q2
      obtain ⟨q1, -, -⟩ := itemsB_snoc.1 q1
      have hlen : (wordsL L s').length + ln L j = i := by
        have := congrArg List.length q2
        rw [List.length_append, htl] at this
        exact this
      have hdrop : (t.take i).drop (i - ln L j) = (L.items.getD j I0).word := by
        rw [← q2, show i - ln L j = (wordsL L s').length by omega, List.drop_left]
      have htake : t.take (i - ln L j) = wordsL L s' := by
        rw [show t.take (i - ln L j) = (t.take i).take (i - ln L j) by rw [List.take_take]; congr 1; omega, ← q2, show i - ln L j = (wordsL L s').length by omega, List.take_left]
      have he : endB L t i j = true := by rw [endB, decide_eq_true (by omega), decide_eq_true hdrop]; rfl
      rw [if_pos he]
      rcases snoc_cases s' with rfl | ⟨s2, x, rfl⟩
      · rw [if_pos (by simp [wordsL] at hlen; omega)]; simp
      · obtain ⟨q1', x0, xn⟩ := itemsB_snoc.1 q1
        obtain ⟨k, rfl⟩ : ∃ k : Nat, x = (k : Int) := ⟨x.toNat, by omega⟩
        have hk : k < L.items.length := by omega
        have hlk : 1 ≤ ln L k := (g.word k hk).1
        have hwk : (wordsL L (s2 ++ [(k : Int)])).length = (wordsL L s2).length + ln L k := by rw [wordsL_snoc, List.length_append, wordL, Int.toNat_natCast]; rfl
        rw [okF_snoc, Bool.and_eq_true, List.length_append, List.length_singleton, Nat.add_sub_cancel, getD_snoc_eq, fvI, Int.toNat_natCast, Int.toNat_natCast] at q3
        have hf : 0 ≤ follV L k j := by have := q3.2; simpa using this
        rw [if_neg (by omega), List.mem_flatMap]
        refine ⟨k, List.mem_range.2 hk, ?_⟩
        rw [behL, if_pos hf, List.mem_map]
        exact ⟨_, (ih (i - ln L j) (by omega) k (by omega) hk _).2 ⟨⟨s2, rfl⟩, q1, htake.symm, q3.1⟩, rfl⟩
theorem isS_nil {L : Lx} (g : GoodL L) {s : List Int} (h : isS L [] s) : s = [] := by
  rcases snoc_cases s with e | ⟨s', x, rfl⟩
  · exact e
  · exfalso
    obtain ⟨q1, q2, -⟩ := h
    obtain ⟨-, x0, xn⟩ := itemsB_snoc.1 q1
    have e := congrArg List.length q2
    rw [wordsL_snoc, List.length_append, wordL] at e
    have h1 := (g.word x.toNat (by omega)).1
    simp only [List.length_nil] at e
    omega
theorem mem_allS {L : Lx} (g : GoodL L) (t s : List Int) : s ∈ allS L t ↔ isS L t s := by
  unfold allS
  by_cases h0 : t.length = 0
  · have ht : t = [] := List.length_eq_zero_iff.1 h0
    subst ht
    rw [if_pos h0, List.mem_singleton]
    constructor
    · rintro rfl; exact ⟨rfl, rfl, rfl⟩
    · exact isS_nil g
  · rw [if_neg h0, List.mem_flatMap]
    have ht : t.take t.length = t := List.take_length
    constructor
    · rintro ⟨j, hj, h⟩
      have := ((mem_S8 g t t.length j (Nat.le_refl _) (List.mem_range.1 hj) s).1 h).2
      rwa [ht] at this
    · intro h
      rcases snoc_cases s with rfl | ⟨s', x, rfl⟩
      · have := h.2.1; exact absurd (by rw [← this]; rfl) h0
      · obtain ⟨-, x0, xn⟩ := itemsB_snoc.1 h.1
        obtain ⟨j, rfl⟩ : ∃ k : Nat, x = (k : Int) := ⟨x.toNat, by omega⟩
        refine ⟨j, List.mem_range.2 (by omega), (mem_S8 g t t.length j (Nat.le_refl _) (by omega) _).2 ⟨⟨s', rfl⟩, by rw [ht]; exact h⟩⟩
theorem snoc_inj {s s' : List Int} {x x' : Int} (h : s ++ [x] = s' ++ [x']) : s = s' ∧ x = x' := by
  have h1 := List.append_inj' h rfl
  exact ⟨h1.1, by simpa using h1.2⟩
theorem nodup_S8 {L : Lx} (g : GoodL L) (t : List Int) : ∀ (i j : Nat), i ≤ t.length → j < L.items.length → (S8 L t i j).Nodup := by
  intro i
  induction i using Nat.strongRecOn with
  | ind i ih =>
    intro j hi hj
    have hl : 1 ≤ ln L j := (g.word j hj).1
    rw [S8_eq g t i j hj]
    by_cases he : endB L t i j = true
    · rw [if_pos he]
      have he' := he
      rw [endB, Bool.and_eq_true, decide_eq_true_eq, decide_eq_true_eq] at he'
      by_cases h0 : i - ln L j = 0
      · rw [if_pos h0]; simp
      · rw [if_neg h0]
        unfold List.Nodup
        rw [List.pairwise_flatMap]
        refine ⟨fun k hk => ?_, ?_⟩
        · rw [List.mem_range] at hk
          unfold behL
          by_cases hf : 0 ≤ follV L k j
          · rw [if_pos hf, List.pairwise_map]
            exact (ih (i - ln L j) (by omega) k (by omega) hk).imp fun hne e => hne (snoc_inj e).1
          · rw [if_neg hf]; exact List.Pairwise.nil
        · refine List.Pairwise.imp_of_mem ?_ List.nodup_range
          intro k k' hk hk' hne x hx y hy e
          rw [List.mem_range] at hk hk'
          unfold behL at hx hy
          by_cases hf : 0 ≤ follV L k j
          · by_cases hf' : 0 ≤ follV L k' j
            · rw [if_pos hf, List.mem_map] at hx
              rw [if_pos hf', List.mem_map] at hy
              obtain ⟨a, ha, rfl⟩ := hx
              obtain ⟨b, hb, rfl⟩ := hy
              obtain ⟨rfl, -⟩ := snoc_inj e
              obtain ⟨⟨a1, e1⟩, -⟩ := (mem_S8 g t (i - ln L j) k (by omega) hk a).1 ha
              obtain ⟨⟨a2, e2⟩, -⟩ := (mem_S8 g t (i - ln L j) k' (by omega) hk' a).1 hb
              rw [e1] at e2
              have := (snoc_inj e2).2
              omega
            · rw [if_neg hf'] at hy; cases hy
          · rw [if_neg hf] at hx; cases hx
    · rw [if_neg he]; exact List.Pairwise.nil
theorem nodup_allS {L : Lx} (g : GoodL L) (t : List Int) : (allS L t).Nodup := by
  unfold allS
  by_cases h0 : t.length = 0
  · rw [if_pos h0]; simp
  · rw [if_neg h0]
    unfold List.Nodup
    rw [List.pairwise_flatMap]
    refine ⟨fun k hk => nodup_S8 g t _ k (Nat.le_refl _) (List.mem_range.1 hk), ?_⟩
    refine List.Pairwise.imp_of_mem ?_ List.nodup_range
    intro k k' hk hk' hne x hx y hy e
    rw [List.mem_range] at hk hk'
    subst e
    obtain ⟨⟨a1, e1⟩, -⟩ := (mem_S8 g t t.length k (Nat.le_refl _) hk x).1 hx
    obtain ⟨⟨a2, e2⟩, -⟩ := (mem_S8 g t t.length k' (Nat.le_refl _) hk' x).1 hy
    rw [e1] at e2
    have := (snoc_inj e2).2
    omega
end Go.Proofs.Ytgpenbajhndhiaa
