import Derived.Test.YtgpenbajhndhiaaVmi
namespace Go.Proofs.Ytgpenbajhndhiaa
open Go.RowKit Go.Proofs.Kv Go

/-! ### the lexicon turned round -/
def revI (x : It) : It := { x with word := x.word.reverse }
def flipF (F : List (List Int)) : List (List Int) := (List.range 4).map fun a => (List.range 4).map fun b => (F.getD b []).getD a 0
def backL (L : Lx) : Lx := ⟨L.items.map revI, flipF L.follow⟩
def bkL (L : Lx) : Lx := if validL L = 0 then backL L else ⟨[], []⟩
theorem flipF_at (F : List (List Int)) {a b : Nat} (ha : a < 4) (hb : b < 4) : ((flipF F).getD a []).getD b 0 = (F.getD b []).getD a 0 := by
  simp [flipF, List.getD, ha, hb]
theorem backL_len (L : Lx) : (backL L).items.length = L.items.length := by simp [backL]
theorem backL_at (L : Lx) (j : Nat) : (backL L).items.getD j I0 = revI (L.items.getD j I0) := by
  show (L.items.map revI).getD j I0 = _
  simp only [List.getD, List.getElem?_map]
  cases L.items[j]? <;> rfl
theorem areB_rev {l : List Int} {lo hi : Int} : areB l.reverse lo hi = areB l lo hi := by unfold areB; rw [List.all_reverse]
theorem backL_good {L : Lx} (g : GoodL L) : GoodL (backL L) where
  ge := by rw [backL_len]; exact g.ge
  le := by rw [backL_len]; exact g.le
  word j hj := by
    rw [backL_len] at hj; rw [backL_at]
    obtain ⟨a, b, c⟩ := g.word j hj
    exact ⟨by simpa [revI] using a, by simpa [revI] using b, by show areB (L.items.getD j I0).word.reverse 0 5 = true; rw [areB_rev]; exact c⟩
  kind j hj := by rw [backL_len] at hj; rw [backL_at]; exact g.kind j hj
  cost j hj := by rw [backL_len] at hj; rw [backL_at]; exact g.cost j hj
  rows := by show (flipF L.follow).length = 4; simp [flipF]
  row k hk := by
    have e : (backL L).follow.getD k [] = (List.range 4).map fun b => (L.follow.getD b []).getD k 0 := by
      show (flipF L.follow).getD k [] = _
      simp [flipF, List.getD, hk]
    rw [e]
    refine ⟨by simp, ?_⟩
    unfold areB
    rw [List.all_eq_true]
    intro x hx
    obtain ⟨b, hb, rfl⟩ := List.mem_map.1 hx
    have hb := List.mem_range.1 hb
    obtain ⟨r1, r2⟩ := g.row b hb
    have := areB_at r2 (k := k) (by omega)
    simp only [Within, Bool.and_eq_true, decide_eq_true_eq]; exact this
theorem back_word (L : Lx) (x : Int) : wordL (backL L) x = (wordL L x).reverse := by unfold wordL; rw [backL_at]; rfl
theorem back_words (L : Lx) (s : List Int) : wordsL (backL L) s.reverse = (wordsL L s).reverse := by
  unfold wordsL
  rw [List.reverse_flatMap]
  refine flatMap_congr8 fun x _ => back_word L x
theorem back_items (L : Lx) (s : List Int) : itemsB (backL L) s.reverse = itemsB L s := by unfold itemsB; rw [areB_rev, backL_len]
theorem back_fv {L : Lx} (g : GoodL L) {a b : Nat} (ha : a < L.items.length) (hb : b < L.items.length) : fvI (backL L) (a : Int) (b : Int) = fvI L (b : Int) (a : Int) := by
  unfold fvI follV
  rw [Int.toNat_natCast, Int.toNat_natCast, backL_at, backL_at]
  obtain ⟨k1, k2⟩ := g.kind a ha
  obtain ⟨k3, k4⟩ := g.kind b hb
  exact flipF_at L.follow (a := (L.items.getD a I0).kind.toNat) (b := (L.items.getD b I0).kind.toNat) (by omega) (by omega)
theorem back_cost (L : Lx) (x : Int) : costI (backL L) x = costI L x := by unfold costI; rw [backL_at]; rfl
theorem getD_rev (s : List Int) {k : Nat} (hk : k < s.length) : s.reverse.getD k 0 = s.getD (s.length - 1 - k) 0 := by
  simp only [List.getD]; rw [List.getElem?_reverse hk]
theorem back_ok {L : Lx} (g : GoodL L) {s : List Int} (hi : itemsB L s = true) (h : okF L s = true) : okF (backL L) s.reverse = true := by
  refine okF_yes (List.length_reverse) fun k hk => ?_
  unfold okC
  by_cases h0 : k = 0
  · subst h0; rfl
  · rw [decide_eq_false h0, Bool.false_or, decide_eq_true_eq, getD_rev s (by omega), getD_rev s hk]
    obtain ⟨a, ea, ha⟩ := itemsB_at hi (k := s.length - 1 - (k - 1)) (by omega)
    obtain ⟨b, eb, hb⟩ := itemsB_at hi (k := s.length - 1 - k) (by omega)
    rw [ea, eb, back_fv g ha hb, ← ea, ← eb]
    have h4 : okC L s (s.length - 1 - (k - 1)) = true := by
      unfold okF at h
      rw [List.all_eq_true] at h
      exact h _ (List.mem_range.2 (by omega))
    unfold okC at h4
    rw [decide_eq_false (by omega), Bool.false_or, decide_eq_true_eq] at h4
    rw [show s.length - 1 - k = s.length - 1 - (k - 1) - 1 by omega]
    exact h4
theorem back_back {L : Lx} (g : GoodL L) : backL (backL L) = L := by
  have hr := g.rows
  obtain ⟨I, F⟩ := L
  have e1 : (I.map revI).map revI = I := by
    rw [List.map_map]
    conv => rhs; rw [← List.map_id I]
    refine List.map_congr_left fun x _ => ?_
    obtain ⟨wd, k, c⟩ := x
    simp [revI]
  have e2 : flipF (flipF F) = F := extL8 (n := 4) (by simp [flipF]) hr fun a ha => ext8 (n := 4) (by simp [flipF, List.getD, ha]) (g.row a ha).1 fun b hb => by
    rw [flipF_at (flipF F) ha hb, flipF_at F hb ha]
  show (⟨(I.map revI).map revI, flipF (flipF F)⟩ : Lx) = ⟨I, F⟩
  rw [e1, e2]
theorem back_isS {L : Lx} (g : GoodL L) {t s : List Int} (h : isS L t s) : isS (backL L) t.reverse s.reverse := by
  obtain ⟨h1, h2, h3⟩ := h
  exact ⟨by rw [back_items]; exact h1, by rw [back_words, h2], back_ok g h1 h3⟩
theorem sumC_cons (L : Lx) (x : Int) : ∀ (n : Nat) (s : List Int), s.length = n → sumC L (x :: s) = sumC L s + (costI L x + if s.length = 0 then 0 else fvI L x (s.getD 0 0)) := by
  intro n
  induction n with
  | zero =>
    intro s hs
    obtain rfl := List.length_eq_zero_iff.1 hs
    have := sumC_snoc L [] x
    simpa using this
  | succ n ih =>
    intro s hs
    rcases snoc_cases s with rfl | ⟨s', y, rfl⟩
    · simp at hs
    · have hl : s'.length = n := by simpa using hs
      have e1 := sumC_snoc L (x :: s') y
      have e2 := ih s' hl
      have e3 := sumC_snoc L s' y
      rw [List.cons_append] at e1
      rw [e1, e2, e3]
      by_cases h0 : s' = []
      · subst h0; simp
        omega
      · have hp : 0 < s'.length := List.length_pos_iff.2 h0
        have e4 : (x :: s').getD ((x :: s').length - 1) 0 = s'.getD (s'.length - 1) 0 := by
          obtain ⟨m, hm⟩ : ∃ m, s'.length = m + 1 := ⟨s'.length - 1, by omega⟩
          simp [List.getD, hm]
        have e5 : (s' ++ [y]).getD 0 0 = s'.getD 0 0 := getD_snoc_lt hp
        have n0 : ¬ s'.length = 0 := by omega
        rw [e4, e5, if_neg (show ¬ (x :: s').length = 0 by simp), if_neg (show ¬ (s' ++ [y]).length = 0 by simp)]
        simp only [if_neg n0]
        omega
theorem back_sum {L : Lx} (g : GoodL L) : ∀ (n : Nat) (s : List Int), s.length = n → itemsB L s = true → sumC (backL L) s.reverse = sumC L s := by
  intro n
  induction n with
  | zero =>
    intro s hs _
    obtain rfl := List.length_eq_zero_iff.1 hs
    rfl
  | succ n ih =>
    intro s hs hi
    rcases snoc_cases s with rfl | ⟨s', y, rfl⟩
    · simp at hs
    · have hl : s'.length = n := by simpa using hs
      obtain ⟨h1, h2, h3⟩ := itemsB_snoc.1 hi
      have e := ih s' hl h1
      rw [List.reverse_append, List.reverse_singleton, List.singleton_append, sumC_cons _ _ _ _ rfl, sumC_snoc, e, back_cost]
      by_cases h0 : s' = []
      · subst h0; simp
      · have hp : 0 < s'.length := List.length_pos_iff.2 h0
        rw [if_neg (by simpa using h0), if_neg (by omega), getD_rev s' hp]
        obtain ⟨a, ea, ha⟩ := itemsB_at h1 (k := s'.length - 1 - 0) (by omega)
        obtain ⟨b, rfl⟩ : ∃ b : Nat, y = (b : Int) := ⟨y.toNat, by omega⟩
        rw [Nat.sub_zero] at ea ⊢
        rw [ea, back_fv g (by omega) ha]
theorem back_rr {L : Lx} (g : GoodL L) (h : RR L []) : RR (backL L) [] := by
  obtain ⟨s, s', hne, hs, hs', hw⟩ := (code_iff g).1 h
  exact (code_iff (backL_good g)).2 ⟨s.reverse, s'.reverse, fun e => hne (List.reverse_inj.1 e), by rw [back_items]; exact hs, by rw [back_items]; exact hs', by rw [back_words, back_words, hw]⟩
theorem back_facts {L : Lx} (h : validL L = 0) (t : List Int) : validL (bkL L) = 0 ∧ textE (bkL L) t.reverse = textE L t ∧ countV (bkL L) t.reverse = countV L t ∧ leastB (bkL L) t.reverse = leastB L t ∧ leastV (bkL L) t.reverse = leastV L t ∧ codeB (bkL L) = codeB L := by
  have g := validL_ok h
  have g' := backL_good g
  have hD : bkL L = backL L := by unfold bkL; rw [if_pos h]
  rw [hD]
  have hv := validL_yes g'
  have ht : textE (backL L) t.reverse = textE L t := by
    unfold textE; rw [hv, h, areB_rev, List.length_reverse]
  have hbk : ∀ s', isS (backL L) t.reverse s' → isS L t s'.reverse := fun s' hs' => by
    have := back_isS g' hs'
    rw [back_back g, List.reverse_reverse] at this
    exact this
  have hc : cntA (backL L) t.reverse = cntA L t := Int.le_antisymm
    (cnt_map g' g List.reverse hbk (fun s s' _ _ e => List.reverse_inj.1 e))
    (cnt_map g g' List.reverse (fun s hs => back_isS g hs) (fun s s' _ _ e => List.reverse_inj.1 e))
  have hl := leastB_of ht hc
  have hm : lstA (backL L) t.reverse = lstA L t := Int.le_antisymm
    (lst_le g' g fun s hs => ⟨s.reverse, back_isS g hs, Int.le_of_eq (back_sum g _ s rfl hs.1)⟩)
    (lst_le g g' fun s' hs' => ⟨s'.reverse, hbk s' hs', by
      have := back_sum g _ s'.reverse rfl (hbk s' hs').1
      rw [List.reverse_reverse] at this
      exact Int.le_of_eq this.symm⟩)
  refine ⟨hv, ht, by unfold countV; rw [ht, hc], hl, by unfold leastV; rw [hl, hm], ?_⟩
  cases hcb : codeB L with
  | true => exact code_yes hv fun hr => (code_at hcb).2 (by have := back_rr g' hr; rw [back_back g] at this; exact this)
  | false =>
    refine no_code (back_rr g (Classical.byContradiction fun hr => ?_))
    rw [code_yes h hr] at hcb; cases hcb
end Go.Proofs.Ytgpenbajhndhiaa
