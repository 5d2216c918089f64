import Derived.Test.YtgpenbajhndhiaaVs
namespace Go.Proofs.Ytgpenbajhndhiaa
open Go.RowKit Go.Proofs.Kv Go

/-! ### pairs that are right, and the list of them -/
structure GoodPr (L : Lx) (p : Pr) : Prop where
  sh : itemsB L p.short = true
  lo : itemsB L p.long = true
  eq : wordsL L p.short ++ p.left = wordsL L p.long
  hd : ∃ (i j : Nat) (a b : List Int), i ≠ j ∧ p.short = (i : Int) :: a ∧ p.long = (j : Int) :: b
  rr : RR L p.left
  su : p.left ∈ sufs L
def lenP (p : Pr) : Nat := p.short.length + p.long.length
theorem with8_cases {p q : Pr} {i : Nat} {x : List Int} (h : with8 p i x = some q) :
    (∃ r, p.left = x ++ r ∧ q = ⟨p.short ++ [(i : Int)], p.long, r⟩) ∨ (∃ r, x = p.left ++ r ∧ q = ⟨p.long, p.short ++ [(i : Int)], r⟩) := by
  unfold with8 at h
  by_cases h1 : begT x p.left = true
  · rw [if_pos h1] at h
    obtain ⟨r, hr⟩ := begT_iff.1 h1
    refine .inl ⟨r, hr, ?_⟩
    injection h with h
    rw [← h, hr, List.drop_left]
  · rw [if_neg h1] at h
    by_cases h2 : begT p.left x = true
    · rw [if_pos h2] at h
      obtain ⟨r, hr⟩ := begT_iff.1 h2
      refine .inr ⟨r, hr, ?_⟩
      injection h with h
      rw [← h, hr, List.drop_left]
    · rw [if_neg h2] at h; cases h
theorem with8_some {p : Pr} {i : Nat} {x r : List Int} (h : p.left = x ++ r ∨ x = p.left ++ r) : ∃ q, with8 p i x = some q ∧ q.left = r := by
  unfold with8
  by_cases h1 : begT x p.left = true
  · rw [if_pos h1]
    refine ⟨_, rfl, ?_⟩
    show p.left.drop x.length = r
    rcases h with h | h
    · rw [h, List.drop_left]
    · obtain ⟨r', hr'⟩ := begT_iff.1 h1
      have e := congrArg List.length h
      have e' := congrArg List.length hr'
      rw [List.length_append] at e e'
      have hr0 : r = [] := List.length_eq_zero_iff.1 (by omega)
      have hr1 : r' = [] := List.length_eq_zero_iff.1 (by omega)
      rw [hr', List.drop_left, hr0, hr1]
  · rw [if_neg h1]
    rcases h with h | h
    · exact absurd (begT_iff.2 ⟨r, h⟩) h1
    · rw [if_pos (begT_iff.2 ⟨r, h⟩)]
      exact ⟨_, rfl, by show x.drop p.left.length = r; rw [h, List.drop_left]⟩
theorem sufs_drop {L : Lx} (g : GoodL L) {u r : List Int} (h : u ++ r ∈ sufs L) : r ∈ sufs L := by
  obtain ⟨i, v, hi, e⟩ := (mem_sufs g).1 h
  exact (mem_sufs g).2 ⟨i, v ++ u, hi, by rw [e, List.append_assoc]⟩
theorem GoodPr.next {L : Lx} (g : GoodL L) {p q : Pr} {i : Nat} (h : GoodPr L p) (hi : i < L.items.length) (hw : with8 p i (wd L i) = some q) : GoodPr L q ∧ lenP q = lenP p + 1 := by
  obtain ⟨a1, a2, s, t, hne, es, el⟩ := h.hd
  have hit : itemsB L (p.short ++ [(i : Int)]) = true := itemsB_snoc.2 ⟨h.sh, by omega, by omega⟩
  rcases with8_cases hw with ⟨r, hr, rfl⟩ | ⟨r, hr, rfl⟩
  · refine ⟨⟨hit, h.lo, ?_, ⟨a1, a2, s ++ [(i : Int)], t, hne, by rw [es]; rfl, el⟩, RR.short i r (by have := h.rr; rwa [hr] at this) hi, sufs_drop g (u := wd L i) (by have := h.su; rwa [hr] at this)⟩, ?_⟩
    · show wordsL L (p.short ++ [(i : Int)]) ++ r = wordsL L p.long
      rw [wordsL_snoc, wordL_nat, List.append_assoc, ← hr]; exact h.eq
    · simp [lenP]; omega
  · refine ⟨⟨h.lo, hit, ?_, ⟨a2, a1, t, s ++ [(i : Int)], Ne.symm hne, el, by rw [es]; rfl⟩, RR.long i p.left r h.rr hi hr, (mem_sufs g).2 ⟨i, p.left, hi, hr⟩⟩, ?_⟩
    · show wordsL L p.long ++ r = wordsL L (p.short ++ [(i : Int)])
      rw [wordsL_snoc, wordL_nat, hr, ← List.append_assoc, h.eq]
    · simp [lenP]; omega
theorem GoodPr.first {L : Lx} (g : GoodL L) {q : Pr} {i j : Nat} (hi : i < L.items.length) (hj : j < L.items.length) (hne : i ≠ j) (hw : with8 ⟨[], [(j : Int)], wd L j⟩ i (wd L i) = some q) : GoodPr L q ∧ lenP q = 2 := by
  have i1 : ∀ k : Nat, k < L.items.length → itemsB L [(k : Int)] = true := fun k hk => itemsB_cons.2 ⟨⟨k, rfl, hk⟩, rfl⟩
  have w1 : ∀ k : Nat, wordsL L [(k : Int)] = wd L k := fun k => by rw [wordsL_cons, wordL_nat]; simp [wordsL]
  rcases with8_cases hw with ⟨r, hr, rfl⟩ | ⟨r, hr, rfl⟩
  · have hr : wd L j = wd L i ++ r := hr
    exact ⟨⟨i1 i hi, i1 j hj, by show wordsL L [(i : Int)] ++ r = wordsL L [(j : Int)]; rw [w1, w1, hr], ⟨i, j, [], [], hne, rfl, rfl⟩, RR.start i j r hi hj hne hr, (mem_sufs g).2 ⟨j, wd L i, hj, hr⟩⟩, rfl⟩
  · have hr : wd L i = wd L j ++ r := hr
    exact ⟨⟨i1 j hj, i1 i hi, by show wordsL L [(j : Int)] ++ r = wordsL L [(i : Int)]; rw [w1, w1, hr], ⟨j, i, [], [], Ne.symm hne, rfl, rfl⟩, RR.start j i r hj hi (Ne.symm hne) hr, (mem_sufs g).2 ⟨i, wd L j, hi, hr⟩⟩, rfl⟩
def doneAt (L : Lx) (ps : List Pr) (l : List Int) (i : Nat) : Prop := ∀ r, (l = wd L i ++ r ∨ wd L i = l ++ r) → ∃ p ∈ ps, p.left = r
theorem doneAt.more {L : Lx} {ps : List Pr} {l : List Int} {i : Nat} (h : doneAt L ps l i) (qs : List Pr) : doneAt L (ps ++ qs) l i := fun r hr => by
  obtain ⟨p, hp, e⟩ := h r hr
  exact ⟨p, List.mem_append_left _ hp, e⟩
/-- the list of pairs, of which the first n are gone on with -/
structure InvP (L : Lx) (ps : List Pr) (n : Nat) : Prop where
  good : ∀ p ∈ ps, GoodPr L p
  len : ∀ k, k < ps.length → lenP (ps.getD k P0) ≤ k + 2
  start : ∀ i j r, i < L.items.length → j < L.items.length → i ≠ j → wd L j = wd L i ++ r → ∃ p ∈ ps, p.left = r
  shut : ∀ k, k < n → (ps.getD k P0).left ≠ [] ∧ ∀ i, i < L.items.length → doneAt L ps (ps.getD k P0).left i
  bound : ∃ m app, m.length ≤ 64 ∧ ps = m ++ app ∧ (app.map Pr.left).Nodup
theorem getD_memP {ps : List Pr} {k : Nat} (h : k < ps.length) : ps.getD k P0 ∈ ps := by simp [List.getD, List.getElem?_eq_getElem h]
theorem getD_snocP {ps : List Pr} {q : Pr} {k : Nat} (h : k < ps.length) : (ps ++ [q]).getD k P0 = ps.getD k P0 := by simp [List.getD, List.getElem?_append_left h]
theorem InvP.le {L : Lx} (g : GoodL L) {ps : List Pr} {n : Nat} (h : InvP L ps n) : ps.length ≤ 120 := by
  obtain ⟨m, app, h1, e, h2⟩ := h.bound
  have h3 := len_le_sub8 (m := sufs L) h2 (fun x hx => by
    obtain ⟨p, hp, rfl⟩ := List.mem_map.1 hx
    exact (h.good p (by rw [e]; exact List.mem_append_right _ hp)).su)
  rw [List.length_map] at h3
  have := sufs_len g
  rw [e, List.length_append]; omega
theorem InvP.push {L : Lx} {ps : List Pr} {n : Nat} {q : Pr} (h : InvP L ps n) (hn : n ≤ ps.length) (hq : GoodPr L q) (hl : lenP q ≤ ps.length + 2) (hno : isLeftB ps q.left = false) : InvP L (ps ++ [q]) n := by
  have hnot : ∀ p ∈ ps, p.left ≠ q.left := fun p hp e => by
    rw [isLeftB, List.any_eq_false] at hno
    exact hno p hp (decide_eq_true e)
  refine ⟨fun p hp => ?_, fun k hk => ?_, fun i j r hi hj hne e => ?_, fun k hk => ?_, ?_⟩
  · rcases List.mem_append.1 hp with hp | hp
    · exact h.good p hp
    · rw [List.mem_singleton] at hp; subst hp; exact hq
  · rw [List.length_append, List.length_singleton] at hk
    by_cases hk' : k < ps.length
    · rw [getD_snocP hk']; exact h.len k hk'
    · obtain rfl : k = ps.length := by omega
      rw [show (ps ++ [q]).getD ps.length P0 = q by simp [List.getD]]; exact hl
  · obtain ⟨p, hp, e⟩ := h.start i j r hi hj hne e
    exact ⟨p, List.mem_append_left _ hp, e⟩
  · rw [getD_snocP (by omega)]
    exact ⟨(h.shut k hk).1, fun i hi => ((h.shut k hk).2 i hi).more _⟩
  · obtain ⟨m, app, h1, e, h2⟩ := h.bound
    refine ⟨m, app ++ [q], h1, by rw [e, List.append_assoc], ?_⟩
    rw [List.map_append]
    unfold List.Nodup
    rw [List.pairwise_append]
    refine ⟨h2, by simp, fun x hx y hy => ?_⟩
    obtain ⟨p, hp, rfl⟩ := List.mem_map.1 hx
    simp at hy; subst hy
    exact hnot p (by rw [e]; exact List.mem_append_right _ hp)
theorem InvP.next {L : Lx} {ps : List Pr} {n : Nat} (h : InvP L ps n) (hne : (ps.getD n P0).left ≠ []) (hd : ∀ i, i < L.items.length → doneAt L ps (ps.getD n P0).left i) : InvP L ps (n + 1) :=
  ⟨h.good, h.len, h.start, fun k hk => by
    by_cases e : k = n
    · subst e; exact ⟨hne, hd⟩
    · exact h.shut k (by omega), h.bound⟩
theorem InvP.done {L : Lx} {ps : List Pr} {n : Nat} (h : InvP L ps n) (hn : n = ps.length) : ¬ RR L [] := by
  intro hr
  have hs : Shut L (fun r => ∃ p ∈ ps, p.left = r) := by
    have key : ∀ p ∈ ps, ∀ i, i < L.items.length → doneAt L ps p.left i := fun p hp i hi => by
      obtain ⟨k, hk, rfl⟩ := List.mem_iff_getElem.1 hp
      have := (h.shut k (by omega)).2 i hi
      rwa [show ps.getD k P0 = ps[k] by simp [List.getD, List.getElem?_eq_getElem hk]] at this
    refine ⟨h.start, fun i r ⟨p, hp, e⟩ hi => key p hp i hi r (.inl e), fun i l r ⟨p, hp, e⟩ hi he => key p hp i hi r (.inr (by rw [e]; exact he))⟩
  obtain ⟨p, hp, e⟩ := hs.all hr
  obtain ⟨k, hk, rfl⟩ := List.mem_iff_getElem.1 hp
  have := (h.shut k (by omega)).1
  rw [show ps.getD k P0 = ps[k] by simp [List.getD, List.getElem?_eq_getElem hk]] at this
  exact this e
theorem mem_fpL {L : Lx} {m : Nat} {q : Pr} : q ∈ fpL L m ↔ ∃ j i, j < m ∧ i < j ∧ with8 ⟨[], [(j : Int)], wd L j⟩ i (wd L i) = some q := by
  unfold fpL fpI
  simp only [List.mem_flatMap, List.mem_range, List.mem_filterMap]
  constructor
  · rintro ⟨j, hj, i, hi, h⟩; exact ⟨j, i, hj, hi, h⟩
  · rintro ⟨j, i, hj, hi, h⟩; exact ⟨j, hj, i, hi, h⟩
theorem InvP.init {L : Lx} (g : GoodL L) : InvP L (fpL L L.items.length) 0 := by
  have hg : ∀ p ∈ fpL L L.items.length, GoodPr L p ∧ lenP p = 2 := fun p hp => by
    obtain ⟨j, i, hj, hi, hw⟩ := mem_fpL.1 hp
    exact GoodPr.first g (by omega) hj (by omega) hw
  refine ⟨fun p hp => (hg p hp).1, fun k hk => by rw [(hg _ (getD_memP hk)).2]; omega, fun i j r hi hj hne e => ?_, fun k hk => absurd hk (by omega), ⟨_, [], ?_, (List.append_nil _).symm, by simp⟩⟩
  · by_cases hij : i < j
    · obtain ⟨q, hq, he⟩ := with8_some (p := ⟨[], [(j : Int)], wd L j⟩) (i := i) (x := wd L i) (r := r) (.inl e)
      exact ⟨q, mem_fpL.2 ⟨j, i, hj, hij, hq⟩, he⟩
    · obtain ⟨q, hq, he⟩ := with8_some (p := ⟨[], [(i : Int)], wd L i⟩) (i := j) (x := wd L j) (r := r) (.inr e)
      exact ⟨q, mem_fpL.2 ⟨i, j, hi, by omega, hq⟩, he⟩
  · have := fpL_le L L.items.length g.le
    have := g.le
    omega
end Go.Proofs.Ytgpenbajhndhiaa
