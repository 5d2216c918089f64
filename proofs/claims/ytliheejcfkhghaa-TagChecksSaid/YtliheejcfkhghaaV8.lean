import Derived.Test.YtliheejcfkhghaaV7
namespace Go.Proofs.Ytliheejcfkhghaa
open Go.RowKit Go.Proofs.Kv Go

/-! ### what is left over, as the document follows it -/
def doneS (L : Lx) (ls : List (List Int)) (l : List Int) (i : Nat) : Prop := ∀ r, (l = wd L i ++ r ∨ wd L i = l ++ r) → r ∈ ls
structure InvA (L : Lx) (ls : List (List Int)) (D : Nat → Nat → Prop) : Prop where
  good : ∀ r ∈ ls, RR L r ∧ r ∈ sufs L
  start : ∀ i j r, D i j → i < L.items.length → j < L.items.length → i ≠ j → wd L j = wd L i ++ r → r ∈ ls
theorem InvA.nil (L : Lx) : InvA L [] (fun i _ => i < 0) := ⟨fun r h => by simp at h, fun i j r h => absurd h (by omega)⟩
theorem InvA.same {L : Lx} {ls : List (List Int)} {D D' : Nat → Nat → Prop} (h : InvA L ls D) (hD : ∀ i j, D' i j → D i j) : InvA L ls D' := ⟨h.good, fun i j r d => h.start i j r (hD i j d)⟩
theorem InvA.skip {L : Lx} {ls : List (List Int)} {i j : Nat} (h : InvA L ls fun a b => a < i ∨ (a = i ∧ b < j)) (hn : i = j ∨ begT (wd L i) (wd L j) = false) : InvA L ls fun a b => a < i ∨ (a = i ∧ b < j + 1) :=
  ⟨h.good, fun a b r d ha hb hne e => by
    by_cases hd : a < i ∨ (a = i ∧ b < j)
    · exact h.start a b r hd ha hb hne e
    · obtain ⟨rfl, rfl⟩ : a = i ∧ b = j := by omega
      rcases hn with hn | hn
      · exact absurd hn hne
      · rw [begT_iff.2 ⟨r, e⟩] at hn; cases hn⟩
theorem InvA.done {L : Lx} {ls : List (List Int)} {i n : Nat} (h : InvA L ls fun a b => a < i ∨ (a = i ∧ b < n)) (hn : L.items.length ≤ n) : InvA L ls fun a _ => a < i + 1 :=
  ⟨h.good, fun a b r (d : a < i + 1) ha hb => h.start a b r (show a < i ∨ (a = i ∧ b < n) by omega) ha hb⟩
theorem InvA.push {L : Lx} (g : GoodL L) {ls : List (List Int)} {i j : Nat} (h : InvA L ls fun a b => a < i ∨ (a = i ∧ b < j)) (hi : i < L.items.length) (hj : j < L.items.length) (hne : i ≠ j) (hb : begT (wd L i) (wd L j) = true) :
    InvA L (ls ++ [(wd L j).drop (wd L i).length]) fun a b => a < i ∨ (a = i ∧ b < j + 1) := by
  obtain ⟨r, hr⟩ := begT_iff.1 hb
  have hd : (wd L j).drop (wd L i).length = r := by rw [hr, List.drop_left]
  rw [hd]
  refine ⟨fun x hx => ?_, fun a b r' d ha hb' hne' e => ?_⟩
  · rcases List.mem_append.1 hx with hx | hx
    · exact h.good x hx
    · rw [List.mem_singleton] at hx; subst hx
      exact ⟨RR.start i j x hi hj hne hr, (mem_sufs g).2 ⟨j, wd L i, hj, hr⟩⟩
  · by_cases hd : a < i ∨ (a = i ∧ b < j)
    · exact List.mem_append_left _ (h.start a b r' hd ha hb' hne' e)
    · obtain ⟨rfl, rfl⟩ : a = i ∧ b = j := by omega
      exact List.mem_append_right _ (by rw [List.mem_singleton]; exact List.append_cancel_left (e.symm.trans hr))
structure InvB (L : Lx) (ls : List (List Int)) (n : Nat) : Prop where
  good : ∀ r ∈ ls, RR L r ∧ r ∈ sufs L
  start : ∀ i j r, i < L.items.length → j < L.items.length → i ≠ j → wd L j = wd L i ++ r → r ∈ ls
  shut : ∀ k, k < n → ls.getD k [] ≠ [] ∧ ∀ i, i < L.items.length → doneS L ls (ls.getD k []) i
  bound : ∃ m app, m.length ≤ 64 ∧ ls = m ++ app ∧ app.Nodup
theorem InvA.toB {L : Lx} {ls : List (List Int)} {n : Nat} (h : InvA L ls fun i _ => i < n) (hn : L.items.length ≤ n) (hl : ls.length ≤ 64) : InvB L ls 0 :=
  ⟨h.good, fun i j r hi hj => h.start i j r (show i < n by omega) hi hj, fun k hk => absurd hk (by omega), ls, [], hl, by simp, List.nodup_nil⟩
theorem InvB.le {L : Lx} (g : GoodL L) {ls : List (List Int)} {n : Nat} (h : InvB L ls n) : ls.length ≤ 120 := by
  obtain ⟨m, app, h1, e, h2⟩ := h.bound
  have h3 := len_le_sub8 (m := sufs L) h2 (fun x hx => (h.good x (by rw [e]; exact List.mem_append_right _ hx)).2)
  have := sufs_len g
  rw [e, List.length_append]; omega
theorem getD_memS {ls : List (List Int)} {k : Nat} (h : k < ls.length) : ls.getD k [] ∈ ls := by simp [List.getD, List.getElem?_eq_getElem h]
theorem getD_snocS {ls : List (List Int)} {q : List Int} {k : Nat} (h : k < ls.length) : (ls ++ [q]).getD k [] = ls.getD k [] := by simp [List.getD, List.getElem?_append_left h]
theorem InvB.push {L : Lx} {ls : List (List Int)} {n : Nat} {q : List Int} (h : InvB L ls n) (hn : n ≤ ls.length) (hq : RR L q ∧ q ∈ sufs L) (hno : hasB ls q = false) : InvB L (ls ++ [q]) n := by
  have hnot : q ∉ ls := fun hm => by rw [hasB_iff.2 hm] at hno; cases hno
  refine ⟨fun p hp => ?_, fun i j r hi hj hne e => List.mem_append_left _ (h.start i j r hi hj hne e), fun k hk => ?_, ?_⟩
  · rcases List.mem_append.1 hp with hp | hp
    · exact h.good p hp
    · rw [List.mem_singleton] at hp; subst hp; exact hq
  · rw [getD_snocS (by omega)]
    exact ⟨(h.shut k hk).1, fun i hi r hr => List.mem_append_left _ ((h.shut k hk).2 i hi r hr)⟩
  · obtain ⟨m, app, h1, e, h2⟩ := h.bound
    refine ⟨m, app ++ [q], h1, by rw [e, List.append_assoc], ?_⟩
    unfold List.Nodup
    rw [List.pairwise_append]
    refine ⟨h2, by simp, fun x hx y hy => ?_⟩
    simp at hy; subst hy
    exact fun e' => hnot (by rw [← e', e]; exact List.mem_append_right _ hx)
theorem InvB.next {L : Lx} {ls : List (List Int)} {n : Nat} (h : InvB L ls n) (h0 : ls.getD n [] ≠ []) (hd : ∀ i, i < L.items.length → doneS L ls (ls.getD n []) i) : InvB L ls (n + 1) :=
  ⟨h.good, h.start, fun k hk => by
    by_cases hk' : k < n
    · exact h.shut k hk'
    · obtain rfl : k = n := by omega
      exact ⟨h0, hd⟩, h.bound⟩
theorem InvB.no {L : Lx} {ls : List (List Int)} {n : Nat} (h : InvB L ls n) (hn : n < ls.length) (h0 : ls.getD n [] = []) : RR L [] := by
  have := (h.good _ (getD_memS hn)).1
  rwa [h0] at this
theorem InvB.yes {L : Lx} {ls : List (List Int)} (h : InvB L ls ls.length) : ¬ RR L [] := by
  intro hr
  have hs : Shut L (· ∈ ls) := by
    have get : ∀ r, r ∈ ls → ∃ k, k < ls.length ∧ ls.getD k [] = r := fun r hr => by
      obtain ⟨k, hk, e⟩ := List.mem_iff_getElem.1 hr
      exact ⟨k, hk, by simp [List.getD, List.getElem?_eq_getElem hk, e]⟩
    refine ⟨fun i j r hi hj hne e => h.start i j r hi hj hne e, fun i r hl hi => ?_, fun i l r hl hi e => ?_⟩
    · obtain ⟨k, hk, e⟩ := get _ hl
      exact (h.shut k hk).2 i hi r (.inl e)
    · obtain ⟨k, hk, e'⟩ := get _ hl
      exact (h.shut k hk).2 i hi r (.inr (by rw [e']; exact e))
  obtain ⟨k, hk, e⟩ := List.mem_iff_getElem.1 (hs.all hr)
  exact (h.shut k hk).1 (by simp [List.getD, List.getElem?_eq_getElem hk, e])
theorem InvB.succ {L : Lx} (g : GoodL L) {ls : List (List Int)} {n i : Nat} {l r : List Int} (h : InvB L ls n) (hl : l ∈ ls) (hi : i < L.items.length) (hr : l = wd L i ++ r ∨ wd L i = l ++ r) : RR L r ∧ r ∈ sufs L := by
  obtain ⟨h1, h2⟩ := h.good l hl
  rcases hr with hr | hr
  · exact ⟨RR.short i r (by rwa [hr] at h1) hi, sufs_drop g (u := wd L i) (by rwa [hr] at h2)⟩
  · exact ⟨RR.long i l r h1 hi hr, (mem_sufs g).2 ⟨i, l, hi, hr⟩⟩
/-- the one word that is left over -/
theorem left_one {x l r r' : List Int} (h : l = x ++ r ∨ x = l ++ r) (h' : l = x ++ r' ∨ x = l ++ r') : r = r' := by
  have e : ∀ {a b : List Int}, a = b → a.length = b.length := fun h => by rw [h]
  rcases h with h | h <;> rcases h' with h' | h'
  · exact List.append_cancel_left (h.symm.trans h')
  · have h1 := e h; have h2 := e h'
    rw [List.length_append] at h1 h2
    rw [List.length_eq_zero_iff.1 (show r.length = 0 by omega), List.length_eq_zero_iff.1 (show r'.length = 0 by omega)]
  · have h1 := e h; have h2 := e h'
    rw [List.length_append] at h1 h2
    rw [List.length_eq_zero_iff.1 (show r.length = 0 by omega), List.length_eq_zero_iff.1 (show r'.length = 0 by omega)]
  · exact List.append_cancel_left (h.symm.trans h')
end Go.Proofs.Ytliheejcfkhghaa
