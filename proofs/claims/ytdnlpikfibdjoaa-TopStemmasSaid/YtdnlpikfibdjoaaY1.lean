import Derived.Test.YtdnlpikfibdjoaaYz
namespace Go.Proofs.Kv
theorem len_le_sub {α : Type} [DecidableEq α] : ∀ {l m : List α}, l.Nodup → (∀ x ∈ l, x ∈ m) → l.length ≤ m.length
  | [], _, _, _ => Nat.zero_le _
  | a :: l, m, hn, hs => by
    obtain ⟨h1, h2⟩ := List.nodup_cons.1 hn
    have ha := hs a (by simp)
    have h3 := len_le_sub (l := l) (m := m.erase a) h2 fun x hx => (List.mem_erase_of_ne (fun e => h1 (by rw [← e]; exact hx))).2 (hs x (List.mem_cons_of_mem _ hx))
    rw [List.length_erase_of_mem ha] at h3
    have := List.length_pos_of_mem ha
    rw [List.length_cons]; omega
theorem sub_of_len {α : Type} [DecidableEq α] {l m : List α} (hn : l.Nodup) (hs : ∀ x ∈ l, x ∈ m) (hl : m.length ≤ l.length) : ∀ x ∈ m, x ∈ l := by
  intro x hx
  refine Classical.byContradiction fun hc => ?_
  have h := len_le_sub (l := x :: l) (m := m) (List.nodup_cons.2 ⟨hc, hn⟩) fun y hy => by
    rcases List.mem_cons.1 hy with rfl | hy
    · exact hx
    · exact hs y hy
  rw [List.length_cons] at h
  omega
theorem uq_two {l : List Int} (h : (uq l).length = 2) {y0 : Int} (h0 : y0 ∈ l) : ∃ y1, y1 ≠ y0 ∧ y1 ∈ l ∧ ∀ y ∈ l, y = y0 ∨ y = y1 := by
  have hn := uq_nodup l
  have hm : ∀ y, y ∈ l ↔ y ∈ uq l := fun y => mem_uq.symm
  match hu : uq l, h with
  | [a, b], _ =>
    rw [hu] at hn hm
    have hab : a ≠ b := by intro e; subst e; simp at hn
    have hy := (hm y0).1 h0
    simp only [List.mem_cons, List.not_mem_nil, or_false] at hy
    rcases hy with rfl | rfl
    · exact ⟨b, hab.symm, (hm b).2 (by simp), fun y hy => by simpa using (hm y).1 hy⟩
    · exact ⟨a, hab, (hm a).2 (by simp), fun y hy => by have := (hm y).1 hy; simp at this; exact this.symm⟩
end Go.Proofs.Kv
namespace Go.Proofs.Ytdnlpikfibdjoaa
open Go.RowKit Go.Proofs.Kv

/-! ### conflicts by sides -/
def bothL (A B : List Int) (i : Nat) : Nat := ((A.take i).map fun x => B.count x).sum
theorem bothL_succ {A B : List Int} {i : Nat} (h : i < A.length) : bothL A B (i + 1) = bothL A B i + B.count (A.getD i 0) := by
  rw [bothL, bothL, take_snoc _ 0 _ h, List.map_append, List.sum_append]; simp
theorem count_succ {B : List Int} {x : Int} {k : Nat} (h : k < B.length) : (B.take (k + 1)).count x = (B.take k).count x + if B.getD k 0 = x then 1 else 0 := by
  rw [take_snoc _ 0 _ h, List.count_append, List.count_singleton]
  by_cases e : B.getD k 0 = x
  · rw [e]; simp
  · generalize B.getD k 0 = y at *
    rw [if_neg e]; simp [e]
theorem pl_nodup (p : Int → Bool) (n : Nat) : (pl p n).Nodup := by
  unfold pl
  have h : List.Pairwise (fun a b => a ≠ b) (List.range n) := List.nodup_range (n := n)
  exact List.Pairwise.filter _ (List.Pairwise.map _ (fun a b (hab : a ≠ b) (e : (a : Int) = (b : Int)) => hab (by omega)) h)
theorem both_pl (P Q : Int → Bool) (n : Nat) : bothL (pl P n) (pl Q n) (pl P n).length = (pl (fun x => P x && Q x) n).length := by
  rw [bothL, List.take_length]
  have e1 : ∀ l : List Int, (l.map fun x => (pl Q n).count x).sum = (l.filter fun x => decide (x ∈ pl Q n)).length := by
    intro l
    induction l with
    | nil => rfl
    | cons x l ih =>
      rw [List.map_cons, List.sum_cons, ih, List.filter_cons]
      by_cases hx : x ∈ pl Q n
      · rw [List.Nodup.count (pl_nodup Q n), if_pos hx]; simp [hx]; omega
      · rw [List.count_eq_zero.2 hx]; simp [hx]
  rw [e1]
  congr 1
  rw [pl, pl, List.filter_filter]
  refine List.filter_congr fun x hx => ?_
  obtain ⟨i, hi, rfl⟩ := List.mem_map.1 hx
  have hi' := List.mem_range.1 hi
  rw [Bool.eq_iff_iff, Bool.and_eq_true, Bool.and_eq_true, decide_eq_true_eq]
  rw [List.mem_filter]
  exact ⟨fun h => ⟨h.2, h.1.2⟩, fun h => ⟨⟨hx, h.2⟩, h.1⟩⟩
theorem pl_pos {P : Int → Bool} {n : Nat} : 0 < (pl P n).length ↔ ∃ i : Nat, i < n ∧ P i = true := by
  rw [List.length_pos_iff_exists_mem]
  constructor
  · rintro ⟨x, hx⟩
    obtain ⟨h1, h2, h3⟩ := mem_pl.1 hx
    exact ⟨x.toNat, by omega, by rw [Int.toNat_of_nonneg h1]; exact h3⟩
  · rintro ⟨i, h1, h2⟩
    exact ⟨i, mem_pl.2 ⟨by omega, by omega, h2⟩⟩
theorem pl_lt {P Q : Int → Bool} {n : Nat} : (pl (fun x => P x && Q x) n).length < (pl P n).length ↔ ∃ i : Nat, i < n ∧ P i = true ∧ Q i = false := by
  have e : pl (fun x => P x && Q x) n = (pl P n).filter Q := by
    unfold pl
    rw [List.filter_filter]
    exact List.filter_congr fun x _ => Bool.and_comm _ _
  rw [e, List.length_filter_lt_length_iff_exists]
  constructor
  · rintro ⟨x, hx, hq⟩
    obtain ⟨h1, h2, h3⟩ := mem_pl.1 hx
    exact ⟨x.toNat, by omega, by rw [Int.toNat_of_nonneg h1]; exact h3, by rw [Int.toNat_of_nonneg h1]; simpa using hq⟩
  · rintro ⟨i, h1, h2, h3⟩
    exact ⟨i, mem_pl.2 ⟨by omega, by omega, h2⟩, by rw [h3]; decide⟩
theorem pl_comm (P Q : Int → Bool) (n : Nat) : pl (fun x => P x && Q x) n = pl (fun x => Q x && P x) n := by
  unfold pl; exact List.filter_congr fun x _ => Bool.and_comm _ _
theorem colP_iff {T : List (List Int)} {p q : Nat} {x : Int × Int} : x ∈ colP T p q ↔ ∃ i, i < T.length ∧ ((T.getD i []).getD p 0, (T.getD i []).getD q 0) = x := by
  constructor
  · intro hx
    obtain ⟨r, hr, rfl⟩ := List.mem_map.1 hx
    obtain ⟨i, hi, rfl⟩ := List.mem_iff_getElem.1 hr
    exact ⟨i, hi, by simp [List.getD, List.getElem?_eq_getElem hi]⟩
  · rintro ⟨i, hi, rfl⟩
    exact List.mem_map.2 ⟨T.getD i [], by simp [List.getD, List.getElem?_eq_getElem hi], rfl⟩
theorem sides_conflict {T : List (List Int)} (g : GoodT T) {p q : Nat} (hp : splR T p = true) (hq : splR T q = true) :
    cfR T p q = (decide (0 < bothL (sideR T p) (sideR T q) (sideR T p).length) && (decide (bothL (sideR T p) (sideR T q) (sideR T p).length < (sideR T p).length) && decide (bothL (sideR T p) (sideR T q) (sideR T p).length < (sideR T q).length))) := by
  have hge := g.ge
  have hc : ∀ (p i : Nat), i < T.length → (T.getD i []).getD p 0 ∈ colR T p := fun p i hi => by
    rw [← colR_get hi]; exact getD_mem (by rw [colR_len]; exact hi)
  obtain ⟨y1, hy1, hy2, hy3⟩ := uq_two (of_decide_eq_true hp) (hc p 0 (by omega))
  obtain ⟨z1, hz1, hz2, hz3⟩ := uq_two (of_decide_eq_true hq) (hc q 0 (by omega))
  obtain ⟨y0, hy0⟩ : ∃ y0, (T.getD 0 []).getD p 0 = y0 := ⟨_, rfl⟩
  obtain ⟨z0, hz0⟩ : ∃ z0, (T.getD 0 []).getD q 0 = z0 := ⟨_, rfl⟩
  rw [hy0] at hy1 hy3
  rw [hz0] at hz1 hz3
  have hpv : ∀ i, i < T.length → (T.getD i []).getD p 0 = y0 ∨ (T.getD i []).getD p 0 = y1 := fun i hi => hy3 _ (hc p i hi)
  have hqv : ∀ i, i < T.length → (T.getD i []).getD q 0 = z0 ∨ (T.getD i []).getD q 0 = z1 := fun i hi => hz3 _ (hc q i hi)
  have sp : ∀ i : Nat, i < T.length → (sidB T p (i : Int) = true ↔ (T.getD i []).getD p 0 = y1) := fun i hi => by
    have := hpv i hi
    rw [sidB, decide_eq_true_eq, Int.toNat_natCast, hy0]
    constructor
    · intro h; rcases this with h' | h'; exact absurd h' h; exact h'
    · intro h; rw [h]; exact hy1
  have sq : ∀ i : Nat, i < T.length → (sidB T q (i : Int) = true ↔ (T.getD i []).getD q 0 = z1) := fun i hi => by
    have := hqv i hi
    rw [sidB, decide_eq_true_eq, Int.toNat_natCast, hz0]
    constructor
    · intro h; rcases this with h' | h'; exact absurd h' h; exact h'
    · intro h; rw [h]; exact hz1
  have sp0 : ∀ i : Nat, i < T.length → (sidB T p (i : Int) = false ↔ (T.getD i []).getD p 0 = y0) := fun i hi => by
    have h1 := sp i hi
    have h2 := hpv i hi
    rw [← Bool.not_eq_true, h1]
    constructor
    · intro h; rcases h2 with h' | h'; exact h'; exact absurd h' h
    · intro h e; rw [h] at e; exact hy1 e.symm
  have sq0 : ∀ i : Nat, i < T.length → (sidB T q (i : Int) = false ↔ (T.getD i []).getD q 0 = z0) := fun i hi => by
    have h1 := sq i hi
    have h2 := hqv i hi
    rw [← Bool.not_eq_true, h1]
    constructor
    · intro h; rcases h2 with h' | h'; exact h'; exact absurd h' h
    · intro h e; rw [h] at e; exact hz1 e.symm
  have hsub : ∀ x ∈ uq (colP T p q), x ∈ [(y0, z0), (y0, z1), (y1, z0), (y1, z1)] := fun x hx => by
    obtain ⟨i, hi, rfl⟩ := colP_iff.1 (mem_uq.1 hx)
    rcases hpv i hi with h1 | h1 <;> rcases hqv i hi with h2 | h2 <;> rw [h1, h2] <;> simp
  have h4 : (uq (colP T p q)).length = 4 ↔ (∃ i, i < T.length ∧ (T.getD i []).getD p 0 = y1 ∧ (T.getD i []).getD q 0 = z1) ∧ (∃ i, i < T.length ∧ (T.getD i []).getD p 0 = y1 ∧ (T.getD i []).getD q 0 = z0) ∧ ∃ i, i < T.length ∧ (T.getD i []).getD p 0 = y0 ∧ (T.getD i []).getD q 0 = z1 := by
    constructor
    · intro h
      have hall := sub_of_len (uq_nodup (colP T p q)) hsub (by rw [h]; exact Nat.le_refl _)
      have key : ∀ a b : Int, (a, b) ∈ [(y0, z0), (y0, z1), (y1, z0), (y1, z1)] → ∃ i, i < T.length ∧ (T.getD i []).getD p 0 = a ∧ (T.getD i []).getD q 0 = b := fun a b hab => by
        obtain ⟨i, hi, e⟩ := colP_iff.1 (mem_uq.1 (hall _ hab))
        exact ⟨i, hi, congrArg Prod.fst e, congrArg Prod.snd e⟩
      exact ⟨key _ _ (by simp), key _ _ (by simp), key _ _ (by simp)⟩
    · rintro ⟨⟨i, hi, i1, i2⟩, ⟨j, hj, j1, j2⟩, k, hk, k1, k2⟩
      have hn : [(y0, z0), (y0, z1), (y1, z0), (y1, z1)].Nodup := by
        have := hy1; have := hz1
        simp [List.nodup_cons, Ne.symm hy1, Ne.symm hz1]
      have h1 := len_le_sub (m := uq (colP T p q)) hn fun x hx => by
        rw [mem_uq, colP_iff]
        simp only [List.mem_cons, List.not_mem_nil, or_false] at hx
        rcases hx with rfl | rfl | rfl | rfl
        · exact ⟨0, by omega, by rw [hy0, hz0]⟩
        · exact ⟨k, hk, by rw [k1, k2]⟩
        · exact ⟨j, hj, by rw [j1, j2]⟩
        · exact ⟨i, hi, by rw [i1, i2]⟩
      have h2 := len_le_sub (uq_nodup (colP T p q)) hsub
      simp only [List.length_cons, List.length_nil] at h1 h2
      omega
  rw [cfR, hp, hq, Bool.true_and, Bool.true_and, sideR, sideR, both_pl, Bool.eq_iff_iff]
  simp only [Bool.and_eq_true, decide_eq_true_eq]
  rw [h4, pl_pos, pl_lt, pl_comm, pl_lt]
  refine and_congr ⟨?_, ?_⟩ (and_congr ⟨?_, ?_⟩ ⟨?_, ?_⟩)
  · rintro ⟨i, hi, h1, h2⟩; exact ⟨i, hi, by rw [Bool.and_eq_true]; exact ⟨(sp i hi).2 h1, (sq i hi).2 h2⟩⟩
  · rintro ⟨i, hi, h⟩; rw [Bool.and_eq_true] at h; exact ⟨i, hi, (sp i hi).1 h.1, (sq i hi).1 h.2⟩
  · rintro ⟨i, hi, h1, h2⟩; exact ⟨i, hi, (sp i hi).2 h1, (sq0 i hi).2 h2⟩
  · rintro ⟨i, hi, h1, h2⟩; exact ⟨i, hi, (sp i hi).1 h1, (sq0 i hi).1 h2⟩
  · rintro ⟨i, hi, h1, h2⟩; exact ⟨i, hi, (sq i hi).2 h2, (sp0 i hi).2 h1⟩
  · rintro ⟨i, hi, h1, h2⟩; exact ⟨i, hi, (sp0 i hi).1 h2, (sq i hi).1 h1⟩
end Go.Proofs.Ytdnlpikfibdjoaa
