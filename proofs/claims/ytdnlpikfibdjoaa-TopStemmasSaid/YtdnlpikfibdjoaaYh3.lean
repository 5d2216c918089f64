import Derived.Test.YtdnlpikfibdjoaaYh2
import Derived.Test.YtdnlpikfibdjoaaYD
import Derived.Test.YtdnlpikfibdjoaaYN
namespace Go.Proofs.Ytdnlpikfibdjoaa
open Go.RowKit Go.Proofs.Kv Go

/-! ### facts of TopStemmas -/
def exT7 : List (List Int) := [[0, 0], [1, 1]]
def exX7 : Tr := ⟨[-1, 0], [0, 1]⟩
theorem tot_ex : resTot exT7 exX7 = 2 ∧ okTot exT7 exX7 = true ∧ errB exT7 exX7 = 0 := by decide +kernel
def allK (T : List (List Int)) (k : Nat) : List Int := ((List.range k).filter (splR T)).map fun i : Nat => (i : Int)
def splN (T : List (List Int)) (k : Nat) : Nat := ((List.range k).filter (splR T)).length
theorem splN_succ (T : List (List Int)) (k : Nat) : splN T (k + 1) = splN T k + if splR T k = true then 1 else 0 := by
  unfold splN
  rw [List.range_succ, List.filter_append, List.length_append]
  congr 1
  cases h : splR T k <;> simp [h]
theorem splN_le (T : List (List Int)) (k : Nat) : splN T k ≤ k := by unfold splN; have := List.length_filter_le (splR T) (List.range k); simpa using this
theorem mem_confR {T : List (List Int)} {x : Int × Int} (h : x ∈ confR T) : ∃ p q : Nat, p < q ∧ q < n0 T ∧ cfR T p q = true := by
  unfold confR allC at h
  obtain ⟨p, hp, h⟩ := List.mem_flatMap.1 h
  unfold rowC at h
  obtain ⟨q, hq, -⟩ := List.mem_map.1 h
  obtain ⟨hq1, hq2⟩ := List.mem_filter.1 hq
  rw [Bool.and_eq_true, decide_eq_true_eq] at hq2
  exact ⟨p, q, hq2.1, List.mem_range.1 hq1, hq2.2⟩
theorem can_of {T : List (List Int)} (hv : validT T = 0) (h : ∀ p q, p < q → q < n0 T → cfR T p q = false) : resCan T = true := by
  unfold resCan
  rw [decide_eq_true hv, Bool.true_and, decide_eq_true_eq]
  rcases Nat.eq_zero_or_pos (confR T).length with h0 | h0
  · exact h0
  · obtain ⟨p, q, h1, h2, h3⟩ := mem_confR (List.getElem_mem h0)
    rw [h p q h1 h2] at h3; cases h3
theorem all_calm {T : List (List Int)} (h : ∀ p q, p < n0 T → q < n0 T → p ≠ q → cfR T p q = false) : ∀ m, m ≤ n0 T → allK T m ∈ calmS T m
  | 0, _ => by simp [allK, calmS]
  | m + 1, hm => by
    have ih := all_calm h m (by omega)
    unfold calmS
    cases hs : splR T m with
    | true =>
      have e : allK T (m + 1) = allK T m ++ [(m : Int)] := by unfold allK; rw [List.range_succ, List.filter_append]; simp [hs]
      rw [e]
      refine List.mem_append.2 (.inr (List.mem_map.2 ⟨allK T m, List.mem_filter.2 ⟨by first | exact ih | exact List.mem_reverse.2 ih, ?_⟩, rfl⟩))
      unfold fitsS
      rw [hs, Bool.true_and, List.all_eq_true]
      intro x hx
      unfold allK at hx
      obtain ⟨i, hi, rfl⟩ := List.mem_map.1 hx
      have hi := List.mem_range.1 (List.mem_filter.1 hi).1
      rw [Int.toNat_natCast, h m i (by omega) (by omega) (by omega)]; rfl
    | false =>
      have e : allK T (m + 1) = allK T m := by unfold allK; rw [List.range_succ, List.filter_append]; simp [hs]
      rw [e]
      exact List.mem_append.2 (.inl ih)
theorem natcast_nodup {l : List Nat} (h : l.Nodup) : (l.map fun i : Nat => (i : Int)).Nodup := by
  unfold List.Nodup at *
  rw [List.pairwise_map]
  exact h.imp fun {a b} hab e => hab (by omega)
/-- what the greatest set is good for -/
theorem great_facts {T : List (List Int)} (hv : validT T = 0) : (∀ p q : Nat, (p : Int) ∈ resGreat T → (q : Int) ∈ resGreat T → p < q → cfR T p q = false) ∧ (∀ x ∈ resGreat T, ∃ p : Nat, x = (p : Int) ∧ p < n0 T) ∧ resCan T = decide ((resGreat T).length = splN T (n0 T)) := by
  have hG : resGreat T = greatB T (n0 T) (2 ^ n0 T) := by unfold resGreat; rw [if_pos hv]
  obtain ⟨⟨b, hb, hst, hB⟩, hbest⟩ := greatB_best T (n0 T) (2 ^ n0 T) (Nat.two_pow_pos _)
  have hmem : ∀ i : Nat, (i : Int) ∈ resGreat T ↔ i < n0 T ∧ b.testBit i = true := fun i => by
    rw [hG, hB]
    unfold memB
    rw [List.mem_map]
    constructor
    · rintro ⟨j, hj, e⟩
      obtain rfl : j = i := by omega
      obtain ⟨h1, h2⟩ := List.mem_filter.1 hj
      exact ⟨List.mem_range.1 h1, h2⟩
    · rintro ⟨h1, h2⟩
      exact ⟨i, List.mem_filter.2 ⟨List.mem_range.2 h1, h2⟩, rfl⟩
  have hfit : ∀ i, i < n0 T → b.testBit i = true → fitsS T (memB i b) i = true := fun i hi hbi => by
    unfold standS at hst
    rw [List.all_eq_true] at hst
    have := hst i (List.mem_range.2 hi)
    rw [hbi] at this
    simpa using this
  have hspl : ∀ i, i < n0 T → b.testBit i = true → splR T i = true := fun i hi hbi => by
    have := hfit i hi hbi
    unfold fitsS at this
    rw [Bool.and_eq_true] at this
    exact this.1
  have hcf : ∀ p q : Nat, (p : Int) ∈ resGreat T → (q : Int) ∈ resGreat T → p < q → cfR T p q = false := fun p q hp hq hpq => by
    obtain ⟨hp1, hp2⟩ := (hmem p).1 hp
    obtain ⟨hq1, hq2⟩ := (hmem q).1 hq
    have := hfit q hq1 hq2
    unfold fitsS at this
    rw [Bool.and_eq_true, List.all_eq_true] at this
    have h2 := this.2 (p : Int) (by
      unfold memB
      exact List.mem_map.2 ⟨p, List.mem_filter.2 ⟨List.mem_range.2 hpq, hp2⟩, rfl⟩)
    rw [Int.toNat_natCast] at h2
    rw [cfR_symm]
    simpa using h2
  have hlt : ∀ x ∈ resGreat T, ∃ p : Nat, x = (p : Int) ∧ p < n0 T := fun x hx => by
    rw [hG, hB] at hx
    unfold memB at hx
    obtain ⟨i, hi, rfl⟩ := List.mem_map.1 hx
    exact ⟨i, rfl, List.mem_range.1 (List.mem_filter.1 hi).1⟩
  refine ⟨hcf, hlt, ?_⟩
  have hlen : (resGreat T).length = ((List.range (n0 T)).filter fun i => b.testBit i).length := by rw [hG, hB]; unfold memB; rw [List.length_map]
  cases hc : resCan T with
  | true =>
    have hall := all_calm (conf_none hc).2 (n0 T) (Nat.le_refl _)
    have hb2 := hbest _ ((mem_calmS T (n0 T) _).1 hall)
    unfold bettL at hb2
    rw [Bool.or_eq_false_iff] at hb2
    have h1 := of_decide_eq_false hb2.1
    rw [← hG] at h1
    have e : (allK T (n0 T)).length = splN T (n0 T) := by unfold allK splN; rw [List.length_map]
    have h2 : (resGreat T).length ≤ (allK T (n0 T)).length := by
      refine len_le_sub ?_ fun x hx => ?_
      · rw [hG, hB]; unfold memB; exact natcast_nodup (List.nodup_range.filter _)
      · obtain ⟨p, rfl, hp⟩ := hlt x hx
        unfold allK
        exact List.mem_map.2 ⟨p, List.mem_filter.2 ⟨List.mem_range.2 hp, hspl p hp ((hmem p).1 hx).2⟩, rfl⟩
    exact (decide_eq_true (by omega)).symm
  | false =>
    refine (decide_eq_false fun e => ?_).symm
    have heq := filter_eq_of (f := fun i => b.testBit i) (g := splR T) (L := List.range (n0 T)) (fun i hi hbi => hspl i (List.mem_range.1 hi) hbi) (by
      rw [← hlen, e]; exact Nat.le_refl _)
    have hin : ∀ p, p < n0 T → splR T p = true → (p : Int) ∈ resGreat T := fun p hp hs => (hmem p).2 ⟨hp, by
      have : p ∈ (List.range (n0 T)).filter (splR T) := List.mem_filter.2 ⟨List.mem_range.2 hp, hs⟩
      rw [← heq] at this
      exact (List.mem_filter.1 this).2⟩
    rw [can_of hv] at hc
    · cases hc
    · intro p q hpq hq
      cases hcc : cfR T p q with
      | false => rfl
      | true =>
        have h0 := hcc
        unfold cfR at h0
        rw [Bool.and_eq_true, Bool.and_eq_true] at h0
        rw [hcf p q (hin p (by omega) h0.1) (hin q hq h0.2.1) hpq] at hcc
        cases hcc
end Go.Proofs.Ytdnlpikfibdjoaa
