import Derived.Test.YtoopgmoopmbfnaaRn2
import Derived.Lib.SmallJoins
namespace Go.Proofs.Ytoopgmoopmbfnaa
open Go.RowKit Go.Proofs.Kv

/-! ### lists that have each sound once -/
theorem perm_of_sub : ∀ {a l : List Int}, a.Nodup → (∀ x ∈ a, x ∈ l) → l.length ≤ a.length → l.Perm a
  | [], l, _, _, h => by rw [List.eq_nil_of_length_eq_zero (Nat.le_zero.1 h)]
  | x :: a, l, hn, hs, hl => by
    have hx := hs x (by simp)
    have hp := List.perm_cons_erase hx
    rw [List.nodup_cons] at hn
    have hle : (l.erase x).length ≤ a.length := by
      rw [List.length_erase_of_mem hx]; simp at hl; omega
    refine hp.trans ((perm_of_sub hn.2 (fun y hy => ?_) hle).cons x)
    have := hs y (by simp [hy])
    rcases List.mem_cons.1 (hp.mem_iff.1 this) with e | e
    · subst e; exact absurd hy hn.1
    · exact e
def rangeI (n : Nat) : List Int := (List.range n).map fun i : Nat => (i : Int)
theorem mem_rangeI {n : Nat} {x : Int} : x ∈ rangeI n ↔ 0 ≤ x ∧ x < n := by
  simp only [rangeI, List.mem_map, List.mem_range]
  constructor
  · rintro ⟨i, hi, rfl⟩; omega
  · intro h; exact ⟨x.toNat, by omega, by omega⟩
theorem nodup_rangeI (n : Nat) : (rangeI n).Nodup := by
  rw [rangeI, List.nodup_iff_pairwise_ne]
  exact List.pairwise_map.2 (List.nodup_range.imp fun h e => h (by omega))
theorem len_rangeI (n : Nat) : (rangeI n).length = n := by simp [rangeI]
theorem IsOrd_perm {l : List Int} {n : Nat} : IsOrd l n = true ↔ l.Perm (rangeI n) := by
  constructor
  · intro h
    simp only [IsOrd, Bool.and_eq_true, decide_eq_true_eq, List.all_eq_true, List.mem_range] at h
    refine perm_of_sub (nodup_rangeI n) (fun x hx => ?_) (by rw [len_rangeI]; omega)
    rw [mem_rangeI] at hx
    have := h.2 x.toNat (by omega)
    rw [Has_iff] at this
    rwa [Int.toNat_of_nonneg hx.1] at this
  · intro h
    simp only [IsOrd, Bool.and_eq_true, decide_eq_true_eq, List.all_eq_true, List.mem_range]
    refine ⟨by rw [h.length_eq, len_rangeI], fun i hi => ?_⟩
    rw [Has_iff, h.mem_iff, mem_rangeI]
    simp at hi; omega
theorem ord_iff {l : List Int} : IsOrd l 6 = true ↔ l.length = 6 ∧ (∀ x ∈ l, 0 ≤ x ∧ x ≤ 5) ∧ l.Nodup := by
  rw [show (6 : Int) = ((6 : Nat) : Int) from rfl, IsOrd_perm]
  constructor
  · intro h
    refine ⟨by rw [h.length_eq, len_rangeI], fun x hx => ?_, h.nodup_iff.2 (nodup_rangeI 6)⟩
    have := mem_rangeI.1 (h.mem_iff.1 hx)
    omega
  · rintro ⟨h1, h2, h3⟩
    exact (perm_of_sub h3 (fun x hx => mem_rangeI.2 (by have := h2 x hx; omega)) (by rw [len_rangeI]; omega)).symm
theorem ord_no {l : List Int} {k : Nat} (hk : k < l.length) (h : ¬ (0 ≤ l.getD k 0 ∧ l.getD k 0 ≤ 5) ∨ l.getD k 0 ∈ l.take k) : IsOrd l 6 = false := by
  rw [Bool.eq_false_iff]
  intro hc
  obtain ⟨h1, h2, h3⟩ := ord_iff.1 hc
  rcases h with h | h
  · exact h (h2 _ (getD_mem hk))
  · have e : l = l.take k ++ l.drop k := (List.take_append_drop k l).symm
    rw [e, List.nodup_append] at h3
    refine h3.2.2 _ h (l.getD k 0) ?_ rfl
    have hg : l.getD k 0 = l[k] := by simp [List.getD, List.getElem?_eq_getElem hk]
    rw [hg, List.drop_eq_getElem_cons hk]
    exact List.mem_cons_self
theorem ord_yes {l : List Int} (h1 : ∀ x ∈ l, 0 ≤ x ∧ x ≤ 5) (h2 : l.Nodup) : IsOrd l 6 = decide (l.length = 6) := by
  rw [Bool.eq_iff_iff, ord_iff, decide_eq_true_eq]
  exact ⟨fun h => h.1, fun h => ⟨h, h1, h2⟩⟩
/-- which of the six sounds were seen -/
def seenV (l : List Int) : Array Value := #[.bool (decide ((0 : Int) ∈ l)), .bool (decide ((1 : Int) ∈ l)), .bool (decide ((2 : Int) ∈ l)), .bool (decide ((3 : Int) ∈ l)), .bool (decide ((4 : Int) ∈ l)), .bool (decide ((5 : Int) ∈ l))]
theorem seen_at (l : List Int) (j : Nat) (h : j < 6) : (seenV l)[j]? = some (.bool (decide ((j : Int) ∈ l))) := by
  have : j = 0 ∨ j = 1 ∨ j = 2 ∨ j = 3 ∨ j = 4 ∨ j = 5 := by omega
  rcases this with rfl | rfl | rfl | rfl | rfl | rfl <;> rfl
theorem seen_set (l : List Int) (j : Nat) (h : j < 6) : (seenV l).setIfInBounds j (.bool true) = seenV (l ++ [(j : Int)]) := by
  have : j = 0 ∨ j = 1 ∨ j = 2 ∨ j = 3 ∨ j = 4 ∨ j = 5 := by omega
  rcases this with rfl | rfl | rfl | rfl | rfl | rfl <;> simp [seenV]
set_option maxRecDepth 100000 in
set_option maxHeartbeats 4000000 in
theorem hasEachOnce_calls (a : Option Addr) (n c : Nat) (l : List Int) (w : World) (h : IntsAt w a n c l) :
    Calls Try.prog 79 #[.slice a n c] w fun e w' => e = .returned (.bool (IsOrd l 6)) ∧ Below w.heap.size w w' := by
  have hn : n ≤ 9223372036854775807 := Nat.le_trans h.le h.small
  have HL := hid_ h.len
  have HNo := hid_ (fun k hk hc => @ord_no l k hk hc)
  have HYes := hid_ (@ord_yes l)
  go_enter Try.func79, Try.ntmps79
  go_wp2
  go_loopw [8] (fun i wr => ∃ k : Nat, k ≤ n ∧ i = .int .i64 k ∧ wr.heap[w.heap.size]? = some (.cells (seenV (l.take k)) 121 (0, 0)) ∧ Below w.heap.size w wr ∧ ((∀ x ∈ l.take k, 0 ≤ x ∧ x ≤ 5) ∧ (l.take k).Nodup)) (fun i _ => n - (intOf i).toNat)
  case atStart => exact ⟨0, Nat.zero_le _, rfl, by unfold World.alloc; simp [seenV], below_alloc _ _, by simp, by simp⟩
  case round =>
    obtain ⟨k, hk, rfl, hc, hbel, hall, hnd⟩ := hrel
    have Hc := hid_ hc
    have Hall := hid_ hall
    have Hnd := hid_ hnd
    clear hc hall hnd
    by_cases hlt : k < n
    · obtain ⟨b, off, rfl, hb, hcell⟩ := (h.below hbel (Nat.le_refl _)).cells k hlt
      have hkl : k < l.length := by rw [HL.out]; exact hlt
      have HN1 := hid_ (fun hc => HNo.out k hkl hc)
      have HT : Hid (l.take (k + 1) = l.take k ++ [l.getD k 0]) := hid_ (take_snoc l 0 k hkl)
      have HS := hid_ (ruIsSound_calls (l.getD k 0))
      generalize l.getD k 0 = y at *
      cases hw : Within y 0 5 with
      | false =>
        have hno : ¬ (0 ≤ y ∧ y ≤ 5) := by intro hc; rw [Within, decide_eq_true hc.1, decide_eq_true hc.2] at hw; cases hw
        have Hf := hid_ (HN1.out (.inl hno))
        rw [hw] at HS
        clear hno hw
        go_wp2_with (go_at_call 117; refine (HS.out _).mono ?_; rintro e w' ⟨rfl, rfl⟩)
        go_ret
        exact ⟨retB Hf.out, hbel⟩
      | true =>
        have hy : 0 ≤ y ∧ y ≤ 5 := by simp [Within] at hw; omega
        obtain ⟨j, rfl⟩ : ∃ j : Nat, y = (j : Int) := ⟨y.toNat, by omega⟩
        have hj : j < 6 := by omega
        have hj0 : (0 : Int) ≤ (j : Int) := by omega
        have hj6 : (j : Int) < 6 := by omega
        rw [hw] at HS
        have hcs : wr.cell? ⟨w.heap.size, j, none⟩ = some (.bool (decide ((j : Int) ∈ l.take k))) := by rw [Go.Joins.cell_of_block Hc.out]; exact seen_at _ _ hj
        have hfs : wr.frozen? ⟨w.heap.size, j, none⟩ = false := Go.Joins.unfrozen_of_block Hc.out j
        clear hw hy
        by_cases hm : (j : Int) ∈ l.take k
        · have Hf := hid_ (HN1.out (.inr hm))
          rw [decide_eq_true hm] at hcs
          clear hm
          go_wp2_with (go_at_call 117; refine (HS.out _).mono ?_; rintro e w' ⟨rfl, rfl⟩)
          go_ret
          exact ⟨retB Hf.out, hbel⟩
        · have Hm := hid_ hm
          rw [decide_eq_false hm] at hcs
          clear hm
          go_wp2_with (go_at_call 117; refine (HS.out _).mono ?_; rintro e w' ⟨rfl, rfl⟩)
          go_roundw
          case rel =>
            refine ⟨k + 1, by omega, by go_num, ?_, Below.setCell hbel (Nat.le_refl _) _, ?_, ?_⟩
            · rw [HT.out, ← seen_set _ _ hj]; exact Go.Joins.block_setCell Hc.out _
            · rw [HT.out]; intro x hx; rcases List.mem_append.1 hx with hx | hx
              · exact Hall.out x hx
              · rw [List.mem_singleton] at hx; omega
            · rw [HT.out, List.nodup_append]
              exact ⟨Hnd.out, by simp, fun x hx y hy e => by rw [List.mem_singleton] at hy; subst hy; subst e; exact Hm.out hx⟩
          case measure => simp [intOf]; omega
    · obtain rfl : k = n := by omega
      have hT : l.take k = l := by rw [← HL.out]; simp
      rw [hT] at Hall Hnd
      have Hf : Hid (IsOrd l 6 = decide (l.length = 6)) := hid_ (HYes.out Hall.out Hnd.out)
      have Hf2 : Hid (IsOrd l 6 = ((k : Int) == 6)) := hid_ (by rw [Hf.out, HL.out, Bool.eq_iff_iff]; simp; omega)
      clear hT
      go_wp2
      go_ret
      exact ⟨retB Hf2.out, hbel⟩
end Go.Proofs.Ytoopgmoopmbfnaa
