import Derived.Test.YtoopgmoopmbfnaaSndA
import Derived.Test.YtoopgmoopmbfnaaRefK
namespace Go.Proofs.Ytoopgmoopmbfnaa
open Go.RowKit Go.Proofs.Kv Go.Proofs.Snd

/-! ### Concat -/
theorem flat_take_len {L : List (List Int)} {k : Nat} (h : k < L.length) : (L.take (k + 1)).flatten.length = (L.take k).flatten.length + (L.getD k []).length := by
  rw [flat_snoc L k h, List.length_append]
set_option maxRecDepth 100000 in
theorem concat_calls (a : Option Addr) (n c : Nat) (L : List (List Int)) (w : World) (h : ListsAt w a n c L) (hs : L.flatten.length ≤ 100000) :
    Calls Try.prog 61 #[.slice a n c] w fun e w' => ∃ v, e = .returned v ∧ Made 3 w w' v L.flatten := by
  have hn : n ≤ 9223372036854775807 := Nat.le_trans h.le h.small
  obtain ⟨i0, hi0, hz0, hz1, hz2⟩ := info_parts Try.infoInt
  have Hs := hid_ hs; clear hs
  go_enter Try.func61, Try.ntmps61
  go_wp2
  go_loop [3, 11] (fun s i => ∃ k : Nat, k ≤ n ∧ i = .int .i64 k ∧ s = .int .i64 ((L.take k).flatten.length : Nat)) (fun _ i => n - (intOf i).toNat)
  case atStart => exact ⟨0, Nat.zero_le _, rfl, rfl⟩
  case round =>
    obtain ⟨k, hk, rfl, rfl⟩ := hrel
    have hle := Nat.le_trans (flat_take_le L k) Hs.out
    by_cases hlt : k < n
    · obtain ⟨b, off, a', n', c', rfl, hb, hcell, hrow⟩ := h.cells k hlt
      have hl : k < L.length := by rw [h.len]; exact hlt
      have hle1 := Nat.le_trans (flat_take_le L (k + 1)) Hs.out
      have hnx := flat_take_len hl
      rw [hrow.len] at hnx
      rw [hnx] at hle1
      have Hnx := hid_ hnx; clear hnx
      generalize (L.take k).flatten.length = s at hle hle1 Hnx
      go_wp2
      go_round
      case rel => exact ⟨k + 1, by omega, by go_num, by rw [Hnx.out]; go_num⟩
      case measure => simp [intOf]; omega
    · obtain rfl : k = n := by omega
      generalize (L.take k).flatten.length = s at hle
      go_wp2_with (go_at_call 106; refine (grow_calls _ _ (by omega)).mono ?_; rintro e w1 ⟨v0, rfl, hown0, hb0⟩)
      go_loopw [6, 27] (fun v i wr => ∃ j : Nat, j ≤ k ∧ i = .int .i64 j ∧ wr.ownsRow w.heap.size 3 1 v (L.take j).flatten.length ((L.take j).flatten.map (Value.int .i64)) ∧ Below w.heap.size w wr) (fun _ i _ => k - (intOf i).toNat)
      case atStart => exact ⟨0, by omega, rfl, by simpa using hown0, hb0⟩
      case round =>
        obtain ⟨j, hj, rfl, hown, hbel⟩ := hrel
        have hsz := hbel.size
        by_cases hlt2 : j < k
        · have hI := h.below hbel (Nat.le_refl _)
          have hl : j < L.length := by rw [h.len]; exact hlt2
          obtain ⟨b, off, a1, n1, c1, rfl, hb, hcell, hrow⟩ := hI.cells j hlt2
          have hf := flat_snoc L j hl
          generalize hy : L.getD j [] = y at hrow hf
          have Hf := hid_ hf; clear hf
          have Hy := hid_ hy; clear hy
          have hs1 : (L.take j).flatten.length + n1 ≤ 1000000 := by
            have h1 := flat_take_le L (j + 1)
            rw [Hf.out, List.length_append, hrow.len] at h1
            have := Hs.out
            omega
          have Hlen : Hid (y.length = n1) := hid_ hrow.len
          go_wp2_with (at_builtin; refine wpList_append_ints _ rfl (.tmp 31) (.tmp 32) _ rfl w.heap.size 3 i0 Try.underlying23 hi0 hz0 hz1 hz2 _ _ _ rfl hown _ _ _ _ rfl hrow hs1 hsz ?_; intro v' w2 hown1 hg1 hat1)
          go_roundw
          case rel => exact ⟨j + 1, by omega, by go_num, by rw [Hf.out, List.length_append, Hlen.out]; exact hown1, below_app0 hbel hsz hown hg1⟩
          case measure => simp [intOf]; omega
        · obtain rfl : j = k := by omega
          have Hf : Hid (L.take j = L) := hid_ (by rw [List.take_of_length_le]; rw [h.len]; omega)
          go_wp2
          go_ret
          exact ⟨_, rfl, by have := hown; rw [Hf.out] at this; exact this, hbel⟩

/-! ### hasTwice -/
/-- the block S says which sounds are in p -/
structure SeenAt (w : World) (S : Nat) (p : List Int) : Prop where
  cell : ∀ x : Int, 0 ≤ x → x ≤ 5 → w.cell? ⟨S, x.toNat, none⟩ = some (.bool (Has p x))
  free : ∀ i, w.frozen? ⟨S, i, none⟩ = false
theorem SeenAt.put {w : World} {S : Nat} {p : List Int} (h : SeenAt w S p) {x : Int} (h0 : 0 ≤ x) (h5 : x ≤ 5) : SeenAt (w.setCell ⟨S, x.toNat, none⟩ (.bool true)) S (p ++ [x]) := by
  refine ⟨fun y hy0 hy5 => ?_, fun i => by rw [World.frozen?_setCell]; exact h.free i⟩
  by_cases he : y = x
  · subst he
    rw [World.cell?_setCell_same _ _ _ (h.cell y h0 h5), Has_snoc]
    simp
  · rw [World.cell?_setCell_other _ _ _ _ (by intro e; injection e with _ e2; omega), h.cell y hy0 hy5, Has_snoc]
    have : (x == y) = false := by simp; omega
    rw [this, Bool.or_false]
theorem seen_sub (L : List (List Int)) {k j : Nat} (hk : k < L.length) : (seen L k j).Sublist L.flatten := by
  have h1 : (seen L k j).Sublist (seen L (k + 1) 0) := by
    rw [seen_zero, flat_snoc L k hk, seen]
    exact List.Sublist.append_left (List.take_sublist _ _) _
  refine h1.trans ?_
  rw [seen_zero]
  have : L.flatten = (L.take (k + 1)).flatten ++ (L.drop (k + 1)).flatten := by rw [← List.flatten_append, List.take_append_drop]
  rw [this]
  exact List.sublist_append_left _ _
theorem dup_seen {L : List (List Int)} {k j : Nat} {z : Int} (hk : k < L.length) (hsn : seen L k (j + 1) = seen L k j ++ [z]) (hh : Has (seen L k j) z = true) : dup L.flatten = true := by
  rw [dup_eq, decide_eq_true_eq]
  intro hn
  have := hn.sublist (seen_sub L (j := j + 1) hk)
  rw [hsn, nodup_snoc] at this
  exact this.2 (Has_iff.1 hh)

set_option maxRecDepth 100000 in
theorem hasTwice_calls (a : Option Addr) (n c : Nat) (L : List (List Int)) (w : World) (h : ListsAt w a n c L) (hok : ∀ r ∈ L, ∀ x ∈ r, 0 ≤ x ∧ x ≤ 5) :
    Calls Try.prog 105 #[.slice a n c] w fun e w' => e = .returned (.bool (dup L.flatten)) ∧ Below w.heap.size w w' := by
  have hn : n ≤ 9223372036854775807 := Nat.le_trans h.le h.small
  go_enter Try.func105, Try.ntmps105
  go_wp2
  go_loopw [10] (fun i wr => ∃ k : Nat, k ≤ n ∧ i = .int .i64 k ∧ (seen L k 0).Nodup ∧ SeenAt wr w.heap.size (seen L k 0) ∧ Below w.heap.size w wr) (fun i _ => n - (intOf i).toNat)
  case atStart =>
    refine ⟨0, Nat.zero_le _, rfl, by simp [seen], ⟨fun x h0 h5 => ?_, fun i => World.frozen?_alloc_at _ _ _ _ (by rfl)⟩, (Below.refl _ w).alloc (Nat.le_refl _) _⟩
    rw [World.cell?_alloc_at _ _ _ _ (by rfl)]
    have : x = 0 ∨ x = 1 ∨ x = 2 ∨ x = 3 ∨ x = 4 ∨ x = 5 := by omega
    rcases this with rfl | rfl | rfl | rfl | rfl | rfl <;> rfl
  case round =>
    obtain ⟨k, hk, rfl, hnd, hS, hbel⟩ := hrel
    have hsz := hbel.size
    by_cases hlt : k < n
    · have hI := h.below hbel (Nat.le_refl _)
      obtain ⟨b, off, a1, n1, c1, rfl, hb, hcell, hrow⟩ := h.cells k hlt
      have hcell' := (hbel.cell (p := ⟨b, off + k, none⟩) hb).trans hcell
      have hl : k < L.length := by rw [h.len]; exact hlt
      have Hl := hid_ hl; clear hl
      have hn1 : n1 ≤ 9223372036854775807 := Nat.le_trans hrow.le hrow.small
      have Hrok : Hid (∀ x ∈ L.getD k [], 0 ≤ x ∧ x ≤ 5) := hid_ (hok _ (by simp [List.getD, List.getElem?_eq_getElem Hl.out]))
      clear hI hcell
      go_wp2
      obtain ⟨wo, rfl⟩ : ∃ wo : World, wo = wr := ⟨_, rfl⟩
      go_loopw [16] (fun i wr => ∃ j : Nat, j ≤ n1 ∧ i = .int .i64 j ∧ (seen L k j).Nodup ∧ SeenAt wr w.heap.size (seen L k j) ∧ Below w.heap.size w wr) (fun i _ => n1 - (intOf i).toNat)
      case atStart => exact ⟨0, Nat.zero_le _, rfl, hnd, hS, hbel⟩
      case round =>
        obtain ⟨j, hj, rfl, hnd2, hS2, hbel2⟩ := hrel
        have Hnd2 := hid_ hnd2; clear hnd2
        by_cases hlt2 : j < n1
        · have hrow2 := hrow.below hbel2 (Nat.le_refl _)
          obtain ⟨b3, off3, rfl, hb3, hcell3⟩ := hrow2.cells j hlt2
          have hjl : j < (L.getD k []).length := by rw [hrow.len]; exact hlt2
          have Hsn : Hid (seen L k (j + 1) = seen L k j ++ [(L.getD k []).getD j 0]) := hid_ (seen_snoc hjl)
          have hrz := Hrok.out _ (getD_mem hjl)
          generalize hz : (L.getD k []).getD j 0 = z at hcell3 Hsn hrz
          clear hz hjl
          obtain ⟨hz0, hz5⟩ := hrz
          have hcS := hS2.cell z hz0 hz5
          have hfS := hS2.free z.toNat
          cases hh : Has (seen L k j) z with
          | true =>
            have Hf : Hid (dup L.flatten = true) := hid_ (dup_seen Hl.out Hsn.out hh)
            rw [hh] at hcS
            have Hh := hid_ hh; clear hh
            go_wp2
            go_ret
            exact ⟨retB Hf.out, hbel2⟩
          | false =>
            rw [hh] at hcS
            have Hh := hid_ hh; clear hh
            go_wp2
            go_roundw
            case rel => exact ⟨j + 1, by omega, by go_num, by rw [Hsn.out, nodup_snoc]; exact ⟨Hnd2.out, fun e => by have := Hh.out; rw [Has_iff.2 e] at this; cases this⟩, by rw [Hsn.out]; exact hS2.put hz0 hz5, hbel2.setCell (Nat.le_refl _) _⟩
            case measure => simp [intOf]; omega
        · obtain rfl : j = n1 := by omega
          have Hse := hid_ (seen_row Hl.out hrow.len)
          go_wp2
          go_roundw
          case rel => exact ⟨k + 1, by omega, by go_num, by rw [← Hse.out]; exact Hnd2.out, by rw [← Hse.out]; exact hS2, hbel2⟩
          case measure => simp [intOf]; omega
    · have Hf : Hid (dup L.flatten = false) := hid_ (by
        rw [seen_zero, List.take_of_length_le (by rw [h.len]; omega)] at hnd
        exact (dup_iff _).2 hnd)
      go_wp2
      go_ret
      exact ⟨retB Hf.out, hbel⟩
end Go.Proofs.Ytoopgmoopmbfnaa
