import Derived.Test.YtoopgmoopmbfnaaLawA
import Derived.Test.YtoopgmoopmbfnaaShelf
import Derived.Sort.OwnSortedInts
namespace Go.Proofs.Ytoopgmoopmbfnaa
open Go.RowKit Go.Proofs.Kv Go.Proofs.Snd

/-! ### slices.Sort of a row of the call's own -/
theorem sort_calls {B E n : Nat} {v : Value} {l : List Int} {w : World} (hown : w.ownsRow B E 1 v n (l.map (Value.int .i64))) (h0 : 0 < n) (hs : n ≤ 100000) (hB : B ≤ w.heap.size) :
    Calls Try.prog 82 #[v] w fun e w' => e = .returned (.tuple #[]) ∧ w'.ownsRow B E 1 v n ((l.mergeSort fun a b => decide (a ≤ b)).map (Value.int .i64)) ∧ Below B w w' := by
  have hl : l.length = n := by have := hown.1; simpa using this
  rcases hown.2 with ⟨rfl, rfl⟩ | ⟨g, cap, cur, rfl, hbase, hb, h1, h2, h3, h4⟩
  · omega
  · subst hl
    have hlt := (Array.getElem?_eq_some_iff.1 hb).1
    refine (Try.slices_Sort_int g 0 cap l w (Go.holds_of_blockI hb (by rw [Nat.mul_one] at h4; exact h4)) hlt (by omega)).mono ?_
    rintro e w' ⟨rfl, k, os, rfl⟩
    refine ⟨rfl, ?_, ?_⟩
    · have := Go.ownsRow_sortedI (n := k) (os := os) (ts := l.mergeSort fun a b => decide (a ≤ b)) (ss := l) (by simp) hbase hb h1 h2 h3
      exact this
    · exact (Below.refl _ _).grown (Go.grownBy_sortedI _) hB fun r e => by cases e; exact hbase

/-! ### stand -/
theorem IntsAt_drop {w : World} {b off : Nat} {n c : Nat} {l : List Int} (h : IntsAt w (some ⟨b, off, none⟩) n c l) {k : Nat} (hk : k ≤ n) : IntsAt w (some ⟨b, off + k, none⟩) (n - k) (c - k) (l.drop k) :=
  ⟨by rw [List.length_drop, h.len], by have := h.le; omega, by have := h.small; omega, fun i hi => by
    obtain ⟨b', off', ha, hb, hc⟩ := h.cells (k + i) (by omega)
    injection ha with ha; injection ha with e1 e2
    subst e1; subst e2
    refine ⟨b, off + k, rfl, hb, ?_⟩
    rw [Nat.add_assoc]
    refine hc.trans ?_
    simp [List.getD]⟩
theorem from_idx : ∀ {l : List Int} {x : Int}, x ∈ l → from_ x l = l.drop (l.findIdx fun y => y == x) ∧ (l.findIdx fun y => y == x) < l.length
  | y :: l, x, h => by
    unfold from_
    rw [List.dropWhile_cons, List.findIdx_cons]
    by_cases e : y = x
    · subst e; simp
    · have hx : x ∈ l := by rcases List.mem_cons.1 h with e' | h'; exact absurd e'.symm e; exact h'
      have ih := from_idx hx
      unfold from_ at ih
      have e1 : (y != x) = true := by simpa using e
      have e2 : (y == x) = false := by simpa using e
      rw [if_pos e1, e2, cond_false, List.drop_succ_cons, List.length_cons]
      exact ⟨ih.1, by omega⟩
theorem idx_in {l : List Int} {x : Int} (h : x ∈ l) : ∃ k : Nat, idx l x = k ∧ k < l.length ∧ from_ x l = l.drop k :=
  ⟨_, by rw [idx, Has_iff.2 h]; rfl, (from_idx h).2, (from_idx h).1⟩

set_option maxRecDepth 100000 in
theorem sndStand_calls (a : Option Addr) (n c : Nat) (L : List (List Int)) (x : Int) (y : Nat) (w : World) (h : ListsAt w a n c L) (hs : L.flatten.length ≤ 100000) (hy : y < n) (hx : x ∈ (L.take (y + 1)).flatten)
    (hnd : L.flatten.Nodup) (hr : ∀ z ∈ L.flatten, 0 ≤ z ∧ z ≤ 5) :
    Calls Try.prog 98 #[.slice a n c, .agg #[.int .i64 x, .int .i64 y]] w fun e w' => ∃ v, e = .returned v ∧ Made 3 w w' v (standL L x y) := by
  have hn : n ≤ 9223372036854775807 := Nat.le_trans h.le h.small
  obtain ⟨b, off, a1, n1, c1, rfl, -, -, -⟩ := h.cells y hy
  have hsub : (L.take (y + 1)).flatten.Sublist L.flatten := by
    have e : L.flatten = (L.take (y + 1)).flatten ++ (L.drop (y + 1)).flatten := by rw [← List.flatten_append, List.take_append_drop]
    rw [e]; exact List.sublist_append_left _ _
  have hb0 : Below w.heap.size w (w.alloc (.cells #[.int .i64 x, .int .i64 y] 71)) := (Below.refl _ w).alloc (Nat.le_refl _) _
  have hc0 : (w.alloc (.cells #[.int .i64 x, .int .i64 y] 71)).cell? ⟨w.heap.size, 0, none⟩ = some (.int .i64 x) := by rw [World.cell?_alloc_at _ _ _ _ (by rfl)]; rfl
  have hc1 : (w.alloc (.cells #[.int .i64 x, .int .i64 y] 71)).cell? ⟨w.heap.size, 1, none⟩ = some (.int .i64 y) := by rw [World.cell?_alloc_at _ _ _ _ (by rfl)]; rfl
  have hwr : IntKind.i64.wrap ((y : Int) + 1) = ((y + 1 : Nat) : Int) := IntWalk.i64_in _ (by omega)
  have hcat := concat_calls _ _ _ _ _ ((h.below hb0 (Nat.le_refl _)).take (k := y + 1) (by omega)) (Nat.le_trans hsub.length_le hs)
  have hle : y + 1 ≤ c := Nat.le_trans (by omega) h.le
  obtain ⟨k, hk, hkl, hfr⟩ := idx_in hx
  have Hfr : Hid (sorted ((L.take (y + 1)).flatten.drop k) = standL L x y) := hid_ (by rw [standL, Int.toNat_natCast, hfr])
  have Hsort : Hid (((L.take (y + 1)).flatten.drop k).mergeSort (fun a b => decide (a ≤ b)) = sorted ((L.take (y + 1)).flatten.drop k)) :=
    hid_ (sort_sounds ((List.drop_sublist _ _).trans hsub |>.nodup hnd) fun z hz => hr z (((List.drop_sublist _ _).trans hsub).subset hz))
  have Hlen : Hid ((L.take (y + 1)).flatten.length ≤ 100000) := hid_ (Nat.le_trans hsub.length_le hs)
  generalize hp : (L.take (y + 1)).flatten = p at hcat hk hkl hfr Hfr Hsort Hlen
  clear hp hx hsub hfr
  have Hc0 := hid_ hc0; clear hc0
  have Hc1 := hid_ hc1; clear hc1
  have Hb0 := hid_ hb0; clear hb0
  have Hcat := hid_ hcat; clear hcat
  go_enter Try.func98, Try.ntmps98
  go_wp2_with fail
  refine Hcat.out.mono ?_
  rintro e w1 ⟨v, rfl, hm1⟩
  obtain ⟨a2, c2, rfl, hi1⟩ := hm1.at_
  obtain ⟨b2, off2, rfl, -, -⟩ := hi1.cells 0 (by omega)
  have g0 := (hm1.bel.cell (p := ⟨w.heap.size, 0, none⟩) (by simp)).trans Hc0.out
  have Hb1 : Hid (Below w.heap.size w w1) := hid_ (Hb0.out.trans (hm1.bel.mono (by simp)))
  have hix := index_calls _ _ _ _ x w1 hi1
  rw [hk] at hix
  have Hix := hid_ hix; clear hix
  have Hcl := hid_ (clone_calls _ _ _ _ w1 (IntsAt_drop hi1 (Nat.le_of_lt hkl)) (by have := Hlen.out; omega))
  have hne2 : ¬ (c2 = k) := by have := hi1.le; omega
  clear hm1 hi1
  go_wp2_with fail
  refine Hix.out.mono ?_
  rintro e w1' ⟨rfl, rfl⟩
  go_wp2_with fail
  refine Hcl.out.mono ?_
  rintro e w2 ⟨v2, rfl, hm2⟩
  have hlen2 : (p.drop k).length = p.length - k := List.length_drop
  have Hso := hid_ (sort_calls hm2.own (by omega) (by have := Hlen.out; omega) hm2.bel.size)
  have Hb2 : Hid (Below w.heap.size w w2) := hid_ (below_then Hb1.out hm2.bel)
  have Hs1 := hid_ Hb1.out.size
  clear hm2
  go_wp2_with fail
  refine Hso.out.mono ?_
  rintro e w3 ⟨rfl, hown3, hb3⟩
  go_wp2
  go_ret
  refine ⟨_, rfl, ?_, Hb2.out.trans (hb3.mono Hs1.out)⟩
  rw [Hsort.out, Hfr.out] at hown3
  refine own_base ?_ Hs1.out
  have : (p.drop k).length = (standL L x y).length := by rw [← Hfr.out, ← Hsort.out]; simp
  rw [← this]
  exact hown3
end Go.Proofs.Ytoopgmoopmbfnaa
