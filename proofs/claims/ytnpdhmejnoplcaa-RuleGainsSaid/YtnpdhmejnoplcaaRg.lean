import Derived.Test.YtnpdhmejnoplcaaRe
import Derived.Test.YtnpdhmejnoplcaaRx
import Derived.Test.YtnpdhmejnoplcaaPh
namespace Go.Proofs.Ytnpdhmejnoplcaa
open Go.RowKit Go.Proofs.Kv

/-! ### put -/
theorem _root_.Go.Proofs.Kv.IntsAt.cut {w : World} {a : Option Addr} {n c : Nat} {l : List Int} (h : IntsAt w a n c l) {i : Nat} (hi : i ≤ n) (hic : i < c) : IntsAt w (a.map (·.add i)) (n - i) (c - i) (l.drop i) :=
  ⟨by rw [List.length_drop, h.len], by have := h.le; omega, by have := h.small; omega, fun j hj => by
    obtain ⟨b, off, rfl, hb, hc⟩ := h.cells (i + j) (by omega)
    refine ⟨b, off + i, by simp [add_at], hb, ?_⟩
    rw [Nat.add_assoc, hc]
    simp [List.getD]⟩
set_option maxRecDepth 100000 in
set_option maxHeartbeats 2000000 in
theorem putR_calls (v : Value) (R : Rl) (a : Option Addr) (n c : Nat) (l : List Int) (i : Nat) (w : World) (hr : RuleAt w v R) (h : IntsAt w a n c l) (hn : n ≤ 1000) (hf : -1 ≤ R.f) (ho : R.o.length ≤ 2) (hi : i + tkN R ≤ n) :
    Calls Try.prog 123 #[v, .slice a n c, .int .i64 i] w fun e w' => ∃ v', e = .returned v' ∧ Made 3 w w' v' (putL l i (i + tkN R) R.o) := by
  obtain ⟨i0, hi0, hz0, hz1, hz2⟩ := info_parts Try.infoInt
  have hlen := h.len
  obtain ⟨a1, n1, c1, a2, n2, c2, a3, n3, c3, rfl, h1, h2, h3⟩ := hr
  have hol := h1.len
  clear h2 h3
  obtain ⟨w1, hw1⟩ : ∃ w1, w.alloc (.cells #[.int .i64 R.f, .slice a1 n1 c1, .slice a2 n2 c2, .slice a3 n3 c3] 24) = w1 := ⟨_, rfl⟩
  have Hb1 : Hid (Below w.heap.size w w1) := hid_ (by rw [← hw1]; exact below_alloc _ _)
  have HW1 := hid_ hw1
  have hI1 := (h.below Hb1.out (Nat.le_refl _)).take (k := i) (by omega)
  have HI := hid_ (fun W (hW : Below w1.heap.size w1 W) => (h.below Hb1.out (Nat.le_refl _)).below hW (Nat.le_refl _))
  have HT := hid_ (fun W (hW : Below w1.heap.size w1 W) => (h1.below Hb1.out (Nat.le_refl _)).below hW (Nat.le_refl _))
  obtain ⟨w2, hw2⟩ : ∃ w2, w1.alloc (.cells #[] 3) = w2 := ⟨_, rfl⟩
  have hown0 : w2.ownsRow w1.heap.size 3 1 (.slice (some ⟨w1.heap.size, 0, none⟩) 0 0) 0 (([] : List Int).map (Value.int .i64)) := by rw [← hw2]; exact World.ownsRow_made w1 #[] 0 (Nat.le_refl _) (by omega) rfl
  have hb12 : Below w1.heap.size w1 w2 := by rw [← hw2]; exact below_alloc _ _
  have hI2 := hI1.below hb12 (Nat.le_refl _)
  have htk : Hid (tkN R = if R.f < 0 then 0 else 1) := hid_ (by unfold tkN; split <;> split <;> omega)
  have Hlen := hid_ hlen; have Hol := hid_ hol
  have hic : (i : Int) ≤ (c : Int) := by have := h.le; omega
  have hin : (i : Int) ≤ (n : Int) := by omega
  have hin2 : i ≤ n := by omega
  have hcn := h.le
  have hcs := h.small
  have HD := hid_ (fun W (hW : Below w1.heap.size w1 W) (k : Nat) (hk : k ≤ n) (hkc : k < c) => (HI.out W hW).cut hk hkc)
  have hn1 : n1 ≤ 2 := by omega
  clear hlen hol h h1 hI1
  by_cases hneg : R.f < 0
  · rw [if_pos hneg] at htk
    have Hres : Hid (putL l i (i + tkN R) R.o = l.take i ++ R.o ++ l.drop i) := hid_ (by rw [htk.out]; rfl)
    have hneg' : ¬ (0 : Int) ≤ R.f := by omega
    by_cases hend : i = n
    · subst hend
      have Hnil : Hid (l.drop i = []) := hid_ (List.drop_of_length_le (by rw [Hlen.out]; exact Nat.le_refl _))
      rw [Hnil.out] at Hres
      have hb8 : c - i ≤ 9223372036854775807 := by omega
      by_cases hci : c = i
      · subst hci
        go_enter Try.func123, Try.ntmps123
        go_wp2_with (first
          | (at_builtin; refine wpList_append_ints _ rfl (.tmp 8) (.tmp 11) _ rfl w1.heap.size 3 i0 Try.underlying22 hi0 hz0 hz1 hz2 _ _ _ rfl hown0 _ _ _ _ rfl hI2 (by omega) hb12.size ?_; intro v3 w3 hown3 hg3 hat3; have hb3 : Below w1.heap.size w1 w3 := hb12.grown hg3 hb12.size (fun k hk => by cases hk; exact Nat.le_refl _); obtain ⟨q0, q1, q2, q3⟩ := box4 HW1.out hb3; have hT3 := HT.out w3 hb3; simp only [Nat.zero_add, List.nil_append] at hown3)
          | (at_builtin; refine wpList_append_ints _ rfl (.tmp 13) (.tmp 15) _ rfl w1.heap.size 3 i0 Try.underlying22 hi0 hz0 hz1 hz2 _ _ _ rfl hown3 _ _ _ _ rfl hT3 (by omega) hb3.size ?_; intro v4 w4 hown4 hg4 hat4; have hb4 : Below w1.heap.size w1 w4 := hb3.grown hg4 hb3.size (fun k hk => (hown3.lt k hk).1); clear q0 q1 q2 q3; obtain ⟨q0, q1, q2, q3⟩ := box4 HW1.out hb4; have hI4 := IntsAt.nil w4 a 0 (by omega))
          | (at_builtin; refine wpList_append_ints _ rfl (.tmp 22) (.tmp 25) _ rfl w1.heap.size 3 i0 Try.underlying22 hi0 hz0 hz1 hz2 _ _ _ rfl hown4 _ _ _ _ rfl hI4 (by omega) hb4.size ?_; intro v5 w5 hown5 hg5 hat5; have hb5 : Below w1.heap.size w1 w5 := hb4.grown hg5 hb4.size (fun k hk => (hown4.lt k hk).1)))
        go_ret
        have hl5 := hown5.1
        rw [List.length_map, Nat.mul_one] at hl5
        refine ⟨_, rfl, ⟨?_, Hb1.out.trans (hb5.mono Hb1.out.size)⟩⟩
        rw [Hres.out, hl5]
        exact own_base hown5 Hb1.out.size
      ·
        go_enter Try.func123, Try.ntmps123
        go_wp2_with (first
          | (at_builtin; refine wpList_append_ints _ rfl (.tmp 8) (.tmp 11) _ rfl w1.heap.size 3 i0 Try.underlying22 hi0 hz0 hz1 hz2 _ _ _ rfl hown0 _ _ _ _ rfl hI2 (by omega) hb12.size ?_; intro v3 w3 hown3 hg3 hat3; have hb3 : Below w1.heap.size w1 w3 := hb12.grown hg3 hb12.size (fun k hk => by cases hk; exact Nat.le_refl _); obtain ⟨q0, q1, q2, q3⟩ := box4 HW1.out hb3; have hT3 := HT.out w3 hb3; simp only [Nat.zero_add, List.nil_append] at hown3)
          | (at_builtin; refine wpList_append_ints _ rfl (.tmp 13) (.tmp 15) _ rfl w1.heap.size 3 i0 Try.underlying22 hi0 hz0 hz1 hz2 _ _ _ rfl hown3 _ _ _ _ rfl hT3 (by omega) hb3.size ?_; intro v4 w4 hown4 hg4 hat4; have hb4 : Below w1.heap.size w1 w4 := hb3.grown hg4 hb3.size (fun k hk => (hown3.lt k hk).1); clear q0 q1 q2 q3; obtain ⟨q0, q1, q2, q3⟩ := box4 HW1.out hb4; have hI4 := fun A C (hC : C ≤ 9223372036854775807) => IntsAt.nil w4 A C hC)
          | (at_builtin; refine wpList_append_ints _ rfl (.tmp 22) (.tmp 25) _ rfl w1.heap.size 3 i0 Try.underlying22 hi0 hz0 hz1 hz2 _ _ _ rfl hown4 _ _ _ _ rfl (hI4 _ _ (by omega)) (by omega) hb4.size ?_; intro v5 w5 hown5 hg5 hat5; have hb5 : Below w1.heap.size w1 w5 := hb4.grown hg5 hb4.size (fun k hk => (hown4.lt k hk).1)))
        go_ret
        have hl5 := hown5.1
        rw [List.length_map, Nat.mul_one] at hl5
        refine ⟨_, rfl, ⟨?_, Hb1.out.trans (hb5.mono Hb1.out.size)⟩⟩
        rw [Hres.out, hl5]
        exact own_base hown5 Hb1.out.size
    · have hilt : i < n := by omega
      obtain ⟨b, off, rfl, hb0, _⟩ := (HI.out w1 (Below.refl _ _)).cells i hilt
      have hci : ¬ c = i := by omega
      have hD := hid_ (fun W hW => HD.out W hW i (by omega) (by omega))
      simp only [Option.map_some, add_at] at hD
      go_enter Try.func123, Try.ntmps123
      go_wp2_with (first
        | (at_builtin; refine wpList_append_ints _ rfl (.tmp 8) (.tmp 11) _ rfl w1.heap.size 3 i0 Try.underlying22 hi0 hz0 hz1 hz2 _ _ _ rfl hown0 _ _ _ _ rfl hI2 (by omega) hb12.size ?_; intro v3 w3 hown3 hg3 hat3; have hb3 : Below w1.heap.size w1 w3 := hb12.grown hg3 hb12.size (fun k hk => by cases hk; exact Nat.le_refl _); obtain ⟨q0, q1, q2, q3⟩ := box4 HW1.out hb3; have hT3 := HT.out w3 hb3; simp only [Nat.zero_add, List.nil_append] at hown3)
        | (at_builtin; refine wpList_append_ints _ rfl (.tmp 13) (.tmp 15) _ rfl w1.heap.size 3 i0 Try.underlying22 hi0 hz0 hz1 hz2 _ _ _ rfl hown3 _ _ _ _ rfl hT3 (by omega) hb3.size ?_; intro v4 w4 hown4 hg4 hat4; have hb4 : Below w1.heap.size w1 w4 := hb3.grown hg4 hb3.size (fun k hk => (hown3.lt k hk).1); clear q0 q1 q2 q3; obtain ⟨q0, q1, q2, q3⟩ := box4 HW1.out hb4; have hI4 := hD.out w4 hb4)
        | (at_builtin; refine wpList_append_ints _ rfl (.tmp 22) (.tmp 25) _ rfl w1.heap.size 3 i0 Try.underlying22 hi0 hz0 hz1 hz2 _ _ _ rfl hown4 _ _ _ _ rfl hI4 (by omega) hb4.size ?_; intro v5 w5 hown5 hg5 hat5; have hb5 : Below w1.heap.size w1 w5 := hb4.grown hg5 hb4.size (fun k hk => (hown4.lt k hk).1)))
      go_ret
      have hl5 := hown5.1
      rw [List.length_map, Nat.mul_one] at hl5
      refine ⟨_, rfl, ⟨?_, Hb1.out.trans (hb5.mono Hb1.out.size)⟩⟩
      rw [Hres.out, hl5]
      exact own_base hown5 Hb1.out.size
  · rw [if_neg hneg] at htk
    have hi1 : i + 1 ≤ n := by rw [htk.out] at hi; exact hi
    have Hres : Hid (putL l i (i + tkN R) R.o = l.take i ++ R.o ++ l.drop (i + 1)) := hid_ (by rw [htk.out]; rfl)
    have hneg' : (0 : Int) ≤ R.f := by omega
    have hw9 : IntKind.i64.wrap ((i : Int) + 1) = (i : Int) + 1 := IntWalk.i64_in _ (by omega)
    have hw8 : ((i : Int) + 1).toNat = i + 1 := by omega
    have hw7 : (0 : Int) ≤ (i : Int) + 1 := by omega
    have hw6 : (i : Int) + 1 ≤ (n : Int) := by omega
    by_cases hend : i + 1 = n
    · subst hend
      have Hnil : Hid (l.drop (i + 1) = []) := hid_ (List.drop_of_length_le (by rw [Hlen.out]; exact Nat.le_refl _))
      rw [Hnil.out] at Hres
      have hb8 : c - (i + 1) ≤ 9223372036854775807 := by omega
      by_cases hci : c = i + 1
      · subst hci
        go_enter Try.func123, Try.ntmps123
        go_wp2_with (first
          | (at_builtin; refine wpList_append_ints _ rfl (.tmp 8) (.tmp 11) _ rfl w1.heap.size 3 i0 Try.underlying22 hi0 hz0 hz1 hz2 _ _ _ rfl hown0 _ _ _ _ rfl hI2 (by omega) hb12.size ?_; intro v3 w3 hown3 hg3 hat3; have hb3 : Below w1.heap.size w1 w3 := hb12.grown hg3 hb12.size (fun k hk => by cases hk; exact Nat.le_refl _); obtain ⟨q0, q1, q2, q3⟩ := box4 HW1.out hb3; have hT3 := HT.out w3 hb3; simp only [Nat.zero_add, List.nil_append] at hown3)
          | (at_builtin; refine wpList_append_ints _ rfl (.tmp 13) (.tmp 15) _ rfl w1.heap.size 3 i0 Try.underlying22 hi0 hz0 hz1 hz2 _ _ _ rfl hown3 _ _ _ _ rfl hT3 (by omega) hb3.size ?_; intro v4 w4 hown4 hg4 hat4; have hb4 : Below w1.heap.size w1 w4 := hb3.grown hg4 hb3.size (fun k hk => (hown3.lt k hk).1); clear q0 q1 q2 q3; obtain ⟨q0, q1, q2, q3⟩ := box4 HW1.out hb4; have hI4 := IntsAt.nil w4 a 0 (by omega))
          | (at_builtin; refine wpList_append_ints _ rfl (.tmp 22) (.tmp 25) _ rfl w1.heap.size 3 i0 Try.underlying22 hi0 hz0 hz1 hz2 _ _ _ rfl hown4 _ _ _ _ rfl hI4 (by omega) hb4.size ?_; intro v5 w5 hown5 hg5 hat5; have hb5 : Below w1.heap.size w1 w5 := hb4.grown hg5 hb4.size (fun k hk => (hown4.lt k hk).1)))
        go_ret
        have hl5 := hown5.1
        rw [List.length_map, Nat.mul_one] at hl5
        refine ⟨_, rfl, ⟨?_, Hb1.out.trans (hb5.mono Hb1.out.size)⟩⟩
        rw [Hres.out, hl5]
        exact own_base hown5 Hb1.out.size
      ·
        go_enter Try.func123, Try.ntmps123
        go_wp2_with (first
          | (at_builtin; refine wpList_append_ints _ rfl (.tmp 8) (.tmp 11) _ rfl w1.heap.size 3 i0 Try.underlying22 hi0 hz0 hz1 hz2 _ _ _ rfl hown0 _ _ _ _ rfl hI2 (by omega) hb12.size ?_; intro v3 w3 hown3 hg3 hat3; have hb3 : Below w1.heap.size w1 w3 := hb12.grown hg3 hb12.size (fun k hk => by cases hk; exact Nat.le_refl _); obtain ⟨q0, q1, q2, q3⟩ := box4 HW1.out hb3; have hT3 := HT.out w3 hb3; simp only [Nat.zero_add, List.nil_append] at hown3)
          | (at_builtin; refine wpList_append_ints _ rfl (.tmp 13) (.tmp 15) _ rfl w1.heap.size 3 i0 Try.underlying22 hi0 hz0 hz1 hz2 _ _ _ rfl hown3 _ _ _ _ rfl hT3 (by omega) hb3.size ?_; intro v4 w4 hown4 hg4 hat4; have hb4 : Below w1.heap.size w1 w4 := hb3.grown hg4 hb3.size (fun k hk => (hown3.lt k hk).1); clear q0 q1 q2 q3; obtain ⟨q0, q1, q2, q3⟩ := box4 HW1.out hb4; have hI4 := fun A C (hC : C ≤ 9223372036854775807) => IntsAt.nil w4 A C hC)
          | (at_builtin; refine wpList_append_ints _ rfl (.tmp 22) (.tmp 25) _ rfl w1.heap.size 3 i0 Try.underlying22 hi0 hz0 hz1 hz2 _ _ _ rfl hown4 _ _ _ _ rfl (hI4 _ _ (by omega)) (by omega) hb4.size ?_; intro v5 w5 hown5 hg5 hat5; have hb5 : Below w1.heap.size w1 w5 := hb4.grown hg5 hb4.size (fun k hk => (hown4.lt k hk).1)))
        go_ret
        have hl5 := hown5.1
        rw [List.length_map, Nat.mul_one] at hl5
        refine ⟨_, rfl, ⟨?_, Hb1.out.trans (hb5.mono Hb1.out.size)⟩⟩
        rw [Hres.out, hl5]
        exact own_base hown5 Hb1.out.size
    · have hilt : i + 1 < n := by omega
      obtain ⟨b, off, rfl, hb0, _⟩ := (HI.out w1 (Below.refl _ _)).cells i (by omega)
      have hci : ¬ c = i + 1 := by omega
      have hD := hid_ (fun W hW => HD.out W hW (i + 1) (by omega) (by omega))
      simp only [Option.map_some, add_at] at hD
      go_enter Try.func123, Try.ntmps123
      go_wp2_with (first
        | (at_builtin; refine wpList_append_ints _ rfl (.tmp 8) (.tmp 11) _ rfl w1.heap.size 3 i0 Try.underlying22 hi0 hz0 hz1 hz2 _ _ _ rfl hown0 _ _ _ _ rfl hI2 (by omega) hb12.size ?_; intro v3 w3 hown3 hg3 hat3; have hb3 : Below w1.heap.size w1 w3 := hb12.grown hg3 hb12.size (fun k hk => by cases hk; exact Nat.le_refl _); obtain ⟨q0, q1, q2, q3⟩ := box4 HW1.out hb3; have hT3 := HT.out w3 hb3; simp only [Nat.zero_add, List.nil_append] at hown3)
        | (at_builtin; refine wpList_append_ints _ rfl (.tmp 13) (.tmp 15) _ rfl w1.heap.size 3 i0 Try.underlying22 hi0 hz0 hz1 hz2 _ _ _ rfl hown3 _ _ _ _ rfl hT3 (by omega) hb3.size ?_; intro v4 w4 hown4 hg4 hat4; have hb4 : Below w1.heap.size w1 w4 := hb3.grown hg4 hb3.size (fun k hk => (hown3.lt k hk).1); clear q0 q1 q2 q3; obtain ⟨q0, q1, q2, q3⟩ := box4 HW1.out hb4; have hI4 := hD.out w4 hb4)
        | (at_builtin; refine wpList_append_ints _ rfl (.tmp 22) (.tmp 25) _ rfl w1.heap.size 3 i0 Try.underlying22 hi0 hz0 hz1 hz2 _ _ _ rfl hown4 _ _ _ _ rfl hI4 (by omega) hb4.size ?_; intro v5 w5 hown5 hg5 hat5; have hb5 : Below w1.heap.size w1 w5 := hb4.grown hg5 hb4.size (fun k hk => (hown4.lt k hk).1)))
      go_ret
      have hl5 := hown5.1
      rw [List.length_map, Nat.mul_one] at hl5
      refine ⟨_, rfl, ⟨?_, Hb1.out.trans (hb5.mono Hb1.out.size)⟩⟩
      rw [Hres.out, hl5]
      exact own_base hown5 Hb1.out.size
end Go.Proofs.Ytnpdhmejnoplcaa
