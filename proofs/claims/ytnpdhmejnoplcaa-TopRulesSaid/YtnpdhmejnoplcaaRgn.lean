import Derived.Test.YtnpdhmejnoplcaaRbe
import Derived.Test.YtnpdhmejnoplcaaRz
import Derived.Test.YtnpdhmejnoplcaaPgk
import Derived.Deep.RegionHeld3
import Derived.Test.YtnpdhmejnoplcaaLae
namespace Go.Proofs.Ytnpdhmejnoplcaa
open Go.RowKit Go.Proofs.Kv

/-! ### put -/
theorem _root_.Go.Proofs.Kv.IntsAt.cut {w : World} {a : Option Addr} {n c : Nat} {l : List Int} (h : IntsAt w a n c l) {i : Nat} (hi : i ≤ n) (hic : i < c) : IntsAt w (a.map (·.add i)) (n - i) (c - i) (l.drop i) :=
  ⟨by rw [List.length_drop, h.len], by have := h.le; omega, by have := h.small; omega, fun j hj => by
    obtain ⟨b, off, rfl, hb, hc⟩ := h.cells (i + j) (by omega)
    refine ⟨b, off + i, by simp [add_at], hb, ?_⟩
    rw [Nat.add_assoc, hc]
    simp [List.getD]⟩
set_option maxRecDepth 100000 in
set_option maxHeartbeats 2000000 in
theorem putR_calls (v : Value) (R : Rl) (a : Option Addr) (n c : Nat) (l : List Int) (i : Nat) (w : World) (hr : RuleAt w v R) (h : IntsAt w a n c l) (hn : n ≤ 1000) (hf : -1 ≤ R.f) (ho : R.o.length ≤ 2) (hi : i + tkN R ≤ n) :
    Calls Try.prog 123 #[v, .slice a n c, .int .i64 i] w fun e w' => ∃ v', e = .returned v' ∧ Made 3 w w' v' (putL l i (i + tkN R) R.o) := by
  obtain ⟨i0, hi0, hz0, hz1, hz2⟩ := info_parts Try.infoInt
  have hlen := h.len
  obtain ⟨a1, n1, c1, a2, n2, c2, a3, n3, c3, rfl, h1, h2, h3⟩ := hr
  have hol := h1.len
  clear h2 h3
  obtain ⟨w1, hw1⟩ : ∃ w1, w.alloc (.cells #[.int .i64 R.f, .slice a1 n1 c1, .slice a2 n2 c2, .slice a3 n3 c3] 24) = w1 := ⟨_, rfl⟩
  have Hb1 : Hid (Below w.heap.size w w1) := hid_ (by rw [← hw1]; exact below_alloc _ _)
  have HW1 := hid_ hw1
  have hI1 := (h.below Hb1.out (Nat.le_refl _)).take (k := i) (by omega)
  have HI := hid_ (fun W (hW : Below w1.heap.size w1 W) => (h.below Hb1.out (Nat.le_refl _)).below hW (Nat.le_refl _))
  have HT := hid_ (fun W (hW : Below w1.heap.size w1 W) => (h1.below Hb1.out (Nat.le_refl _)).below hW (Nat.le_refl _))
  obtain ⟨w2, hw2⟩ : ∃ w2, w1.alloc (.cells #[] 3) = w2 := ⟨_, rfl⟩
  have hown0 : w2.ownsRow w1.heap.size 3 1 (.slice (some ⟨w1.heap.size, 0, none⟩) 0 0) 0 (([] : List Int).map (Value.int .i64)) := by rw [← hw2]; exact World.ownsRow_made w1 #[] 0 (Nat.le_refl _) (by omega) rfl
  have hb12 : Below w1.heap.size w1 w2 := by rw [← hw2]; exact below_alloc _ _
  have hI2 := hI1.below hb12 (Nat.le_refl _)
  have htk : Hid (tkN R = if R.f < 0 then 0 else 1) := hid_ (by unfold tkN; split <;> split <;> omega)
  have Hlen := hid_ hlen; have Hol := hid_ hol
  have hic : (i : Int) ≤ (c : Int) := by have := h.le; omega
  have hin : (i : Int) ≤ (n : Int) := by omega
  have hin2 : i ≤ n := by omega
  have hcn := h.le
  have hcs := h.small
  have HD := hid_ (fun W (hW : Below w1.heap.size w1 W) (k : Nat) (hk : k ≤ n) (hkc : k < c) => (HI.out W hW).cut hk hkc)
  have hn1 : n1 ≤ 2 := by omega
  clear hlen hol h h1 hI1
  by_cases hneg : R.f < 0
  · rw [if_pos hneg] at htk
    have Hres : Hid (putL l i (i + tkN R) R.o = l.take i ++ R.o ++ l.drop i) := hid_ (by rw [htk.out]; rfl)
    have hneg' : ¬ (0 : Int) ≤ R.f := by omega
    by_cases hend : i = n
    · subst hend
      have Hnil : Hid (l.drop i = []) := hid_ (List.drop_of_length_le (by rw [Hlen.out]; exact Nat.le_refl _))
      rw [Hnil.out] at Hres
      have hb8 : c - i ≤ 9223372036854775807 := by omega
      by_cases hci : c = i
      · subst hci
        go_enter Try.func123, Try.ntmps123
        go_wp2_with (first
          | (at_builtin; refine wpList_append_ints _ rfl (.tmp 8) (.tmp 11) _ rfl w1.heap.size 3 i0 Try.underlying22 hi0 hz0 hz1 hz2 _ _ _ rfl hown0 _ _ _ _ rfl hI2 (by omega) hb12.size ?_; intro v3 w3 hown3 hg3 hat3; have hb3 : Below w1.heap.size w1 w3 := hb12.grown hg3 hb12.size (fun k hk => by cases hk; exact Nat.le_refl _); obtain ⟨q0, q1, q2, q3⟩ := box4 HW1.out hb3; have hT3 := HT.out w3 hb3; simp only [Nat.zero_add, List.nil_append] at hown3)
          | (at_builtin; refine wpList_append_ints _ rfl (.tmp 13) (.tmp 15) _ rfl w1.heap.size 3 i0 Try.underlying22 hi0 hz0 hz1 hz2 _ _ _ rfl hown3 _ _ _ _ rfl hT3 (by omega) hb3.size ?_; intro v4 w4 hown4 hg4 hat4; have hb4 : Below w1.heap.size w1 w4 := hb3.grown hg4 hb3.size (fun k hk => (hown3.lt k hk).1); clear q0 q1 q2 q3; obtain ⟨q0, q1, q2, q3⟩ := box4 HW1.out hb4; have hI4 := IntsAt.nil w4 a 0 (by omega))
          | (at_builtin; refine wpList_append_ints _ rfl (.tmp 22) (.tmp 25) _ rfl w1.heap.size 3 i0 Try.underlying22 hi0 hz0 hz1 hz2 _ _ _ rfl hown4 _ _ _ _ rfl hI4 (by omega) hb4.size ?_; intro v5 w5 hown5 hg5 hat5; have hb5 : Below w1.heap.size w1 w5 := hb4.grown hg5 hb4.size (fun k hk => (hown4.lt k hk).1)))
        go_ret
        have hl5 := hown5.1
        rw [List.length_map, Nat.mul_one] at hl5
        refine ⟨_, rfl, ⟨?_, Hb1.out.trans (hb5.mono Hb1.out.size)⟩⟩
        rw [Hres.out, hl5]
        exact own_base hown5 Hb1.out.size
      ·
        go_enter Try.func123, Try.ntmps123
        go_wp2_with (first
          | (at_builtin; refine wpList_append_ints _ rfl (.tmp 8) (.tmp 11) _ rfl w1.heap.size 3 i0 Try.underlying22 hi0 hz0 hz1 hz2 _ _ _ rfl hown0 _ _ _ _ rfl hI2 (by omega) hb12.size ?_; intro v3 w3 hown3 hg3 hat3; have hb3 : Below w1.heap.size w1 w3 := hb12.grown hg3 hb12.size (fun k hk => by cases hk; exact Nat.le_refl _); obtain ⟨q0, q1, q2, q3⟩ := box4 HW1.out hb3; have hT3 := HT.out w3 hb3; simp only [Nat.zero_add, List.nil_append] at hown3)
          | (at_builtin; refine wpList_append_ints _ rfl (.tmp 13) (.tmp 15) _ rfl w1.heap.size 3 i0 Try.underlying22 hi0 hz0 hz1 hz2 _ _ _ rfl hown3 _ _ _ _ rfl hT3 (by omega) hb3.size ?_; intro v4 w4 hown4 hg4 hat4; have hb4 : Below w1.heap.size w1 w4 := hb3.grown hg4 hb3.size (fun k hk => (hown3.lt k hk).1); clear q0 q1 q2 q3; obtain ⟨q0, q1, q2, q3⟩ := box4 HW1.out hb4; have hI4 := fun A C (hC : C ≤ 9223372036854775807) => IntsAt.nil w4 A C hC)
          | (at_builtin; refine wpList_append_ints _ rfl (.tmp 22) (.tmp 25) _ rfl w1.heap.size 3 i0 Try.underlying22 hi0 hz0 hz1 hz2 _ _ _ rfl hown4 _ _ _ _ rfl (hI4 _ _ (by omega)) (by omega) hb4.size ?_; intro v5 w5 hown5 hg5 hat5; have hb5 : Below w1.heap.size w1 w5 := hb4.grown hg5 hb4.size (fun k hk => (hown4.lt k hk).1)))
        go_ret
        have hl5 := hown5.1
        rw [List.length_map, Nat.mul_one] at hl5
        refine ⟨_, rfl, ⟨?_, Hb1.out.trans (hb5.mono Hb1.out.size)⟩⟩
        rw [Hres.out, hl5]
        exact own_base hown5 Hb1.out.size
    · have hilt : i < n := by omega
      obtain ⟨b, off, rfl, hb0, _⟩ := (HI.out w1 (Below.refl _ _)).cells i hilt
      have hci : ¬ c = i := by omega
      have hD := hid_ (fun W hW => HD.out W hW i (by omega) (by omega))
      simp only [Option.map_some, add_at] at hD
      go_enter Try.func123, Try.ntmps123
      go_wp2_with (first
        | (at_builtin; refine wpList_append_ints _ rfl (.tmp 8) (.tmp 11) _ rfl w1.heap.size 3 i0 Try.underlying22 hi0 hz0 hz1 hz2 _ _ _ rfl hown0 _ _ _ _ rfl hI2 (by omega) hb12.size ?_; intro v3 w3 hown3 hg3 hat3; have hb3 : Below w1.heap.size w1 w3 := hb12.grown hg3 hb12.size (fun k hk => by cases hk; exact Nat.le_refl _); obtain ⟨q0, q1, q2, q3⟩ := box4 HW1.out hb3; have hT3 := HT.out w3 hb3; simp only [Nat.zero_add, List.nil_append] at hown3)
        | (at_builtin; refine wpList_append_ints _ rfl (.tmp 13) (.tmp 15) _ rfl w1.heap.size 3 i0 Try.underlying22 hi0 hz0 hz1 hz2 _ _ _ rfl hown3 _ _ _ _ rfl hT3 (by omega) hb3.size ?_; intro v4 w4 hown4 hg4 hat4; have hb4 : Below w1.heap.size w1 w4 := hb3.grown hg4 hb3.size (fun k hk => (hown3.lt k hk).1); clear q0 q1 q2 q3; obtain ⟨q0, q1, q2, q3⟩ := box4 HW1.out hb4; have hI4 := hD.out w4 hb4)
        | (at_builtin; refine wpList_append_ints _ rfl (.tmp 22) (.tmp 25) _ rfl w1.heap.size 3 i0 Try.underlying22 hi0 hz0 hz1 hz2 _ _ _ rfl hown4 _ _ _ _ rfl hI4 (by omega) hb4.size ?_; intro v5 w5 hown5 hg5 hat5; have hb5 : Below w1.heap.size w1 w5 := hb4.grown hg5 hb4.size (fun k hk => (hown4.lt k hk).1)))
      go_ret
      have hl5 := hown5.1
      rw [List.length_map, Nat.mul_one] at hl5
      refine ⟨_, rfl, ⟨?_, Hb1.out.trans (hb5.mono Hb1.out.size)⟩⟩
      rw [Hres.out, hl5]
      exact own_base hown5 Hb1.out.size
  · rw [if_neg hneg] at htk
    have hi1 : i + 1 ≤ n := by rw [htk.out] at hi; exact hi
    have Hres : Hid (putL l i (i + tkN R) R.o = l.take i ++ R.o ++ l.drop (i + 1)) := hid_ (by rw [htk.out]; rfl)
    have hneg' : (0 : Int) ≤ R.f := by omega
    have hw9 : IntKind.i64.wrap ((i : Int) + 1) = (i : Int) + 1 := IntWalk.i64_in _ (by omega)
    have hw8 : ((i : Int) + 1).toNat = i + 1 := by omega
    have hw7 : (0 : Int) ≤ (i : Int) + 1 := by omega
    have hw6 : (i : Int) + 1 ≤ (n : Int) := by omega
    by_cases hend : i + 1 = n
    · subst hend
      have Hnil : Hid (l.drop (i + 1) = []) := hid_ (List.drop_of_length_le (by rw [Hlen.out]; exact Nat.le_refl _))
      rw [Hnil.out] at Hres
      have hb8 : c - (i + 1) ≤ 9223372036854775807 := by omega
      by_cases hci : c = i + 1
      · subst hci
        go_enter Try.func123, Try.ntmps123
        go_wp2_with (first
          | (at_builtin; refine wpList_append_ints _ rfl (.tmp 8) (.tmp 11) _ rfl w1.heap.size 3 i0 Try.underlying22 hi0 hz0 hz1 hz2 _ _ _ rfl hown0 _ _ _ _ rfl hI2 (by omega) hb12.size ?_; intro v3 w3 hown3 hg3 hat3; have hb3 : Below w1.heap.size w1 w3 := hb12.grown hg3 hb12.size (fun k hk => by cases hk; exact Nat.le_refl _); obtain ⟨q0, q1, q2, q3⟩ := box4 HW1.out hb3; have hT3 := HT.out w3 hb3; simp only [Nat.zero_add, List.nil_append] at hown3)
          | (at_builtin; refine wpList_append_ints _ rfl (.tmp 13) (.tmp 15) _ rfl w1.heap.size 3 i0 Try.underlying22 hi0 hz0 hz1 hz2 _ _ _ rfl hown3 _ _ _ _ rfl hT3 (by omega) hb3.size ?_; intro v4 w4 hown4 hg4 hat4; have hb4 : Below w1.heap.size w1 w4 := hb3.grown hg4 hb3.size (fun k hk => (hown3.lt k hk).1); clear q0 q1 q2 q3; obtain ⟨q0, q1, q2, q3⟩ := box4 HW1.out hb4; have hI4 := IntsAt.nil w4 a 0 (by omega))
          | (at_builtin; refine wpList_append_ints _ rfl (.tmp 22) (.tmp 25) _ rfl w1.heap.size 3 i0 Try.underlying22 hi0 hz0 hz1 hz2 _ _ _ rfl hown4 _ _ _ _ rfl hI4 (by omega) hb4.size ?_; intro v5 w5 hown5 hg5 hat5; have hb5 : Below w1.heap.size w1 w5 := hb4.grown hg5 hb4.size (fun k hk => (hown4.lt k hk).1)))
        go_ret
        have hl5 := hown5.1
        rw [List.length_map, Nat.mul_one] at hl5
        refine ⟨_, rfl, ⟨?_, Hb1.out.trans (hb5.mono Hb1.out.size)⟩⟩
        rw [Hres.out, hl5]
        exact own_base hown5 Hb1.out.size
      ·
        go_enter Try.func123, Try.ntmps123
        go_wp2_with (first
          | (at_builtin; refine wpList_append_ints _ rfl (.tmp 8) (.tmp 11) _ rfl w1.heap.size 3 i0 Try.underlying22 hi0 hz0 hz1 hz2 _ _ _ rfl hown0 _ _ _ _ rfl hI2 (by omega) hb12.size ?_; intro v3 w3 hown3 hg3 hat3; have hb3 : Below w1.heap.size w1 w3 := hb12.grown hg3 hb12.size (fun k hk => by cases hk; exact Nat.le_refl _); obtain ⟨q0, q1, q2, q3⟩ := box4 HW1.out hb3; have hT3 := HT.out w3 hb3; simp only [Nat.zero_add, List.nil_append] at hown3)
          | (at_builtin; refine wpList_append_ints _ rfl (.tmp 13) (.tmp 15) _ rfl w1.heap.size 3 i0 Try.underlying22 hi0 hz0 hz1 hz2 _ _ _ rfl hown3 _ _ _ _ rfl hT3 (by omega) hb3.size ?_; intro v4 w4 hown4 hg4 hat4; have hb4 : Below w1.heap.size w1 w4 := hb3.grown hg4 hb3.size (fun k hk => (hown3.lt k hk).1); clear q0 q1 q2 q3; obtain ⟨q0, q1, q2, q3⟩ := box4 HW1.out hb4; have hI4 := fun A C (hC : C ≤ 9223372036854775807) => IntsAt.nil w4 A C hC)
          | (at_builtin; refine wpList_append_ints _ rfl (.tmp 22) (.tmp 25) _ rfl w1.heap.size 3 i0 Try.underlying22 hi0 hz0 hz1 hz2 _ _ _ rfl hown4 _ _ _ _ rfl (hI4 _ _ (by omega)) (by omega) hb4.size ?_; intro v5 w5 hown5 hg5 hat5; have hb5 : Below w1.heap.size w1 w5 := hb4.grown hg5 hb4.size (fun k hk => (hown4.lt k hk).1)))
        go_ret
        have hl5 := hown5.1
        rw [List.length_map, Nat.mul_one] at hl5
        refine ⟨_, rfl, ⟨?_, Hb1.out.trans (hb5.mono Hb1.out.size)⟩⟩
        rw [Hres.out, hl5]
        exact own_base hown5 Hb1.out.size
    · have hilt : i + 1 < n := by omega
      obtain ⟨b, off, rfl, hb0, _⟩ := (HI.out w1 (Below.refl _ _)).cells i (by omega)
      have hci : ¬ c = i + 1 := by omega
      have hD := hid_ (fun W hW => HD.out W hW (i + 1) (by omega) (by omega))
      simp only [Option.map_some, add_at] at hD
      go_enter Try.func123, Try.ntmps123
      go_wp2_with (first
        | (at_builtin; refine wpList_append_ints _ rfl (.tmp 8) (.tmp 11) _ rfl w1.heap.size 3 i0 Try.underlying22 hi0 hz0 hz1 hz2 _ _ _ rfl hown0 _ _ _ _ rfl hI2 (by omega) hb12.size ?_; intro v3 w3 hown3 hg3 hat3; have hb3 : Below w1.heap.size w1 w3 := hb12.grown hg3 hb12.size (fun k hk => by cases hk; exact Nat.le_refl _); obtain ⟨q0, q1, q2, q3⟩ := box4 HW1.out hb3; have hT3 := HT.out w3 hb3; simp only [Nat.zero_add, List.nil_append] at hown3)
        | (at_builtin; refine wpList_append_ints _ rfl (.tmp 13) (.tmp 15) _ rfl w1.heap.size 3 i0 Try.underlying22 hi0 hz0 hz1 hz2 _ _ _ rfl hown3 _ _ _ _ rfl hT3 (by omega) hb3.size ?_; intro v4 w4 hown4 hg4 hat4; have hb4 : Below w1.heap.size w1 w4 := hb3.grown hg4 hb3.size (fun k hk => (hown3.lt k hk).1); clear q0 q1 q2 q3; obtain ⟨q0, q1, q2, q3⟩ := box4 HW1.out hb4; have hI4 := hD.out w4 hb4)
        | (at_builtin; refine wpList_append_ints _ rfl (.tmp 22) (.tmp 25) _ rfl w1.heap.size 3 i0 Try.underlying22 hi0 hz0 hz1 hz2 _ _ _ rfl hown4 _ _ _ _ rfl hI4 (by omega) hb4.size ?_; intro v5 w5 hown5 hg5 hat5; have hb5 : Below w1.heap.size w1 w5 := hb4.grown hg5 hb4.size (fun k hk => (hown4.lt k hk).1)))
      go_ret
      have hl5 := hown5.1
      rw [List.length_map, Nat.mul_one] at hl5
      refine ⟨_, rfl, ⟨?_, Hb1.out.trans (hb5.mono Hb1.out.size)⟩⟩
      rw [Hres.out, hl5]
      exact own_base hown5 Hb1.out.size
end Go.Proofs.Ytnpdhmejnoplcaa
namespace Go.Proofs.Ytnpdhmejnoplcaa
open Go.RowKit Go.Proofs.Kv

/-! ### the reference's places are the program's -/
theorem isPl_eq {R : Rl} {l : List Int} (hf : -1 ≤ R.f) : isPl R l = plB R.f R.le R.ri l := by
  funext i
  unfold isPl plB
  by_cases h : R.f < 0
  · obtain h1 : R.f = -1 := by omega
    rw [if_pos h, if_pos h1]
    unfold Within
    by_cases h2 : i < 0
    · rw [if_pos h2, decide_eq_false (by omega : ¬ 0 ≤ i)]; simp
    · by_cases h3 : (l.length : Int) < i
      · rw [if_neg h2, if_pos h3, decide_eq_false (by omega : ¬ i ≤ (l.length : Int))]; simp
      · rw [if_neg h2, if_neg h3, decide_eq_true (by omega : 0 ≤ i), decide_eq_true (by omega : i ≤ (l.length : Int))]; simp
  · rw [if_neg h, if_neg (by omega : ¬ R.f = -1)]
    have ha : atL l i = if Within i 0 ((l.length : Int) - 1) then l.getD i.toNat 0 else -1 := rfl
    by_cases h2 : i < 0
    · rw [if_pos h2, Within, decide_eq_false (by omega : ¬ 0 ≤ i)]; simp
    · by_cases h3 : (l.length : Int) < i
      · rw [if_neg h2, if_pos h3, Within, decide_eq_false (by omega : ¬ i ≤ (l.length : Int) - 1)]; simp
      · rw [if_neg h2, if_neg h3, ha]
        cases hw : Within i 0 ((l.length : Int) - 1) with
        | true => simp
        | false =>
          have : ((-1 : Int) == R.f) = false := by simp; omega
          simp [this]

/-! ### asked, Places -/
set_option maxRecDepth 100000 in
theorem asked_calls (v : Value) (R : Rl) (a : Option Addr) (n c : Nat) (l : List Int) (w : World) (hr : RuleAt w v R) (h : IntsAt w a n c l) :
    Calls Try.prog 111 #[v, .slice a n c] w fun e w' => e = .returned (.int .i64 (err2 R l)) ∧ Below w.heap.size w w' := by
  have Hr := hid_ hr
  obtain ⟨a1, n1, c1, a2, n2, c2, a3, n3, c3, rfl, h1, h2, h3⟩ := hr
  clear h1 h2 h3
  obtain ⟨w1, hw1⟩ : ∃ w1, w.alloc (.cells #[.int .i64 R.f, .slice a1 n1 c1, .slice a2 n2 c2, .slice a3 n3 c3] 24) = w1 := ⟨_, rfl⟩
  have Hb1 : Hid (Below w.heap.size w w1) := hid_ (by rw [← hw1]; exact below_alloc _ _)
  obtain ⟨k0, k1, k2, k3⟩ := box4 hw1 (Below.refl _ _)
  have Hv1 := hid_ (validate_calls _ R w1 (Hr.out.below Hb1.out (Nat.le_refl _)))
  have Hv2 := hid_ (fun w2 (hb : Below w1.heap.size w1 w2) => validateWord_calls a n c l w2 ((h.below Hb1.out (Nat.le_refl _)).below hb (Nat.le_refl _)))
  clear h
  by_cases he : validR R = 0
  · have Hf : Hid (err2 R l = validW l) := hid_ (if_pos he)
    rw [he] at Hv1
    clear he
    go_enter Try.func111, Try.ntmps111
    go_wp2_with (first
      | (go_at_call 34; refine Hv1.out.mono ?_; rintro e w4 ⟨rfl, hb2⟩)
      | (go_at_call 36; refine (Hv2.out _ hb2).mono ?_; rintro e w' ⟨rfl, rfl⟩))
    go_ret
    exact ⟨retI Hf.out, Hb1.out.trans (hb2.mono Hb1.out.size)⟩
  · have Hf : Hid (err2 R l = validR R) := hid_ (if_neg he)
    have hq : (validR R != 0) = true := by simpa using he
    generalize validR R = x1 at *
    clear he
    go_enter Try.func111, Try.ntmps111
    go_wp2_with (go_at_call 34; refine Hv1.out.mono ?_; rintro e w4 ⟨rfl, hb2⟩)
    go_ret
    exact ⟨retI Hf.out, Hb1.out.trans (hb2.mono Hb1.out.size)⟩
set_option maxRecDepth 100000 in
theorem refPlaces_calls (v : Value) (R : Rl) (a : Option Addr) (n c : Nat) (l : List Int) (w : World) (hr : RuleAt w v R) (h : IntsAt w a n c l) :
    Calls Try.prog 32 #[v, .slice a n c] w fun e w' => ∃ v', e = .returned (.tuple #[v', .int .i64 (err2 R l)]) ∧ Made 3 w w' v' (resPlaces R l) := by
  have Hr := hid_ hr
  obtain ⟨a1, n1, c1, a2, n2, c2, a3, n3, c3, rfl, h1, h2, h3⟩ := hr
  clear h1 h2 h3
  obtain ⟨w1, hw1⟩ : ∃ w1, w.alloc (.cells #[.int .i64 R.f, .slice a1 n1 c1, .slice a2 n2 c2, .slice a3 n3 c3] 24) = w1 := ⟨_, rfl⟩
  have Hb1 : Hid (Below w.heap.size w w1) := hid_ (by rw [← hw1]; exact below_alloc _ _)
  obtain ⟨k0, k1, k2, k3⟩ := box4 hw1 (Below.refl _ _)
  have HR1 := hid_ (Hr.out.below Hb1.out (Nat.le_refl _))
  have HI1 := hid_ (h.below Hb1.out (Nat.le_refl _))
  have Hv1 := hid_ (asked_calls _ R a n c l w1 HR1.out HI1.out)
  have HW1 := hid_ hw1
  by_cases he : err2 R l = 0
  · have Hf : Hid (resPlaces R l = plP R l) := hid_ (if_pos he)
    obtain ⟨e1, e2⟩ := err2_ok he
    obtain ⟨g1, g2, g3, g4, g5, g6⟩ := validR_ok e1
    obtain ⟨g7, g8⟩ := validW_ok e2
    have Hpl := hid_ (fun W (hW : Below w1.heap.size w1 W) => placesOf_calls _ R a n c l W (HR1.out.below hW (Nat.le_refl _)) (HI1.out.below hW (Nat.le_refl _)) (by have := h.len; omega))
    have Heq : Hid (pl (isPl R l) (n + 1) = plP R l) := hid_ (by rw [isPl_eq g1, ← h.len]; rfl)
    rw [he] at Hv1 ⊢
    clear g1 g2 g3 g4 g5 g6 g7 g8 e1 e2 he h
    go_enter Try.func32, Try.ntmps32
    go_wp2_with (first
      | (go_at_call 111; refine Hv1.out.mono ?_; rintro e w4 ⟨rfl, hb2⟩; obtain ⟨q0, q1, q2, q3⟩ := box4 HW1.out hb2)
      | (go_at_call 112; refine (Hpl.out _ hb2).mono ?_; rintro e w6 ⟨v4, rfl, hm⟩))
    go_ret2
    exact ⟨_, rfl, by rw [Hf.out, ← Heq.out]; exact hm.after (Hb1.out.trans (hb2.mono Hb1.out.size))⟩
  · have Hf : Hid (resPlaces R l = []) := hid_ (if_neg he)
    generalize err2 R l = er at *
    have hq : (er != 0) = true := by simpa using he
    clear he
    go_enter Try.func32, Try.ntmps32
    go_wp2_with (go_at_call 111; refine Hv1.out.mono ?_; rintro e w4 ⟨rfl, hb2⟩)
    go_ret2
    exact ⟨_, rfl, by rw [Hf.out]; exact Made.none_ _ (Hb1.out.trans (hb2.mono Hb1.out.size))⟩
end Go.Proofs.Ytnpdhmejnoplcaa
namespace Go.Proofs.Ytnpdhmejnoplcaa
open Go.RowKit Go.Proofs.Kv

/-! ### told, Apply -/
def toldE (l : List Int) : Int := if 8 < l.length then 3 else 0
def toldV (l : List Int) : List Int := if 8 < l.length then [] else l
theorem pl_fit0 {R : Rl} {l : List Int} {i : Nat} (h : plB R.f R.le R.ri l i = true) : i + tkN R ≤ l.length := by
  have := (one_ok h).2 (i : Int) (by simp)
  simpa using this.2
set_option maxRecDepth 100000 in
theorem told_calls (w0 w : World) (v : Value) (l : List Int) (hm : Made 3 w0 w v l) :
    Calls Try.prog 122 #[v] w fun e w' => ∃ v', e = .returned (.tuple #[v', .int .i64 (toldE l)]) ∧ Made 3 w0 w' v' (toldV l) := by
  have HM := hid_ hm
  unfold toldE toldV
  obtain ⟨a, c, rfl, hi⟩ := hm.at_
  have hle := hi.le; have hsm := hi.small
  have HB := hid_ (hm.bel)
  generalize hn : l.length = n at *
  clear hm
  by_cases h8 : 8 < n
  · have h8' : (8 : Int) < (n : Int) := by omega
    rw [if_pos h8, if_pos h8]
    go_enter Try.func122, Try.ntmps122
    go_wp2
    go_ret2
    exact ⟨_, rfl, Made.none_ _ HB.out⟩
  · have h8' : ¬ (8 : Int) < (n : Int) := by omega
    rw [if_neg h8, if_neg h8]
    go_enter Try.func122, Try.ntmps122
    go_wp2
    go_ret2
    exact ⟨_, rfl, HM.out⟩
theorem made_base {w0 w1 w : World} {v : Value} {l : List Int} (hb : Below w0.heap.size w0 w1) (h : Made 3 w1 w v l) : Made 3 w0 w v l := h.after hb
set_option maxRecDepth 100000 in
set_option maxHeartbeats 2000000 in
theorem refApply_calls (v : Value) (R : Rl) (a : Option Addr) (n c : Nat) (l : List Int) (p : Int) (w : World) (hr : RuleAt w v R) (h : IntsAt w a n c l) :
    Calls Try.prog 39 #[v, .slice a n c, .int .i64 p] w fun e w' => ∃ v', e = .returned (.tuple #[v', .int .i64 (errApply R l p)]) ∧ Made 3 w w' v' (resApply R l p) := by
  have Hr := hid_ hr
  obtain ⟨a1, n1, c1, a2, n2, c2, a3, n3, c3, rfl, h1, h2, h3⟩ := hr
  clear h1 h2 h3
  obtain ⟨w1, hw1⟩ : ∃ w1, w.alloc (.cells #[.int .i64 R.f, .slice a1 n1 c1, .slice a2 n2 c2, .slice a3 n3 c3] 24) = w1 := ⟨_, rfl⟩
  have Hb1 : Hid (Below w.heap.size w w1) := hid_ (by rw [← hw1]; exact below_alloc _ _)
  obtain ⟨k0, k1, k2, k3⟩ := box4 hw1 (Below.refl _ _)
  have HW1 := hid_ hw1
  have HR1 := hid_ (fun W (hW : Below w1.heap.size w1 W) => (Hr.out.below Hb1.out (Nat.le_refl _)).below hW (Nat.le_refl _))
  have HI1 := hid_ (fun W (hW : Below w1.heap.size w1 W) => (h.below Hb1.out (Nat.le_refl _)).below hW (Nat.le_refl _))
  have HV := hid_ (asked_calls _ R a n c l w1 (HR1.out w1 (Below.refl _ _)) (HI1.out w1 (Below.refl _ _)))
  have HL := hid_ h.len
  clear h
  by_cases he : err2 R l = 0
  · have HE : Hid (errApply R l p = apE R l p) := hid_ (if_pos he)
    have HF : Hid (resApply R l p = apV R l p) := hid_ (if_pos he)
    obtain ⟨e1, e2⟩ := err2_ok he
    obtain ⟨g1, g2, g3, g4, g5, g6⟩ := validR_ok e1
    obtain ⟨g7, g8⟩ := validW_ok e2
    have hn8 : n ≤ 8 := by rw [← HL.out]; exact g7
    have HP := hid_ (fun W hW => isPlace_calls _ R a n c l p W (HR1.out W hW) (HI1.out W hW) (by omega))
    rw [isPl_eq g1] at HP
    rw [he] at HV
    cases hp : plB R.f R.le R.ri l p with
    | false =>
      have HE' : Hid (errApply R l p = 6) := hid_ (by rw [HE.out, apE, hp]; rfl)
      have HF' : Hid (resApply R l p = []) := hid_ (by rw [HF.out, apV, hp]; rfl)
      rw [hp] at HP
      clear hp he e1 e2 g1 g2 g3 g4 g5 g6 g7 g8
      go_enter Try.func39, Try.ntmps39
      go_wp2_with (first
        | (go_at_call 111; refine HV.out.mono ?_; rintro e w4 ⟨rfl, hb2⟩; obtain ⟨q0, q1, q2, q3⟩ := box4 HW1.out hb2)
        | (go_at_call 121; refine (HP.out _ hb2).mono ?_; rintro e w5 ⟨rfl, hb5⟩))
      go_ret2
      exact ⟨_, by rw [HE'.out] <;> rfl, by rw [HF'.out]; exact Made.none_ _ (Hb1.out.trans ((hb2.trans (hb5.mono hb2.size)).mono Hb1.out.size))⟩
    | true =>
      have hok := one_ok hp
      obtain ⟨i, rfl⟩ : ∃ i : Nat, p = (i : Int) := ⟨p.toNat, by have := (hok.2 p (by simp)).1; omega⟩
      have hfit := pl_fit0 hp
      have HPut := hid_ (fun W hW => putR_calls _ R a n c l i W (HR1.out W hW) (HI1.out W hW) (by omega) g1 g3 (by rw [← HL.out]; exact hfit))
      have HE' : Hid (errApply R l (i : Int) = toldE (putL l i (i + tkN R) R.o)) := hid_ (by rw [HE.out, apE, hp]; rfl)
      have HF' : Hid (resApply R l (i : Int) = toldV (putL l i (i + tkN R) R.o)) := hid_ (by rw [HF.out, apV, hp]; rfl)
      rw [hp] at HP
      have HT := hid_ told_calls
      clear hp he e1 e2 g1 g2 g3 g4 g5 g6 g7 g8 hok hfit
      generalize putL l i (i + tkN R) R.o = m at *
      go_enter Try.func39, Try.ntmps39
      go_wp2_with (first
        | (go_at_call 111; refine HV.out.mono ?_; rintro e w4 ⟨rfl, hb2⟩; obtain ⟨q0, q1, q2, q3⟩ := box4 HW1.out hb2)
        | (go_at_call 121; refine (HP.out _ hb2).mono ?_; rintro e w5 ⟨rfl, hb5⟩; have hb51 := hb2.trans (hb5.mono hb2.size); obtain ⟨q0, q1, q2, q3⟩ := box4 HW1.out hb51)
        | (go_at_call 123; refine (HPut.out _ hb51).mono ?_; rintro e w6 ⟨v6, rfl, hm6⟩)
        | (go_at_call 122; refine (HT.out _ _ _ _ hm6).mono ?_; rintro e w7 ⟨v7, rfl, hm7⟩))
      go_ret2
      exact ⟨_, by rw [HE'.out] <;> rfl, by rw [HF'.out]; exact hm7.after (Hb1.out.trans (hb51.mono Hb1.out.size))⟩
  · have HE : Hid (errApply R l p = err2 R l) := hid_ (if_neg he)
    have HF : Hid (resApply R l p = []) := hid_ (if_neg he)
    generalize err2 R l = er at *
    have hq : (er != 0) = true := by simpa using he
    clear he
    go_enter Try.func39, Try.ntmps39
    go_wp2_with (go_at_call 111; refine HV.out.mono ?_; rintro e w4 ⟨rfl, hb2⟩)
    go_ret2
    exact ⟨_, by rw [HE.out] <;> rfl, by rw [HF.out]; exact Made.none_ _ (Hb1.out.trans (hb2.mono Hb1.out.size))⟩
end Go.Proofs.Ytnpdhmejnoplcaa
namespace Go.Proofs.Ytnpdhmejnoplcaa
open Go.RowKit Go.Proofs.Kv

/-! ### First -/
set_option maxRecDepth 100000 in
set_option maxHeartbeats 2000000 in
theorem refFirst_calls (v : Value) (R : Rl) (a : Option Addr) (n c : Nat) (l : List Int) (w : World) (hr : RuleAt w v R) (h : IntsAt w a n c l) :
    Calls Try.prog 41 #[v, .slice a n c] w fun e w' => ∃ v', e = .returned (.tuple #[v', .bool (isFirst R l), .int .i64 (errFirst R l)]) ∧ Made 3 w w' v' (resFirst R l) := by
  have Hr := hid_ hr
  obtain ⟨a1, n1, c1, a2, n2, c2, a3, n3, c3, rfl, h1, h2, h3⟩ := hr
  clear h1 h2 h3
  obtain ⟨w1, hw1⟩ : ∃ w1, w.alloc (.cells #[.int .i64 R.f, .slice a1 n1 c1, .slice a2 n2 c2, .slice a3 n3 c3] 24) = w1 := ⟨_, rfl⟩
  have Hb1 : Hid (Below w.heap.size w w1) := hid_ (by rw [← hw1]; exact below_alloc _ _)
  obtain ⟨k0, k1, k2, k3⟩ := box4 hw1 (Below.refl _ _)
  have HW1 := hid_ hw1
  have HR1 := hid_ (fun W (hW : Below w1.heap.size w1 W) => (Hr.out.below Hb1.out (Nat.le_refl _)).below hW (Nat.le_refl _))
  have HI1 := hid_ (fun W (hW : Below w1.heap.size w1 W) => (h.below Hb1.out (Nat.le_refl _)).below hW (Nat.le_refl _))
  have HV := hid_ (refPlaces_calls _ R a n c l w1 (HR1.out w1 (Below.refl _ _)) (HI1.out w1 (Below.refl _ _)))
  have HL := hid_ h.len
  clear h
  by_cases he : err2 R l = 0
  · have HE : Hid (errFirst R l = if plP R l = [] then 0 else putErr R [(plP R l).headD 0] l) := hid_ (if_pos he)
    have HF : Hid (resFirst R l = if plP R l = [] then [] else putRes R [(plP R l).headD 0] l) := hid_ (if_pos he)
    have HT : Hid (isFirst R l = (!(decide (plP R l = [])) && decide (putErr R [(plP R l).headD 0] l = 0))) := hid_ (by rw [isFirst, he]; rfl)
    obtain ⟨e1, e2⟩ := err2_ok he
    obtain ⟨g1, g2, g3, g4, g5, g6⟩ := validR_ok e1
    obtain ⟨g7, g8⟩ := validW_ok e2
    have hn8 : n ≤ 8 := by rw [← HL.out]; exact g7
    have Hone : Hid (∀ p, p ∈ plP R l → 0 ≤ p ∧ plB R.f R.le R.ri l p = true) := hid_ (fun p hp => ⟨(mem_pl.1 hp).1, (mem_pl.1 hp).2.2⟩)
    have hres : resPlaces R l = plP R l := if_pos he
    rw [he, hres] at HV
    have HPut := hid_ (fun W hW i (hi : i + tkN R ≤ n) => putR_calls _ R a n c l i W (HR1.out W hW) (HI1.out W hW) (by omega) g1 g3 hi)
    have HT2 := hid_ told_calls
    clear hres he e1 e2 g1 g2 g3 g4 g5 g6 g7 g8
    generalize plP R l = P at *
    cases P with
    | nil =>
      have HE' : Hid (errFirst R l = 0) := hid_ (by rw [HE.out]; rfl)
      have HF' : Hid (resFirst R l = []) := hid_ (by rw [HF.out]; rfl)
      have HT' : Hid (isFirst R l = false) := hid_ (by rw [HT.out]; rfl)
      go_enter Try.func41, Try.ntmps41
      go_wp2_with (go_at_call 32; refine HV.out.mono ?_; rintro e w4 ⟨v4, rfl, hm⟩; obtain ⟨a7, c7, rfl, hI7⟩ := hm.at_; have hb6 := hm.bel; clear hm)
      go_ret3
      exact ⟨_, by rw [HE'.out, HT'.out]; rfl, by rw [HF'.out]; exact Made.none_ _ (Hb1.out.trans (hb6.mono Hb1.out.size))⟩
    | cons p P =>
      have hk := Hone.out p (by simp)
      obtain ⟨i, rfl⟩ : ∃ i : Nat, p = (i : Int) := ⟨p.toNat, by omega⟩
      have hfit := pl_fit0 hk.2
      have HE' : Hid (errFirst R l = toldE (putL l i (i + tkN R) R.o)) := hid_ (by rw [HE.out]; rfl)
      have HF' : Hid (resFirst R l = toldV (putL l i (i + tkN R) R.o)) := hid_ (by rw [HF.out]; rfl)
      have HT' : Hid (isFirst R l = (toldE (putL l i (i + tkN R) R.o) == 0)) := hid_ (by rw [HT.out]; show (!decide ((i : Int) :: P = []) && decide (putErr R [(i : Int)] l = 0)) = (putErr R [(i : Int)] l == 0); rw [Bool.eq_iff_iff]; simp)
      have hPut := hid_ (fun W hW => HPut.out W hW i (by rw [← HL.out]; exact hfit))
      generalize putL l i (i + tkN R) R.o = m at *
      have hln : (((((i : Int) :: P).length : Nat) : Int) == 0) = false := by simp; omega
      have hln2 : (0 : Int) < ((((i : Int) :: P).length : Nat) : Int) := by simp only [List.length_cons]; omega
      have hln3 : 0 < ((i : Int) :: P).length := by simp
      clear hk hfit HE HF HT
      go_enter Try.func41, Try.ntmps41
      go_wp2_with (go_at_call 32; refine HV.out.mono ?_; rintro e w6 ⟨v4, rfl, hm⟩; obtain ⟨a7, c7, rfl, hI7⟩ := hm.at_; have hb6 := hm.bel; clear hm; obtain ⟨b, off, rfl, hbl, hcell⟩ := hI7.cells 0 hln3; obtain ⟨q0, q1, q2, q3⟩ := box4 HW1.out hb6; generalize hN : ((i : Int) :: P).length = N at *)
      have hcell' : w6.cell? ⟨b, off, none⟩ = some (.int .i64 (i : Int)) := hcell
      clear hcell
      have hz5 : w.heap.size < w6.heap.size := World.block_lt_of_cell? w6 ⟨w.heap.size, 0, none⟩ q0
      have HS : Hid (∀ W, Below w6.heap.size w6 W → W.cell? ⟨w.heap.size, 0, none⟩ = some (.int .i64 R.f) ∧ W.cell? ⟨w.heap.size, 1, none⟩ = some (.slice a1 n1 c1) ∧ W.cell? ⟨w.heap.size, 2, none⟩ = some (.slice a2 n2 c2) ∧ W.cell? ⟨w.heap.size, 3, none⟩ = some (.slice a3 n3 c3) ∧ W.cell? ⟨b, off, none⟩ = some (.int .i64 (i : Int)) ∧ Below w6.heap.size w6 W) := hid_ (fun W hW =>
        ⟨(hW.cell hz5).trans q0, (hW.cell hz5).trans q1, (hW.cell hz5).trans q2, (hW.cell hz5).trans q3, (hW.cell hbl).trans hcell', hW⟩)
      have hbd : Below w6.heap.size w6 w6.drew := Below.drew (Below.refl _ _)
      have hbw : Below w1.heap.size w1 w6.drew := hb6.trans (hbd.mono hb6.size)
      go_region_held3 (fun W => W.cell? ⟨w.heap.size, 0, none⟩ = some (.int .i64 R.f) ∧ W.cell? ⟨w.heap.size, 1, none⟩ = some (.slice a1 n1 c1) ∧ W.cell? ⟨w.heap.size, 2, none⟩ = some (.slice a2 n2 c2) ∧ W.cell? ⟨w.heap.size, 3, none⟩ = some (.slice a3 n3 c3) ∧ W.cell? ⟨b, off, none⟩ = some (.int .i64 (i : Int)) ∧ Below w6.heap.size w6 W) (first | exact HS.out _ (by assumption) | fail)
        (first
          | (go_at_call 123; refine (hPut.out _ hbw).mono ?_; rintro e w7 ⟨v8, rfl, hm8⟩; have hb7 : Below w6.heap.size w6 w7 := hbd.trans (hm8.bel.mono hbd.size))
          | (go_at_call 122; refine (HT2.out _ _ _ _ hm8).mono ?_; rintro e w9 ⟨v9, rfl, hm9⟩; have hb9 : Below w6.heap.size w6 w9 := hbd.trans (hm9.bel.mono hbd.size)))
      go_wp2_with fail
      go_ret3
      exact ⟨_, by rw [HE'.out, HT'.out]; rfl, by rw [HF'.out]; exact hm9.after (Hb1.out.trans (hbw.mono Hb1.out.size))⟩
  · have HE : Hid (errFirst R l = err2 R l) := hid_ (if_neg he)
    have HF : Hid (resFirst R l = []) := hid_ (if_neg he)
    have HT : Hid (isFirst R l = false) := hid_ (by rw [isFirst, decide_eq_false he]; rfl)
    generalize err2 R l = er at *
    have hq : (er != 0) = true := by simpa using he
    clear he
    go_enter Try.func41, Try.ntmps41
    go_wp2_with (go_at_call 32; refine HV.out.mono ?_; rintro e w4 ⟨v4, rfl, hm⟩; obtain ⟨a7, c7, rfl, hI7⟩ := hm.at_; have hb6 := hm.bel; clear hm)
    go_ret3
    exact ⟨_, by rw [HE.out, HT.out] <;> rfl, by rw [HF.out]; exact Made.none_ _ (Hb1.out.trans (hb6.mono Hb1.out.size))⟩
end Go.Proofs.Ytnpdhmejnoplcaa
namespace Go.Proofs.Ytnpdhmejnoplcaa
open Go.RowKit Go.Proofs.Kv

/-! ### all, AtAll -/
theorem putAll_drop {R : Rl} {P l : List Int} {j : Nat} (hj : j < P.length) : putAll R (P.drop j) l = putL (putAll R (P.drop (j + 1)) l) (P.getD j 0).toNat ((P.getD j 0).toNat + tkN R) R.o := by
  rw [List.drop_eq_getElem_cons hj]
  show putL _ _ _ _ = _
  rw [List.getD, List.getElem?_eq_getElem hj]
  rfl
theorem putAll_fitD {R : Rl} {P l : List Int} {j : Nat} (h : PutOk R P l) (hj : j < P.length) : (P.getD j 0).toNat + tkN R ≤ (putAll R (P.drop (j + 1)) l).length := by
  have := h.drop j
  rw [List.drop_eq_getElem_cons hj] at this
  have h2 := putAll_fit this
  rw [List.getD, List.getElem?_eq_getElem hj]
  exact h2
theorem putAll_len {R : Rl} {P l : List Int} {j : Nat} (h : PutOk R P l) (ho : R.o.length ≤ 2) : (putAll R (P.drop j) l).length ≤ l.length + P.length * 2 := by
  have h1 := (putAll_bd (h.drop j)).2.1
  have h2 : (P.drop j).length ≤ P.length := by rw [List.length_drop]; omega
  have h3 : (P.drop j).length * R.o.length ≤ P.length * 2 := Nat.mul_le_mul h2 ho
  omega
set_option maxRecDepth 100000 in
set_option maxHeartbeats 4000000 in
theorem refAll_calls (v : Value) (R : Rl) (a : Option Addr) (n c : Nat) (l : List Int) (w : World) (hr : RuleAt w v R) (h : IntsAt w a n c l) (hn : n ≤ 100) (hf : -1 ≤ R.f) (ho : R.o.length ≤ 2) :
    Calls Try.prog 125 #[v, .slice a n c] w fun e w' => ∃ v', e = .returned v' ∧ Made 3 w w' v' (putAll R (plP R l) l) := by
  have Hr := hid_ hr
  obtain ⟨a1, n1, c1, a2, n2, c2, a3, n3, c3, rfl, h1, h2, h3⟩ := hr
  clear h1 h2 h3
  obtain ⟨w1, hw1⟩ : ∃ w1, w.alloc (.cells #[.int .i64 R.f, .slice a1 n1 c1, .slice a2 n2 c2, .slice a3 n3 c3] 24) = w1 := ⟨_, rfl⟩
  have Hb1 : Hid (Below w.heap.size w w1) := hid_ (by rw [← hw1]; exact below_alloc _ _)
  obtain ⟨k0, k1, k2, k3⟩ := box4 hw1 (Below.refl _ _)
  have HW1 := hid_ hw1
  have HR1 := hid_ (fun W (hW : Below w1.heap.size w1 W) => (Hr.out.below Hb1.out (Nat.le_refl _)).below hW (Nat.le_refl _))
  have HI1 := hid_ (fun W (hW : Below w1.heap.size w1 W) => (h.below Hb1.out (Nat.le_refl _)).below hW (Nat.le_refl _))
  have HL := hid_ h.len
  have hpl : pl (isPl R l) (n + 1) = plP R l := by rw [isPl_eq hf, ← h.len]; rfl
  have HV := hid_ (placesOf_calls _ R a n c l w1 (HR1.out w1 (Below.refl _ _)) (HI1.out w1 (Below.refl _ _)) hn)
  rw [hpl] at HV
  have Hok : Hid (PutOk R (plP R l) l) := hid_ plP_ok
  have hPn : (plP R l).length ≤ 101 := by have := plP_len (R := R) (l := l); have := h.len; omega
  clear h hpl
  generalize plP R l = P at *
  have HPut := hid_ (fun W hW a' n' c' m i (hi : IntsAt W a' n' c' m) (hm : n' ≤ 1000) (hfit : i + tkN R ≤ n') => putR_calls _ R a' n' c' m i W (HR1.out W hW) hi hm hf ho hfit)
  have HLen : Hid (∀ j, (putAll R (P.drop j) l).length ≤ 1000) := hid_ (fun j => by have := putAll_len (j := j) Hok.out ho; have := HL.out; omega)
  have HFit := hid_ (fun j => putAll_fitD (j := j) Hok.out)
  have HDrop := hid_ (fun j => putAll_drop (R := R) (P := P) (l := l) (j := j))
  have HPos : Hid (∀ j, j < P.length → 0 ≤ P.getD j 0) := hid_ (fun j hj => (Hok.out.2 _ (getD_mem hj)).1)
  have HLast : Hid (putAll R (P.drop P.length) l = l) := hid_ (by rw [List.drop_of_length_le (Nat.le_refl _)]; rfl)
  generalize hP : P.length = M at *
  clear hf ho
  go_enter Try.func125, Try.ntmps125
  go_wp2_with (first
    | (go_at_call 112; refine HV.out.mono ?_; rintro e w2 ⟨v2, rfl, hm2⟩; have hb2 := hm2.bel; obtain ⟨ap, cp, rfl, hip⟩ := hm2.at_; rw [hP] at hip; have Hp := hid_ hip; clear hip hm2; rw [hP])
    | (at_builtin; refine wpList_copy_ints _ rfl (.tmp 11) (.tmp 12) rfl rfl _ _ _ _ rfl (HI1.out _ hb2) (by omega) ?_; intro v3 w3 hm3; have HM3 := hid_ hm3; clear hm3))
  have hb3 : Below w1.heap.size w1 w3 := hb2.trans (HM3.out.bel.mono hb2.size)
  have hb23 : Below w2.heap.size w2 w3 := HM3.out.bel
  clear k0 k1 k2 k3
  go_loopw [6, 7] (fun v i wr => ∃ j : Nat, j ≤ M ∧ i = .int .i64 ((j : Int) - 1) ∧ Made 3 w1 wr v (putAll R (P.drop j) l) ∧ Below w2.heap.size w2 wr) (fun _ i _ => (intOf i + 1).toNat)
  case atStart => exact ⟨M, by omega, by go_num, by rw [HLast.out]; exact HM3.out.after hb2, hb23⟩
  case round =>
    obtain ⟨j, hj, rfl, hmr, hb2r⟩ := hrel
    have HMr := hid_ hmr; clear hmr
    by_cases hpos : 0 < j
    · obtain ⟨k, rfl⟩ : ∃ k, j = k + 1 := ⟨j - 1, by omega⟩
      have hkM : k < M := by omega
      have hx0 := HPos.out k hkM
      obtain ⟨i, hi⟩ : ∃ i : Nat, P.getD k 0 = (i : Int) := ⟨(P.getD k 0).toNat, by omega⟩
      have hfit := HFit.out k hkM
      have hdrop := HDrop.out k hkM
      obtain ⟨b, off, hap, hbl, hcell⟩ := Hp.out.cells k hkM
      rw [hi] at hcell hfit hdrop
      simp only [Int.toNat_natCast] at hfit hdrop
      subst hap
      obtain ⟨ao, co, rfl, hio⟩ := HMr.out.at_
      have hlen := HLen.out (k + 1)
      have hb1r := HMr.out.bel
      obtain ⟨q0, q1, q2, q3⟩ := box4 HW1.out hb1r
      have hc' : wr.cell? ⟨b, off + k, none⟩ = some (.int .i64 (i : Int)) := (hb2r.cell hbl).trans hcell
      have Hc := hid_ hc'
      have HDr := hid_ hdrop
      clear hcell hdrop HFit HDrop HLen HPos HLast
      generalize putAll R (P.drop (k + 1)) l = m at *
      have Hio := hid_ hio
      clear hio
      generalize hN : m.length = N at *
      have hik : (((k + 1 : Nat) : Int) - 1) = (k : Int) := by omega
      have hkM' : (k : Int) < (M : Int) := by omega
      rw [hik]
      have e0 := cell_regrown q0
      have e1 := cell_regrown q1
      have e2 := cell_regrown q2
      have e3 := cell_regrown q3
      have ec := cell_regrown hc'
      clear q0 q1 q2 q3 hc' hik
      go_wp2
      refine wp_region_tail 6 (by kernel_rfl) (by kernel_rfl) ?_
      simp only [List.take_succ_cons, List.take_zero, List.drop_succ_cons, List.drop_zero]
      repeat (first | go_big_quiet_skip | (go_big_quiet_want; go_big_quiet_op; first | go_big_quiet_on | go_big_quiet_call ((fail))))
      refine wpQuiet_nil ?_
      rintro wq ⟨pq, hpq⟩
      have hbq := below_wq hpq
      clear hpq e0 e1 e2 e3 ec
      have hbq1 : Below w1.heap.size w1 wq := hb1r.trans (hbq.mono hb1r.size)
      go_wp2_with (go_at_call 123; refine (HPut.out wq hbq1 _ _ _ _ i (Hio.out.below hbq (Nat.le_refl _)) hlen hfit).mono ?_; rintro e w5 ⟨v5, rfl, hm5⟩)
      go_roundw
      case rel => exact ⟨k, by omega, by go_num, by rw [HDr.out]; exact hm5.after hbq1, hb2r.trans ((hbq.trans (hm5.bel.mono hbq.size)).mono hb2r.size)⟩
      case measure => simp [intOf]
    · obtain rfl : j = 0 := by omega
      go_wp2
      go_ret
      exact ⟨_, rfl, HMr.out.after Hb1.out⟩
set_option maxRecDepth 100000 in
set_option maxHeartbeats 2000000 in
theorem refAtAll_calls (v : Value) (R : Rl) (a : Option Addr) (n c : Nat) (l : List Int) (w : World) (hr : RuleAt w v R) (h : IntsAt w a n c l) :
    Calls Try.prog 43 #[v, .slice a n c] w fun e w' => ∃ v', e = .returned (.tuple #[v', .int .i64 (errAll R l)]) ∧ Made 3 w w' v' (resAll R l) := by
  have Hr := hid_ hr
  obtain ⟨a1, n1, c1, a2, n2, c2, a3, n3, c3, rfl, h1, h2, h3⟩ := hr
  clear h1 h2 h3
  obtain ⟨w1, hw1⟩ : ∃ w1, w.alloc (.cells #[.int .i64 R.f, .slice a1 n1 c1, .slice a2 n2 c2, .slice a3 n3 c3] 24) = w1 := ⟨_, rfl⟩
  have Hb1 : Hid (Below w.heap.size w w1) := hid_ (by rw [← hw1]; exact below_alloc _ _)
  obtain ⟨k0, k1, k2, k3⟩ := box4 hw1 (Below.refl _ _)
  have HW1 := hid_ hw1
  have HR1 := hid_ (fun W (hW : Below w1.heap.size w1 W) => (Hr.out.below Hb1.out (Nat.le_refl _)).below hW (Nat.le_refl _))
  have HI1 := hid_ (fun W (hW : Below w1.heap.size w1 W) => (h.below Hb1.out (Nat.le_refl _)).below hW (Nat.le_refl _))
  have HV := hid_ (asked_calls _ R a n c l w1 (HR1.out w1 (Below.refl _ _)) (HI1.out w1 (Below.refl _ _)))
  have HL := hid_ h.len
  clear h
  by_cases he : err2 R l = 0
  · have HE : Hid (errAll R l = toldE (putAll R (plP R l) l)) := hid_ (if_pos he)
    have HF : Hid (resAll R l = toldV (putAll R (plP R l) l)) := hid_ (if_pos he)
    obtain ⟨e1, e2⟩ := err2_ok he
    obtain ⟨g1, g2, g3, g4, g5, g6⟩ := validR_ok e1
    obtain ⟨g7, g8⟩ := validW_ok e2
    have hn8 : n ≤ 8 := by rw [← HL.out]; exact g7
    have HP := hid_ (fun W hW => refAll_calls _ R a n c l W (HR1.out W hW) (HI1.out W hW) (by omega) g1 g3)
    have HT := hid_ told_calls
    rw [he] at HV
    clear he e1 e2 g1 g2 g3 g4 g5 g6 g7 g8
    generalize putAll R (plP R l) l = m at *
    go_enter Try.func43, Try.ntmps43
    go_wp2_with (first
      | (go_at_call 111; refine HV.out.mono ?_; rintro e w4 ⟨rfl, hb2⟩; obtain ⟨q0, q1, q2, q3⟩ := box4 HW1.out hb2)
      | (go_at_call 125; refine (HP.out _ hb2).mono ?_; rintro e w6 ⟨v6, rfl, hm6⟩)
      | (go_at_call 122; refine (HT.out _ _ _ _ hm6).mono ?_; rintro e w7 ⟨v7, rfl, hm7⟩))
    go_ret2
    exact ⟨_, by rw [HE.out] <;> rfl, by rw [HF.out]; exact hm7.after (Hb1.out.trans (hb2.mono Hb1.out.size))⟩
  · have HE : Hid (errAll R l = err2 R l) := hid_ (if_neg he)
    have HF : Hid (resAll R l = []) := hid_ (if_neg he)
    generalize err2 R l = er at *
    have hq : (er != 0) = true := by simpa using he
    clear he
    go_enter Try.func43, Try.ntmps43
    go_wp2_with (go_at_call 111; refine HV.out.mono ?_; rintro e w4 ⟨rfl, hb2⟩)
    go_ret2
    exact ⟨_, by rw [HE.out] <;> rfl, by rw [HF.out]; exact Made.none_ _ (Hb1.out.trans (hb2.mono Hb1.out.size))⟩
end Go.Proofs.Ytnpdhmejnoplcaa
namespace Go.Proofs.Ytnpdhmejnoplcaa
open Go.RowKit Go.Proofs.Kv

/-! ### Along -/
set_option maxRecDepth 100000 in
set_option maxHeartbeats 4000000 in
theorem refAlong_calls (v : Value) (R : Rl) (a : Option Addr) (n c : Nat) (l : List Int) (w : World) (hr : RuleAt w v R) (h : IntsAt w a n c l) :
    Calls Try.prog 45 #[v, .slice a n c] w fun e w' => ∃ v', e = .returned (.tuple #[v', .int .i64 (errAlong R l)]) ∧ Made 3 w w' v' (resAlong R l) := by
  have Hr := hid_ hr
  obtain ⟨a1, n1, c1, a2, n2, c2, a3, n3, c3, rfl, h1, h2, h3⟩ := hr
  have Ho1 : Hid (R.o.length = n1) := hid_ h1.len
  clear h1 h2 h3
  obtain ⟨w1, hw1⟩ : ∃ w1, w.alloc (.cells #[.int .i64 R.f, .slice a1 n1 c1, .slice a2 n2 c2, .slice a3 n3 c3] 24) = w1 := ⟨_, rfl⟩
  have Hb1 : Hid (Below w.heap.size w w1) := hid_ (by rw [← hw1]; exact below_alloc _ _)
  obtain ⟨k0, k1, k2, k3⟩ := box4 hw1 (Below.refl _ _)
  have HW1 := hid_ hw1
  have HR1 := hid_ (fun W (hW : Below w1.heap.size w1 W) => (Hr.out.below Hb1.out (Nat.le_refl _)).below hW (Nat.le_refl _))
  have HI1 := hid_ (fun W (hW : Below w1.heap.size w1 W) => (h.below Hb1.out (Nat.le_refl _)).below hW (Nat.le_refl _))
  have HV := hid_ (asked_calls _ R a n c l w1 (HR1.out w1 (Below.refl _ _)) (HI1.out w1 (Below.refl _ _)))
  have Hlen := hid_ h.len
  clear h
  by_cases he : err2 R l = 0
  · have HF : Hid (resAlong R l = (alongP R l).getD []) := hid_ (if_pos he)
    have HE : Hid (errAlong R l = if (alongP R l).isSome then 0 else 3) := hid_ (if_pos he)
    have HA : Hid (alongP R l = alongF R (n + 1) l 0) := hid_ (by rw [alongP, Hlen.out])
    obtain ⟨e1, e2⟩ := err2_ok he
    obtain ⟨g1, g2, g3, g4, g5, g6⟩ := validR_ok e1
    obtain ⟨g7, g8⟩ := validW_ok e2
    have hn8 : n ≤ 8 := by rw [← Hlen.out]; exact g7
    have Hll := hid_ g7
    have HP := hid_ (fun W hW av N cv L (hI : IntsAt W av N cv L) (hN : N ≤ 100) (k : Int) => show Calls Try.prog 121 _ W (fun e w' => e = .returned (.bool (plB R.f R.le R.ri L k)) ∧ Below W.heap.size W w') from by have := isPlace_calls _ R av N cv L k W (HR1.out W hW) hI hN; rwa [isPl_eq g1] at this)
    have HPut := hid_ (fun W hW av N cv L (hI : IntsAt W av N cv L) (hN : N ≤ 1000) k (hfit : k + tkN R ≤ N) => putR_calls _ R av N cv L k W (HR1.out W hW) hI hN g1 g3 hfit)
    have hn12 : n1 ≤ 2 := by have := Ho1.out; omega
    have Hneg : Hid (tkN R = if R.f < 0 then 0 else 1) := hid_ (by unfold tkN; split <;> split <;> omega)
    rw [he] at HV
    clear he e1 e2 g1 g2 g3 g4 g5 g6 g7 g8
    go_enter Try.func45, Try.ntmps45
    go_wp2_with (first
      | (go_at_call 111; refine HV.out.mono ?_; rintro e w2 ⟨rfl, hb2⟩)
      | (at_builtin; refine wpList_copy_ints _ rfl (.tmp 15) (.tmp 16) rfl rfl _ _ _ _ rfl (HI1.out _ hb2) (by omega) ?_; intro v3 w3 hm3; have HM3 := hid_ hm3; clear hm3))
    have hown3 := own_base HM3.out.own hb2.size
    have hb3 : Below w1.heap.size w1 w3 := hb2.trans (HM3.out.bel.mono hb2.size)
    clear k0 k1 k2 k3
    go_loopg [7, 8] (n + 1) (fun g vv i wr => ∃ L : List Int, ∃ k : Nat, i = .int .i64 k ∧ g = L.length + 1 - k ∧ k ≤ L.length + 1 ∧ alongF R (L.length + 1 - k) L k = alongP R l ∧ L.length ≤ 8 ∧ wr.ownsRow w1.heap.size 3 1 vv L.length (L.map (Value.int .i64)) ∧ Below w1.heap.size w1 wr)
    case atStart => exact ⟨l, 0, rfl, by rw [Hlen.out]; omega, by omega, by rw [HA.out, Hlen.out, Nat.sub_zero], Hll.out, hown3, hb3⟩
    case round =>
      clear hown3
      obtain ⟨L, k, rfl, hgk, hk1, hrest, hL8, hown, hbel⟩ := hrel
      obtain ⟨av, cv, rfl, hI⟩ := IntsAt.own hown
      have Hgk := hid_ hgk; clear hgk
      have Hown := hid_ hown; clear hown
      have HI := hid_ hI; clear hI
      have hsz := hbel.size
      obtain ⟨q0, q1, q2, q3⟩ := box4 HW1.out hbel
      by_cases hlt : k ≤ L.length
      · obtain ⟨m, hm⟩ : ∃ m, L.length + 1 - k = m + 1 := ⟨L.length - k, by omega⟩
        rw [hm, alongF] at hrest
        have Hm := hid_ hm; clear hm
        have Hc := hid_ (HP.out wr hbel av L.length cv L HI.out (by omega) k)
        have hki : (k : Int) ≤ (L.length : Int) := by omega
        cases hh : plB R.f R.le R.ri L k with
        | false =>
          rw [hh] at Hc hrest
          have Hrest := hid_ hrest; clear hrest
          have hk8 : k ≤ 8 := by omega
          have Hlt := hid_ hlt
          have HL8 := hid_ hL8
          clear hh hlt hL8
          generalize hN : L.length = N at *
          have HN := hid_ hN; clear hN
          go_wp2_with (go_at_call 121; refine (Hc.out).mono ?_; rintro e w' ⟨rfl, hbc⟩)
          go_roundg m
          case rel => exact ⟨L, k + 1, by go_num, by have := Hm.out; have := HN.out; omega, by have := HN.out; have := Hlt.out; omega, by rw [show L.length + 1 - (k + 1) = m by have := Hm.out; have := HN.out; omega]; exact Hrest.out, by rw [HN.out]; exact HL8.out, by rw [HN.out]; exact own_grown Hown.out hbc, hbel.trans (hbc.mono hsz)⟩
          case measure => have := Hgk.out; have := Hm.out; omega
        | true =>
          have hfit := pl_fit hh
          rw [hh] at Hc hrest
          simp only [if_true] at hrest
          have hplen := putL_length (o := R.o) (show k ≤ k + tkN R by omega) hfit
          have Hput := hid_ (fun W hW hI => HPut.out W hW av L.length cv L hI (by omega) k hfit)
          have hk8 : k ≤ 8 := by omega
          have htk1 : tkN R ≤ 1 := by unfold tkN; split <;> omega
          have hn1' := Ho1.out
          have hnx : (putL L k (k + tkN R) R.o).length + 1 - (k + R.o.length + 1 - tkN R) = m := by
            rw [hplen]; have := Hm.out; omega
          have hnx2 : k + R.o.length + 1 - tkN R ≤ (putL L k (k + tkN R) R.o).length + 1 := by rw [hplen]; omega
          generalize hLL : putL L k (k + tkN R) R.o = LL at *
          clear hLL hplen
          by_cases h8 : 8 < LL.length
          · rw [if_pos h8] at hrest
            have Hrest := hid_ hrest
            have hL8' : (8 : Int) < (LL.length : Int) := by omega
            clear hrest hnx hnx2 hfit hh hlt hL8 htk1 hn1'
            generalize hN : L.length = N at *
            clear hN
            go_wp2_with (first
              | (go_at_call 121; refine Hc.out.mono ?_; rintro e w8 ⟨rfl, hbc⟩; have hb18 := hbel.trans (hbc.mono hsz); obtain ⟨t0, t1, t2, t3⟩ := box4 HW1.out hb18)
              | (go_at_call 123; refine (Hput.out w8 hb18 (HI.out.below hbc (Nat.le_refl _))).mono ?_; rintro e w10 ⟨v10, rfl, hm10⟩; obtain ⟨a10, c10, rfl, hi10⟩ := hm10.at_; clear hi10; have hb10 := hb18.trans (hm10.bel.mono hb18.size); clear hm10))
            go_ret2
            exact ⟨_, by rw [HE.out, ← Hrest.out] <;> rfl, by rw [HF.out, ← Hrest.out]; exact Made.none_ _ (Hb1.out.trans (hb10.mono Hb1.out.size))⟩
          · rw [if_neg h8] at hrest
            have Hrest := hid_ hrest
            have hL8' : ¬ (8 : Int) < (LL.length : Int) := by omega
            have Hnx := hid_ hnx; have Hnx2 := hid_ hnx2; have H8 := hid_ h8
            by_cases hneg : R.f < 0
            · have Hnum : Hid (((k : Int) + (n1 : Int) + 1) = ((k + R.o.length + 1 - tkN R : Nat) : Int)) := hid_ (by have := Hneg.out; rw [if_pos hneg] at this; omega)
              clear hrest hnx hnx2 hfit hh hlt hL8 htk1 hn1'
              generalize hN : L.length = N at *
              clear hN
              have hx1 : IntKind.i64.wrap ((k : Int) + (n1 : Int)) = (k : Int) + (n1 : Int) := IntWalk.i64_in _ (by omega)
              have hx2 : IntKind.i64.wrap ((k : Int) + (n1 : Int) + 1) = (k : Int) + (n1 : Int) + 1 := IntWalk.i64_in _ (by omega)
              go_wp2_with (first
                | (go_at_call 121; refine Hc.out.mono ?_; rintro e w8 ⟨rfl, hbc⟩; have hb18 := hbel.trans (hbc.mono hsz); obtain ⟨t0, t1, t2, t3⟩ := box4 HW1.out hb18)
                | (go_at_call 123; refine (Hput.out w8 hb18 (HI.out.below hbc (Nat.le_refl _))).mono ?_; rintro e w10 ⟨v10, rfl, hm10⟩; have Hown10 := hid_ (own_base hm10.own hb18.size); obtain ⟨a10, c10, rfl, hi10⟩ := hm10.at_; clear hi10; have hb10 := hb18.trans (hm10.bel.mono hb18.size); clear hm10; obtain ⟨u0, u1, u2, u3⟩ := box4 HW1.out hb10))
              go_roundg m
              case rel => exact ⟨LL, k + R.o.length + 1 - tkN R, by rw [← Hnum.out], Hnx.out.symm, Hnx2.out, by rw [Hnx.out]; exact Hrest.out, by have := H8.out; omega, Hown10.out, hb10⟩
              case measure => have := Hgk.out; have := Hm.out; omega
            · have Hnum : Hid (((k : Int) + (n1 : Int)) = ((k + R.o.length + 1 - tkN R : Nat) : Int)) := hid_ (by have := Hneg.out; rw [if_neg hneg] at this; omega)
              clear hrest hnx hnx2 hfit hh hlt hL8 htk1 hn1'
              generalize hN : L.length = N at *
              clear hN
              have hx1 : IntKind.i64.wrap ((k : Int) + (n1 : Int)) = (k : Int) + (n1 : Int) := IntWalk.i64_in _ (by omega)
              go_wp2_with (first
                | (go_at_call 121; refine Hc.out.mono ?_; rintro e w8 ⟨rfl, hbc⟩; have hb18 := hbel.trans (hbc.mono hsz); obtain ⟨t0, t1, t2, t3⟩ := box4 HW1.out hb18)
                | (go_at_call 123; refine (Hput.out w8 hb18 (HI.out.below hbc (Nat.le_refl _))).mono ?_; rintro e w10 ⟨v10, rfl, hm10⟩; have Hown10 := hid_ (own_base hm10.own hb18.size); obtain ⟨a10, c10, rfl, hi10⟩ := hm10.at_; clear hi10; have hb10 := hb18.trans (hm10.bel.mono hb18.size); clear hm10; obtain ⟨u0, u1, u2, u3⟩ := box4 HW1.out hb10))
              go_roundg m
              case rel => exact ⟨LL, k + R.o.length + 1 - tkN R, by rw [← Hnum.out], Hnx.out.symm, Hnx2.out, by rw [Hnx.out]; exact Hrest.out, by have := H8.out; omega, Hown10.out, hb10⟩
              case measure => have := Hgk.out; have := Hm.out; omega
      · have hkn : L.length + 1 - k = 0 := by omega
        rw [hkn, alongF] at hrest
        have Hrest := hid_ hrest; clear hrest
        have hki : ¬ (k : Int) ≤ (L.length : Int) := by omega
        clear hL8 hkn hlt
        generalize hN : L.length = N at *
        have HN := hid_ hN; clear hN
        go_wp2
        go_ret2
        exact ⟨_, by rw [HE.out, ← Hrest.out] <;> rfl, by rw [HF.out, ← Hrest.out]; exact ⟨by rw [Option.getD_some, HN.out]; exact own_base Hown.out Hb1.out.size, Hb1.out.trans (hbel.mono Hb1.out.size)⟩⟩
  · have HE : Hid (errAlong R l = err2 R l) := hid_ (if_neg he)
    have HF : Hid (resAlong R l = []) := hid_ (if_neg he)
    generalize err2 R l = er at *
    have hq : (er != 0) = true := by simpa using he
    clear he
    go_enter Try.func45, Try.ntmps45
    go_wp2_with (go_at_call 111; refine HV.out.mono ?_; rintro e w4 ⟨rfl, hb2⟩)
    go_ret2
    exact ⟨_, by rw [HE.out] <;> rfl, by rw [HF.out]; exact Made.none_ _ (Hb1.out.trans (hb2.mono Hb1.out.size))⟩
end Go.Proofs.Ytnpdhmejnoplcaa
