import Derived.Test.YtebbmhlkdfmmcaaGreatRbe
import Derived.Test.YtebbmhlkdfmmcaaGreatRz
import Derived.Test.YtebbmhlkdfmmcaaGreatPgk
import Derived.Deep.RegionHeld3
import Derived.Test.YtebbmhlkdfmmcaaGreatLae
namespace Go.Proofs.YtebbmhlkdfmmcaaGreat
open Go.RowKit Go.Proofs.Kv

/-! ### put -/
theorem _root_.Go.Proofs.Kv.IntsAt.cut {w : World} {a : Option Addr} {n c : Nat} {l : List Int} (h : IntsAt w a n c l) {i : Nat} (hi : i ≤ n) (hic : i < c) : IntsAt w (a.map (·.add i)) (n - i) (c - i) (l.drop i) :=
  ⟨by rw [List.length_drop, h.len], by have := h.le; omega, by have := h.small; omega, fun j hj => by
    obtain ⟨b, off, rfl, hb, hc⟩ := h.cells (i + j) (by omega)
    refine ⟨b, off + i, by simp [add_at], hb, ?_⟩
    rw [Nat.add_assoc, hc]
    simp [List.getD]⟩
set_option maxRecDepth 100000 in
set_option maxHeartbeats 2000000 in
theorem putR_calls (v : Value) (R : Rl) (a : Option Addr) (n c : Nat) (l : List Int) (i : Nat) (w : World) (hr : RuleAt w v R) (h : IntsAt w a n c l) (hn : n ≤ 1000) (hf : -1 ≤ R.f) (ho : R.o.length ≤ 2) (hi : i + tkN R ≤ n) :
    Calls Tryz.prog 112 #[v, .slice a n c, .int .i64 i] w fun e w' => ∃ v', e = .returned v' ∧ Made 3 w w' v' (putL l i (i + tkN R) R.o) := by
  obtain ⟨i0, hi0, hz0, hz1, hz2⟩ := info_parts Tryz.infoInt
  have hlen := h.len
  obtain ⟨a1, n1, c1, a2, n2, c2, a3, n3, c3, rfl, h1, h2, h3⟩ := hr
  have hol := h1.len
  clear h2 h3
  obtain ⟨w1, hw1⟩ : ∃ w1, w.alloc (.cells #[.int .i64 R.f, .slice a1 n1 c1, .slice a2 n2 c2, .slice a3 n3 c3] 44) = w1 := ⟨_, rfl⟩
  have Hb1 : Hid (Below w.heap.size w w1) := hid_ (by rw [← hw1]; exact below_alloc _ _)
  have HW1 := hid_ hw1
  have hI1 := (h.below Hb1.out (Nat.le_refl _)).take (k := i) (by omega)
  have HI := hid_ (fun W (hW : Below w1.heap.size w1 W) => (h.below Hb1.out (Nat.le_refl _)).below hW (Nat.le_refl _))
  have HT := hid_ (fun W (hW : Below w1.heap.size w1 W) => (h1.below Hb1.out (Nat.le_refl _)).below hW (Nat.le_refl _))
  obtain ⟨w2, hw2⟩ : ∃ w2, w1.alloc (.cells #[] 3) = w2 := ⟨_, rfl⟩
  have hown0 : w2.ownsRow w1.heap.size 3 1 (.slice (some ⟨w1.heap.size, 0, none⟩) 0 0) 0 (([] : List Int).map (Value.int .i64)) := by rw [← hw2]; exact World.ownsRow_made w1 #[] 0 (Nat.le_refl _) (by omega) rfl
  have hb12 : Below w1.heap.size w1 w2 := by rw [← hw2]; exact below_alloc _ _
  have hI2 := hI1.below hb12 (Nat.le_refl _)
  have htk : Hid (tkN R = if R.f < 0 then 0 else 1) := hid_ (by unfold tkN; split <;> split <;> omega)
  have Hlen := hid_ hlen; have Hol := hid_ hol
  have hic : (i : Int) ≤ (c : Int) := by have := h.le; omega
  have hin : (i : Int) ≤ (n : Int) := by omega
  have hin2 : i ≤ n := by omega
  have hcn := h.le
  have hcs := h.small
  have HD := hid_ (fun W (hW : Below w1.heap.size w1 W) (k : Nat) (hk : k ≤ n) (hkc : k < c) => (HI.out W hW).cut hk hkc)
  have hn1 : n1 ≤ 2 := by omega
  clear hlen hol h h1 hI1
  by_cases hneg : R.f < 0
  · rw [if_pos hneg] at htk
    have Hres : Hid (putL l i (i + tkN R) R.o = l.take i ++ R.o ++ l.drop i) := hid_ (by rw [htk.out]; rfl)
    have hneg' : ¬ (0 : Int) ≤ R.f := by omega
    by_cases hend : i = n
    · subst hend
      have Hnil : Hid (l.drop i = []) := hid_ (List.drop_of_length_le (by rw [Hlen.out]; exact Nat.le_refl _))
      rw [Hnil.out] at Hres
      have hb8 : c - i ≤ 9223372036854775807 := by omega
      by_cases hci : c = i
      · subst hci
        go_enter Tryz.func112, Tryz.ntmps112
        go_wp2_with (first
          | (at_builtin; refine wpList_append_ints _ rfl (.tmp 8) (.tmp 11) _ rfl w1.heap.size 3 i0 Tryz.underlying23 hi0 hz0 hz1 hz2 _ _ _ rfl hown0 _ _ _ _ rfl hI2 (by omega) hb12.size ?_; intro v3 w3 hown3 hg3 hat3; have hb3 : Below w1.heap.size w1 w3 := hb12.grown hg3 hb12.size (fun k hk => by cases hk; exact Nat.le_refl _); obtain ⟨q0, q1, q2, q3⟩ := box4 HW1.out hb3; have hT3 := HT.out w3 hb3; simp only [Nat.zero_add, List.nil_append] at hown3)
          | (at_builtin; refine wpList_append_ints _ rfl (.tmp 13) (.tmp 15) _ rfl w1.heap.size 3 i0 Tryz.underlying23 hi0 hz0 hz1 hz2 _ _ _ rfl hown3 _ _ _ _ rfl hT3 (by omega) hb3.size ?_; intro v4 w4 hown4 hg4 hat4; have hb4 : Below w1.heap.size w1 w4 := hb3.grown hg4 hb3.size (fun k hk => (hown3.lt k hk).1); clear q0 q1 q2 q3; obtain ⟨q0, q1, q2, q3⟩ := box4 HW1.out hb4; have hI4 := IntsAt.nil w4 a 0 (by omega))
          | (at_builtin; refine wpList_append_ints _ rfl (.tmp 22) (.tmp 25) _ rfl w1.heap.size 3 i0 Tryz.underlying23 hi0 hz0 hz1 hz2 _ _ _ rfl hown4 _ _ _ _ rfl hI4 (by omega) hb4.size ?_; intro v5 w5 hown5 hg5 hat5; have hb5 : Below w1.heap.size w1 w5 := hb4.grown hg5 hb4.size (fun k hk => (hown4.lt k hk).1)))
        go_ret
        have hl5 := hown5.1
        rw [List.length_map, Nat.mul_one] at hl5
        refine ⟨_, rfl, ⟨?_, Hb1.out.trans (hb5.mono Hb1.out.size)⟩⟩
        rw [Hres.out, hl5]
        exact own_base hown5 Hb1.out.size
      ·
        go_enter Tryz.func112, Tryz.ntmps112
        go_wp2_with (first
          | (at_builtin; refine wpList_append_ints _ rfl (.tmp 8) (.tmp 11) _ rfl w1.heap.size 3 i0 Tryz.underlying23 hi0 hz0 hz1 hz2 _ _ _ rfl hown0 _ _ _ _ rfl hI2 (by omega) hb12.size ?_; intro v3 w3 hown3 hg3 hat3; have hb3 : Below w1.heap.size w1 w3 := hb12.grown hg3 hb12.size (fun k hk => by cases hk; exact Nat.le_refl _); obtain ⟨q0, q1, q2, q3⟩ := box4 HW1.out hb3; have hT3 := HT.out w3 hb3; simp only [Nat.zero_add, List.nil_append] at hown3)
          | (at_builtin; refine wpList_append_ints _ rfl (.tmp 13) (.tmp 15) _ rfl w1.heap.size 3 i0 Tryz.underlying23 hi0 hz0 hz1 hz2 _ _ _ rfl hown3 _ _ _ _ rfl hT3 (by omega) hb3.size ?_; intro v4 w4 hown4 hg4 hat4; have hb4 : Below w1.heap.size w1 w4 := hb3.grown hg4 hb3.size (fun k hk => (hown3.lt k hk).1); clear q0 q1 q2 q3; obtain ⟨q0, q1, q2, q3⟩ := box4 HW1.out hb4; have hI4 := fun A C (hC : C ≤ 9223372036854775807) => IntsAt.nil w4 A C hC)
          | (at_builtin; refine wpList_append_ints _ rfl (.tmp 22) (.tmp 25) _ rfl w1.heap.size 3 i0 Tryz.underlying23 hi0 hz0 hz1 hz2 _ _ _ rfl hown4 _ _ _ _ rfl (hI4 _ _ (by omega)) (by omega) hb4.size ?_; intro v5 w5 hown5 hg5 hat5; have hb5 : Below w1.heap.size w1 w5 := hb4.grown hg5 hb4.size (fun k hk => (hown4.lt k hk).1)))
        go_ret
        have hl5 := hown5.1
        rw [List.length_map, Nat.mul_one] at hl5
        refine ⟨_, rfl, ⟨?_, Hb1.out.trans (hb5.mono Hb1.out.size)⟩⟩
        rw [Hres.out, hl5]
        exact own_base hown5 Hb1.out.size
    · have hilt : i < n := by omega
      obtain ⟨b, off, rfl, hb0, _⟩ := (HI.out w1 (Below.refl _ _)).cells i hilt
      have hci : ¬ c = i := by omega
      have hD := hid_ (fun W hW => HD.out W hW i (by omega) (by omega))
      simp only [Option.map_some, add_at] at hD
      go_enter Tryz.func112, Tryz.ntmps112
      go_wp2_with (first
        | (at_builtin; refine wpList_append_ints _ rfl (.tmp 8) (.tmp 11) _ rfl w1.heap.size 3 i0 Tryz.underlying23 hi0 hz0 hz1 hz2 _ _ _ rfl hown0 _ _ _ _ rfl hI2 (by omega) hb12.size ?_; intro v3 w3 hown3 hg3 hat3; have hb3 : Below w1.heap.size w1 w3 := hb12.grown hg3 hb12.size (fun k hk => by cases hk; exact Nat.le_refl _); obtain ⟨q0, q1, q2, q3⟩ := box4 HW1.out hb3; have hT3 := HT.out w3 hb3; simp only [Nat.zero_add, List.nil_append] at hown3)
        | (at_builtin; refine wpList_append_ints _ rfl (.tmp 13) (.tmp 15) _ rfl w1.heap.size 3 i0 Tryz.underlying23 hi0 hz0 hz1 hz2 _ _ _ rfl hown3 _ _ _ _ rfl hT3 (by omega) hb3.size ?_; intro v4 w4 hown4 hg4 hat4; have hb4 : Below w1.heap.size w1 w4 := hb3.grown hg4 hb3.size (fun k hk => (hown3.lt k hk).1); clear q0 q1 q2 q3; obtain ⟨q0, q1, q2, q3⟩ := box4 HW1.out hb4; have hI4 := hD.out w4 hb4)
        | (at_builtin; refine wpList_append_ints _ rfl (.tmp 22) (.tmp 25) _ rfl w1.heap.size 3 i0 Tryz.underlying23 hi0 hz0 hz1 hz2 _ _ _ rfl hown4 _ _ _ _ rfl hI4 (by omega) hb4.size ?_; intro v5 w5 hown5 hg5 hat5; have hb5 : Below w1.heap.size w1 w5 := hb4.grown hg5 hb4.size (fun k hk => (hown4.lt k hk).1)))
      go_ret
      have hl5 := hown5.1
      rw [List.length_map, Nat.mul_one] at hl5
      refine ⟨_, rfl, ⟨?_, Hb1.out.trans (hb5.mono Hb1.out.size)⟩⟩
      rw [Hres.out, hl5]
      exact own_base hown5 Hb1.out.size
  · rw [if_neg hneg] at htk
    have hi1 : i + 1 ≤ n := by rw [htk.out] at hi; exact hi
    have Hres : Hid (putL l i (i + tkN R) R.o = l.take i ++ R.o ++ l.drop (i + 1)) := hid_ (by rw [htk.out]; rfl)
    have hneg' : (0 : Int) ≤ R.f := by omega
    have hw9 : IntKind.i64.wrap ((i : Int) + 1) = (i : Int) + 1 := IntWalk.i64_in _ (by omega)
    have hw8 : ((i : Int) + 1).toNat = i + 1 := by omega
    have hw7 : (0 : Int) ≤ (i : Int) + 1 := by omega
    have hw6 : (i : Int) + 1 ≤ (n : Int) := by omega
    by_cases hend : i + 1 = n
    · subst hend
      have Hnil : Hid (l.drop (i + 1) = []) := hid_ (List.drop_of_length_le (by rw [Hlen.out]; exact Nat.le_refl _))
      rw [Hnil.out] at Hres
      have hb8 : c - (i + 1) ≤ 9223372036854775807 := by omega
      by_cases hci : c = i + 1
      · subst hci
        go_enter Tryz.func112, Tryz.ntmps112
        go_wp2_with (first
          | (at_builtin; refine wpList_append_ints _ rfl (.tmp 8) (.tmp 11) _ rfl w1.heap.size 3 i0 Tryz.underlying23 hi0 hz0 hz1 hz2 _ _ _ rfl hown0 _ _ _ _ rfl hI2 (by omega) hb12.size ?_; intro v3 w3 hown3 hg3 hat3; have hb3 : Below w1.heap.size w1 w3 := hb12.grown hg3 hb12.size (fun k hk => by cases hk; exact Nat.le_refl _); obtain ⟨q0, q1, q2, q3⟩ := box4 HW1.out hb3; have hT3 := HT.out w3 hb3; simp only [Nat.zero_add, List.nil_append] at hown3)
          | (at_builtin; refine wpList_append_ints _ rfl (.tmp 13) (.tmp 15) _ rfl w1.heap.size 3 i0 Tryz.underlying23 hi0 hz0 hz1 hz2 _ _ _ rfl hown3 _ _ _ _ rfl hT3 (by omega) hb3.size ?_; intro v4 w4 hown4 hg4 hat4; have hb4 : Below w1.heap.size w1 w4 := hb3.grown hg4 hb3.size (fun k hk => (hown3.lt k hk).1); clear q0 q1 q2 q3; obtain ⟨q0, q1, q2, q3⟩ := box4 HW1.out hb4; have hI4 := IntsAt.nil w4 a 0 (by omega))
          | (at_builtin; refine wpList_append_ints _ rfl (.tmp 22) (.tmp 25) _ rfl w1.heap.size 3 i0 Tryz.underlying23 hi0 hz0 hz1 hz2 _ _ _ rfl hown4 _ _ _ _ rfl hI4 (by omega) hb4.size ?_; intro v5 w5 hown5 hg5 hat5; have hb5 : Below w1.heap.size w1 w5 := hb4.grown hg5 hb4.size (fun k hk => (hown4.lt k hk).1)))
        go_ret
        have hl5 := hown5.1
        rw [List.length_map, Nat.mul_one] at hl5
        refine ⟨_, rfl, ⟨?_, Hb1.out.trans (hb5.mono Hb1.out.size)⟩⟩
        rw [Hres.out, hl5]
        exact own_base hown5 Hb1.out.size
      ·
        go_enter Tryz.func112, Tryz.ntmps112
        go_wp2_with (first
          | (at_builtin; refine wpList_append_ints _ rfl (.tmp 8) (.tmp 11) _ rfl w1.heap.size 3 i0 Tryz.underlying23 hi0 hz0 hz1 hz2 _ _ _ rfl hown0 _ _ _ _ rfl hI2 (by omega) hb12.size ?_; intro v3 w3 hown3 hg3 hat3; have hb3 : Below w1.heap.size w1 w3 := hb12.grown hg3 hb12.size (fun k hk => by cases hk; exact Nat.le_refl _); obtain ⟨q0, q1, q2, q3⟩ := box4 HW1.out hb3; have hT3 := HT.out w3 hb3; simp only [Nat.zero_add, List.nil_append] at hown3)
          | (at_builtin; refine wpList_append_ints _ rfl (.tmp 13) (.tmp 15) _ rfl w1.heap.size 3 i0 Tryz.underlying23 hi0 hz0 hz1 hz2 _ _ _ rfl hown3 _ _ _ _ rfl hT3 (by omega) hb3.size ?_; intro v4 w4 hown4 hg4 hat4; have hb4 : Below w1.heap.size w1 w4 := hb3.grown hg4 hb3.size (fun k hk => (hown3.lt k hk).1); clear q0 q1 q2 q3; obtain ⟨q0, q1, q2, q3⟩ := box4 HW1.out hb4; have hI4 := fun A C (hC : C ≤ 9223372036854775807) => IntsAt.nil w4 A C hC)
          | (at_builtin; refine wpList_append_ints _ rfl (.tmp 22) (.tmp 25) _ rfl w1.heap.size 3 i0 Tryz.underlying23 hi0 hz0 hz1 hz2 _ _ _ rfl hown4 _ _ _ _ rfl (hI4 _ _ (by omega)) (by omega) hb4.size ?_; intro v5 w5 hown5 hg5 hat5; have hb5 : Below w1.heap.size w1 w5 := hb4.grown hg5 hb4.size (fun k hk => (hown4.lt k hk).1)))
        go_ret
        have hl5 := hown5.1
        rw [List.length_map, Nat.mul_one] at hl5
        refine ⟨_, rfl, ⟨?_, Hb1.out.trans (hb5.mono Hb1.out.size)⟩⟩
        rw [Hres.out, hl5]
        exact own_base hown5 Hb1.out.size
    · have hilt : i + 1 < n := by omega
      obtain ⟨b, off, rfl, hb0, _⟩ := (HI.out w1 (Below.refl _ _)).cells i (by omega)
      have hci : ¬ c = i + 1 := by omega
      have hD := hid_ (fun W hW => HD.out W hW (i + 1) (by omega) (by omega))
      simp only [Option.map_some, add_at] at hD
      go_enter Tryz.func112, Tryz.ntmps112
      go_wp2_with (first
        | (at_builtin; refine wpList_append_ints _ rfl (.tmp 8) (.tmp 11) _ rfl w1.heap.size 3 i0 Tryz.underlying23 hi0 hz0 hz1 hz2 _ _ _ rfl hown0 _ _ _ _ rfl hI2 (by omega) hb12.size ?_; intro v3 w3 hown3 hg3 hat3; have hb3 : Below w1.heap.size w1 w3 := hb12.grown hg3 hb12.size (fun k hk => by cases hk; exact Nat.le_refl _); obtain ⟨q0, q1, q2, q3⟩ := box4 HW1.out hb3; have hT3 := HT.out w3 hb3; simp only [Nat.zero_add, List.nil_append] at hown3)
        | (at_builtin; refine wpList_append_ints _ rfl (.tmp 13) (.tmp 15) _ rfl w1.heap.size 3 i0 Tryz.underlying23 hi0 hz0 hz1 hz2 _ _ _ rfl hown3 _ _ _ _ rfl hT3 (by omega) hb3.size ?_; intro v4 w4 hown4 hg4 hat4; have hb4 : Below w1.heap.size w1 w4 := hb3.grown hg4 hb3.size (fun k hk => (hown3.lt k hk).1); clear q0 q1 q2 q3; obtain ⟨q0, q1, q2, q3⟩ := box4 HW1.out hb4; have hI4 := hD.out w4 hb4)
        | (at_builtin; refine wpList_append_ints _ rfl (.tmp 22) (.tmp 25) _ rfl w1.heap.size 3 i0 Tryz.underlying23 hi0 hz0 hz1 hz2 _ _ _ rfl hown4 _ _ _ _ rfl hI4 (by omega) hb4.size ?_; intro v5 w5 hown5 hg5 hat5; have hb5 : Below w1.heap.size w1 w5 := hb4.grown hg5 hb4.size (fun k hk => (hown4.lt k hk).1)))
      go_ret
      have hl5 := hown5.1
      rw [List.length_map, Nat.mul_one] at hl5
      refine ⟨_, rfl, ⟨?_, Hb1.out.trans (hb5.mono Hb1.out.size)⟩⟩
      rw [Hres.out, hl5]
      exact own_base hown5 Hb1.out.size
end Go.Proofs.YtebbmhlkdfmmcaaGreat
namespace Go.Proofs.YtebbmhlkdfmmcaaGreat
open Go.RowKit Go.Proofs.Kv

/-! ### the reference's places are the program's -/
theorem isPl_eq {R : Rl} {l : List Int} (hf : -1 ≤ R.f) : isPl R l = plB R.f R.le R.ri l := by
  funext i
  unfold isPl plB
  by_cases h : R.f < 0
  · obtain h1 : R.f = -1 := by omega
    rw [if_pos h, if_pos h1]
    unfold Within
    by_cases h2 : i < 0
    · rw [if_pos h2, decide_eq_false (by omega : ¬ 0 ≤ i)]; simp
    · by_cases h3 : (l.length : Int) < i
      · rw [if_neg h2, if_pos h3, decide_eq_false (by omega : ¬ i ≤ (l.length : Int))]; simp
      · rw [if_neg h2, if_neg h3, decide_eq_true (by omega : 0 ≤ i), decide_eq_true (by omega : i ≤ (l.length : Int))]; simp
  · rw [if_neg h, if_neg (by omega : ¬ R.f = -1)]
    have ha : atL l i = if Within i 0 ((l.length : Int) - 1) then l.getD i.toNat 0 else -1 := rfl
    by_cases h2 : i < 0
    · rw [if_pos h2, Within, decide_eq_false (by omega : ¬ 0 ≤ i)]; simp
    · by_cases h3 : (l.length : Int) < i
      · rw [if_neg h2, if_pos h3, Within, decide_eq_false (by omega : ¬ i ≤ (l.length : Int) - 1)]; simp
      · rw [if_neg h2, if_neg h3, ha]
        cases hw : Within i 0 ((l.length : Int) - 1) with
        | true => simp
        | false =>
          have : ((-1 : Int) == R.f) = false := by simp; omega
          simp [this]

/-! ### asked, Places -/
set_option maxRecDepth 100000 in
theorem asked_calls (v : Value) (R : Rl) (a : Option Addr) (n c : Nat) (l : List Int) (w : World) (hr : RuleAt w v R) (h : IntsAt w a n c l) :
    Calls Tryz.prog 109 #[v, .slice a n c] w fun e w' => e = .returned (.int .i64 (err2 R l)) ∧ Below w.heap.size w w' := by
  have Hr := hid_ hr
  obtain ⟨a1, n1, c1, a2, n2, c2, a3, n3, c3, rfl, h1, h2, h3⟩ := hr
  clear h1 h2 h3
  obtain ⟨w1, hw1⟩ : ∃ w1, w.alloc (.cells #[.int .i64 R.f, .slice a1 n1 c1, .slice a2 n2 c2, .slice a3 n3 c3] 44) = w1 := ⟨_, rfl⟩
  have Hb1 : Hid (Below w.heap.size w w1) := hid_ (by rw [← hw1]; exact below_alloc _ _)
  obtain ⟨k0, k1, k2, k3⟩ := box4 hw1 (Below.refl _ _)
  have Hv1 := hid_ (validate_calls _ R w1 (Hr.out.below Hb1.out (Nat.le_refl _)))
  have Hv2 := hid_ (fun w2 (hb : Below w1.heap.size w1 w2) => validateWord_calls a n c l w2 ((h.below Hb1.out (Nat.le_refl _)).below hb (Nat.le_refl _)))
  clear h
  by_cases he : validR R = 0
  · have Hf : Hid (err2 R l = validW l) := hid_ (if_pos he)
    rw [he] at Hv1
    clear he
    go_enter Tryz.func109, Tryz.ntmps109
    go_wp2_with (first
      | (go_at_call 83; refine Hv1.out.mono ?_; rintro e w4 ⟨rfl, hb2⟩)
      | (go_at_call 62; refine (Hv2.out _ hb2).mono ?_; rintro e w' ⟨rfl, rfl⟩))
    go_ret
    exact ⟨retI Hf.out, Hb1.out.trans (hb2.mono Hb1.out.size)⟩
  · have Hf : Hid (err2 R l = validR R) := hid_ (if_neg he)
    have hq : (validR R != 0) = true := by simpa using he
    generalize validR R = x1 at *
    clear he
    go_enter Tryz.func109, Tryz.ntmps109
    go_wp2_with (go_at_call 83; refine Hv1.out.mono ?_; rintro e w4 ⟨rfl, hb2⟩)
    go_ret
    exact ⟨retI Hf.out, Hb1.out.trans (hb2.mono Hb1.out.size)⟩
end Go.Proofs.YtebbmhlkdfmmcaaGreat
namespace Go.Proofs.YtebbmhlkdfmmcaaGreat
open Go.RowKit Go.Proofs.Kv

/-! ### told, Apply -/
def toldE (l : List Int) : Int := if 8 < l.length then 3 else 0
def toldV (l : List Int) : List Int := if 8 < l.length then [] else l
theorem pl_fit0 {R : Rl} {l : List Int} {i : Nat} (h : plB R.f R.le R.ri l i = true) : i + tkN R ≤ l.length := by
  have := (one_ok h).2 (i : Int) (by simp)
  simpa using this.2
set_option maxRecDepth 100000 in
theorem told_calls (w0 w : World) (v : Value) (l : List Int) (hm : Made 3 w0 w v l) :
    Calls Tryz.prog 111 #[v] w fun e w' => ∃ v', e = .returned (.tuple #[v', .int .i64 (toldE l)]) ∧ Made 3 w0 w' v' (toldV l) := by
  have HM := hid_ hm
  unfold toldE toldV
  obtain ⟨a, c, rfl, hi⟩ := hm.at_
  have hle := hi.le; have hsm := hi.small
  have HB := hid_ (hm.bel)
  generalize hn : l.length = n at *
  clear hm
  by_cases h8 : 8 < n
  · have h8' : (8 : Int) < (n : Int) := by omega
    rw [if_pos h8, if_pos h8]
    go_enter Tryz.func111, Tryz.ntmps111
    go_wp2
    go_ret2
    exact ⟨_, rfl, Made.none_ _ HB.out⟩
  · have h8' : ¬ (8 : Int) < (n : Int) := by omega
    rw [if_neg h8, if_neg h8]
    go_enter Tryz.func111, Tryz.ntmps111
    go_wp2
    go_ret2
    exact ⟨_, rfl, HM.out⟩
theorem made_base {w0 w1 w : World} {v : Value} {l : List Int} (hb : Below w0.heap.size w0 w1) (h : Made 3 w1 w v l) : Made 3 w0 w v l := h.after hb
set_option maxRecDepth 100000 in
set_option maxHeartbeats 2000000 in
theorem refApply_calls (v : Value) (R : Rl) (a : Option Addr) (n c : Nat) (l : List Int) (p : Int) (w : World) (hr : RuleAt w v R) (h : IntsAt w a n c l) :
    Calls Tryz.prog 103 #[v, .slice a n c, .int .i64 p] w fun e w' => ∃ v', e = .returned (.tuple #[v', .int .i64 (errApply R l p)]) ∧ Made 3 w w' v' (resApply R l p) := by
  have Hr := hid_ hr
  obtain ⟨a1, n1, c1, a2, n2, c2, a3, n3, c3, rfl, h1, h2, h3⟩ := hr
  clear h1 h2 h3
  obtain ⟨w1, hw1⟩ : ∃ w1, w.alloc (.cells #[.int .i64 R.f, .slice a1 n1 c1, .slice a2 n2 c2, .slice a3 n3 c3] 44) = w1 := ⟨_, rfl⟩
  have Hb1 : Hid (Below w.heap.size w w1) := hid_ (by rw [← hw1]; exact below_alloc _ _)
  obtain ⟨k0, k1, k2, k3⟩ := box4 hw1 (Below.refl _ _)
  have HW1 := hid_ hw1
  have HR1 := hid_ (fun W (hW : Below w1.heap.size w1 W) => (Hr.out.below Hb1.out (Nat.le_refl _)).below hW (Nat.le_refl _))
  have HI1 := hid_ (fun W (hW : Below w1.heap.size w1 W) => (h.below Hb1.out (Nat.le_refl _)).below hW (Nat.le_refl _))
  have HV := hid_ (asked_calls _ R a n c l w1 (HR1.out w1 (Below.refl _ _)) (HI1.out w1 (Below.refl _ _)))
  have HL := hid_ h.len
  clear h
  by_cases he : err2 R l = 0
  · have HE : Hid (errApply R l p = apE R l p) := hid_ (if_pos he)
    have HF : Hid (resApply R l p = apV R l p) := hid_ (if_pos he)
    obtain ⟨e1, e2⟩ := err2_ok he
    obtain ⟨g1, g2, g3, g4, g5, g6⟩ := validR_ok e1
    obtain ⟨g7, g8⟩ := validW_ok e2
    have hn8 : n ≤ 8 := by rw [← HL.out]; exact g7
    have HP := hid_ (fun W hW => isPlace_calls _ R a n c l p W (HR1.out W hW) (HI1.out W hW) (by omega))
    rw [isPl_eq g1] at HP
    rw [he] at HV
    cases hp : plB R.f R.le R.ri l p with
    | false =>
      have HE' : Hid (errApply R l p = 6) := hid_ (by rw [HE.out, apE, hp]; rfl)
      have HF' : Hid (resApply R l p = []) := hid_ (by rw [HF.out, apV, hp]; rfl)
      rw [hp] at HP
      clear hp he e1 e2 g1 g2 g3 g4 g5 g6 g7 g8
      go_enter Tryz.func103, Tryz.ntmps103
      go_wp2_with (first
        | (go_at_call 109; refine HV.out.mono ?_; rintro e w4 ⟨rfl, hb2⟩; obtain ⟨q0, q1, q2, q3⟩ := box4 HW1.out hb2)
        | (go_at_call 110; refine (HP.out _ hb2).mono ?_; rintro e w5 ⟨rfl, hb5⟩))
      go_ret2
      exact ⟨_, by rw [HE'.out] <;> rfl, by rw [HF'.out]; exact Made.none_ _ (Hb1.out.trans ((hb2.trans (hb5.mono hb2.size)).mono Hb1.out.size))⟩
    | true =>
      have hok := one_ok hp
      obtain ⟨i, rfl⟩ : ∃ i : Nat, p = (i : Int) := ⟨p.toNat, by have := (hok.2 p (by simp)).1; omega⟩
      have hfit := pl_fit0 hp
      have HPut := hid_ (fun W hW => putR_calls _ R a n c l i W (HR1.out W hW) (HI1.out W hW) (by omega) g1 g3 (by rw [← HL.out]; exact hfit))
      have HE' : Hid (errApply R l (i : Int) = toldE (putL l i (i + tkN R) R.o)) := hid_ (by rw [HE.out, apE, hp]; rfl)
      have HF' : Hid (resApply R l (i : Int) = toldV (putL l i (i + tkN R) R.o)) := hid_ (by rw [HF.out, apV, hp]; rfl)
      rw [hp] at HP
      have HT := hid_ told_calls
      clear hp he e1 e2 g1 g2 g3 g4 g5 g6 g7 g8 hok hfit
      generalize putL l i (i + tkN R) R.o = m at *
      go_enter Tryz.func103, Tryz.ntmps103
      go_wp2_with (first
        | (go_at_call 109; refine HV.out.mono ?_; rintro e w4 ⟨rfl, hb2⟩; obtain ⟨q0, q1, q2, q3⟩ := box4 HW1.out hb2)
        | (go_at_call 110; refine (HP.out _ hb2).mono ?_; rintro e w5 ⟨rfl, hb5⟩; have hb51 := hb2.trans (hb5.mono hb2.size); obtain ⟨q0, q1, q2, q3⟩ := box4 HW1.out hb51)
        | (go_at_call 112; refine (HPut.out _ hb51).mono ?_; rintro e w6 ⟨v6, rfl, hm6⟩)
        | (go_at_call 111; refine (HT.out _ _ _ _ hm6).mono ?_; rintro e w7 ⟨v7, rfl, hm7⟩))
      go_ret2
      exact ⟨_, by rw [HE'.out] <;> rfl, by rw [HF'.out]; exact hm7.after (Hb1.out.trans (hb51.mono Hb1.out.size))⟩
  · have HE : Hid (errApply R l p = err2 R l) := hid_ (if_neg he)
    have HF : Hid (resApply R l p = []) := hid_ (if_neg he)
    generalize err2 R l = er at *
    have hq : (er != 0) = true := by simpa using he
    clear he
    go_enter Tryz.func103, Tryz.ntmps103
    go_wp2_with (go_at_call 109; refine HV.out.mono ?_; rintro e w4 ⟨rfl, hb2⟩)
    go_ret2
    exact ⟨_, by rw [HE.out] <;> rfl, by rw [HF.out]; exact Made.none_ _ (Hb1.out.trans (hb2.mono Hb1.out.size))⟩
end Go.Proofs.YtebbmhlkdfmmcaaGreat
namespace Go.Proofs.YtebbmhlkdfmmcaaGreat
open Go.RowKit Go.Proofs.Kv

/-! ### First -/
end Go.Proofs.YtebbmhlkdfmmcaaGreat
namespace Go.Proofs.YtebbmhlkdfmmcaaGreat
open Go.RowKit Go.Proofs.Kv

/-! ### all, AtAll -/
theorem putAll_drop {R : Rl} {P l : List Int} {j : Nat} (hj : j < P.length) : putAll R (P.drop j) l = putL (putAll R (P.drop (j + 1)) l) (P.getD j 0).toNat ((P.getD j 0).toNat + tkN R) R.o := by
  rw [List.drop_eq_getElem_cons hj]
  show putL _ _ _ _ = _
  rw [List.getD, List.getElem?_eq_getElem hj]
  rfl
theorem putAll_fitD {R : Rl} {P l : List Int} {j : Nat} (h : PutOk R P l) (hj : j < P.length) : (P.getD j 0).toNat + tkN R ≤ (putAll R (P.drop (j + 1)) l).length := by
  have := h.drop j
  rw [List.drop_eq_getElem_cons hj] at this
  have h2 := putAll_fit this
  rw [List.getD, List.getElem?_eq_getElem hj]
  exact h2
theorem putAll_len {R : Rl} {P l : List Int} {j : Nat} (h : PutOk R P l) (ho : R.o.length ≤ 2) : (putAll R (P.drop j) l).length ≤ l.length + P.length * 2 := by
  have h1 := (putAll_bd (h.drop j)).2.1
  have h2 : (P.drop j).length ≤ P.length := by rw [List.length_drop]; omega
  have h3 : (P.drop j).length * R.o.length ≤ P.length * 2 := Nat.mul_le_mul h2 ho
  omega
end Go.Proofs.YtebbmhlkdfmmcaaGreat
namespace Go.Proofs.YtebbmhlkdfmmcaaGreat
open Go.RowKit Go.Proofs.Kv

/-! ### Along -/
end Go.Proofs.YtebbmhlkdfmmcaaGreat
