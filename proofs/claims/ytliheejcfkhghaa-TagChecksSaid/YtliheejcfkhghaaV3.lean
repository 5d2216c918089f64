import Derived.Test.YtliheejcfkhghaaV2
namespace Go.Proofs.Ytliheejcfkhghaa
open Go.RowKit Go.Proofs.Kv Go

/-! ### the longest word with which a text begins -/
def bestP (L : Lx) (l : List Int) : Nat → Nat × Nat
  | 0 => (0, 0)
  | k + 1 => if (begT (wd L k) l && decide ((bestP L l k).2 < (wd L k).length)) = true then (k, (wd L k).length) else bestP L l k
theorem bestP_in {L : Lx} (g : GoodL L) (l : List Int) : ∀ k, k ≤ L.items.length → (bestP L l k).2 ≤ 6 ∧ (bestP L l k).2 ≤ l.length ∧ (bestP L l k).1 < L.items.length ∧ (0 < (bestP L l k).2 → (wd L (bestP L l k).1).length = (bestP L l k).2)
  | 0, _ => ⟨Nat.zero_le _, Nat.zero_le _, by have := g.ge; simp only [bestP]; omega, fun h => absurd h (by simp [bestP])⟩
  | k + 1, hk => by
    have ih := bestP_in g l k (by omega)
    rw [bestP]
    split
    · rename_i h
      rw [Bool.and_eq_true, begT, Bool.and_eq_true, decide_eq_true_eq] at h
      have := (g.word k (by omega)).2.1
      exact ⟨this, h.1.1, by simp only []; omega, fun _ => rfl⟩
    · exact ih
/-- what is taken by the longest words: the items, and how much of the text -/
def grL (L : Lx) (t : List Int) : Nat → List Int × Nat
  | 0 => ([], 0)
  | k + 1 => if (bestP L (t.drop (grL L t k).2) L.items.length).2 = 0 then grL L t k else ((grL L t k).1 ++ [((bestP L (t.drop (grL L t k).2) L.items.length).1 : Int)], (grL L t k).2 + (bestP L (t.drop (grL L t k).2) L.items.length).2)
theorem grL_in {L : Lx} (g : GoodL L) (t : List Int) : ∀ k, (grL L t k).2 ≤ t.length ∧ (grL L t k).1.length ≤ k
  | 0 => ⟨Nat.zero_le _, Nat.zero_le _⟩
  | k + 1 => by
    obtain ⟨i1, i2⟩ := grL_in g t k
    have hb := (bestP_in g (t.drop (grL L t k).2) L.items.length (Nat.le_refl _)).2.1
    rw [List.length_drop] at hb
    rw [grL]
    split
    · exact ⟨i1, by omega⟩
    · refine ⟨by simp only []; omega, by simp only [List.length_append, List.length_singleton]; omega⟩
theorem grL_stop {L : Lx} {t : List Int} {k : Nat} (h : (bestP L (t.drop (grL L t k).2) L.items.length).2 = 0) : ∀ d, grL L t (k + d) = grL L t k
  | 0 => rfl
  | d + 1 => by
    have ih := grL_stop h d
    rw [← Nat.add_assoc, grL, ih, if_pos h]
/-- what the greedy way takes -/
def grA (L : Lx) (t : List Int) : List Int × Nat := grL L t t.length
theorem grA_at {L : Lx} {t : List Int} {k : Nat} (hk : k ≤ t.length) (h : (bestP L (t.drop (grL L t k).2) L.items.length).2 = 0) : grA L t = grL L t k := by
  unfold grA
  have := grL_stop h (t.length - k)
  rwa [Nat.add_sub_cancel' hk] at this
theorem grL_go {L : Lx} {t : List Int} {k : Nat} (h : (bestP L (t.drop (grL L t k).2) L.items.length).2 ≠ 0) : grL L t (k + 1) = ((grL L t k).1 ++ [((bestP L (t.drop (grL L t k).2) L.items.length).1 : Int)], (grL L t k).2 + (bestP L (t.drop (grL L t k).2) L.items.length).2) := by
  rw [grL, if_neg h]
theorem bestP_yes {L : Lx} {l : List Int} {k bb m : Nat} (hB : bestP L l k = (bb, m)) (h1 : begT (wd L k) l = true) (h2 : m < (wd L k).length) : bestP L l (k + 1) = (k, (wd L k).length) := by
  rw [bestP, hB, if_pos (by rw [h1, decide_eq_true h2]; rfl)]
theorem bestP_no {L : Lx} {l : List Int} {k bb m : Nat} (hB : bestP L l k = (bb, m)) (h1 : begT (wd L k) l = false) : bestP L l (k + 1) = (bb, m) := by
  rw [bestP, hB, if_neg (by rw [h1, Bool.false_and]; decide)]
theorem bestP_no' {L : Lx} {l : List Int} {k bb m : Nat} (hB : bestP L l k = (bb, m)) (h2 : ¬ m < (wd L k).length) : bestP L l (k + 1) = (bb, m) := by
  rw [bestP, hB, if_neg (by rw [decide_eq_false h2, Bool.and_false]; decide)]
set_option maxRecDepth 100000 in
set_option maxHeartbeats 4000000 in
theorem longest_calls (v : Value) (L : Lx) (a : Option Addr) (n c : Nat) (l : List Int) (w : World) (h : LexAt w v L) (ht : IntsAt w a n c l) (g : GoodL L) :
    Calls Try.prog 79 #[v, .slice a n c] w fun e w' => e = .returned (.tuple #[.int .i64 ((bestP L l L.items.length).1 : Int), .bool (decide (0 < (bestP L l L.items.length).2))]) ∧ Below w.heap.size w w' := by
  have HP := hid_ h
  obtain ⟨a1, n1, c1, a2, n2, c2, rfl, h1, h2⟩ := h
  obtain ⟨w1, hw1⟩ : ∃ w1, w.alloc (.cells #[.slice a1 n1 c1, .slice a2 n2 c2] 25) = w1 := ⟨_, rfl⟩
  have cb : Below w.heap.size w w1 := by rw [← hw1]; exact below_alloc _ _
  have q0 : w1.cell? ⟨w.heap.size, 0, none⟩ = some (.slice a1 n1 c1) := by rw [← hw1]; exact cells_alloc _ _ _ 0
  have q1 : w1.cell? ⟨w.heap.size, 1, none⟩ = some (.slice a2 n2 c2) := by rw [← hw1]; exact cells_alloc _ _ _ 1
  have HP1 := hid_ (HP.out.below cb (Nat.le_refl _)); have Hc1 := hid_ cb
  have H1 := hid_ (fun W (hW : Below w1.heap.size w1 W) => (h1.below cb (Nat.le_refl _)).below hW (Nat.le_refl _))
  have HT := hid_ (fun W (hW : Below w1.heap.size w1 W) => (ht.below cb (Nat.le_refl _)).below hW (Nat.le_refl _))
  have hl1 := h1.len
  have HIn := hid_ (fun k (hk : k ≤ n1) => bestP_in g l k (by rw [hl1]; exact hk))
  have hn1 : n1 ≤ 9223372036854775807 := Nat.le_trans h1.le h1.small
  clear cb h1 h2 HP HP1 ht g
  rw [hl1]
  have Hl1 := hid_ hl1
  clear hl1
  go_enter Try.func79, Try.ntmps79
  go_wp2
  go_loopw [6, 7, 13] (fun b m i wr => ∃ k bb mm : Nat, k ≤ n1 ∧ bestP L l k = (bb, mm) ∧ b = .int .i64 (bb : Int) ∧ m = .int .i64 (mm : Int) ∧ i = .int .i64 k ∧ Below w1.heap.size w1 wr) (fun _ _ i _ => n1 - (intOf i).toNat)
  case atStart => exact ⟨0, 0, 0, Nat.zero_le _, rfl, rfl, rfl, rfl, Below.refl _ _⟩
  case round =>
    obtain ⟨k, bb, m, hk, hB, rfl, rfl, rfl, hb⟩ := hrel
    have q0r := cell_below q0 hb; have q1r := cell_below q1 hb
    obtain ⟨i1, i2, i3, -⟩ := HIn.out k hk
    rw [Hl1.out] at i3
    rw [hB] at i1 i2 i3
    simp only [] at i1 i2 i3
    have HB := hid_ hB
    clear hB
    by_cases hlt : k < n1
    · obtain ⟨b, off, a3, n3, c3, rfl, -, k0, k1, k2, hi⟩ := (H1.out wr hb).cells k hlt
      have hy := bestP_yes HB.out
      have hno := bestP_no HB.out
      have hno' := bestP_no' HB.out
      have hwl : (wd L k).length = n3 := hi.len
      have hw6 := hi.le
      have hw7 := hi.small
      obtain ⟨wb, hwb⟩ : ∃ wb, wr.alloc (.cells #[.slice a3 n3 c3, .int .i64 (L.items.getD k I0).kind, .int .i64 (L.items.getD k I0).cost] 62) = wb := ⟨_, rfl⟩
      have hcb : Below wr.heap.size wr wb := by rw [← hwb]; exact below_alloc _ _
      have u0 : wb.cell? ⟨wr.heap.size, 0, none⟩ = some (.slice a3 n3 c3) := by rw [← hwb]; exact cells_alloc _ _ _ 0
      have hbb := hb.trans (hcb.mono hb.size)
      have HI := hid_ (isBeg_calls a3 n3 c3 (wd L k) a n c l wb (hi.below hcb (Nat.le_refl _)) (HT.out wb hbb))
      have Hb := hid_ hbb
      rw [hwl] at hy hno'
      generalize (L.items.getD k I0).kind = kx at *
      generalize (L.items.getD k I0).cost = cx at *
      clear hb hi hcb hwl hbb
      cases hx : begT (wd L k) l with
      | true =>
        rw [hx] at HI
        by_cases hm : m < n3
        · have Hn := hid_ (hy hx hm)
          have hm' : (m : Int) < (n3 : Int) := by omega
          clear hx hy hno hno' hm
          go_wp2_with (go_at_call 101; (with_reducible refine HI.out.mono ?_); rintro e w2 ⟨rfl, q, hw2⟩; have u0' : w2.cell? ⟨wr.heap.size, 0, none⟩ = some (.slice a3 n3 c3) := (by rw [hw2]; exact u0); have Hb2 := hid_ (show Below w1.heap.size w1 w2 by rw [hw2]; exact below_drewN Hb.out _); clear hw2)
          go_wp2_with fail
          go_quiet (fail)
          go_wp2
          go_roundw
          case rel => exact ⟨k + 1, _, _, by omega, Hn.out, rfl, rfl, by go_num, below_drewN Hb2.out _⟩
          case measure => simp [intOf]; omega
        · have Hn := hid_ (hno' hm)
          have hm' : ¬ ((n3 : Int) > (m : Int)) := by omega
          clear hx hy hno hno' hm
          go_wp2_with (go_at_call 101; (with_reducible refine HI.out.mono ?_); rintro e w2 ⟨rfl, q, hw2⟩; have u0' : w2.cell? ⟨wr.heap.size, 0, none⟩ = some (.slice a3 n3 c3) := (by rw [hw2]; exact u0); have Hb2 := hid_ (show Below w1.heap.size w1 w2 by rw [hw2]; exact below_drewN Hb.out _); clear hw2)
          go_roundw
          case rel => exact ⟨k + 1, _, _, by omega, Hn.out, rfl, rfl, by go_num, Hb2.out⟩
          case measure => simp [intOf]; omega
      | false =>
        rw [hx] at HI
        have Hn := hid_ (hno hx)
        clear hx hy hno hno'
        go_wp2_with (go_at_call 101; (with_reducible refine HI.out.mono ?_); rintro e w2 ⟨rfl, q, hw2⟩; have Hb2 := hid_ (show Below w1.heap.size w1 w2 by rw [hw2]; exact below_drewN Hb.out _); clear hw2)
        go_roundw
        case rel => exact ⟨k + 1, _, _, by omega, Hn.out, rfl, rfl, by go_num, Hb2.out⟩
        case measure => simp [intOf]; omega
    · obtain rfl : n1 = k := by omega
      by_cases hm : 0 < m
      · have hm' : 0 < (m : Int) := by omega
        have Hd := hid_ (decide_eq_true hm)
        clear hm
        go_wp2
        go_ret2
        exact ⟨by rw [HB.out, Hd.out]; rfl, Hc1.out.trans (hb.mono Hc1.out.size)⟩
      · have hm' : ¬ 0 < (m : Int) := by omega
        have Hd := hid_ (decide_eq_false hm)
        clear hm
        go_wp2
        go_ret2
        exact ⟨by rw [HB.out, Hd.out]; rfl, Hc1.out.trans (hb.mono Hc1.out.size)⟩
/-! ### comes -/
theorem run_slice_mid (a : Option Addr) (n c lo hi : Nat) (h1 : lo ≤ hi) (h2 : hi ≤ n) (h3 : n ≤ c) (W : World) :
    (Instr.slice 26 (.slice a n c) (some (.int .i64 (lo : Int))) (some (.int .i64 (hi : Int))) none).run Try.prog W = .ok (.slice (if c = lo then a else a.map (·.add lo)) (hi - lo) (c - lo)) W := by
  have hu := Try.underlying26
  have h4 : hi ≤ c := by omega
  simp [Instr.slice, run_underlying hu, go_sem, Instr.sliceBounds, Instr.sliceBound, h1, h4]
end Go.Proofs.Ytliheejcfkhghaa
