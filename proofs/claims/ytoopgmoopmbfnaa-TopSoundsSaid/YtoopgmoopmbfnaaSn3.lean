import Derived.Test.YtoopgmoopmbfnaaSn2
import Derived.Test.YtoopgmoopmbfnaaRf2
namespace Go.Proofs.Ytoopgmoopmbfnaa
open Go.RowKit Go.Proofs.Kv Go.Proofs.Snd

/-! ### names: the ranks -/
def rkRow (L : List (List Int)) (i k : Nat) : List (Int × Int) := ((L.getD i []).take k).flatMap fun s => partFor i s L.length
def rkTo (L : List (List Int)) (k : Nat) : List (Int × Int) := (List.range k).flatMap fun i => rkRow L i (L.getD i []).length
theorem rkTo_snoc (L : List (List Int)) (i : Nat) : rkTo L (i + 1) = rkTo L i ++ rkRow L i (L.getD i []).length := by
  rw [rkTo, List.range_succ, List.flatMap_append]; simp [rkTo]
theorem rkRow_snoc {L : List (List Int)} {i k : Nat} (h : k < (L.getD i []).length) : rkRow L i (k + 1) = rkRow L i k ++ partFor i ((L.getD i []).getD k 0) L.length := by
  rw [rkRow, Kv.take_snoc _ 0 k h, List.flatMap_append]; simp [rkRow]
theorem flatMap_le {α β : Type} {f : α → List β} {m : Nat} : ∀ {l : List α}, (∀ x ∈ l, (f x).length ≤ m) → (l.flatMap f).length ≤ l.length * m
  | [], _ => by simp
  | x :: l, h => by
    have h1 := h x (by simp)
    have h2 := flatMap_le (l := l) (f := f) (m := m) fun y hy => h y (by simp [hy])
    rw [List.flatMap_cons, List.length_append, List.length_cons, Nat.succ_mul]; omega
theorem rkRow_le (L : List (List Int)) (i k : Nat) : (rkRow L i k).length ≤ k * L.length := by
  refine Nat.le_trans (flatMap_le fun s _ => partFor_le _ _ _) (Nat.mul_le_mul_right _ ?_)
  rw [List.length_take]; omega
theorem rkTo_le {L : List (List Int)} (h : ∀ s ∈ L, s.length ≤ 100) (k : Nat) : (rkTo L k).length ≤ k * (100 * L.length) := by
  have : ∀ i ∈ List.range k, (rkRow L i (L.getD i []).length).length ≤ 100 * L.length := fun i _ => by
    refine Nat.le_trans (rkRow_le _ _ _) (Nat.mul_le_mul_right _ ?_)
    rcases Nat.lt_or_ge i L.length with hi | hi
    · rw [List.getD, List.getElem?_eq_getElem hi, Option.getD_some]; exact h _ (List.getElem_mem hi)
    · rw [List.getD, List.getElem?_eq_none hi]; simp
  have := flatMap_le this
  rwa [List.length_range] at this

theorem set_two {xs : List Value} {k : Nat} {a b : Value} (h : 2 * k + 1 < xs.length) : ((xs.set (k * 2) a).set (k * 2 + 1) b).take (2 * (k + 1)) = xs.take (2 * k) ++ [a, b] := by
  have e : 2 * (k + 1) = 2 * k + 1 + 1 := by omega
  rw [e, Kv.take_snoc _ (.bool false) (2 * k + 1) (by simpa using h), Kv.take_snoc _ (.bool false) (2 * k) (by simp; omega), List.take_set, List.take_set, List.set_eq_of_length_le (by simp; omega), List.set_eq_of_length_le (by simp; omega), List.append_assoc]
  congr 1
  rw [Nat.mul_comm k 2]
  have h1 : 2 * k < xs.length := by omega
  simp [List.getD, h, h1]

theorem Try.infoRank : (Try.prog.info? 127).map (fun i => (i.zero, i.size, i.bytes)) = some (some (.agg #[.int .i64 0, .int .i64 0]), 2, 16) := by kernel_rfl

set_option maxRecDepth 100000 in
set_option maxHeartbeats 1000000 in
theorem sndNames_calls (a : Option Addr) (n c : Nat) (L : List (List Int)) (w : World) (h : ListsAt w a n c L) (hs : n ≤ 50) (hs2 : ∀ s ∈ L, s.length ≤ 100) (h0 : 0 < (rkTo L L.length).length) :
    Calls Try.prog 95 #[.slice a n c] w fun e w' => ∃ v, e = .returned v ∧ MadeP 71 w w' v ((rkTo L L.length).mergeSort leP) := by
  obtain ⟨i0, hi0, hz0, hz1, hz2⟩ := info_parts Try.infoRank
  have hn : n ≤ 9223372036854775807 := Nat.le_trans h.le h.small
  have Hlen : Hid (L.length = n) := hid_ h.len
  have Hle : Hid (∀ i, i ≤ n → (rkTo L i).length ≤ 250000) := hid_ fun i hi => by
    have h1 := rkTo_le hs2 i
    rw [h.len] at h1
    have h2 : i * (100 * n) ≤ 50 * (100 * 50) := Nat.mul_le_mul (by omega) (Nat.mul_le_mul_left _ hs)
    omega
  have Hfull : Hid (rkTo L L.length = rkTo L n) := hid_ (by rw [h.len])
  rw [Hfull.out] at h0
  have H0 := hid_ h0; clear h0
  go_enter Try.func95, Try.ntmps95
  go_wp2
  go_loopw [3, 14] (fun v i wr => ∃ k : Nat, k ≤ n ∧ i = .int .i64 k ∧ wr.ownsRow w.heap.size 127 2 v (rkTo L k).length ((rkTo L k).flatMap encN) ∧ Below w.heap.size w wr) (fun _ i _ => n - (intOf i).toNat)
  case atStart => exact ⟨0, by omega, rfl, World.ownsRow_nil _ _ _ _, Below.refl _ _⟩
  case round =>
    obtain ⟨i, hi, rfl, hown, hbel⟩ := hrel
    have hsz := hbel.size
    by_cases hlt : i < n
    · obtain ⟨b, off, a1, n1, c1, rfl, hb, hcell, hrow⟩ := h.cells i hlt
      have hcellw := (hbel.cell (p := ⟨b, off + i, none⟩) hb).trans hcell
      have hn1 : n1 ≤ 9223372036854775807 := Nat.le_trans hrow.le hrow.small
      have Hn1 : Hid (n1 ≤ 100) := hid_ (by
        have hil : i < L.length := by rw [Hlen.out]; exact hlt
        rw [← hrow.len, List.getD, List.getElem?_eq_getElem hil, Option.getD_some]; exact hs2 _ (List.getElem_mem hil))
      have Hnext := hid_ (rkTo_snoc L i)
      have Hl := hid_ (Hle.out i hi)
      have Hrowle : Hid (∀ k, k ≤ 100 → (rkRow L i k).length ≤ 5000) := hid_ fun k hk => by
        have h1 := rkRow_le L i k
        rw [Hlen.out] at h1
        have : k * n ≤ 100 * 50 := Nat.mul_le_mul hk hs
        omega
      have Hsn : Hid (∀ k, k < n1 → rkRow L i (k + 1) = rkRow L i k ++ partFor i ((L.getD i []).getD k 0) n) := hid_ fun k hk => by
        rw [rkRow_snoc (by rw [hrow.len]; exact hk), Hlen.out]
      have Hend : Hid (rkRow L i n1 = rkRow L i (L.getD i []).length) := hid_ (by rw [hrow.len])
      have Hz : Hid (rkRow L i 0 = []) := hid_ (by simp [rkRow])
      generalize rkTo L i = cur at hown Hnext Hl
      go_wp2
      obtain ⟨wo, rfl⟩ : ∃ wo : World, wo = wr := ⟨_, rfl⟩
      go_loopw [3, 21] (fun v j wr => ∃ k : Nat, k ≤ n1 ∧ j = .int .i64 k ∧ wr.ownsRow w.heap.size 127 2 v (cur ++ rkRow L i k).length ((cur ++ rkRow L i k).flatMap encN) ∧ Below w.heap.size w wr) (fun _ i _ => n1 - (intOf i).toNat)
      case atStart => exact ⟨0, by omega, rfl, by rw [Hz.out, List.append_nil]; exact hown, hbel⟩
      case round =>
        obtain ⟨k, hk, rfl, hown1, hbel1⟩ := hrel
        have hsz1 := hbel1.size
        by_cases hlt1 : k < n1
        · obtain ⟨b1, off1, rfl, hb1, hcell1⟩ := hrow.cells k hlt1
          have hcellx := (hbel1.cell (p := ⟨b1, off1 + k, none⟩) hb1).trans hcell1
          have Hsnk := hid_ (Hsn.out k hlt1)
          have Hl1 : Hid ((cur ++ rkRow L i k).length ≤ 255000) := hid_ (by
            have h1 := Hrowle.out k (by have := Hn1.out; omega)
            have h2 := Hl.out
            rw [List.length_append]; omega)
          generalize (L.getD i []).getD k 0 = x at hcell1 hcellx Hsnk
          have Hcat : Hid (cur ++ rkRow L i (k + 1) = (cur ++ rkRow L i k) ++ partFor i x n) := hid_ (by rw [Hsnk.out, List.append_assoc])
          generalize cur ++ rkRow L i k = cur1 at hown1 Hl1 Hcat
          go_wp2
          obtain ⟨wo1, rfl⟩ : ∃ wo1 : World, wo1 = wr := ⟨_, rfl⟩
          go_loopw [3, 8] (fun v i' wr => ∃ j : Nat, i ≤ j ∧ j ≤ n ∧ i' = .int .i64 j ∧ wr.ownsRow w.heap.size 127 2 v (cur1 ++ partFor i x j).length ((cur1 ++ partFor i x j).flatMap encN) ∧ Below w.heap.size w wr) (fun _ i _ => n - (intOf i).toNat)
          case atStart => exact ⟨i, by omega, by omega, rfl, by rw [partFor_start (by omega), List.append_nil]; exact hown1, hbel1⟩
          case round =>
            obtain ⟨j, hj0, hj, rfl, hown2, hbel2⟩ := hrel
            have hsz2 := hbel2.size
            by_cases hlt2 : j < n
            · have Hs := hid_ (partFor_snoc (r := (i : Int)) (s := x) (j := j) (by omega) (by omega))
              have hs1 : (cur1 ++ partFor i x j).length + 1 ≤ 1000000 := by
                have h1 := partFor_le i x j
                have h2 := Hl1.out
                rw [List.length_append]; omega
              go_wp2_with (at_builtin; refine wpList_append_pair _ rfl (.tmp 32) (.tmp 36) _ rfl w.heap.size 127 i0 Try.underlying126 hi0 hz0 hz1 hz2 _ _ _ rfl hown2 _ _ _ rfl hs1 hsz2 ?_; intro v' w1 hown1 hg1)
              go_roundw
              case rel => exact ⟨j + 1, by omega, by omega, by go_num, by rw [Hs.out, ← List.append_assoc, List.length_append]; exact hown1, below_app hbel2 hsz2 hown2 hg1⟩
              case measure => simp [intOf]; omega
            · obtain rfl : j = n := by omega
              go_wp2
              go_roundw
              case rel => exact ⟨k + 1, by omega, by go_num, by rw [Hcat.out]; exact hown2, hbel2⟩
              case measure => simp [intOf]; omega
        · obtain rfl : k = n1 := by omega
          go_wp2
          go_roundw
          case rel => exact ⟨i + 1, by omega, by go_num, by rw [Hnext.out, ← Hend.out]; exact hown1, hbel1⟩
          case measure => simp [intOf]; omega
    · obtain rfl : i = n := by omega
      have Hl := hid_ (Hle.out i (Nat.le_refl _))
      generalize hq : rkTo L i = ranks at hown H0 Hl
      have Hq : Hid (rkTo L L.length = ranks) := hid_ (by rw [Hfull.out, hq])
      clear hq
      have Hso := hid_ (sortRanks_calls hown H0.out (by have := Hl.out; omega) hsz)
      clear hlt hi hs hn Hle Hfull hs2
      go_wp2_with fail
      refine Hso.out.mono ?_
      rintro e w2 ⟨rfl, hown2, hb2⟩
      have hl2 : (ranks.mergeSort leP).length = ranks.length := by simp
      obtain ⟨a3, c3, hv3, hP3⟩ := PairsAt.own hown2
      subst hv3
      have Hb2 : Hid (Below w.heap.size w w2) := hid_ (hbel.trans hb2)
      generalize hS : ranks.mergeSort leP = S at hown2 hl2 hP3
      have HS := hid_ hS; clear hS Hso hown hbel hb2
      obtain ⟨j0, hj0, hy0, hy1, hy2⟩ := info_parts Try.infoName
      have hsz2 := Hb2.out.size
      obtain ⟨wm, hmk, hmo, hmg⟩ := Go.run_make_full (P := Try.prog) (w := w2) w.heap.size 66 71 j0 (.agg #[.int .i64 0, .int .i64 0]) 2 Try.underlying66 hj0 hy0 hy1 .i64 .i64 ranks.length (by have := Hl.out; rw [hy2]; omega) (by have := Hl.out; unfold maxLen; omega) hsz2
      have hPm := hP3.below ((Below.refl _ w2).grown hmg (Nat.le_refl _) fun r e => by cases e) (Nat.le_refl _)
      have Hbm : Hid (Below w.heap.size w wm) := hid_ (Hb2.out.grown hmg hsz2 fun r e => by cases e)
      have hg2 : w.heap.size ≤ w2.heap.size := hsz2
      have hgm : w2.heap.size < wm.heap.size := by
        rcases hmo.2 with ⟨hz, _⟩ | ⟨g, cap, cur, hv, _, hb, _⟩
        · cases hz
        · cases hv; exact (Array.getElem?_eq_some_iff.1 hb).1
      generalize (madeCells _ _).toList = xs0 at hmo
      generalize hgg : w2.heap.size = g at hmo hmk hg2 hgm
      obtain ⟨b3, off3, rfl, hb3, -⟩ := hP3.cells 0 H0.out
      rw [hgg] at hb3
      clear hP3 hown2 hmg hgg hsz hsz2
      have HS2 : Hid (rkTo L L.length = ranks ∧ ranks.mergeSort leP = S) := hid_ ⟨Hq.out, HS.out⟩
      have Hl3 := hid_ hl2
      clear hl2 h i0 hi0 hz0 hz1 hz2 hj0 hy0 hy1 hy2 Hlen Hb2 Hq HS
      generalize hN : ranks.length = N at hmo hPm hmk H0 Hl Hl3
      clear hN
      have hNs : N ≤ 9223372036854775807 := by have := Hl.out; omega
      go_wp2
      go_loopw [47] (fun i wr => ∃ k : Nat, ∃ xs, k ≤ N ∧ i = .int .i64 k ∧ wr.ownsRow w.heap.size 71 2 (.slice (some ⟨g, 0, none⟩) N N) N xs ∧ xs.take (2 * k) = (S.take k).flatMap encN ∧ wm.grownBy wr (some g)) (fun i _ => N - (intOf i).toNat)
      case atStart => exact ⟨0, xs0, by omega, rfl, hmo, by simp, World.grownBy.refl _ _⟩
      case round =>
        obtain ⟨k, xs, hk, rfl, hown, htk, hgr⟩ := hrel
        have hxl : xs.length = N * 2 := hown.1
        by_cases hlt : k < N
        · obtain ⟨b4, off4, he4, hb4, hc41, hc42⟩ := hPm.cells k hlt
          injection he4 with he4; injection he4 with e1 e2; subst e1; subst e2
          have hne : ∀ q : Addr, q.block = b3 → some q.block ≠ some g := fun q hq e => by rw [hq] at e; injection e with e; omega
          have hcx := hgr.cell hc41 (hne _ rfl)
          have hcz := hgr.cell hc42 (hne _ rfl)
          have ht0 := hown.cellAt (k * 2) (by omega)
          have ht1 := hown.cellAt (k * 2 + 1) (by omega)
          rw [List.getElem?_eq_getElem (by omega)] at ht0 ht1
          have hf0 := hown.frozenAt (k * 2)
          have hf1 := hown.frozenAt (k * 2 + 1)
          generalize hy : S.getD k (0, 0) = y at hcx hcz
          have Hy := hid_ hy; clear hy
          obtain ⟨x, z⟩ := y
          simp only at hcx hcz
          have hgw : g < wr.heap.size := Nat.lt_of_lt_of_le hgm hgr.size
          clear hne hc41 hc42
          go_wp2
          go_roundw
          case rel =>
            have hst1 := hown.stored (k * 2) (.int .i64 x)
            have hst2 := hst1.1.stored (k * 2 + 1) (.int .i64 z)
            refine ⟨k + 1, (xs.set (k * 2) (.int .i64 x)).set (k * 2 + 1) (.int .i64 z), by omega, by go_num, hst2.1.alloc _, ?_, ((hgr.trans hst1.2).trans hst2.2).trans (World.grownBy_alloc _ _ _)⟩
            rw [set_two (by omega), htk, Kv.take_snoc S (0, 0) k (by have := Hl3.out; omega), List.flatMap_append, Hy.out]
            rfl
          case measure => simp [intOf]; omega
        · obtain rfl : k = N := by omega
          have hx : xs = S.flatMap encN := by
            have h1 : xs.take (2 * k) = xs := List.take_of_length_le (by omega)
            have h2 : S.take k = S := List.take_of_length_le (by have := Hl3.out; omega)
            rw [h1, h2] at htk; exact htk
          subst hx
          have Hb3 : Hid (Below w.heap.size w wr) := hid_ (Hbm.out.grown hgr Hbm.out.size fun r e => by cases e; exact hg2)
          go_wp2
          go_ret
          refine ⟨_, rfl, ?_, Hb3.out⟩
          rw [HS2.out.1, HS2.out.2, Hl3.out]
          exact hown
end Go.Proofs.Ytoopgmoopmbfnaa
namespace Go.Proofs.Ytoopgmoopmbfnaa
open Go.RowKit Go.Proofs.Kv Go.Proofs.Snd Go.Sort Go.Shelf Go.Proofs

/-! ### the order of lists -/
theorem cmpI_cases (x y : Int) : (x < y ∧ cmpI x y = -1) ∨ (y < x ∧ cmpI x y = 1) ∨ (x = y ∧ cmpI x y = 0) := by
  unfold cmpI
  by_cases h1 : x < y
  · exact .inl ⟨h1, if_pos h1⟩
  · by_cases h2 : y < x
    · exact .inr (.inl ⟨h2, by rw [if_neg h1, if_pos h2]⟩)
    · exact .inr (.inr ⟨by omega, by rw [if_neg h1, if_neg h2]⟩)
theorem cmpL_self : ∀ l : List Int, cmpL l l = 0
  | [] => rfl
  | x :: l => by
    rw [cmpL]
    rcases cmpI_cases x x with ⟨h, _⟩ | ⟨h, _⟩ | ⟨_, h⟩
    · omega
    · omega
    · rw [if_pos h]; exact cmpL_self l
theorem cmpL_eq : ∀ {l m : List Int}, cmpL l m = 0 → l = m
  | [], [], _ => rfl
  | [], _ :: _, h => by simp [cmpL] at h
  | _ :: _, [], h => by simp [cmpL] at h
  | x :: l, y :: m, h => by
    rw [cmpL] at h
    rcases cmpI_cases x y with ⟨_, h1⟩ | ⟨_, h1⟩ | ⟨h0, h1⟩
    · rw [h1] at h; simp at h
    · rw [h1] at h; simp at h
    · rw [if_pos h1] at h; rw [h0, cmpL_eq h]
theorem cmpL_neg : ∀ l m : List Int, cmpL m l = - cmpL l m
  | [], [] => rfl
  | [], _ :: _ => rfl
  | _ :: _, [] => rfl
  | x :: l, y :: m => by
    rw [cmpL, cmpL]
    have ih := cmpL_neg l m
    rcases cmpI_cases x y with ⟨h0, h1⟩ | ⟨h0, h1⟩ | ⟨h0, h1⟩
    · rcases cmpI_cases y x with ⟨g0, g1⟩ | ⟨g0, g1⟩ | ⟨g0, g1⟩
      · omega
      · rw [h1, g1]; rfl
      · omega
    · rcases cmpI_cases y x with ⟨g0, g1⟩ | ⟨g0, g1⟩ | ⟨g0, g1⟩
      · rw [h1, g1]; rfl
      · omega
      · omega
    · rcases cmpI_cases y x with ⟨g0, g1⟩ | ⟨g0, g1⟩ | ⟨g0, g1⟩
      · omega
      · omega
      · rw [if_pos h1, if_pos g1]; exact ih
theorem cmpL_trans : ∀ {l m p : List Int}, cmpL l m < 0 → cmpL m p < 0 → cmpL l p < 0
  | [], [], _, h, _ => by simp [cmpL] at h
  | [], _ :: _, [], _, h => by simp [cmpL] at h
  | [], _ :: _, _ :: _, _, _ => by simp [cmpL]
  | _ :: _, [], _, h, _ => by simp [cmpL] at h
  | _ :: _, _ :: _, [], _, h => by simp [cmpL] at h
  | x :: l, y :: m, z :: p, h, k => by
    rw [cmpL] at h k ⊢
    rcases cmpI_cases x y with ⟨h0, h1⟩ | ⟨h0, h1⟩ | ⟨h0, h1⟩
    · rcases cmpI_cases y z with ⟨g0, g1⟩ | ⟨g0, g1⟩ | ⟨g0, g1⟩
      · rcases cmpI_cases x z with ⟨f0, f1⟩ | ⟨f0, f1⟩ | ⟨f0, f1⟩
        · rw [f1]; simp
        · omega
        · omega
      · rw [g1] at k; simp at k
      · rcases cmpI_cases x z with ⟨f0, f1⟩ | ⟨f0, f1⟩ | ⟨f0, f1⟩
        · rw [f1]; simp
        · omega
        · omega
    · rw [h1] at h; simp at h
    · subst h0
      rw [if_pos h1] at h
      rcases cmpI_cases x z with ⟨g0, g1⟩ | ⟨g0, g1⟩ | ⟨g0, g1⟩
      · rw [g1]; simp
      · rw [g1] at k; simp at k
      · rw [if_pos g1] at k ⊢; exact cmpL_trans h k
def ltL (x y : List Int) : Bool := decide (cmpL x y < 0)
def leL (x y : List Int) : Bool := !(ltL y x)
theorem swoL : SWO ltL where
  irrefl x := by simp [ltL, cmpL_self]
  trans x y z h1 h2 := by simp only [ltL, decide_eq_true_eq] at *; exact cmpL_trans h1 h2
  ntrans x y z h1 h2 := by
    simp only [ltL, decide_eq_false_iff_not] at *
    intro h3
    rcases Int.lt_trichotomy (cmpL x y) 0 with h | h | h
    · exact h1 h
    · rw [cmpL_eq h] at h3; exact h2 h3
    · rcases Int.lt_trichotomy (cmpL y z) 0 with g | g | g
      · exact h2 g
      · rw [← cmpL_eq g] at h3; omega
      · have a1 : cmpL y x < 0 := by rw [cmpL_neg]; omega
        have a2 : cmpL z y < 0 := by rw [cmpL_neg]; omega
        have := cmpL_trans a2 a1
        rw [cmpL_neg] at this; omega
theorem ltL_anti : ∀ x y, ltL x y = false → ltL y x = false → x = y := by
  intro x y h1 h2
  simp only [ltL, decide_eq_false_iff_not] at h1 h2
  rw [cmpL_neg x y] at h2
  exact cmpL_eq (by omega)

/-! ### slices.SortFunc of lists -/
theorem ints_grown {w w' : World} {g : Nat} {a : Option Addr} {n c : Nat} {l : List Int} (hg : w.grownBy w' (some g)) (h : IntsAt w a n c l) (hd : ∀ b off, 0 < n → a = some ⟨b, off, none⟩ → b ≠ g) : IntsAt w' a n c l :=
  ⟨h.len, h.le, h.small, fun i hi => by
    obtain ⟨b, off, ha, hb, hc⟩ := h.cells i hi
    exact ⟨b, off, ha, Nat.lt_of_lt_of_le hb hg.size, hg.cell hc fun e => hd b off (by omega) ha (by injection e)⟩⟩
theorem putRow_map {α : Type} [Inhabited α] (enc : α → Value) (w : World) (blk : Nat) (d : Array α) : putRow enc w blk 0 d = putRow id w blk 0 (d.map enc) := by
  unfold putRow
  congr 1
  funext c
  unfold putCells
  congr 1
  funext k x
  simp only [Array.size_map]
  by_cases h : 0 ≤ k ∧ k < 0 + d.size
  · rw [if_pos h, if_pos h]
    have hk : k - 0 < d.size := by omega
    rw [getElem!_pos d _ hk, getElem!_pos (d.map enc) _ (by simpa using hk)]
    simp
  · rw [if_neg h, if_neg h]
theorem holds_map {α : Type} [Inhabited α] {enc : α → Value} {w : World} {blk : Nat} {d : Array α} (h : Holds id w blk 0 (d.map enc)) : Holds enc w blk 0 d := fun j hj => by
  have := h j (by simpa using hj)
  rw [getElem!_pos (d.map enc) _ (by simpa using hj)] at this
  rw [getElem!_pos d _ hj]
  simpa using this

def cfI (L : List (List Int)) (i j : Nat) : Int := cmpL (L.getD i []) (L.getD j [])
theorem ltI (L : List (List Int)) (i j : Nat) : ltOf (cfI L) i j = ltL (L.getD i []) (L.getD j []) := rfl
theorem swoI (L : List (List Int)) : SWO (ltOf (cfI L)) where
  irrefl _ := swoL.irrefl _
  trans _ _ _ h1 h2 := swoL.trans _ _ _ h1 h2
  ntrans _ _ _ h1 h2 := swoL.ntrans _ _ _ h1 h2
/-- a sorted permutation of the places gives the sorted list -/
theorem sorted_places {L : List (List Int)} {d' : Array Nat} (hp : PermIn 0 L.length (List.range L.length).toArray d') (hs : SortedIn (ltOf (cfI L)) 0 L.length d') :
    d'.size = L.length ∧ (∀ i, i < L.length → d'[i]! < L.length) ∧ d'.toList.map (fun i => L.getD i []) = L.mergeSort leL := by
  obtain ⟨hsz, _, hperm⟩ := hp
  have hsz' : d'.size = L.length := by simpa using hsz
  have e1 : d'.extract 0 L.length = d' := by rw [← hsz']; exact Array.extract_size
  have e2 : ((List.range L.length).toArray.extract 0 L.length) = (List.range L.length).toArray := by
    have h : (List.range L.length).toArray.size = L.length := by simp
    have := Array.extract_size (xs := (List.range L.length).toArray)
    rwa [h] at this
  rw [e1, e2] at hperm
  have hmem : ∀ i, i < L.length → d'[i]! < L.length := fun i hi => by
    have hi' : i < d'.size := by omega
    rw [getElem!_pos d' i hi']
    have : d'[i] ∈ d'.toList := by simp
    have := (hperm.mem_iff).1 this
    simpa using this
  refine ⟨hsz', hmem, ?_⟩
  have hmap : (List.range L.length).map (fun i => L.getD i []) = L := by
    apply List.ext_getElem (by simp)
    intro i h1 h2
    simp [List.getD, List.getElem?_eq_getElem h2]
  have hpm : (d'.toList.map fun i => L.getD i []).Perm L := by
    have := hperm.map (fun i => L.getD i [])
    rwa [hmap] at this
  refine List.Perm.eq_of_pairwise (le := fun x y => leL x y = true) ?_ ?_ ?_ (hpm.trans (List.mergeSort_perm _ _).symm)
  · intro a b _ _ h1 h2
    simp only [leL, Bool.not_eq_true'] at h1 h2
    exact ltL_anti a b h2 h1
  · rw [List.pairwise_iff_getElem]
    intro i j hi hj hij
    have hi' : i < d'.size := by simpa using hi
    have hj' : j < d'.size := by simpa using hj
    have := hs i j (Nat.zero_le _) hij (by omega)
    rw [getElem!_pos d' j hj', getElem!_pos d' i hi', ltI] at this
    simp only [leL, List.getElem_map, Array.getElem_toList, Bool.not_eq_true']
    exact this
  · refine List.pairwise_mergeSort ?_ ?_ _
    · intro a b c h1 h2
      simp only [leL, Bool.not_eq_true'] at h1 h2 ⊢
      exact swoL.ntrans c b a h2 h1
    · intro a b
      cases h : ltL b a with
      | false => simp [leL, h]
      | true =>
        cases h' : ltL a b with
        | false => simp [leL, h, h']
        | true =>
          have := swoL.trans _ _ _ h h'
          rw [swoL.irrefl] at this; cases this

set_option maxHeartbeats 1000000 in
theorem sortLists_calls {B E : Nat} {v : Value} {L : List (List Int)} {w : World} (hown : OwnL E w B v L) (h0 : 0 < L.length) (hs : L.length ≤ 1000000) (hB : B ≤ w.heap.size) :
    Calls Try.prog 107 #[v, .func (.func 64) #[] #[]] w fun e w' => e = .returned (.tuple #[]) ∧ OwnL E w' B v (L.mergeSort leL) ∧ Below B w w' := by
  obtain ⟨vs, hrow, hin⟩ := hown.has
  have hvl : vs.length = L.length := by have := hrow.1; simpa using this
  obtain ⟨g, cap, rfl, hlt, hH, hafter⟩ := own_flat hrow h0 hB
  let enc : Nat → Value := fun i => vs.getD i (.slice none 0 0)
  have henc : ∀ i, ∃ a n c, enc i = .slice a n c ∧ IntsAt w a n c (L.getD i []) ∧ ∀ b off, 0 < n → a = some ⟨b, off, none⟩ → b ≠ g := by
    intro i
    rcases Nat.lt_or_ge i L.length with hi | hi
    · obtain ⟨a, n, c, e, hr, hd⟩ := hin i hi
      exact ⟨a, n, c, by simp [enc, List.getD, e], hr, fun b off hn ha hb => hd b off hn ha (by rw [hb]; rfl)⟩
    · refine ⟨none, 0, 0, by simp [enc, List.getD, List.getElem?_eq_none (show vs.length ≤ i by omega)], ?_, fun b off hn => absurd hn (by omega)⟩
      rw [List.getD, List.getElem?_eq_none hi]
      exact IntsAt.nil _ _ _ (by omega)
  have hd0 : (List.range L.length).toArray.map enc = vs.toArray := by
    apply Array.ext (by simp [hvl])
    intro i h1 h2
    simp at h1 h2
    simp [enc, List.getD, List.getElem?_eq_getElem h2]
  have hone : OneCell enc := fun i => by
    obtain ⟨a, n, c, e, _, _⟩ := henc i
    rw [e]; rfl
  have eg : ∀ args w, (callFunc 64 args).run Try.prog w = .ok (.enter 64 args) w := enters_of Try.func64 (by kernel_rfl) rfl
  have hgrow : ∀ m os (dk : Array Nat), w.grownBy (sortWorld enc w g 0 m dk os) (some g) := fun m os dk => by
    unfold sortWorld
    rw [putRow_map]
    exact grownBy_flat _
  have hcon := Try.slices_SortFunc enc hone (cfI L) (swoI L) 64 #[] g 0 cap (List.range L.length).toArray w eg
    (fun m os dk _ x y => by
      obtain ⟨a, n, c, e, hr, hd⟩ := henc x
      obtain ⟨a', n', c', e', hr', hd'⟩ := henc y
      rw [e, e']
      exact (cmpL_calls a n c _ a' n' c' _ _ (ints_grown (hgrow m os dk) hr hd) (ints_grown (hgrow m os dk) hr' hd')).mono fun _ _ h => ⟨h.1, 0, #[], h.2.symm⟩)
    (holds_map (by rw [hd0]; exact hH)) hlt (by simp; omega)
  rw [show (List.range L.length).toArray.size = L.length by simp] at hcon
  refine hcon.mono ?_
  rintro e w' ⟨rfl, d', k, os, hp, hso, rfl⟩
  obtain ⟨hsz, hm, hres⟩ := sorted_places hp hso
  have hlen : (L.mergeSort leL).length = L.length := by simp
  have hw : sortWorld enc w g 0 k d' os = Go.Sort.grow (putRow id (Sort.ahead w k) g 0 (d'.toList.map enc).toArray) os := by
    unfold sortWorld
    rw [putRow_map]
    congr 2
    apply Array.ext (by simp)
    intro i h1 h2
    simp
  obtain ⟨ho, hb⟩ := hafter k os (d'.toList.map enc) (by simp [hsz, hvl])
  rw [← hw] at ho hb
  refine ⟨rfl, ⟨d'.toList.map enc, by rw [hlen]; exact ho, fun i hi => ?_⟩, hb⟩
  rw [hlen] at hi
  obtain ⟨a, n, c, e, hr, hd⟩ := henc d'[i]!
  have hi' : i < d'.size := by omega
  refine ⟨a, n, c, ?_, ?_, fun b off hn ha hbb => hd b off hn ha (by simpa [Value.ownBlock] using hbb.symm)⟩
  · rw [List.getElem?_map, Array.getElem?_toList, Array.getElem?_eq_getElem hi', Option.map_some, ← e, getElem!_pos d' i hi']
  · have : (L.mergeSort leL).getD i [] = L.getD d'[i]! [] := by
      rw [← hres, getElem!_pos d' i hi', List.getD, List.getElem?_map, Array.getElem?_toList, Array.getElem?_eq_getElem hi']; rfl
    rw [this]
    exact ints_grown (hgrow k os d') hr hd
end Go.Proofs.Ytoopgmoopmbfnaa
namespace Go.Proofs.Ytoopgmoopmbfnaa
open Go.RowKit Go.Proofs.Kv Go.Proofs.Snd

/-! ### what a valid table gives -/
theorem len_six {l : List Int} (hn : l.Nodup) (hr : ∀ x ∈ l, 0 ≤ x ∧ x ≤ 5) : l.length ≤ 6 := by
  have h1 : (l.mergeSort fun a b => decide (a ≤ b)).length = l.length := by simp
  rw [sort_sounds hn hr] at h1
  rw [← h1]
  exact Nat.le_trans (List.length_filter_le _ _) (by decide)
structure Good (L : List (List Int)) : Prop where
  n1 : 1 ≤ L.length
  n6 : L.length ≤ 6
  ne : ∀ s ∈ L, s ≠ []
  nd : L.flatten.Nodup
  rg : ∀ z ∈ L.flatten, 0 ≤ z ∧ z ≤ 5
  flat : L.flatten.length ≤ 6
  row : ∀ s ∈ L, s.length ≤ 6
theorem good_of {L : List (List Int)} (h : validT L = 0) : Good L := by
  obtain ⟨⟨h1, h6⟩, hok, hnd⟩ := validT_ok h
  have hrg : ∀ z ∈ L.flatten, 0 ≤ z ∧ z ≤ 5 := by
    intro z hz
    obtain ⟨s, hs, hzs⟩ := List.mem_flatten.1 hz
    exact okRow_mem (List.all_eq_true.1 hok s hs) z hzs
  have hfl := len_six hnd hrg
  refine ⟨h1, h6, fun s hs e => ?_, hnd, hrg, hfl, fun s hs => ?_⟩
  · have := List.all_eq_true.1 hok s hs
    rw [e] at this; simp [okRow] at this
  · exact Nat.le_trans (List.sublist_flatten_of_mem hs).length_le hfl

theorem mem_partFor {r s : Int} {j : Nat} {p : Int × Int} : p ∈ partFor r s j ↔ ∃ y : Nat, y < j ∧ 0 ≤ r ∧ r ≤ y ∧ p = (s, (y : Int)) := by
  unfold partFor
  simp only [List.mem_map, List.mem_filter, List.mem_range, Bool.and_eq_true, decide_eq_true_eq]
  constructor
  · rintro ⟨y, ⟨h1, h2, h3⟩, rfl⟩; exact ⟨y, h1, h2, h3, rfl⟩
  · rintro ⟨y, h1, h2, h3, rfl⟩; exact ⟨y, ⟨h1, h2, h3⟩, rfl⟩
theorem mem_rkTo {L : List (List Int)} {m : Nat} {p : Int × Int} : p ∈ rkTo L m ↔ ∃ i, i < m ∧ ∃ s ∈ L.getD i [], ∃ y : Nat, y < L.length ∧ i ≤ y ∧ p = (s, (y : Int)) := by
  unfold rkTo rkRow
  simp only [List.mem_flatMap, List.mem_range, List.take_length, mem_partFor]
  constructor
  · rintro ⟨i, hi, s, hs, y, h1, _, h3, e⟩; exact ⟨i, hi, s, hs, y, h1, by omega, e⟩
  · rintro ⟨i, hi, s, hs, y, h1, h3, e⟩; exact ⟨i, hi, s, hs, y, h1, by omega, by omega, e⟩
theorem mem_take_flatten {L : List (List Int)} {i y : Nat} {s : Int} (hi : i < L.length) (hiy : i ≤ y) (hs : s ∈ L.getD i []) : s ∈ (L.take (y + 1)).flatten := by
  refine List.mem_flatten.2 ⟨L.getD i [], ?_, hs⟩
  rw [List.getD, List.getElem?_eq_getElem hi, Option.getD_some]
  exact List.mem_take_iff_getElem.2 ⟨i, by omega, rfl⟩
/-- all names of a table, in order -/
def namesS (L : List (List Int)) : List (Int × Int) := (rkTo L L.length).mergeSort leP
theorem mem_namesS {L : List (List Int)} {p : Int × Int} : p ∈ namesS L ↔ p ∈ rkTo L L.length := by simp [namesS]
theorem namesS_pos {L : List (List Int)} (h : Good L) : 0 < (rkTo L L.length).length := by
  have hm : L.getD 0 [] ∈ L := by
    rw [List.getD, List.getElem?_eq_getElem (by have := h.n1; omega), Option.getD_some]; exact List.getElem_mem _
  obtain ⟨s, hs⟩ := List.exists_mem_of_ne_nil _ (h.ne _ hm)
  have : (s, ((0 : Nat) : Int)) ∈ rkTo L L.length := mem_rkTo.2 ⟨0, by have := h.n1; omega, s, hs, 0, by have := h.n1; omega, Nat.le_refl _, rfl⟩
  exact List.length_pos_of_mem this
theorem names_len {L : List (List Int)} (h : Good L) : (rkTo L L.length).length ≤ 3600 := by
  have h1 := rkTo_le (fun s hs => Nat.le_trans (h.row s hs) (by omega)) L.length (L := L)
  have h2 : L.length * (100 * L.length) ≤ 6 * (100 * 6) := Nat.mul_le_mul h.n6 (Nat.mul_le_mul_left _ h.n6)
  omega
theorem names_at {L : List (List Int)} {k : Nat} (hk : k < (rkTo L L.length).length) :
    ∃ (x : Int) (y : Nat), (namesS L).getD k (0, 0) = (x, (y : Int)) ∧ y < L.length ∧ x ∈ (L.take (y + 1)).flatten := by
  have hl : (namesS L).length = (rkTo L L.length).length := by simp [namesS]
  have hk' : k < (namesS L).length := by omega
  have hm : (namesS L).getD k (0, 0) ∈ namesS L := by simp [List.getD, List.getElem?_eq_getElem hk']
  obtain ⟨i, hi, s, hs, y, hy, hiy, e⟩ := mem_rkTo.1 (mem_namesS.1 hm)
  exact ⟨s, y, e, hy, mem_take_flatten hi hiy hs⟩

/-! ### classes -/
def classesS (L : List (List Int)) : List (List Int) := ((namesS L).map fun p => standL L p.1 p.2).mergeSort leL
set_option maxRecDepth 100000 in
set_option maxHeartbeats 1000000 in
theorem classes_calls (a : Option Addr) (n c : Nat) (L : List (List Int)) (w : World) (h : ListsAt w a n c L) (hg : Good L) :
    Calls Try.prog 62 #[.slice a n c] w fun e w' => ∃ v, e = .returned v ∧ MadeL 23 w w' v (classesS L) := by
  obtain ⟨i0, hi0, hz0, hz1, hz2⟩ := info_parts Try.infoInts
  have hlen : L.length = n := h.len
  have Hnm := hid_ (sndNames_calls a n c L w h (by have := hg.n6; omega) (fun s hs => Nat.le_trans (hg.row s hs) (by omega)) (namesS_pos hg))
  have HS : Hid (classesS L = ((namesS L).map fun p => standL L p.1 p.2).mergeSort leL) := hid_ rfl
  have Hat : Hid (∀ k, k < (rkTo L L.length).length → ∃ (x : Int) (y : Nat), (namesS L).getD k (0, 0) = (x, (y : Int)) ∧ y < n ∧ x ∈ (L.take (y + 1)).flatten) := hid_ fun k hk => by
    obtain ⟨x, y, h1, h2, h3⟩ := names_at hk
    exact ⟨x, y, h1, by omega, h3⟩
  have hN0 := namesS_pos hg
  have hN1 := names_len hg
  have hNl : (namesS L).length = (rkTo L L.length).length := by simp [namesS]
  go_enter Try.func62, Try.ntmps62
  go_wp2_with fail
  refine Hnm.out.mono ?_
  rintro e w1 ⟨v1, rfl, hm1⟩
  obtain ⟨a1, c1, rfl, hP1⟩ := hm1.at_
  have hlm : ((rkTo L L.length).mergeSort leP).length = (rkTo L L.length).length := by simp
  rw [hlm] at hP1 ⊢
  change PairsAt w1 a1 (rkTo L L.length).length c1 (namesS L) at hP1
  have Hb1 : Hid (Below w.heap.size w w1) := hid_ hm1.bel
  clear hm1 hlm Hnm
  generalize (rkTo L L.length).length = N at hP1 Hat hN0 hN1 hNl
  generalize hNS : namesS L = NS at hP1 Hat hNl HS
  have Hnl := hid_ hNl
  clear hNS hNl
  have hN2 : N ≤ 9223372036854775807 := by omega
  go_wp2
  go_loopw [3, 9] (fun v i wr => ∃ k : Nat, k ≤ N ∧ i = .int .i64 k ∧ OwnL 23 wr w1.heap.size v ((NS.take k).map fun p => standL L p.1 p.2) ∧ Below w1.heap.size w1 wr) (fun _ i _ => N - (intOf i).toNat)
  case atStart => exact ⟨0, by omega, rfl, OwnL.nil _ _ _, Below.refl _ _⟩
  case round =>
    obtain ⟨k, hk, rfl, hown, hbel⟩ := hrel
    have hsz := hbel.size
    by_cases hlt : k < N
    · obtain ⟨b1, off1, rfl, hb1, hc1, hc2⟩ := hP1.cells k hlt
      have hd1 := (hbel.cell (p := ⟨b1, off1 + k * 2, none⟩) hb1).trans hc1
      have hd2 := (hbel.cell (p := ⟨b1, off1 + k * 2 + 1, none⟩) hb1).trans hc2
      obtain ⟨x, y, hxy, hy, hx⟩ := Hat.out k hlt
      rw [hxy] at hd1 hd2
      simp only at hd1 hd2
      have Hsn : Hid ((NS.take (k + 1)).map (fun p => standL L p.1 p.2) = (NS.take k).map (fun p => standL L p.1 p.2) ++ [standL L x y]) := hid_ (by
        rw [Kv.take_snoc NS (0, 0) k (by rw [Hnl.out]; exact hlt), List.map_append, hxy]; rfl)
      have hba : Below w1.heap.size w1 (wr.alloc (.cells #[.int .i64 x, .int .i64 y] 71)) := hbel.alloc hsz _
      have hst := sndStand_calls a n c L x y (wr.alloc (.cells #[.int .i64 x, .int .i64 y] 71)) (h.below (Hb1.out.trans (hba.mono Hb1.out.size)) (Nat.le_refl _)) (by have := hg.flat; omega) hy hx hg.nd hg.rg
      have Hst := hid_ hst; clear hst hx hc1 hc2
      have Hll : Hid (((NS.take k).map fun p => standL L p.1 p.2).length + 1 ≤ 1000000) := hid_ (by
        rw [List.length_map, List.length_take]; omega)
      generalize (NS.take k).map (fun p => standL L p.1 p.2) = cur at hown Hsn Hll
      generalize standL L x y = l at Hst Hsn
      go_wp2_with fail
      refine Hst.out.mono ?_
      rintro e w2 ⟨v2, rfl, hm2⟩
      obtain ⟨a2, c2, hv2, hI2⟩ := hm2.at_
      subst hv2
      have hown2 := (hown.alloc (.cells #[.int .i64 x, .int .i64 y] 71)).below hm2.bel (Nat.le_refl _)
      have Hdis : Hid (∀ b off, 0 < l.length → a2 = some ⟨b, off, none⟩ → u3.ownBlock ≠ some b) := hid_ (by
        intro b off _ ha e
        have h1 := (hown.lt b e).2
        have h2 := (hm2.own.lt b (by rw [ha]; rfl)).1
        simp at h2; omega)
      have hb2 : Below w1.heap.size w1 w2 := hba.trans (hm2.bel.mono hba.size)
      have hsz2 := hb2.size
      clear hm2 hba
      go_wp2_with (at_builtin; refine wpList_push_list _ rfl (.tmp 13) (.tmp 17) _ rfl w1.heap.size 23 i0 Try.underlying22 hi0 hz0 hz1 hz2 u3 cur rfl hown2 a2 l.length c2 l 23 rfl hI2 Hdis.out Hll.out hsz2 ?_; intro v' w3 hown3 hg3 hat3)
      go_roundw
      case rel => exact ⟨k + 1, by omega, by go_num, by rw [Hsn.out]; exact hown3, belowL_app hb2 hsz2 hown2 hg3⟩
      case measure => simp [intOf]; omega
    · obtain rfl : k = N := by omega
      have hfull : NS.take k = NS := List.take_of_length_le (by rw [Hnl.out]; omega)
      rw [hfull] at hown
      have hll : (NS.map fun p => standL L p.1 p.2).length = k := by rw [List.length_map, Hnl.out]
      have Hso := hid_ (sortLists_calls hown (by omega) (by omega) hsz)
      have Hb2 : Hid (Below w.heap.size w wr) := hid_ (below_then Hb1.out hbel)
      clear hown
      go_wp2_with fail
      refine Hso.out.mono ?_
      rintro e w4 ⟨rfl, hown4, hb4⟩
      go_wp2
      go_ret
      exact ⟨_, rfl, by rw [HS.out]; exact hown4.base Hb1.out.size, Hb2.out.trans (hb4.mono Hb1.out.size)⟩

def classesRes (L : List (List Int)) : List (List Int) := if validT L = 0 then classesS L else []
set_option maxRecDepth 100000 in
theorem sndClasses_calls (a : Option Addr) (n c : Nat) (L : List (List Int)) (w : World) (h : ListsAt w a n c L) :
    Calls Try.prog 25 #[.slice a n c] w fun e w' => ∃ v, e = .returned (.tuple #[v, .int .i64 (validT L)]) ∧ MadeL 23 w w' v (classesRes L) := by
  have hval := sndValidate_calls a n c L w h
  by_cases he : validT L = 0
  · have Hf : Hid (classesRes L = classesS L) := hid_ (if_pos he)
    have hg := good_of he
    rw [he] at hval ⊢
    have Hv := hid_ hval; clear hval he
    go_enter Try.func25, Try.ntmps25
    go_wp2_with fail
    refine Hv.out.mono ?_
    rintro e w1 ⟨rfl, hb1⟩
    go_wp2_with (go_at_call 62; refine (classes_calls _ _ _ _ _ (h.below hb1 (Nat.le_refl _)) hg).mono ?_; rintro e w2 ⟨v, rfl, hm⟩)
    go_ret2
    exact ⟨v, rfl, by rw [Hf.out]; exact hm.after hb1⟩
  · have Hf : Hid (classesRes L = []) := hid_ (if_neg he)
    generalize validT L = er at hval he ⊢
    have hq : (er != 0) = true := by simpa using he
    have Hv := hid_ hval; clear hval he
    go_enter Try.func25, Try.ntmps25
    go_wp2_with fail
    refine Hv.out.mono ?_
    rintro e w1 ⟨rfl, hb1⟩
    go_wp2
    go_ret2
    exact ⟨_, rfl, by rw [Hf.out]; exact MadeL.none_ _ hb1⟩
end Go.Proofs.Ytoopgmoopmbfnaa
namespace Go.Proofs.Ytoopgmoopmbfnaa
open Go.RowKit Go.Proofs.Kv Go.Proofs.Snd

/-! ### slices.Equal -/
theorem equal_calls (a : Option Addr) (n c : Nat) (l : List Int) (a' : Option Addr) (n' c' : Nat) (l' : List Int) (w : World) (h : IntsAt w a n c l) (h' : IntsAt w a' n' c' l') :
    Calls Try.prog 97 #[.slice a n c, .slice a' n' c'] w fun e w' => e = .returned (.bool (Same l l')) ∧ ∃ q, w' = w.drewN q := by
  have hn : n ≤ 9223372036854775807 := Nat.le_trans h.le h.small
  by_cases hnn : n = n'
  · subst hnn
    have hb1 : ((n : Int) != (n : Int)) = false := by simp
    go_enter Try.func97, Try.ntmps97
    go_wp2
    go_loopw [13] (fun i wr => ∃ k q : Nat, k ≤ n ∧ i = .int .i64 k ∧ wr = w.drewN q ∧ ∀ j, j < k → l.getD j 0 = l'.getD j 0) (fun i _ => n - (intOf i).toNat)
    case atStart => exact ⟨0, 0, Nat.zero_le _, rfl, rfl, fun _ h => absurd h (by omega)⟩
    case round =>
      obtain ⟨k, q, hk, rfl, rfl, hall⟩ := hrel
      have Hall := hid_ hall; clear hall
      by_cases hlt : k < n
      · obtain ⟨b, off, rfl, hb, hcell⟩ := h.cells k hlt
        obtain ⟨b', off', rfl, hb', hcell'⟩ := h'.cells k hlt
        generalize hy : l.getD k 0 = y at hcell
        have Hy := hid_ hy; clear hy
        generalize hy' : l'.getD k 0 = y' at hcell'
        have Hy' := hid_ hy'; clear hy'
        by_cases he : y = y'
        · have hq : (y != y') = false := by simpa using he
          have He := hid_ he; clear he
          go_wp2
          go_quiet (fail)
          go_wp2
          go_roundw
          case rel => exact ⟨k + 1, _, by omega, by go_num, rfl, lt_snoc Hall.out (by rw [Hy.out, Hy'.out]; exact He.out)⟩
          case measure => simp [intOf]; omega
        · have hq : (y != y') = true := by simpa using he
          have Hf : Hid (Same l l' = false) := by
            refine hid_ (decide_eq_false fun e => he ?_)
            rw [← Hy.out, ← Hy'.out, e]
          have He := hid_ he; clear he
          go_wp2
          go_quiet (fail)
          go_wp2
          go_ret
          exact ⟨retB Hf.out, _, drewN2 _ _ _⟩
      · have Hf : Hid (Same l l' = true) := hid_ (decide_eq_true (ext_getD h.len h'.len fun j hj => Hall.out j (by omega)))
        go_wp2
        go_ret
        exact ⟨retB Hf.out, _, rfl⟩
  · have hb1 : ((n : Int) != (n' : Int)) = true := by simp; omega
    have Hf : Hid (Same l l' = false) := hid_ (decide_eq_false fun e => hnn (by rw [← h.len, ← h'.len, e]))
    have Hn := hid_ hnn; clear hnn
    go_enter Try.func97, Try.ntmps97
    go_wp2
    go_ret
    exact ⟨retB Hf.out, 0, rfl⟩

/-! ### the program's Stand -/
theorem rowTo_has {L : List (List Int)} {x : Int} (h : 0 ≤ rowTo L x) : ∃ i : Nat, rowTo L x = i ∧ i < L.length ∧ x ∈ L.getD i [] := by
  unfold rowTo at h ⊢
  split
  · rename_i hlt
    refine ⟨_, rfl, hlt, ?_⟩
    rw [List.getD, List.getElem?_eq_getElem hlt, Option.getD_some]
    have := List.findIdx_getElem (w := hlt)
    exact Has_iff.1 this
  · rename_i hge
    rw [if_neg hge] at h; omega
theorem stand_err_yes {L : List (List Int)} {x y : Int} {i : Nat} (h : validT L = 0) (hr : rowTo L x = i) (h1 : (i : Int) ≤ y) (h2 : y < L.length) : standErr L x y = 0 := by
  rw [standErr, if_pos h, hr, if_neg (by omega), if_pos]
  simp [Within]; omega
theorem stand_err_no {L : List (List Int)} {x y : Int} {i : Nat} (h : validT L = 0) (hr : rowTo L x = i) (h1 : y < i ∨ (L.length : Int) ≤ y) : standErr L x y = 4 := by
  rw [standErr, if_pos h, hr, if_neg (by omega), if_neg]
  simp [Within]; omega
theorem stand_res_no {L : List (List Int)} {x y : Int} (h : standErr L x y ≠ 0) : standRes L x y = [] := if_neg h
set_option maxRecDepth 100000 in
theorem sndStandX_calls (a : Option Addr) (n c : Nat) (L : List (List Int)) (x y : Int) (w : World) (h : ListsAt w a n c L) (hs : L.flatten.length ≤ 100000) :
    Calls Try.prog 48 #[.slice a n c, .agg #[.int .i64 x, .int .i64 y]] w fun e w' => ∃ v, e = .returned (.tuple #[v, .int .i64 (standErr L x y)]) ∧ Made 3 w w' v (standRes L x y) := by
  have hb0 : Below w.heap.size w (w.alloc (.cells #[.int .i64 x, .int .i64 y] 71)) := (Below.refl _ w).alloc (Nat.le_refl _) _
  have hc0 : (w.alloc (.cells #[.int .i64 x, .int .i64 y] 71)).cell? ⟨w.heap.size, 0, none⟩ = some (.int .i64 x) := by rw [World.cell?_alloc_at _ _ _ _ (by rfl)]; rfl
  have hc1 : (w.alloc (.cells #[.int .i64 x, .int .i64 y] 71)).cell? ⟨w.heap.size, 1, none⟩ = some (.int .i64 y) := by rw [World.cell?_alloc_at _ _ _ _ (by rfl)]; rfl
  have Hb0 := hid_ hb0; clear hb0
  have Hc0 := hid_ hc0; clear hc0
  have Hc1 := hid_ hc1; clear hc1
  have h1 := h.below Hb0.out (Nat.le_refl _)
  have hval := sndValidate_calls a n c L _ h1
  have Hn : Hid (L.length = n) := hid_ h.len
  by_cases he : validT L = 0
  · rw [he] at hval
    have Hv := hid_ hval; clear hval
    have hg := good_of he
    have hn6 : n ≤ 6 := by have := hg.n6; rw [Hn.out] at this; exact this
    by_cases hr : rowTo L x < 0
    · have He : Hid (standErr L x y = 4) := hid_ (by rw [standErr, if_pos he, if_pos hr])
      have Hf : Hid (standRes L x y = []) := hid_ (stand_res_no (by rw [He.out]; decide))
      have Hrow : Hid (∀ W, ListsAt W a n c L → Calls Try.prog 99 #[.slice a n c, .int .i64 x] W fun e w' => e = .returned (.tuple #[.int .i64 0, .bool false]) ∧ W = w') := hid_ fun W hW => by
        have := rowOf_calls a n c L x W hW
        rwa [rowP, if_pos hr] at this
      clear hr he
      go_enter Try.func48, Try.ntmps48
      go_wp2_with fail
      refine Hv.out.mono ?_
      rintro e w1 ⟨rfl, hb1⟩
      have g0 := (hb1.cell (p := ⟨w.heap.size, 0, none⟩) (by simp)).trans Hc0.out
      go_wp2_with fail
      refine (Hrow.out _ (h1.below hb1 (Nat.le_refl _))).mono ?_
      rintro e w2 ⟨rfl, rfl⟩
      go_wp2
      go_ret2
      exact ⟨_, by rw [He.out]; rfl, by rw [Hf.out]; exact Made.none_ _ (Hb0.out.trans (hb1.mono (by simp)))⟩
    · obtain ⟨i, hri, hil, hxi⟩ := rowTo_has (show 0 ≤ rowTo L x by omega)
      have Hrow : Hid (∀ W, ListsAt W a n c L → Calls Try.prog 99 #[.slice a n c, .int .i64 x] W fun e w' => e = .returned (.tuple #[.int .i64 i, .bool true]) ∧ W = w') := hid_ fun W hW => by
        have := rowOf_calls a n c L x W hW
        rwa [rowP, if_neg hr, hri] at this
      have Hno : Hid (y < i ∨ (n : Int) ≤ y → standErr L x y = 4 ∧ standRes L x y = []) := hid_ fun hh => by
        have := stand_err_no he hri (by rw [Hn.out]; exact hh)
        exact ⟨this, stand_res_no (by rw [this]; decide)⟩
      rw [Hn.out] at hil
      by_cases hy1 : y < i
      · have He : Hid (standErr L x y = 4) := hid_ (Hno.out (.inl hy1)).1
        have Hf : Hid (standRes L x y = []) := hid_ (Hno.out (.inl hy1)).2
        clear hr he hri hxi Hno
        go_enter Try.func48, Try.ntmps48
        go_wp2_with fail
        refine Hv.out.mono ?_
        rintro e w1 ⟨rfl, hb1⟩
        have g0 := (hb1.cell (p := ⟨w.heap.size, 0, none⟩) (by simp)).trans Hc0.out
        have g1 := (hb1.cell (p := ⟨w.heap.size, 1, none⟩) (by simp)).trans Hc1.out
        go_wp2_with fail
        refine (Hrow.out _ (h1.below hb1 (Nat.le_refl _))).mono ?_
        rintro e w2 ⟨rfl, rfl⟩
        go_wp2
        go_ret2
        exact ⟨_, by rw [He.out]; rfl, by rw [Hf.out]; exact Made.none_ _ (Hb0.out.trans (hb1.mono (by simp)))⟩
      · by_cases hy2 : (n : Int) ≤ y
        · have He : Hid (standErr L x y = 4) := hid_ (Hno.out (.inr hy2)).1
          have Hf : Hid (standRes L x y = []) := hid_ (Hno.out (.inr hy2)).2
          clear hr he hri hxi Hno
          go_enter Try.func48, Try.ntmps48
          go_wp2_with fail
          refine Hv.out.mono ?_
          rintro e w1 ⟨rfl, hb1⟩
          have g0 := (hb1.cell (p := ⟨w.heap.size, 0, none⟩) (by simp)).trans Hc0.out
          have g1 := (hb1.cell (p := ⟨w.heap.size, 1, none⟩) (by simp)).trans Hc1.out
          go_wp2_with fail
          refine (Hrow.out _ (h1.below hb1 (Nat.le_refl _))).mono ?_
          rintro e w2 ⟨rfl, rfl⟩
          go_wp2
          go_ret2
          exact ⟨_, by rw [He.out]; rfl, by rw [Hf.out]; exact Made.none_ _ (Hb0.out.trans (hb1.mono (by simp)))⟩
        · have He : Hid (standErr L x y = 0) := hid_ (stand_err_yes he hri (by omega) (by rw [Hn.out]; omega))
          have Hf : Hid (standRes L x y = standL L x y) := hid_ (by rw [standRes, He.out]; rfl)
          obtain ⟨y', rfl⟩ := Int.eq_ofNat_of_zero_le (show 0 ≤ y by omega)
          have Hst : Hid (∀ W, ListsAt W a n c L → Calls Try.prog 98 #[.slice a n c, .agg #[.int .i64 x, .int .i64 y']] W fun e w' => ∃ v, e = .returned v ∧ Made 3 W w' v (standL L x y')) := hid_ fun W hW =>
            sndStand_calls a n c L x y' W hW hs (by omega) (mem_take_flatten (by rw [Hn.out]; exact hil) (by omega) hxi) hg.nd hg.rg
          clear hr he hri hxi Hno
          go_enter Try.func48, Try.ntmps48
          go_wp2_with fail
          refine Hv.out.mono ?_
          rintro e w1 ⟨rfl, hb1⟩
          have g0 := (hb1.cell (p := ⟨w.heap.size, 0, none⟩) (by simp)).trans Hc0.out
          have g1 := (hb1.cell (p := ⟨w.heap.size, 1, none⟩) (by simp)).trans Hc1.out
          have hI := h1.below hb1 (Nat.le_refl _)
          go_wp2_with fail
          refine (Hrow.out _ hI).mono ?_
          rintro e w2 ⟨rfl, rfl⟩
          go_wp2_with fail
          refine (Hst.out _ hI).mono ?_
          rintro e w3 ⟨v, rfl, hm⟩
          go_wp2
          go_ret2
          exact ⟨v, by rw [He.out]; rfl, by rw [Hf.out]; exact hm.after (Hb0.out.trans (hb1.mono (by simp)))⟩
  · have He : Hid (standErr L x y = validT L) := hid_ (if_neg he)
    have Hf : Hid (standRes L x y = []) := hid_ (by rw [standRes, if_neg (by rw [He.out]; exact he)])
    generalize validT L = er at hval he He
    have hq : (er != 0) = true := by simpa using he
    have Hv := hid_ hval; clear hval he
    go_enter Try.func48, Try.ntmps48
    go_wp2_with fail
    refine Hv.out.mono ?_
    rintro e w1 ⟨rfl, hb1⟩
    go_wp2
    go_ret2
    exact ⟨_, by rw [He.out]; rfl, by rw [Hf.out]; exact Made.none_ _ (Hb0.out.trans (hb1.mono (by simp)))⟩
end Go.Proofs.Ytoopgmoopmbfnaa
namespace Go.Proofs.Ytoopgmoopmbfnaa
open Go.RowKit Go.Proofs.Kv Go.Proofs.Snd Go.Sort Go.Shelf Go.Proofs

/-! ### all names, by either way -/
def LtP (x y : Int × Int) : Prop := x.1 < y.1 ∨ x.1 = y.1 ∧ x.2 < y.2
theorem LtP_irr (a : Int × Int) : ¬ LtP a a := by unfold LtP; omega
theorem LtP_tr (a b c : Int × Int) : LtP a b → LtP b c → LtP a c := by unfold LtP; omega
theorem asc_part (r s : Int) (j : Nat) : (partFor r s j).Pairwise LtP := by
  unfold partFor
  rw [List.pairwise_map]
  refine List.Pairwise.filter _ (List.pairwise_lt_range.imp ?_)
  intro a b h
  exact .inr ⟨rfl, by simpa using h⟩
theorem part_fst {r s : Int} {j : Nat} {p : Int × Int} (h : p ∈ partFor r s j) : p.1 = s := by
  obtain ⟨y, _, _, _, rfl⟩ := mem_partFor.1 h; rfl
theorem asc_namesR (L : List (List Int)) : (namesR L).Pairwise LtP := by
  unfold namesR
  rw [List.pairwise_flatMap]
  refine ⟨fun s _ => asc_part _ _ _, sixSorted.imp ?_⟩
  intro a b h x hx y hy
  exact .inl (by rw [part_fst hx, part_fst hy]; exact h)
theorem getD_at {L : List (List Int)} {i : Nat} (h : i < L.length) : L.getD i [] = L[i] := by simp [List.getD, List.getElem?_eq_getElem h]
theorem good_row {L : List (List Int)} (h : Good L) {i : Nat} (hi : i < L.length) : (L.getD i []).Nodup := by
  rw [getD_at hi]; exact (List.pairwise_flatten.1 h.nd).1 _ (List.getElem_mem _)
theorem good_dis {L : List (List Int)} (h : Good L) {i j : Nat} (hij : i < j) (hj : j < L.length) : ∀ x ∈ L.getD i [], ∀ y ∈ L.getD j [], x ≠ y := by
  rw [getD_at hj, getD_at (by omega)]
  exact List.pairwise_iff_getElem.1 (List.pairwise_flatten.1 h.nd).2 i j (by omega) hj hij
theorem nodup_rkTo {L : List (List Int)} (h : Good L) : (rkTo L L.length).Nodup := by
  unfold rkTo List.Nodup
  rw [List.pairwise_flatMap]
  refine ⟨fun i hi => ?_, ?_⟩
  · have hi' : i < L.length := List.mem_range.1 hi
    unfold rkRow
    rw [List.take_length, List.pairwise_flatMap]
    refine ⟨fun s _ => (asc_part _ _ _).imp (fun h e => by subst e; exact LtP_irr _ h), List.Pairwise.imp ?_ (good_row h hi')⟩
    intro a b hab x hx y hy e
    exact hab (by rw [← part_fst hx, ← part_fst hy, e])
  · rw [List.pairwise_iff_getElem]
    intro i j hi hj hij x hx y hy e
    simp at hi hj
    simp only [List.getElem_range, rkRow, List.take_length] at hx hy
    obtain ⟨s, hs, hx⟩ := List.mem_flatMap.1 hx
    obtain ⟨t, ht, hy⟩ := List.mem_flatMap.1 hy
    exact good_dis h hij hj s hs t ht (by rw [← part_fst hx, ← part_fst hy, e])
theorem rowTo_in {L : List (List Int)} (h : Good L) {i : Nat} (hi : i < L.length) {s : Int} (hs : s ∈ L.getD i []) : rowTo L s = i :=
  rowTo_hit hi (fun j hj => by
    cases hh : Has (L.getD j []) s with
    | false => rfl
    | true => exact absurd rfl (good_dis h hj hi s (Has_iff.1 hh) s hs)) (Has_iff.2 hs)
theorem rowTo_some {L : List (List Int)} {x : Int} (h : 0 ≤ rowTo L x) : ∃ i : Nat, rowTo L x = i ∧ i < L.length ∧ x ∈ L.getD i [] := by
  unfold rowTo at h ⊢
  split
  · rename_i hlt
    refine ⟨_, rfl, hlt, ?_⟩
    rw [getD_at hlt]
    have := List.findIdx_getElem (w := hlt)
    exact Has_iff.1 this
  · rename_i hge
    rw [if_neg hge] at h; omega
theorem mem_namesR {L : List (List Int)} (h : Good L) {p : Int × Int} : p ∈ namesR L ↔ p ∈ rkTo L L.length := by
  unfold namesR namesFor
  simp only [List.mem_flatMap, mem_partFor, mem_rkTo]
  constructor
  · rintro ⟨s, hs, y, hy, h0, h1, rfl⟩
    obtain ⟨i, hi, hlt, hm⟩ := rowTo_some h0
    exact ⟨i, hlt, s, hm, y, hy, by omega, rfl⟩
  · rintro ⟨i, hi, s, hs, y, hy, hiy, rfl⟩
    have hr := rowTo_in h hi hs
    have hf : s ∈ L.flatten := List.mem_flatten.2 ⟨L.getD i [], by rw [getD_at hi]; exact List.getElem_mem _, hs⟩
    exact ⟨s, (mem_six s).2 (h.rg s hf), y, hy, by omega, by omega, rfl⟩
theorem asc_namesS {L : List (List Int)} (h : Good L) : (namesS L).Pairwise LtP := by
  have hs : (namesS L).Pairwise fun a b => leP a b = true := List.pairwise_mergeSort
    (fun a b c h1 h2 => by simp only [leP, Bool.not_eq_true'] at *; exact swoP.ntrans c b a h2 h1)
    (fun a b => by
      simp only [leP, ltP]
      simp; omega) _
  have hn : (namesS L).Nodup := (List.mergeSort_perm _ _).symm.nodup (nodup_rkTo h)
  refine (hs.and hn).imp ?_
  rintro a b ⟨h1, h2⟩
  simp only [leP, ltP] at h1
  simp at h1
  have h3 : ¬ (a.1 = b.1 ∧ a.2 = b.2) := fun e => h2 (Prod.ext e.1 e.2)
  unfold LtP; omega
theorem namesS_eq {L : List (List Int)} (h : Good L) : namesS L = namesR L :=
  asc_unique LtP_irr LtP_tr (asc_namesS h) (asc_namesR L) fun p => by rw [mem_namesS, mem_namesR h]

/-! ### different names stand for different sets -/
theorem nodup_at {F : List Int} (nd : F.Nodup) {i j : Nat} (hi : i < F.length) (hj : j < F.length) (e : F[i] = F[j]) : i = j := by
  rcases Nat.lt_trichotomy i j with h | h | h
  · exact absurd e (List.pairwise_iff_getElem.1 nd i j hi hj h)
  · exact h
  · exact absurd e.symm (List.pairwise_iff_getElem.1 nd j i hj hi h)
theorem mem_seg {F : List Int} (nd : F.Nodup) {k e j : Nat} (hj : j < F.length) : F[j] ∈ (F.take e).drop k ↔ k ≤ j ∧ j < e := by
  constructor
  · intro h
    obtain ⟨i, hi, hx⟩ := List.mem_iff_getElem.1 h
    simp at hi
    rw [List.getElem_drop, List.getElem_take] at hx
    have := nodup_at nd (by omega) hj hx
    omega
  · rintro ⟨h1, h2⟩
    refine List.mem_iff_getElem.2 ⟨j - k, by simp; omega, ?_⟩
    rw [List.getElem_drop, List.getElem_take]
    congr 1; omega
theorem seg_inj {F : List Int} (nd : F.Nodup) {k e k' e' : Nat} (hk : k < e) (he : e ≤ F.length) (hk' : k' < e') (he' : e' ≤ F.length)
    (hm : ∀ z, z ∈ (F.take e).drop k ↔ z ∈ (F.take e').drop k') : k = k' ∧ e = e' := by
  have h1 := (mem_seg nd (by omega)).1 ((hm (F[k]'(by omega))).1 ((mem_seg nd (by omega)).2 ⟨Nat.le_refl _, hk⟩))
  have h2 := (mem_seg nd (by omega)).1 ((hm (F[k']'(by omega))).2 ((mem_seg nd (by omega)).2 ⟨Nat.le_refl _, hk'⟩))
  have h3 := (mem_seg nd (by omega)).1 ((hm (F[e - 1]'(by omega))).1 ((mem_seg nd (by omega)).2 ⟨by omega, by omega⟩))
  have h4 := (mem_seg nd (by omega)).1 ((hm (F[e' - 1]'(by omega))).2 ((mem_seg nd (by omega)).2 ⟨by omega, by omega⟩))
  omega
theorem take_flat_eq (L : List (List Int)) (k : Nat) : (L.take k).flatten = L.flatten.take (L.take k).flatten.length := by
  have : L.flatten = (L.take k).flatten ++ (L.drop k).flatten := by rw [← List.flatten_append, List.take_append_drop]
  rw [this, List.take_left']
  rfl
theorem mem_standL {L : List (List Int)} (h : Good L) {x y z : Int} : z ∈ standL L x y ↔ z ∈ from_ x (L.take (y.toNat + 1)).flatten := by
  rw [standL, Go.Proofs.Snd.mem_sorted]
  refine ⟨fun h => h.1, fun hz => ⟨hz, h.rg z ?_⟩⟩
  have h1 : z ∈ (L.take (y.toNat + 1)).flatten := (List.dropWhile_sublist _).subset hz
  rw [take_flat_eq] at h1
  exact List.mem_of_mem_take h1
theorem names_in {L : List (List Int)} {p : Int × Int} (h : p ∈ namesR L) (hg : Good L) : ∃ y : Nat, p.2 = y ∧ y < L.length ∧ p.1 ∈ (L.take (y + 1)).flatten := by
  obtain ⟨i, hi, s, hs, y, hy, hiy, rfl⟩ := mem_rkTo.1 ((mem_namesR hg).1 h)
  exact ⟨y, rfl, hy, mem_take_flatten hi hiy hs⟩
theorem flat_mono {L : List (List Int)} (h : Good L) {y y' : Nat} (hy : y < y') (hl : y' < L.length) : (L.take (y + 1)).flatten.length < (L.take (y' + 1)).flatten.length := by
  have h1 : (L.take (y + 1)).flatten.length ≤ (L.take y').flatten.length := by
    have e : L.take (y + 1) = (L.take y').take (y + 1) := by rw [List.take_take, Nat.min_eq_left (by omega)]
    rw [e]; exact flat_take_le _ _
  have h2 := flat_take_len hl
  have h3 : 0 < (L.getD y' []).length := List.length_pos_iff.2 (h.ne _ (by rw [getD_at hl]; exact List.getElem_mem _))
  omega
theorem stand_inj {L : List (List Int)} (hg : Good L) {p q : Int × Int} (hp : p ∈ namesR L) (hq : q ∈ namesR L) (e : standL L p.1 p.2 = standL L q.1 q.2) : p = q := by
  obtain ⟨y, hy, hyl, hym⟩ := names_in hp hg
  obtain ⟨y', hy', hyl', hym'⟩ := names_in hq hg
  obtain ⟨p1, p2⟩ := p
  obtain ⟨q1, q2⟩ := q
  simp only at hy hy' hym hym' e
  subst hy; subst hy'
  obtain ⟨f1, f2⟩ := from_idx hym
  obtain ⟨f1', f2'⟩ := from_idx hym'
  have hm : ∀ z, z ∈ from_ p1 (L.take (y + 1)).flatten ↔ z ∈ from_ q1 (L.take (y' + 1)).flatten := fun z => by
    rw [← Int.toNat_natCast y, ← Int.toNat_natCast y', ← mem_standL hg, ← mem_standL hg, e]
  have g1 : (L.take (y + 1)).flatten[(L.take (y + 1)).flatten.findIdx fun z => z == p1] = p1 := by
    have := List.findIdx_getElem (w := f2); simpa using this
  have g1' : (L.take (y' + 1)).flatten[(L.take (y' + 1)).flatten.findIdx fun z => z == q1] = q1 := by
    have := List.findIdx_getElem (w := f2'); simpa using this
  rw [f1, f1'] at hm
  generalize hk : (L.take (y + 1)).flatten.findIdx (fun z => z == p1) = k at f2 g1 hm
  generalize hk' : (L.take (y' + 1)).flatten.findIdx (fun z => z == q1) = k' at f2' g1' hm
  have ht := take_flat_eq L (y + 1)
  have ht' := take_flat_eq L (y' + 1)
  have hle : (L.take (y + 1)).flatten.length ≤ L.flatten.length := flat_take_le _ _
  have hle' : (L.take (y' + 1)).flatten.length ≤ L.flatten.length := flat_take_le _ _
  have hmono := @flat_mono L hg y y'
  have hmono' := @flat_mono L hg y' y
  generalize (L.take (y + 1)).flatten = T at *
  generalize (L.take (y' + 1)).flatten = T' at *
  obtain ⟨s1, s2⟩ := seg_inj hg.nd f2 hle f2' hle' (fun z => by rw [← ht, ← ht']; exact hm z)
  have hyy : y = y' := by
    rcases Nat.lt_trichotomy y y' with h | h | h
    · have := hmono h hyl'; omega
    · exact h
    · have := hmono' h hyl; omega
  subst hyy
  subst s1
  have hTT : T = T' := by rw [ht, ht', s2]
  subst hTT
  rw [← g1, ← g1']

/-! ### all classes, by either way -/
def LtL (x y : List Int) : Prop := ltL x y = true
theorem LtL_irr (a : List Int) : ¬ LtL a a := by unfold LtL; rw [swoL.irrefl]; simp
theorem LtL_tr (a b c : List Int) : LtL a b → LtL b c → LtL a c := fun h k => swoL.trans _ _ _ h k
theorem before_lt : ∀ l m : List Int, beforeL l m = ltL l m
  | [], [] => rfl
  | [], _ :: _ => rfl
  | _ :: _, [] => rfl
  | x :: l, y :: m => by
    have ih := before_lt l m
    rw [beforeL, ltL, cmpL]
    rcases cmpI_cases x y with ⟨h0, h1⟩ | ⟨h0, h1⟩ | ⟨h0, h1⟩
    · rw [if_neg (by omega), h1]; simpa using h0
    · rw [if_neg (by omega), h1]; simp; omega
    · rw [if_pos h0, if_pos h1, ih]; rfl
theorem insertL_nil (x : List Int) : insertL [] x = [x] := rfl
theorem insertL_cons (y : List Int) (L : List (List Int)) (x : List Int) : insertL (y :: L) x = if beforeL y x then y :: insertL L x else if y = x then y :: L else x :: y :: L := by
  unfold insertL insAt
  cases h : beforeL y x with
  | true =>
    simp only [List.takeWhile_cons, h, if_true, List.length_cons, Nat.add_lt_add_iff_right, List.take_succ_cons, List.drop_succ_cons, List.cons_append]
    have : (y :: L).getD ((L.takeWhile fun y => beforeL y x).length + 1) [] = L.getD (L.takeWhile fun y => beforeL y x).length [] := by simp [List.getD]
    rw [this]
    split <;> rfl
  | false =>
    simp only [List.takeWhile_cons, h, List.length_cons]
    by_cases e : y = x
    · subst e; simp [List.getD]
    · simp [List.getD, e]
theorem mem_insertL {L : List (List Int)} {x z : List Int} : z ∈ insertL L x ↔ z = x ∨ z ∈ L := by
  induction L with
  | nil => simp [insertL_nil]
  | cons y L ih =>
    rw [insertL_cons]
    split
    · rw [List.mem_cons, ih, List.mem_cons]
      constructor
      · rintro (h | h | h)
        · exact .inr (.inl h)
        · exact .inl h
        · exact .inr (.inr h)
      · rintro (h | h | h)
        · exact .inr (.inl h)
        · exact .inl h
        · exact .inr (.inr h)
    · split
      · rename_i e; subst e; simp
      · simp
theorem asc_insertL {L : List (List Int)} (x : List Int) (h : L.Pairwise LtL) : (insertL L x).Pairwise LtL := by
  induction L with
  | nil => simp [insertL_nil]
  | cons y L ih =>
    obtain ⟨h1, h2⟩ := List.pairwise_cons.1 h
    rw [insertL_cons]
    cases hb : beforeL y x with
    | true =>
      simp only [if_true]
      refine List.pairwise_cons.2 ⟨fun z hz => ?_, ih h2⟩
      rcases mem_insertL.1 hz with e | hz
      · rw [e]; unfold LtL; rw [← before_lt]; exact hb
      · exact h1 z hz
    | false =>
      simp only [Bool.false_eq_true, if_false]
      by_cases e : y = x
      · rw [if_pos e]; exact h
      · rw [if_neg e]
        have hxy : LtL x y := by
          unfold LtL
          cases hh : ltL x y with
          | true => rfl
          | false => exact absurd (ltL_anti x y hh (by rw [← before_lt]; exact hb)).symm e
        refine List.pairwise_cons.2 ⟨fun z hz => ?_, h⟩
        rcases List.mem_cons.1 hz with e | hz
        · rw [e]; exact hxy
        · exact LtL_tr _ _ _ hxy (h1 z hz)
theorem fold_ins : ∀ (M : List (List Int)) {acc : List (List Int)}, acc.Pairwise LtL → (M.foldl insertL acc).Pairwise LtL ∧ ∀ z, z ∈ M.foldl insertL acc ↔ z ∈ acc ∨ z ∈ M
  | [], acc, h => ⟨h, fun z => by simp⟩
  | x :: M, acc, h => by
    obtain ⟨h1, h2⟩ := fold_ins M (asc_insertL x h)
    refine ⟨h1, fun z => ?_⟩
    rw [List.foldl_cons, h2, mem_insertL, List.mem_cons]
    constructor
    · rintro ((h | h) | h)
      · exact .inr (.inl h)
      · exact .inl h
      · exact .inr (.inr h)
    · rintro (h | h | h)
      · exact .inl (.inr h)
      · exact .inl (.inl h)
      · exact .inr h
def foldI (M : List (List Int)) : List (List Int) := M.foldl insertL []
def classesR (L : List (List Int)) : List (List Int) := foldI ((namesR L).map fun p => standL L p.1 p.2)
theorem leL_total (a b : List Int) : (leL a b || leL b a) = true := by
  simp only [leL]
  cases h : ltL b a with
  | false => simp
  | true =>
    cases h' : ltL a b with
    | false => simp
    | true =>
      have := swoL.trans _ _ _ h h'
      rw [swoL.irrefl] at this; cases this
theorem leL_tr (a b c : List Int) : leL a b = true → leL b c = true → leL a c = true := by
  simp only [leL, Bool.not_eq_true']
  exact fun h1 h2 => swoL.ntrans c b a h2 h1
theorem sortL_asc {M : List (List Int)} (h : M.Nodup) : (M.mergeSort leL).Pairwise LtL := by
  have hs : (M.mergeSort leL).Pairwise fun a b => leL a b = true := List.pairwise_mergeSort leL_tr leL_total M
  refine (hs.and ((List.mergeSort_perm M leL).symm.nodup h)).imp ?_
  rintro a b ⟨h1, h2⟩
  simp only [leL, Bool.not_eq_true'] at h1
  unfold LtL
  cases hh : ltL a b with
  | true => rfl
  | false => exact absurd (ltL_anti a b hh h1) h2
/-- lists that are sorted, and lists that are put one by one, are the same if none is twice -/
theorem sortL_eq {M : List (List Int)} (h : M.Nodup) : M.mergeSort leL = foldI M := by
  obtain ⟨h1, h2⟩ := fold_ins M (acc := []) List.Pairwise.nil
  exact asc_unique LtL_irr LtL_tr (sortL_asc h) h1 fun x => by
    unfold foldI
    rw [h2, (List.mergeSort_perm M leL).mem_iff]; simp
theorem nodup_namesR (L : List (List Int)) : (namesR L).Nodup := (asc_namesR L).imp (fun h e => by subst e; exact LtP_irr _ h)
theorem nodup_map_on {α β : Type} {f : α → β} : ∀ {l : List α}, l.Nodup → (∀ x ∈ l, ∀ y ∈ l, f x = f y → x = y) → (l.map f).Nodup
  | [], _, _ => List.nodup_nil
  | x :: l, hn, h => by
    obtain ⟨h1, h2⟩ := List.nodup_cons.1 hn
    rw [List.map_cons, List.nodup_cons]
    refine ⟨fun hm => ?_, nodup_map_on h2 fun a ha b hb => h a (by simp [ha]) b (by simp [hb])⟩
    obtain ⟨y, hy, e⟩ := List.mem_map.1 hm
    exact h1 (h x (by simp) y (by simp [hy]) e.symm ▸ hy)
theorem nodup_stands {L : List (List Int)} (h : Good L) : ((namesR L).map fun p => standL L p.1 p.2).Nodup :=
  nodup_map_on (nodup_namesR L) fun _ hx _ hy e => stand_inj h hx hy e
theorem classesS_eq {L : List (List Int)} (h : Good L) : classesS L = classesR L := by
  unfold classesS classesR
  rw [namesS_eq h]
  exact sortL_eq (nodup_stands h)
theorem classes_len (L : List (List Int)) : (classesS L).length = (namesS L).length := by simp [classesS]
end Go.Proofs.Ytoopgmoopmbfnaa
