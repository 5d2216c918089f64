import Derived.Test.YtoopgmoopmbfnaaSndL
namespace Go.Proofs.Ytoopgmoopmbfnaa
open Go.RowKit Go.Proofs.Kv Go.Proofs.Snd

/-! ### names: the ranks -/
def rkRow (L : List (List Int)) (i k : Nat) : List (Int × Int) := ((L.getD i []).take k).flatMap fun s => partFor i s L.length
def rkTo (L : List (List Int)) (k : Nat) : List (Int × Int) := (List.range k).flatMap fun i => rkRow L i (L.getD i []).length
theorem rkTo_snoc (L : List (List Int)) (i : Nat) : rkTo L (i + 1) = rkTo L i ++ rkRow L i (L.getD i []).length := by
  rw [rkTo, List.range_succ, List.flatMap_append]; simp [rkTo]
theorem rkRow_snoc {L : List (List Int)} {i k : Nat} (h : k < (L.getD i []).length) : rkRow L i (k + 1) = rkRow L i k ++ partFor i ((L.getD i []).getD k 0) L.length := by
  rw [rkRow, Kv.take_snoc _ 0 k h, List.flatMap_append]; simp [rkRow]
theorem flatMap_le {α β : Type} {f : α → List β} {m : Nat} : ∀ {l : List α}, (∀ x ∈ l, (f x).length ≤ m) → (l.flatMap f).length ≤ l.length * m
  | [], _ => by simp
  | x :: l, h => by
    have h1 := h x (by simp)
    have h2 := flatMap_le (l := l) (f := f) (m := m) fun y hy => h y (by simp [hy])
    rw [List.flatMap_cons, List.length_append, List.length_cons, Nat.succ_mul]; omega
theorem rkRow_le (L : List (List Int)) (i k : Nat) : (rkRow L i k).length ≤ k * L.length := by
  refine Nat.le_trans (flatMap_le fun s _ => partFor_le _ _ _) (Nat.mul_le_mul_right _ ?_)
  rw [List.length_take]; omega
theorem rkTo_le {L : List (List Int)} (h : ∀ s ∈ L, s.length ≤ 100) (k : Nat) : (rkTo L k).length ≤ k * (100 * L.length) := by
  have : ∀ i ∈ List.range k, (rkRow L i (L.getD i []).length).length ≤ 100 * L.length := fun i _ => by
    refine Nat.le_trans (rkRow_le _ _ _) (Nat.mul_le_mul_right _ ?_)
    rcases Nat.lt_or_ge i L.length with hi | hi
    · rw [List.getD, List.getElem?_eq_getElem hi, Option.getD_some]; exact h _ (List.getElem_mem hi)
    · rw [List.getD, List.getElem?_eq_none hi]; simp
  have := flatMap_le this
  rwa [List.length_range] at this

theorem set_two {xs : List Value} {k : Nat} {a b : Value} (h : 2 * k + 1 < xs.length) : ((xs.set (k * 2) a).set (k * 2 + 1) b).take (2 * (k + 1)) = xs.take (2 * k) ++ [a, b] := by
  have e : 2 * (k + 1) = 2 * k + 1 + 1 := by omega
  rw [e, Kv.take_snoc _ (.bool false) (2 * k + 1) (by simpa using h), Kv.take_snoc _ (.bool false) (2 * k) (by simp; omega), List.take_set, List.take_set, List.set_eq_of_length_le (by simp; omega), List.set_eq_of_length_le (by simp; omega), List.append_assoc]
  congr 1
  rw [Nat.mul_comm k 2]
  have h1 : 2 * k < xs.length := by omega
  simp [List.getD, h, h1]

theorem Try.infoRank : (Try.prog.info? 127).map (fun i => (i.zero, i.size, i.bytes)) = some (some (.agg #[.int .i64 0, .int .i64 0]), 2, 16) := by kernel_rfl

set_option maxRecDepth 100000 in
set_option maxHeartbeats 1000000 in
theorem sndNames_calls (a : Option Addr) (n c : Nat) (L : List (List Int)) (w : World) (h : ListsAt w a n c L) (hs : n ≤ 50) (hs2 : ∀ s ∈ L, s.length ≤ 100) (h0 : 0 < (rkTo L L.length).length) :
    Calls Try.prog 95 #[.slice a n c] w fun e w' => ∃ v, e = .returned v ∧ MadeP 71 w w' v ((rkTo L L.length).mergeSort leP) := by
  obtain ⟨i0, hi0, hz0, hz1, hz2⟩ := info_parts Try.infoRank
  have hn : n ≤ 9223372036854775807 := Nat.le_trans h.le h.small
  have Hlen : Hid (L.length = n) := hid_ h.len
  have Hle : Hid (∀ i, i ≤ n → (rkTo L i).length ≤ 250000) := hid_ fun i hi => by
    have h1 := rkTo_le hs2 i
    rw [h.len] at h1
    have h2 : i * (100 * n) ≤ 50 * (100 * 50) := Nat.mul_le_mul (by omega) (Nat.mul_le_mul_left _ hs)
    omega
  have Hfull : Hid (rkTo L L.length = rkTo L n) := hid_ (by rw [h.len])
  rw [Hfull.out] at h0
  have H0 := hid_ h0; clear h0
  go_enter Try.func95, Try.ntmps95
  go_wp2
  go_loopw [3, 14] (fun v i wr => ∃ k : Nat, k ≤ n ∧ i = .int .i64 k ∧ wr.ownsRow w.heap.size 127 2 v (rkTo L k).length ((rkTo L k).flatMap encN) ∧ Below w.heap.size w wr) (fun _ i _ => n - (intOf i).toNat)
  case atStart => exact ⟨0, by omega, rfl, World.ownsRow_nil _ _ _ _, Below.refl _ _⟩
  case round =>
    obtain ⟨i, hi, rfl, hown, hbel⟩ := hrel
    have hsz := hbel.size
    by_cases hlt : i < n
    · obtain ⟨b, off, a1, n1, c1, rfl, hb, hcell, hrow⟩ := h.cells i hlt
      have hcellw := (hbel.cell (p := ⟨b, off + i, none⟩) hb).trans hcell
      have hn1 : n1 ≤ 9223372036854775807 := Nat.le_trans hrow.le hrow.small
      have Hn1 : Hid (n1 ≤ 100) := hid_ (by
        have hil : i < L.length := by rw [Hlen.out]; exact hlt
        rw [← hrow.len, List.getD, List.getElem?_eq_getElem hil, Option.getD_some]; exact hs2 _ (List.getElem_mem hil))
      have Hnext := hid_ (rkTo_snoc L i)
      have Hl := hid_ (Hle.out i hi)
      have Hrowle : Hid (∀ k, k ≤ 100 → (rkRow L i k).length ≤ 5000) := hid_ fun k hk => by
        have h1 := rkRow_le L i k
        rw [Hlen.out] at h1
        have : k * n ≤ 100 * 50 := Nat.mul_le_mul hk hs
        omega
      have Hsn : Hid (∀ k, k < n1 → rkRow L i (k + 1) = rkRow L i k ++ partFor i ((L.getD i []).getD k 0) n) := hid_ fun k hk => by
        rw [rkRow_snoc (by rw [hrow.len]; exact hk), Hlen.out]
      have Hend : Hid (rkRow L i n1 = rkRow L i (L.getD i []).length) := hid_ (by rw [hrow.len])
      have Hz : Hid (rkRow L i 0 = []) := hid_ (by simp [rkRow])
      generalize rkTo L i = cur at hown Hnext Hl
      go_wp2
      obtain ⟨wo, rfl⟩ : ∃ wo : World, wo = wr := ⟨_, rfl⟩
      go_loopw [3, 21] (fun v j wr => ∃ k : Nat, k ≤ n1 ∧ j = .int .i64 k ∧ wr.ownsRow w.heap.size 127 2 v (cur ++ rkRow L i k).length ((cur ++ rkRow L i k).flatMap encN) ∧ Below w.heap.size w wr) (fun _ i _ => n1 - (intOf i).toNat)
      case atStart => exact ⟨0, by omega, rfl, by rw [Hz.out, List.append_nil]; exact hown, hbel⟩
      case round =>
        obtain ⟨k, hk, rfl, hown1, hbel1⟩ := hrel
        have hsz1 := hbel1.size
        by_cases hlt1 : k < n1
        · obtain ⟨b1, off1, rfl, hb1, hcell1⟩ := hrow.cells k hlt1
          have hcellx := (hbel1.cell (p := ⟨b1, off1 + k, none⟩) hb1).trans hcell1
          have Hsnk := hid_ (Hsn.out k hlt1)
          have Hl1 : Hid ((cur ++ rkRow L i k).length ≤ 255000) := hid_ (by
            have h1 := Hrowle.out k (by have := Hn1.out; omega)
            have h2 := Hl.out
            rw [List.length_append]; omega)
          generalize (L.getD i []).getD k 0 = x at hcell1 hcellx Hsnk
          have Hcat : Hid (cur ++ rkRow L i (k + 1) = (cur ++ rkRow L i k) ++ partFor i x n) := hid_ (by rw [Hsnk.out, List.append_assoc])
          generalize cur ++ rkRow L i k = cur1 at hown1 Hl1 Hcat
          go_wp2
          obtain ⟨wo1, rfl⟩ : ∃ wo1 : World, wo1 = wr := ⟨_, rfl⟩
          go_loopw [3, 8] (fun v i' wr => ∃ j : Nat, i ≤ j ∧ j ≤ n ∧ i' = .int .i64 j ∧ wr.ownsRow w.heap.size 127 2 v (cur1 ++ partFor i x j).length ((cur1 ++ partFor i x j).flatMap encN) ∧ Below w.heap.size w wr) (fun _ i _ => n - (intOf i).toNat)
          case atStart => exact ⟨i, by omega, by omega, rfl, by rw [partFor_start (by omega), List.append_nil]; exact hown1, hbel1⟩
          case round =>
            obtain ⟨j, hj0, hj, rfl, hown2, hbel2⟩ := hrel
            have hsz2 := hbel2.size
            by_cases hlt2 : j < n
            · have Hs := hid_ (partFor_snoc (r := (i : Int)) (s := x) (j := j) (by omega) (by omega))
              have hs1 : (cur1 ++ partFor i x j).length + 1 ≤ 1000000 := by
                have h1 := partFor_le i x j
                have h2 := Hl1.out
                rw [List.length_append]; omega
              go_wp2_with (at_builtin; refine wpList_append_pair _ rfl (.tmp 32) (.tmp 36) _ rfl w.heap.size 127 i0 Try.underlying126 hi0 hz0 hz1 hz2 _ _ _ rfl hown2 _ _ _ rfl hs1 hsz2 ?_; intro v' w1 hown1 hg1)
              go_roundw
              case rel => exact ⟨j + 1, by omega, by omega, by go_num, by rw [Hs.out, ← List.append_assoc, List.length_append]; exact hown1, below_app hbel2 hsz2 hown2 hg1⟩
              case measure => simp [intOf]; omega
            · obtain rfl : j = n := by omega
              go_wp2
              go_roundw
              case rel => exact ⟨k + 1, by omega, by go_num, by rw [Hcat.out]; exact hown2, hbel2⟩
              case measure => simp [intOf]; omega
        · obtain rfl : k = n1 := by omega
          go_wp2
          go_roundw
          case rel => exact ⟨i + 1, by omega, by go_num, by rw [Hnext.out, ← Hend.out]; exact hown1, hbel1⟩
          case measure => simp [intOf]; omega
    · obtain rfl : i = n := by omega
      have Hl := hid_ (Hle.out i (Nat.le_refl _))
      generalize hq : rkTo L i = ranks at hown H0 Hl
      have Hq : Hid (rkTo L L.length = ranks) := hid_ (by rw [Hfull.out, hq])
      clear hq
      have Hso := hid_ (sortRanks_calls hown H0.out (by have := Hl.out; omega) hsz)
      clear hlt hi hs hn Hle Hfull hs2
      go_wp2_with fail
      refine Hso.out.mono ?_
      rintro e w2 ⟨rfl, hown2, hb2⟩
      have hl2 : (ranks.mergeSort leP).length = ranks.length := by simp
      obtain ⟨a3, c3, hv3, hP3⟩ := PairsAt.own hown2
      subst hv3
      have Hb2 : Hid (Below w.heap.size w w2) := hid_ (hbel.trans hb2)
      generalize hS : ranks.mergeSort leP = S at hown2 hl2 hP3
      have HS := hid_ hS; clear hS Hso hown hbel hb2
      obtain ⟨j0, hj0, hy0, hy1, hy2⟩ := info_parts Try.infoName
      have hsz2 := Hb2.out.size
      obtain ⟨wm, hmk, hmo, hmg⟩ := Go.run_make_full (P := Try.prog) (w := w2) w.heap.size 66 71 j0 (.agg #[.int .i64 0, .int .i64 0]) 2 Try.underlying66 hj0 hy0 hy1 .i64 .i64 ranks.length (by have := Hl.out; rw [hy2]; omega) (by have := Hl.out; unfold maxLen; omega) hsz2
      have hPm := hP3.below ((Below.refl _ w2).grown hmg (Nat.le_refl _) fun r e => by cases e) (Nat.le_refl _)
      have Hbm : Hid (Below w.heap.size w wm) := hid_ (Hb2.out.grown hmg hsz2 fun r e => by cases e)
      have hg2 : w.heap.size ≤ w2.heap.size := hsz2
      have hgm : w2.heap.size < wm.heap.size := by
        rcases hmo.2 with ⟨hz, _⟩ | ⟨g, cap, cur, hv, _, hb, _⟩
        · cases hz
        · cases hv; exact (Array.getElem?_eq_some_iff.1 hb).1
      generalize (madeCells _ _).toList = xs0 at hmo
      generalize hgg : w2.heap.size = g at hmo hmk hg2 hgm
      obtain ⟨b3, off3, rfl, hb3, -⟩ := hP3.cells 0 H0.out
      rw [hgg] at hb3
      clear hP3 hown2 hmg hgg hsz hsz2
      have HS2 : Hid (rkTo L L.length = ranks ∧ ranks.mergeSort leP = S) := hid_ ⟨Hq.out, HS.out⟩
      have Hl3 := hid_ hl2
      clear hl2 h i0 hi0 hz0 hz1 hz2 hj0 hy0 hy1 hy2 Hlen Hb2 Hq HS
      generalize hN : ranks.length = N at hmo hPm hmk H0 Hl Hl3
      clear hN
      have hNs : N ≤ 9223372036854775807 := by have := Hl.out; omega
      go_wp2
      go_loopw [47] (fun i wr => ∃ k : Nat, ∃ xs, k ≤ N ∧ i = .int .i64 k ∧ wr.ownsRow w.heap.size 71 2 (.slice (some ⟨g, 0, none⟩) N N) N xs ∧ xs.take (2 * k) = (S.take k).flatMap encN ∧ wm.grownBy wr (some g)) (fun i _ => N - (intOf i).toNat)
      case atStart => exact ⟨0, xs0, by omega, rfl, hmo, by simp, World.grownBy.refl _ _⟩
      case round =>
        obtain ⟨k, xs, hk, rfl, hown, htk, hgr⟩ := hrel
        have hxl : xs.length = N * 2 := hown.1
        by_cases hlt : k < N
        · obtain ⟨b4, off4, he4, hb4, hc41, hc42⟩ := hPm.cells k hlt
          injection he4 with he4; injection he4 with e1 e2; subst e1; subst e2
          have hne : ∀ q : Addr, q.block = b3 → some q.block ≠ some g := fun q hq e => by rw [hq] at e; injection e with e; omega
          have hcx := hgr.cell hc41 (hne _ rfl)
          have hcz := hgr.cell hc42 (hne _ rfl)
          have ht0 := hown.cellAt (k * 2) (by omega)
          have ht1 := hown.cellAt (k * 2 + 1) (by omega)
          rw [List.getElem?_eq_getElem (by omega)] at ht0 ht1
          have hf0 := hown.frozenAt (k * 2)
          have hf1 := hown.frozenAt (k * 2 + 1)
          generalize hy : S.getD k (0, 0) = y at hcx hcz
          have Hy := hid_ hy; clear hy
          obtain ⟨x, z⟩ := y
          simp only at hcx hcz
          have hgw : g < wr.heap.size := Nat.lt_of_lt_of_le hgm hgr.size
          clear hne hc41 hc42
          go_wp2
          go_roundw
          case rel =>
            have hst1 := hown.stored (k * 2) (.int .i64 x)
            have hst2 := hst1.1.stored (k * 2 + 1) (.int .i64 z)
            refine ⟨k + 1, (xs.set (k * 2) (.int .i64 x)).set (k * 2 + 1) (.int .i64 z), by omega, by go_num, hst2.1.alloc _, ?_, ((hgr.trans hst1.2).trans hst2.2).trans (World.grownBy_alloc _ _ _)⟩
            rw [set_two (by omega), htk, Kv.take_snoc S (0, 0) k (by have := Hl3.out; omega), List.flatMap_append, Hy.out]
            rfl
          case measure => simp [intOf]; omega
        · obtain rfl : k = N := by omega
          have hx : xs = S.flatMap encN := by
            have h1 : xs.take (2 * k) = xs := List.take_of_length_le (by omega)
            have h2 : S.take k = S := List.take_of_length_le (by have := Hl3.out; omega)
            rw [h1, h2] at htk; exact htk
          subst hx
          have Hb3 : Hid (Below w.heap.size w wr) := hid_ (Hbm.out.grown hgr Hbm.out.size fun r e => by cases e; exact hg2)
          go_wp2
          go_ret
          refine ⟨_, rfl, ?_, Hb3.out⟩
          rw [HS2.out.1, HS2.out.2, Hl3.out]
          exact hown
end Go.Proofs.Ytoopgmoopmbfnaa
