import Derived.Test.YtpcpmdokgdbonaaWa
import Derived.Deep.RegionLaw
namespace Go.Proofs.Kv
open Go.RowKit Go
theorem encI_take (l : List Ic) (i : Nat) : (l.flatMap encI).take (i * 3) = (l.take i).flatMap encI := by
  induction l generalizing i with
  | nil => simp
  | cons x l ih =>
    cases i with
    | zero => simp
    | succ i =>
      rw [List.flatMap_cons, List.take_succ_cons, List.flatMap_cons, List.take_append]
      have e2 : (encI x).length = 3 := rfl
      rw [e2, List.take_of_length_le (by rw [e2]; omega), show (i + 1) * 3 - 3 = i * 3 by omega, ih]
theorem encI_drop (l : List Ic) (i : Nat) : (l.flatMap encI).drop (i * 3) = (l.drop i).flatMap encI := by
  induction l generalizing i with
  | nil => simp
  | cons x l ih =>
    cases i with
    | zero => simp
    | succ i =>
      rw [List.flatMap_cons, List.drop_succ_cons, List.drop_append]
      have e2 : (encI x).length = 3 := rfl
      rw [e2, List.drop_of_length_le (by rw [e2]; omega), show (i + 1) * 3 - 3 = i * 3 by omega, ih, List.nil_append]
/-- an own row of items of which one was taken out -/
theorem own_deletedI {B E n g cap i : Nat} {w : World} {xs : List Ic} (h : w.ownsRow B E 3 (.slice (some ⟨g, 0, none⟩) n cap) n (xs.flatMap encI)) (hi : i < n) (zs : List Value) (hz : zs.length = 3) :
    ((w.setCells g (i * 3) ((xs.drop (i + 1)).flatMap encI)).setCells g ((n - 1) * 3) zs).ownsRow B E 3 (.slice (some ⟨g, 0, none⟩) (n - 1) cap) (n - 1) ((xs.take i ++ xs.drop (i + 1)).flatMap encI) ∧ w.grownBy ((w.setCells g (i * 3) ((xs.drop (i + 1)).flatMap encI)).setCells g ((n - 1) * 3) zs) (some g) := by
  have hl : xs.length = n := by have := h.1; rw [encI_len] at this; omega
  have hfl : (xs.flatMap encI).length = n * 3 := h.1
  have hd : ((xs.drop (i + 1)).flatMap encI).length = (n - (i + 1)) * 3 := by rw [encI_len, List.length_drop, hl]
  obtain ⟨h1, h2⟩ := own_setCells_at ((xs.drop (i + 1)).flatMap encI) (i * 3) h (by rw [hd, hfl]; omega)
  have hl1 := h1.1
  obtain ⟨h3, h4⟩ := own_setCells_at zs ((n - 1) * 3) h1 (by rw [hl1, hz]; omega)
  refine ⟨?_, h2.trans h4⟩
  have h5 := own_cut h3 (show n - 1 ≤ n by omega)
  have hA : ((xs.flatMap encI).take (i * 3) ++ (xs.drop (i + 1)).flatMap encI).length = (n - 1) * 3 := by rw [List.length_append, List.length_take, hd, hfl]; omega
  have e : ∀ X : List Value, ((((xs.flatMap encI).take (i * 3) ++ (xs.drop (i + 1)).flatMap encI) ++ X).take ((n - 1) * 3) ++ zs ++ (((xs.flatMap encI).take (i * 3) ++ (xs.drop (i + 1)).flatMap encI) ++ X).drop ((n - 1) * 3 + zs.length)).take ((n - 1) * 3) = (xs.take i ++ xs.drop (i + 1)).flatMap encI := fun X => by
    rw [List.take_left' hA, List.append_assoc, List.take_left' hA, List.flatMap_append, encI_take]
  rw [e] at h5
  exact h5
theorem run_clear_one {P : Program} (w : World) (t e ty : TypeId) (z : Value) (ht : P.underlying t = some (.slice e)) (hv : ∀ w, (zeroValue e).run P w = .ok z w) (b o c : Nat)
    (hc : ∀ j, j < z.cells.size → (w.cell? ⟨b, o + j, none⟩).isSome = true) (hf : ∀ j, j < z.cells.size → w.frozen? ⟨b, o + j, none⟩ = false) (h1 : ∀ u ∈ z.cells.toList, u.oneCell' = true) :
    (Builtin.clear_ #[t] ty #[.slice (some ⟨b, o, none⟩) 1 c]).run P w = .ok (.tuple #[]) (w.setCells b o z.cells.toList) := by
  have hzc : (Builtin.zeroCells z.cells 1).toList = z.cells.toList := by
    simp only [Builtin.zeroCells]
    apply List.ext_getElem
    · simp
    · intro i h1 h2
      simp only [Array.length_toList] at h2
      simp [Nat.mod_eq_of_lt h2, getElem!_pos, h2]
  have hst := run_storeCells_cells (P := P) b o z.cells.toList 0 w (by simpa using hc) (by simpa using hf) h1
  simp only [Nat.add_zero] at hst
  simp [Builtin.clear_, run_underlying ht, hv, hzc, hst]
theorem grown_undrew8 {w w' : World} {q : Nat} {row : Option Nat} (h : (w.drewN q).grownBy w' row) : w.grownBy w' row := ⟨h.os, h.tape, h.output, h.size, h.block⟩
end Go.Proofs.Kv
namespace Go.Proofs.Ytpcpmdokgdbonaa
open Go.RowKit Go.Proofs.Kv Go

/-! ### slices.Delete of one item -/
set_option maxRecDepth 100000 in
set_option maxHeartbeats 4000000 in
theorem deleteItem_calls {B n g cap i j : Nat} {xs : List Ic} {w : World} (hown : w.ownsRow B 50 3 (.slice (some ⟨g, 0, none⟩) n cap) n (xs.flatMap encI)) (h1 : ∀ u ∈ xs.flatMap encI, u.oneCell' = true) (hj : j = i + 1) (hi : i < n) (hn : n ≤ cap) :
    Calls Try.prog 66 #[.slice (some ⟨g, 0, none⟩) n cap, .int .i64 i, .int .i64 j] w fun e w' => e = .returned (.slice (some ⟨g, 0, none⟩) (n - 1) cap) ∧ w'.ownsRow B 50 3 (.slice (some ⟨g, 0, none⟩) (n - 1) cap) (n - 1) ((xs.take i ++ xs.drop (i + 1)).flatMap encI) ∧ w.grownBy w' (some g) := by
  obtain ⟨i0, hi0, hz0, hz1, hz2⟩ := info_parts Try.infoItem
  have hl : xs.length = n := by have := hown.1; rw [encI_len] at this; omega
  obtain ⟨news, hnews⟩ : ∃ news, news = (xs.drop j).flatMap encI := ⟨_, rfl⟩
  have hlen : news.length = (n - j) * 3 := by rw [hnews, encI_len, List.length_drop, hl]
  have hget : ∀ t u, news[t]? = some u → w.cell? ⟨g, j * 3 + t, none⟩ = some u := fun t u hu => by
    have ht : t < (n - j) * 3 := by rw [← hlen]; exact (List.getElem?_eq_some_iff.1 hu).1
    rw [hown.cellAt _ (by omega), ← hu, hnews, ← encI_drop, List.getElem?_drop]
  obtain ⟨A, hA, hsrc⟩ : ∃ A : Addr, (if cap = j then some (⟨g, 0, none⟩ : Addr) else some ⟨g, j * 3, none⟩) = some A ∧ Hid (∀ t u, news[t]? = some u → w.drew.cell? (A.add t) = some u) := by
    by_cases h : cap = j
    · refine ⟨⟨g, 0, none⟩, by simp [h], hid_ fun t u hu => ?_⟩
      have h0 : news.length = 0 := by rw [hlen]; omega
      rw [List.length_eq_zero_iff.1 h0] at hu
      simp at hu
    · exact ⟨⟨g, j * 3, none⟩, by simp [h], hid_ fun t u hu => by rw [show (⟨g, j * 3, none⟩ : Addr).add t = ⟨g, j * 3 + t, none⟩ by unfold Addr.add; split <;> simp_all]; exact hget t u hu⟩
  have s1 : Hid (news.length = (n - j) * 3) := hid_ hlen
  have s2 : Hid (∀ u ∈ news, u.oneCell' = true) := hid_ (fun u hu => h1 u (by rw [hnews, ← encI_drop] at hu; exact List.mem_of_mem_drop hu))
  have hfl : (xs.flatMap encI).length = n * 3 := hown.1
  have hcl0 : ∀ t, t < n * 3 → (w.drew.cell? ⟨g, t, none⟩).isSome = true ∧ w.drew.frozen? ⟨g, t, none⟩ = false := fun t ht => ⟨by show (w.cell? _).isSome = true; rw [hown.cellAt t (by omega), List.getElem?_eq_getElem (by omega)]; rfl, hown.frozenAt t⟩
  have s3 : Hid (∀ t, t < news.length → (w.drew.cell? ⟨g, 0 + i * 3 + t, none⟩).isSome = true ∧ w.drew.frozen? ⟨g, 0 + i * 3 + t, none⟩ = false) := hid_ (fun t ht => hcl0 _ (by rw [hlen] at ht; omega))
  obtain ⟨W1, hW1⟩ : ∃ W1, W1 = w.drew.setCells g (0 + i * 3) news := ⟨_, rfl⟩
  obtain ⟨k1, k2⟩ := own_setCells_at news (i * 3) (own_drewN hown 1) (by rw [hlen, hfl]; omega)
  have hk : w.drewN 1 = w.drew := rfl
  have hW1' : W1 = (w.drewN 1).setCells g (i * 3) news := by rw [hW1, hk]; congr 1; omega
  rw [← hW1'] at k1 k2
  have hlast : i + (n - j) = n - 1 := by omega
  have hone : n - (n - 1) = 1 := by omega
  have hcl : ∀ ty, (Builtin.clear_ #[22] ty #[.slice (some ⟨g, 0 + (n - 1) * 3, none⟩) 1 (cap - (n - 1))]).run Try.prog W1 = .ok (.tuple #[]) (W1.setCells g (0 + (n - 1) * 3) [.slice none 0 0, .int .i64 0, .int .i64 0]) :=
    fun ty => run_clear_one W1 22 50 ty (.agg #[.slice none 0 0, .int .i64 0, .int .i64 0]) Try.underlying22 (zero_run8 hi0 hz0) g (0 + (n - 1) * 3) _ (fun t ht => by
      have ht : t < 3 := ht
      rw [k1.cellAt _ (by omega), List.getElem?_eq_getElem (by have := k1.1; omega)]; rfl) (fun t ht => k1.frozenAt _) (fun u hu => by
      have hu : u ∈ [Value.slice none 0 0, .int .i64 0, .int .i64 0] := hu
      simp at hu
      rcases hu with rfl | rfl <;> rfl)
  simp only [Nat.zero_add] at hcl
  have hcne : ¬ cap = n - 1 := by omega
  have Hj : Hid (j = i + 1) := hid_ hj
  have hfin := own_deletedI (own_drewN hown 1) hi [.slice none 0 0, .int .i64 0, .int .i64 0] rfl
  rw [← hj, ← hnews, ← hW1'] at hfin
  have Hfin := hid_ hfin
  have hW : Hid (W1 = w.drew.setCells g (0 + i * 3) news) := hid_ hW1
  have hic : i ≤ cap := by omega
  have hjc : j ≤ cap := by omega
  have hjn : j ≤ n := by omega
  have hij : i ≤ j := by omega
  have hne : ((i : Int) == (j : Int)) = false := by simp; omega
  clear hW1 hW1' hlen hget k1 k2 hfin hown hcl0 h1 hl hfl
  have Hnews : Hid (news = (xs.drop j).flatMap encI) := hid_ hnews
  clear hnews hj
  go_enter Try.func66, Try.ntmps66
  go_wp2_with fail
  go_region_law (refine step_append_room rfl (.tmp 22) (.tmp 25) 22 rfl 50 i0 3 Try.underlying22 hi0 hz1 g 0 i cap (by simp [Act.eval, Act.put]) A (n - j) (cap - j) news (by simp [Act.eval, Act.put]) s1.out hsrc.out s2.out (by omega) s3.out ?_; rw [← hW.out])
  go_wp2
  go_ret
  rw [← Hj.out]
  exact ⟨rfl, Hfin.out.1, grown_undrew8 Hfin.out.2⟩
end Go.Proofs.Ytpcpmdokgdbonaa
