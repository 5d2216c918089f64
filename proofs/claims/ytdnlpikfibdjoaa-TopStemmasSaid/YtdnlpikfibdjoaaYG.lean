import Derived.Test.YtdnlpikfibdjoaaYy
import Derived.Test.YtdnlpikfibdjoaaY1
import Derived.Deep.RegionLaw
import Derived.Lib.SliceRun
namespace Go.Proofs.Kv
open Go.RowKit Go
/-- an own row of which one value was taken out -/
theorem own_deleted {B E n g cap i : Nat} {w : World} {xs : List Value} (h : w.ownsRow B E 1 (.slice (some ⟨g, 0, none⟩) n cap) n xs) (hi : i < n) (z : Value) :
    ((w.setCells g i (xs.drop (i + 1))).setCells g (n - 1) [z]).ownsRow B E 1 (.slice (some ⟨g, 0, none⟩) (n - 1) cap) (n - 1) (xs.take i ++ xs.drop (i + 1)) ∧ w.grownBy ((w.setCells g i (xs.drop (i + 1))).setCells g (n - 1) [z]) (some g) := by
  have hl : xs.length = n := by have := h.1; omega
  have hd : (xs.drop (i + 1)).length = n - (i + 1) := by rw [List.length_drop, hl]
  obtain ⟨h1, h2⟩ := own_setCells_at (xs.drop (i + 1)) i h (by rw [hd]; omega)
  have hl1 : (xs.take i ++ xs.drop (i + 1) ++ xs.drop (i + (xs.drop (i + 1)).length)).length = n := by
    rw [List.length_append, List.length_append, List.length_take, hd, List.length_drop, hl]; omega
  obtain ⟨h3, h4⟩ := own_setCells_at [z] (n - 1) h1 (by rw [hl1, List.length_singleton]; omega)
  refine ⟨?_, h2.trans h4⟩
  have h5 := own_cut h3 (show n - 1 ≤ n by omega)
  have hA : (xs.take i ++ xs.drop (i + 1)).length = n - 1 := by rw [List.length_append, List.length_take, hd, hl]; omega
  have e : ((xs.take i ++ xs.drop (i + 1) ++ xs.drop (i + (xs.drop (i + 1)).length)).take (n - 1) ++ [z] ++ (xs.take i ++ xs.drop (i + 1) ++ xs.drop (i + (xs.drop (i + 1)).length)).drop (n - 1 + [z].length)).take ((n - 1) * 1) = xs.take i ++ xs.drop (i + 1) := by
    rw [Nat.mul_one, List.take_left' hA, List.append_assoc, List.take_left' hA]
  rw [e] at h5
  exact h5
theorem grown_undrew {w w' : World} {q : Nat} {row : Option Nat} (h : (w.drewN q).grownBy w' row) : w.grownBy w' row := ⟨h.os, h.tape, h.output, h.size, h.block⟩
theorem zero_run {P : Program} {t : TypeId} {i : TypeInfo} {z : Value} (h : P.info? t = some i) (hz : i.zero = some z) : ∀ w, (zeroValue t).run P w = .ok z w := by
  intro w
  simp [zeroValue, typeInfo, h, hz]
end Go.Proofs.Kv
namespace Go.Proofs.Ytdnlpikfibdjoaa
open Go.RowKit Go.Proofs.Kv Go

theorem Try.infoInts : (Try.prog.info? 22).map (fun i => (i.zero, i.size, i.bytes)) = some (some (.slice none 0 0), 1, 24) := by kernel_rfl
/-! ### slices.Delete of one number, of one list -/
set_option maxRecDepth 100000 in
set_option maxHeartbeats 4000000 in
theorem deleteInt_calls {B n g cap i j : Nat} {xs : List Value} {w : World} (hown : w.ownsRow B 3 1 (.slice (some ⟨g, 0, none⟩) n cap) n xs) (h1 : ∀ u ∈ xs, u.oneCell' = true) (hj : j = i + 1) (hi : i < n) (hn : n ≤ cap) :
    Calls Try.prog 102 #[.slice (some ⟨g, 0, none⟩) n cap, .int .i64 i, .int .i64 j] w fun e w' => e = .returned (.slice (some ⟨g, 0, none⟩) (n - 1) cap) ∧ w'.ownsRow B 3 1 (.slice (some ⟨g, 0, none⟩) (n - 1) cap) (n - 1) (xs.take i ++ xs.drop (i + 1)) ∧ w.grownBy w' (some g) := by
  obtain ⟨i0, hi0, hz0, hz1, hz2⟩ := info_parts Try.infoInt
  have hl : xs.length = n := by have := hown.1; omega
  obtain ⟨news, hnews⟩ : ∃ news, news = xs.drop j := ⟨_, rfl⟩
  have hlen : news.length = n - j := by rw [hnews, List.length_drop, hl]
  have hget : ∀ t u, news[t]? = some u → w.cell? ⟨g, j + t, none⟩ = some u := fun t u hu => by
    have ht : t < n - j := by rw [← hlen]; exact (List.getElem?_eq_some_iff.1 hu).1
    rw [hown.cellAt _ (by omega), ← hu, hnews, List.getElem?_drop]
  obtain ⟨A, hA, hsrc⟩ : ∃ A : Addr, (if cap = j then some (⟨g, 0, none⟩ : Addr) else some ⟨g, j, none⟩) = some A ∧ Hid (∀ t u, news[t]? = some u → w.drew.cell? (A.add t) = some u) := by
    by_cases h : cap = j
    · refine ⟨⟨g, 0, none⟩, by simp [h], hid_ fun t u hu => ?_⟩
      have h0 : news.length = 0 := by rw [hlen]; omega
      rw [List.length_eq_zero_iff.1 h0] at hu
      simp at hu
    · exact ⟨⟨g, j, none⟩, by simp [h], hid_ fun t u hu => by rw [show (⟨g, j, none⟩ : Addr).add t = ⟨g, j + t, none⟩ by unfold Addr.add; split <;> simp_all]; exact hget t u hu⟩
  have s1 : Hid (news.length = (n - j) * 1) := hid_ (by rw [Nat.mul_one]; exact hlen)
  have s2 : Hid (∀ u ∈ news, u.oneCell' = true) := hid_ (fun u hu => h1 u (by rw [hnews] at hu; exact List.mem_of_mem_drop hu))
  have hcl0 : ∀ t, t < n → (w.drew.cell? ⟨g, t, none⟩).isSome = true ∧ w.drew.frozen? ⟨g, t, none⟩ = false := fun t ht => ⟨by show (w.cell? _).isSome = true; rw [hown.cellAt t (by omega), List.getElem?_eq_getElem (by omega)]; rfl, hown.frozenAt t⟩
  have s3 : Hid (∀ t, t < news.length → (w.drew.cell? ⟨g, 0 + i * 1 + t, none⟩).isSome = true ∧ w.drew.frozen? ⟨g, 0 + i * 1 + t, none⟩ = false) := hid_ (fun t ht => hcl0 _ (by rw [hlen] at ht; omega))
  obtain ⟨W1, hW1⟩ : ∃ W1, W1 = w.drew.setCells g (0 + i * 1) news := ⟨_, rfl⟩
  obtain ⟨k1, k2⟩ := own_setCells_at news i (own_drewN hown 1) (by rw [hlen, hl]; omega)
  have hk : w.drewN 1 = w.drew := rfl
  have hW1' : W1 = (w.drewN 1).setCells g i news := by rw [hW1, hk]; congr 1; omega
  rw [← hW1'] at k1 k2
  have hcl : ∀ ty, (Builtin.clear_ #[22] ty #[.slice (some ⟨g, 0 + (i + (n - j)), none⟩) (n - (i + (n - j))) (cap - (i + (n - j)))]).run Try.prog W1 = .ok (.tuple #[]) (W1.setCells g (0 + (i + (n - j))) (List.replicate (n - (i + (n - j))) (.int .i64 0))) :=
    fun ty => Lib.run_clear_slice W1 22 3 ty (.int .i64 0) Try.underlying22 (zero_run hi0 hz0) rfl rfl g (0 + (i + (n - j))) _ _ (by omega) (fun t ht => by
      rw [k1.cellAt _ (by omega), List.getElem?_eq_getElem (by have := k1.1; omega)]; rfl) (fun t ht => k1.frozenAt _)
  simp only [Nat.zero_add] at hcl
  have hcne : ¬ cap = n - 1 := by omega
  have hlast : i + (n - j) = n - 1 := by omega
  have hone : n - (n - 1) = 1 := by omega
  simp only [hlast, hone, List.replicate_succ, List.replicate_zero] at hcl
  have Hj : Hid (j = i + 1) := hid_ hj
  have hfin := own_deleted (own_drewN hown 1) hi (.int .i64 0)
  rw [← hj, ← hnews, ← hW1'] at hfin
  have Hfin := hid_ hfin
  have hW : Hid (W1 = w.drew.setCells g (0 + i * 1) news) := hid_ hW1
  have hic : i ≤ cap := by omega
  have hjc : j ≤ cap := by omega
  have hjn : j ≤ n := by omega
  have hij : i ≤ j := by omega
  have hne : ((i : Int) == (j : Int)) = false := by simp; omega
  have Hnews : Hid (news = xs.drop j) := hid_ hnews
  clear hW1 hW1' hnews hlen hget k1 k2 hfin hown hcl0 h1 hl hj
  go_enter Try.func102, Try.ntmps102
  go_wp2_with fail
  go_region_law (refine step_append_room rfl (.tmp 22) (.tmp 25) 22 rfl 3 i0 1 Try.underlying22 hi0 hz1 g 0 i cap (by simp [Act.eval, Act.put]) A (n - j) (cap - j) news (by simp [Act.eval, Act.put]) s1.out hsrc.out s2.out (by omega) s3.out ?_; rw [← hW.out])
  go_wp2
  go_ret
  rw [← Hj.out, ← Hnews.out]
  exact ⟨rfl, Hfin.out.1, grown_undrew Hfin.out.2⟩
end Go.Proofs.Ytdnlpikfibdjoaa
