import Derived.Test.YtahknodnjjmagaaZdg
import Derived.Test.YtahknodnjjmagaaZ9
namespace Go.Proofs.Ytahknodnjjmagaa
open Go.RowKit Go.Proofs.Kv Go

/-! ### an entry of an own row is put anew -/
theorem encE_set : ∀ (l : List Ec) (k : Nat) (x : Ec), k < l.length → (l.set k x).flatMap encE = ((l.flatMap encE).set (k * 2) x.1).set (k * 2 + 1) (.int .i64 x.2)
  | [], k, x, h => by simp at h
  | y :: l, 0, x, h => rfl
  | y :: l, k + 1, x, h => by
    have ih := encE_set l k x (by simpa using h)
    rw [List.set_cons_succ, List.flatMap_cons, List.flatMap_cons, ih, show (k + 1) * 2 = k * 2 + 2 by omega]
    rfl
theorem SpecV.put {w : World} {B g : Nat} {u : Value} {l : List Int} (h : SpecV w B (some g) u l) (j : Nat) (y : Value) : SpecV (w.setCell ⟨g, j, none⟩ y) B (some g) u l := by
  obtain ⟨a, n, c, e, hi, hd⟩ := h
  refine ⟨a, n, c, e, ⟨hi.len, hi.le, hi.small, fun i hi' => ?_⟩, hd⟩
  obtain ⟨b, off, ha, hb, hc⟩ := hi.cells i hi'
  have hne := (hd b off (by omega) ha).2
  refine ⟨b, off, ha, by simpa using hb, ?_⟩
  rw [World.cell?_setCell_other _ _ _ _ (by intro e; simp at e; exact hne (by rw [e.1]))]
  exact hc
theorem OwnE.put {w : World} {B g n c : Nat} {L : List Ent} (h : OwnE w B (.slice (some ⟨g, 0, none⟩) n c) L) (k : Nat) (hk : k < L.length) (u : Value) (l : List Int) (f : Int) (hu : SpecV w B (some g) u l) :
    OwnE ((w.setCell ⟨g, k * 2, none⟩ u).setCell ⟨g, k * 2 + 1, none⟩ (.int .i64 f)) B (.slice (some ⟨g, 0, none⟩) n c) (L.set k ⟨l, f⟩) := by
  obtain ⟨vs, h0, h1, h2⟩ := h
  have hn : n = L.length := by
    rcases h1.2 with ⟨e, _⟩ | ⟨g', cap, cur, e, _⟩
    · cases e
    · injection e
  subst hn
  refine ⟨vs.set k (u, f), by simp [h0], ?_, fun i x hx => ?_⟩
  · rw [encE_set vs k _ (by omega), List.length_set]
    exact ((h1.stored (k * 2) u).1.stored (k * 2 + 1) (.int .i64 f)).1
  · by_cases hi : i = k
    · subst hi
      rw [List.getElem?_set_self (by omega)] at hx
      injection hx with hx
      subst hx
      rw [show (L.set i ⟨l, f⟩).getD i E0 = ⟨l, f⟩ by simp [List.getD, hk]]
      exact ⟨(hu.put _ _).put _ _, rfl⟩
    · rw [List.getElem?_set_ne (Ne.symm hi)] at hx
      rw [show (L.set k ⟨l, f⟩).getD i E0 = L.getD i E0 by simp [List.getD, List.getElem?_set_ne (Ne.symm hi)]]
      exact ⟨(((h2 i x hx).s).put _ _).put _ _, (h2 i x hx).f⟩
/-- what an own row of entries holds at k -/
theorem OwnE.get {w : World} {B : Nat} {v : Value} {L : List Ent} (h : OwnE w B v L) (k : Nat) (hk : k < L.length) : ∃ g c a1 n1 c1, v = .slice (some ⟨g, 0, none⟩) L.length c ∧ B ≤ g ∧ g < w.heap.size ∧ w.cell? ⟨g, k * 2, none⟩ = some (.slice a1 n1 c1) ∧ w.cell? ⟨g, k * 2 + 1, none⟩ = some (.int .i64 (L.getD k E0).form) ∧ SpecV w B (some g) (.slice a1 n1 c1) (L.getD k E0).spec ∧ ∀ j, w.frozen? ⟨g, j, none⟩ = false := by
  obtain ⟨vs, h0, h1, h2⟩ := h
  have H1 := h1
  rcases h1.2 with ⟨rfl, hz⟩ | ⟨g, cap, cur, rfl, hB, hg, hn, hm, hs, ht⟩
  · omega
  · have hv : vs[k]? = some vs[k] := List.getElem?_eq_getElem (by omega)
    have hr := h2 k _ hv
    obtain ⟨e0, e1⟩ := encE_at vs k _ hv
    have A : ∀ j u, (vs.flatMap encE)[j]? = some u → w.cell? ⟨g, j, none⟩ = some u := fun j u hu => by
      have := H1.cells (g := g) rfl j u hu
      rwa [show (⟨g, 0, none⟩ : Addr).add j = ⟨g, j, none⟩ by unfold Addr.add; split <;> simp_all] at this
    obtain ⟨a1, n1, c1, hu, hI, hd⟩ := hr.s
    have e0' := A _ _ e0
    rw [hu] at e0'
    refine ⟨g, cap, a1, n1, c1, rfl, hB, Go.lt_of_block hg, e0', by rw [← hr.f]; exact A _ _ e1, ⟨a1, n1, c1, rfl, hI, hd⟩, fun j => ?_⟩
    exact row_free hg j
end Go.Proofs.Ytahknodnjjmagaa
