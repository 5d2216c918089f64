import Derived.Test.YtpcpmdokgdbonaaVP
namespace Go.Proofs.Kv
open Go.RowKit Go
/-- the cells of an item that lies in old memory -/
structure ItemOld (w : World) (x : Ic) (X : It) : Prop where
  kc : x.2 = (X.kind, X.cost)
  word : ∃ a n c, x.1 = .slice a n c ∧ IntsAt w a n c X.word
theorem encI_of : ∀ (l : List Ic) (j : Nat) (u : Value), (l.flatMap encI)[j]? = some u → ∃ i x, l[i]? = some x ∧ ((j = i * 3 ∧ u = x.1) ∨ (j = i * 3 + 1 ∧ u = .int .i64 x.2.1) ∨ (j = i * 3 + 2 ∧ u = .int .i64 x.2.2))
  | [], j, u, h => by simp at h
  | y :: l, j, u, h => by
    rw [List.flatMap_cons] at h
    have e2 : (encI y).length = 3 := rfl
    by_cases hj : j < 3
    · rw [List.getElem?_append_left (by omega)] at h
      refine ⟨0, y, rfl, ?_⟩
      match j, hj with
      | 0, _ => simp [encI] at h; exact .inl ⟨rfl, h.symm⟩
      | 1, _ => simp [encI] at h; exact .inr (.inl ⟨rfl, h.symm⟩)
      | 2, _ => simp [encI] at h; exact .inr (.inr ⟨rfl, h.symm⟩)
    · rw [List.getElem?_append_right (by omega), e2] at h
      obtain ⟨i, x, h1, h2⟩ := encI_of l (j - 3) u h
      refine ⟨i + 1, x, by simpa using h1, ?_⟩
      rcases h2 with ⟨e, h⟩ | ⟨e, h⟩ | ⟨e, h⟩
      · exact .inl ⟨by omega, h⟩
      · exact .inr (.inl ⟨by omega, h⟩)
      · exact .inr (.inr ⟨by omega, h⟩)
theorem encI_one (l : List Ic) (h : ∀ (i : Nat) (x : Ic), l[i]? = some x → ∃ a n c, x.1 = .slice a n c) : ∀ u ∈ l.flatMap encI, u.oneCell' = true := fun u hu => by
  obtain ⟨j, hj⟩ := List.getElem?_of_mem hu
  obtain ⟨i, x, hx, h2⟩ := encI_of l j u hj
  obtain ⟨a, n, c, e⟩ := h i x hx
  rcases h2 with ⟨_, rfl⟩ | ⟨_, rfl⟩ | ⟨_, rfl⟩
  · rw [e]; rfl
  · rfl
  · rfl
theorem addr_add8 (b off j : Nat) : (⟨b, off, none⟩ : Addr).add j = ⟨b, off + j, none⟩ := by unfold Addr.add; split <;> simp_all
theorem ItemsAt.cellsI {w : World} {b off n c : Nat} {L : List It} (h : ItemsAt w (some ⟨b, off, none⟩) n c L) : ∃ xs : List Ic, xs.length = n ∧ (∀ i x, xs[i]? = some x → ItemOld w x (L.getD i I0)) ∧ ∀ j u, (xs.flatMap encI)[j]? = some u → w.cell? ((⟨b, off, none⟩ : Addr).add j) = some u := by
  have key : ∀ i, ∃ x : Ic, i < n → ItemOld w x (L.getD i I0) ∧ w.cell? ⟨b, off + i * 3, none⟩ = some x.1 ∧ w.cell? ⟨b, off + i * 3 + 1, none⟩ = some (.int .i64 x.2.1) ∧ w.cell? ⟨b, off + i * 3 + 2, none⟩ = some (.int .i64 x.2.2) := fun i => by
    by_cases hi : i < n
    · obtain ⟨b', off', a1, n1, c1, ha, -, h0, h1, h2, hr⟩ := h.cells i hi
      injection ha with ha; injection ha with e1 e2; subst e1; subst e2
      exact ⟨(.slice a1 n1 c1, (L.getD i I0).kind, (L.getD i I0).cost), fun _ => ⟨⟨rfl, a1, n1, c1, rfl, hr⟩, h0, h1, h2⟩⟩
    · exact ⟨(.slice none 0 0, 0, 0), fun e => absurd e hi⟩
  have hat : ∀ (i : Nat) (x : Ic), ((List.range n).map fun i => Classical.choose (key i))[i]? = some x → i < n ∧ x = Classical.choose (key i) := fun i x hx => by
    rw [List.getElem?_map] at hx
    by_cases hi : i < n
    · rw [List.getElem?_range hi] at hx
      exact ⟨hi, by simpa using hx.symm⟩
    · rw [List.getElem?_eq_none (by simp; omega)] at hx; cases hx
  refine ⟨(List.range n).map fun i => Classical.choose (key i), by simp, fun i x hx => ?_, fun j u hu => ?_⟩
  · obtain ⟨hi, rfl⟩ := hat i x hx
    exact (Classical.choose_spec (key i) hi).1
  · obtain ⟨i, x, hx, h2⟩ := encI_of _ j u hu
    obtain ⟨hi, rfl⟩ := hat i x hx
    obtain ⟨-, k0, k1, k2⟩ := Classical.choose_spec (key i) hi
    rw [addr_add8]
    rcases h2 with ⟨rfl, rfl⟩ | ⟨rfl, rfl⟩ | ⟨rfl, rfl⟩
    · exact k0
    · exact k1
    · exact k2
end Go.Proofs.Kv
namespace Go.Proofs.Ytpcpmdokgdbonaa
open Go.RowKit Go.Proofs.Kv Go

theorem Try.infoItem : (Try.prog.info? 50).map (fun i => (i.zero, i.size, i.bytes)) = some (some (.agg #[.slice none 0 0, .int .i64 0, .int .i64 0]), 3, 40) := by kernel_rfl
abbrev NewL := NewI 50 26 3
set_option maxRecDepth 100000 in
theorem cloneI_calls (a : Option Addr) (n c : Nat) (L : List It) (w : World) (h : ItemsAt w a n c L) (h1 : 1 ≤ n) (hn : n ≤ 1000) :
    Calls Try.prog 83 #[.slice a n c] w fun e w' => ∃ g c' xs, e = .returned (.slice (some ⟨g, 0, none⟩) n c') ∧ w'.ownsRow w.heap.size 50 3 (.slice (some ⟨g, 0, none⟩) n c') n (List.flatMap encI xs) ∧ xs.length = n ∧ (∀ (i : Nat) (x : Ic), xs[i]? = some x → ItemOld w x (L.getD i I0)) ∧ Below w.heap.size w w' := by
  obtain ⟨i0, hi0, hz0, hz1, hz2⟩ := info_parts Try.infoItem
  obtain ⟨b, off, a1, n1, c1, rfl, -⟩ := h.cells 0 (by omega)
  obtain ⟨xs, hx1, hx2, hx3⟩ := h.cellsI
  have heq : ∀ W, (binOp .eql 22 (.slice (some ⟨b, off, none⟩) n c) (.slice none 0 0)).run Try.prog W = .ok (.bool false) W := fun W => Lib.run_eql_slice_nil W _ _ (some ⟨b, off, none⟩) n c 0 0 Try.underlying22
  have hown : (w.alloc (.cells #[] 50)).ownsRow w.heap.size 50 3 (.slice (some ⟨w.heap.size, 0, none⟩) 0 0) 0 [] := World.ownsRow_made w #[] 0 (Nat.le_refl _) (by omega) rfl
  have bA := below_alloc w (.cells #[] 50)
  have HX2 := hid_ hx2; have HX1 := hid_ hx1
  have HX3 := hid_ (fun j u (hu : (xs.flatMap encI)[j]? = some u) => cell_below (hx3 j u hu) bA)
  have Hone := hid_ (encI_one xs fun i x hx => by obtain ⟨a, n, c, e, -⟩ := (hx2 i x hx).word; exact ⟨a, n, c, e⟩)
  have Hlen : Hid ((xs.flatMap encI).length = n * 3) := hid_ (by rw [encI_len, hx1])
  clear hx1 hx2 hx3 h
  go_enter Try.func83, Try.ntmps83
  go_wp2_with (at_builtin; refine wpList_appendN _ rfl (.tmp 5) (.tmp 6) _ rfl w.heap.size 50 i0 3 40 Try.underlying22 hi0 hz0 rfl hz1 (by omega) hz2 (by omega) _ _ _ rfl hown ⟨b, off, none⟩ n c (xs.flatMap encI) rfl Hlen.out HX3.out Hone.out (by omega) (by simp) ?_; intro v' w1 hown1 hg1 hat1; rw [Nat.zero_add, List.nil_append] at hown1)
  go_ret
  have hv : ∃ g c', v' = .slice (some ⟨g, 0, none⟩) n c' := by
    rcases hown1.2 with ⟨_, h0⟩ | ⟨g, cap, cur, e, _⟩
    · omega
    · exact ⟨g, cap, e⟩
  obtain ⟨g, c', rfl⟩ := hv
  exact ⟨g, c', xs, rfl, hown1, HX1.out, HX2.out, bA.grown hg1 (by simp) fun k hk => by
    have : some w.heap.size = some k := hk
    injection this with this
    omega⟩
end Go.Proofs.Ytpcpmdokgdbonaa
