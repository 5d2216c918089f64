import Derived.Test.YtdnlpikfibdjoaaZvf
import Derived.Test.YtdnlpikfibdjoaaZdf
import Derived.Test.YtdnlpikfibdjoaaZvb
namespace Go.Proofs.Ytdnlpikfibdjoaa
open Go.RowKit Go.Proofs.Kv Go

/-! ### drop of the document: a new row of old entries -/
structure EcAt (w : World) (x : Ec) (E : Ent) : Prop where
  s : ∃ a n c, x.1 = .slice a n c ∧ IntsAt w a n c E.spec
  f : x.2 = E.form
theorem EcAt.below {w w' : World} {B : Nat} {x : Ec} {E : Ent} (h : EcAt w x E) (hb : Below B w w') (hB : w.heap.size ≤ B) : EcAt w' x E := by
  obtain ⟨⟨a, n, c, e, hi⟩, hf⟩ := h
  exact ⟨⟨a, n, c, e, hi.below hb hB⟩, hf⟩
theorem ents_vals {w : World} {a : Option Addr} {n c : Nat} {L : List Ent} (h : EntsAt w a n c L) :
    ∃ vs : List Ec, vs.length = n ∧ (∀ i x, vs[i]? = some x → EcAt w x (L.getD i E0)) ∧ ∀ i x, vs[i]? = some x → ∃ b off, a = some ⟨b, off, none⟩ ∧ b < w.heap.size ∧ w.cell? ⟨b, off + i * 2, none⟩ = some x.1 ∧ w.cell? ⟨b, off + i * 2 + 1, none⟩ = some (.int .i64 x.2) := by
  have H : ∀ i, ∃ x : Ec, i < n → (EcAt w x (L.getD i E0) ∧ ∃ b off, a = some ⟨b, off, none⟩ ∧ b < w.heap.size ∧ w.cell? ⟨b, off + i * 2, none⟩ = some x.1 ∧ w.cell? ⟨b, off + i * 2 + 1, none⟩ = some (.int .i64 x.2)) := fun i => by
    by_cases hi : i < n
    · obtain ⟨b, off, a1, n1, c1, ha, hlt, h0, h1, hr⟩ := h.cells i hi
      exact ⟨(.slice a1 n1 c1, (L.getD i E0).form), fun _ => ⟨⟨⟨a1, n1, c1, rfl, hr⟩, rfl⟩, b, off, ha, hlt, h0, h1⟩⟩
    · exact ⟨(.int .i64 0, 0), fun hi' => absurd hi' hi⟩
  obtain ⟨f, hf⟩ := Classical.axiomOfChoice H
  have hget : ∀ i x, ((List.range n).map f)[i]? = some x → i < n ∧ x = f i := fun i x hx => by
    have hi : i < n := by have := (List.getElem?_eq_some_iff.1 hx).1; simpa using this
    rw [List.getElem?_map, List.getElem?_range hi] at hx
    exact ⟨hi, by simpa using hx.symm⟩
  refine ⟨(List.range n).map f, by simp, fun i x hx => ?_, fun i x hx => ?_⟩
  · obtain ⟨hi, rfl⟩ := hget i x hx; exact (hf i hi).1
  · obtain ⟨hi, rfl⟩ := hget i x hx; exact (hf i hi).2
theorem encE_cell {W : World} {b : Nat} : ∀ (vs : List Ec) (off : Nat), (∀ i x, vs[i]? = some x → W.cell? ⟨b, off + i * 2, none⟩ = some x.1 ∧ W.cell? ⟨b, off + i * 2 + 1, none⟩ = some (.int .i64 x.2)) →
    ∀ j u, (vs.flatMap encE)[j]? = some u → W.cell? ⟨b, off + j, none⟩ = some u
  | [], off, h, j, u, hu => by simp at hu
  | x :: l, off, h, j, u, hu => by
    obtain ⟨h0, h1⟩ := h 0 x rfl
    rw [List.flatMap_cons] at hu
    match j, hu with
    | 0, hu => simp [encE] at hu; subst hu; simpa using h0
    | 1, hu => simp [encE] at hu; subst hu; simpa using h1
    | j + 2, hu =>
      have hu' : (l.flatMap encE)[j]? = some u := by simpa [encE] using hu
      have := encE_cell l (off + 2) (fun i y hy => by
        have h9 := h (i + 1) y (by simpa using hy)
        rw [show off + 2 + i * 2 = off + (i + 1) * 2 by omega]; exact h9) j u hu'
      rw [show off + (j + 2) = off + 2 + j by omega]; exact this
theorem encE_one {w : World} {vs : List Ec} {L : List Ent} (h : ∀ i x, vs[i]? = some x → EcAt w x (L.getD i E0)) : ∀ u ∈ vs.flatMap encE, u.oneCell' = true := by
  intro u hu
  obtain ⟨x, hx, hux⟩ := List.mem_flatMap.1 hu
  obtain ⟨i, hi, e⟩ := List.mem_iff_getElem.1 hx
  obtain ⟨a, n, c, e1, -⟩ := (h i x (by rw [List.getElem?_eq_getElem hi, e])).s
  simp only [encE, List.mem_cons, List.not_mem_nil, or_false] at hux
  rcases hux with rfl | rfl
  · rw [e1]; rfl
  · rfl
theorem ents_of_own {w : World} {B : Nat} {v : Value} {us : List Ec} {L : List Ent} (h1 : w.ownsRow B 39 2 v us.length (us.flatMap encE)) (h0 : us.length = L.length) (h2 : ∀ i x, us[i]? = some x → EcAt w x (L.getD i E0)) : ∃ a c, v = .slice a L.length c ∧ EntsAt w a L.length c L := by
  rw [h0] at h1
  have H1 := h1
  rcases h1.2 with ⟨rfl, hz⟩ | ⟨g, cap, cur, rfl, _, hg, hn, hm, hs, ht⟩
  · have : L = [] := List.eq_nil_of_length_eq_zero hz
    subst this
    exact ⟨none, 0, rfl, EntsAt.nil _ _ _ (by omega)⟩
  · refine ⟨_, cap, rfl, rfl, hn, by unfold maxLen at hm; omega, fun i hi => ?_⟩
    have hv : us[i]? = some us[i] := List.getElem?_eq_getElem (by omega)
    have hr := h2 i _ hv
    obtain ⟨e0, e1⟩ := encE_at us i _ hv
    have A : ∀ j u, (us.flatMap encE)[j]? = some u → w.cell? ⟨g, 0 + j, none⟩ = some u := fun j u hu => by
      have := H1.cells (g := g) rfl j u hu
      rwa [show (⟨g, 0, none⟩ : Addr).add j = ⟨g, 0 + j, none⟩ by unfold Addr.add; split <;> simp_all] at this
    obtain ⟨a1, n1, c1, hu, hI⟩ := hr.s
    have e0' := A _ _ e0
    rw [hu] at e0'
    exact ⟨g, 0, a1, n1, c1, rfl, Go.lt_of_block hg, e0', by rw [← hr.f]; exact A _ _ e1, hI⟩
theorem step_append_encN {ops : Array Oper} {o : Oper} {a : Act} {w : World} {K : Act → World → Prop} {Q : Exit → Act → World → Prop} {E' : Prop} (hg : o.guard = none) (s x : Operand)
    (ho : o.op = .call { callee := .builtin .append, args := #[s, x], argTypes := #[23, 23] }) (base : Nat) (v : Value) (us : List Ec) (hs : a.eval s = v) (hown : w.ownsRow base 39 2 v us.length (us.flatMap encE))
    (q : Option Addr) (A : Addr) (hq : q = some A) (m c : Nat) (ys : List Ec) (hm : ys.length = m) (hx : a.eval x = .slice q m c) (hy : ∀ j u, (ys.flatMap encE)[j]? = some u → w.cell? (A.add j) = some u) (h1 : ∀ u ∈ ys.flatMap encE, u.oneCell' = true)
    (hsm : us.length + m ≤ 100000) (hbase : base ≤ w.heap.size)
    (hK : ∀ v' w', w'.ownsRow base 39 2 v' (us ++ ys).length ((us ++ ys).flatMap encE) → w.grownBy w' v.ownBlock → (v'.ownBlock = v.ownBlock ∨ v'.ownBlock = some w.heap.size) → K (a.put o.dst v') w') :
    if Region.wanted o (yielded ops a.tmps) = true then Oper.wp Try.prog o a w K Q else E' := by
  obtain ⟨i0, hi0, hz0, hz1, hz2⟩ := info_parts Try.infoEntryC
  have hw : Region.wanted o (yielded ops a.tmps) = true := by simp [Region.wanted, hg]
  rw [if_pos hw]
  subst hq
  obtain ⟨v', w', hrun, k1, k2, _, k4⟩ := run_append_own_at (P := Try.prog) w base 23 o.type 39 i0 _ 2 32 Try.underlying23 hi0 hz0 hz1 hz2 rfl (by omega) v us.length _ hown A m c (ys.flatMap encE) (by rw [encE_len, hm]) hy h1 (by unfold maxLen; omega) (by omega) hbase
  unfold Oper.wp
  simp [execOp, ho, resolve, invoke, builtin, hs, hx, hrun, Result.andThen]
  refine hK _ _ ?_ k2 k4
  rw [List.flatMap_append, List.length_append, hm]
  exact k1
set_option maxRecDepth 100000 in
set_option maxHeartbeats 8000000 in
theorem r6drop2_calls (v : Value) (P : Par) (i : Nat) (w : World) (h : ParAt w v P) (h50 : P.ents.length ≤ 1000) (hi : i < P.ents.length) :
    Calls Try.prog 56 #[v, .int .i64 (i : Int)] w fun e w' => ∃ u x, e = .returned (.agg #[u, x]) ∧ ParAt w' (.agg #[u, x]) (cutP P i) ∧ (∀ k, x.ownBlock = some k → w.heap.size ≤ k) ∧ Below w.heap.size w w' := by
  have HP := hid_ h
  obtain ⟨a1, n1, c1, a2, n2, c2, rfl, h1, h2⟩ := h
  obtain ⟨w1, hw1⟩ : ∃ w1, w.alloc (.cells #[.slice a1 n1 c1, .slice a2 n2 c2] 25) = w1 := ⟨_, rfl⟩
  have cb : Below w.heap.size w w1 := by rw [← hw1]; exact below_alloc _ _
  have q0 : w1.cell? ⟨w.heap.size, 0, none⟩ = some (.slice a1 n1 c1) := by rw [← hw1]; exact cells_alloc _ _ _ 0
  have q1 : w1.cell? ⟨w.heap.size, 1, none⟩ = some (.slice a2 n2 c2) := by rw [← hw1]; exact cells_alloc _ _ _ 1
  have HP1 := hid_ (HP.out.below cb (Nat.le_refl _)); have Hc1 := hid_ cb
  obtain ⟨w2, hw2⟩ : ∃ w2, w1.alloc (.cells #[.slice none 0 0, .slice none 0 0] 25) = w2 := ⟨_, rfl⟩
  have z1 : w1.heap.size = w.heap.size + 1 := by rw [← hw1]; simp
  have z2 : w2.heap.size = w.heap.size + 2 := by rw [← hw2]; simp [z1]
  have b2 : Below w1.heap.size w1 w2 := by rw [← hw2]; exact below_alloc _ _
  have r0 : w2.cell? ⟨w.heap.size + 1, 0, none⟩ = some (.slice none 0 0) := by rw [← z1, ← hw2]; exact cells_alloc _ _ _ 0
  have r1 : w2.cell? ⟨w.heap.size + 1, 1, none⟩ = some (.slice none 0 0) := by rw [← z1, ← hw2]; exact cells_alloc _ _ _ 1
  have f0 : ∀ j, w2.frozen? ⟨w.heap.size + 1, j, none⟩ = false := fun j => by rw [← z1, ← hw2]; exact World.frozen?_alloc_at _ _ _ _ (by simp)
  have q02 := cell_below q0 b2; have q12 := cell_below q1 b2
  have Hb2 : Hid (Below w.heap.size w w2) := hid_ (Hc1.out.trans (b2.mono Hc1.out.size))
  have hln := h2.len
  have H1 := hid_ h1; have H2 := hid_ h2
  obtain ⟨vs, v0, v1, v2⟩ := ents_vals h2
  have hi2 : i < n2 := by omega
  obtain ⟨b, off, -, -, -, rfl, hb, -⟩ := h2.cells i hi2
  have V2 := hid_ (fun W (hW : Below w2.heap.size w2 W) => encE_cell (W := W) (b := b) vs off fun k x hx => by
    obtain ⟨b', off', e, -, x0, x1⟩ := v2 k x hx
    injection e with e; injection e with e1 e2; subst e1; subst e2
    have hB : Below w.heap.size w W := Hb2.out.trans (hW.mono Hb2.out.size)
    exact ⟨cell_below x0 hB, cell_below x1 hB⟩)
  have V1 := hid_ v1
  have hone := encE_one v1
  have HQ := hid_ (fun W (hW : Below w2.heap.size w2 W) => (⟨cell_below q02 hW, cell_below q12 hW⟩ : W.cell? ⟨w.heap.size, 0, none⟩ = some (.slice a1 n1 c1) ∧ W.cell? ⟨w.heap.size, 1, none⟩ = some (.slice (some ⟨b, off, none⟩) n2 c2)))
  have HR := hid_ (fun W (hW : Below w2.heap.size w2 W) => (⟨⟨cell_below r0 hW, cell_below r1 hW⟩, (hW.frozen (p := ⟨w.heap.size + 1, 0, none⟩) (by show w.heap.size + 1 < w2.heap.size; omega)).trans (f0 0), (hW.frozen (p := ⟨w.heap.size + 1, 1, none⟩) (by show w.heap.size + 1 < w2.heap.size; omega)).trans (f0 1)⟩ : (W.cell? ⟨w.heap.size + 1, 0, none⟩ = some (.slice none 0 0) ∧ W.cell? ⟨w.heap.size + 1, 1, none⟩ = some (.slice none 0 0)) ∧ W.frozen? ⟨w.heap.size + 1, 0, none⟩ = false ∧ W.frozen? ⟨w.heap.size + 1, 1, none⟩ = false))
  have hle := h2.le
  have hsm := h2.small
  have hic : i ≤ c2 := by omega
  obtain ⟨j, hj⟩ : ∃ j, i + 1 = j := ⟨_, rfl⟩
  have hwr : IntKind.i64.wrap ((i : Int) + 1) = (j : Int) := by rw [IntWalk.i64_in _ (by omega)]; omega
  have hjc : j ≤ c2 := by omega
  have hjn : j ≤ n2 := by omega
  have Hj := hid_ hj
  have Hln := hid_ hln
  have Hv0 := hid_ v0
  have Z2 := hid_ z2
  have b3 : Below w2.heap.size w2 (w2.drew.alloc (.cells #[] 39)) := (Below.drew (Below.refl _ _)).alloc (Nat.le_refl _) _
  have hh2 : n2 ≤ 1000 := by omega
  obtain ⟨A, hA, hsrc⟩ : ∃ A : Addr, (if c2 = j then some (⟨b, off, none⟩ : Addr) else some ⟨b, off + j * 2, none⟩) = some A ∧ Hid (∀ W (_ : Below w2.heap.size w2 W) t u, ((vs.drop j).flatMap encE)[t]? = some u → W.cell? (A.add t) = some u) := by
    by_cases h : c2 = j
    · refine ⟨⟨b, off, none⟩, by simp [h], hid_ fun W _ t u hu => ?_⟩
      rw [List.drop_of_length_le (by omega)] at hu
      simp at hu
    · refine ⟨⟨b, off + j * 2, none⟩, by simp [h], hid_ fun W hW t u hu => ?_⟩
      rw [show (⟨b, off + j * 2, none⟩ : Addr).add t = ⟨b, off + (j * 2 + t), none⟩ by unfold Addr.add; split <;> simp_all; omega]
      refine V2.out W hW _ u ?_
      rw [← encE_drop, List.getElem?_drop] at hu
      exact hu
  have hsrc1 : Hid (∀ W (_ : Below w2.heap.size w2 W) t u, ((vs.take i).flatMap encE)[t]? = some u → W.cell? ((⟨b, off, none⟩ : Addr).add t) = some u) := hid_ fun W hW t u hu => by
    rw [show (⟨b, off, none⟩ : Addr).add t = ⟨b, off + t, none⟩ by unfold Addr.add; split <;> simp_all]
    refine V2.out W hW _ u ?_
    rw [← encE_take] at hu
    have ht := (List.getElem?_eq_some_iff.1 hu).1
    rw [List.length_take] at ht
    rwa [List.getElem?_take_of_lt (by omega)] at hu
  have hone1 : Hid (∀ u ∈ (vs.take i).flatMap encE, u.oneCell' = true) := hid_ fun u hu => hone u (by rw [← encE_take] at hu; exact List.mem_of_mem_take hu)
  have hone2 : Hid (∀ u ∈ (vs.drop j).flatMap encE, u.oneCell' = true) := hid_ fun u hu => hone u (by rw [← encE_drop] at hu; exact List.mem_of_mem_drop hu)
  have hl1 : Hid ((vs.take i).length = i) := hid_ (by rw [List.length_take]; omega)
  have hl2 : Hid ((vs.drop j).length = n2 - j) := hid_ (by rw [List.length_drop, v0])
  have hfin : Hid (∀ k x, (vs.take i ++ vs.drop j)[k]? = some x → EcAt w x ((cutP P i).ents.getD k E0)) := hid_ fun k x hx => by
    show EcAt w x ((cutE P.ents i).getD k E0)
    unfold cutE
    rw [getD_cut P.ents E0 i k hi]
    by_cases hki : k < i
    · rw [if_pos hki]
      rw [List.getElem?_append_left (by rw [List.length_take]; omega), List.getElem?_take_of_lt hki] at hx
      exact v1 k x hx
    · rw [if_neg hki]
      rw [List.getElem?_append_right (by rw [List.length_take]; omega), List.length_take, List.getElem?_drop] at hx
      refine v1 (k + 1) x ?_
      rw [← hx]; congr 1; omega
  have hfl : Hid ((vs.take i ++ vs.drop j).length = (cutP P i).ents.length) := hid_ (by
    show _ = (cutE P.ents i).length
    unfold cutE; rw [List.length_append, List.length_append, List.length_take, List.length_drop, List.length_take, List.length_drop, v0, hln, hj])
  clear h1 h2 HP HP1 cb b2 q0 q1 v0 v1 v2 hone h50 hi hj hln q02 q12 r0 r1 f0 z2 hb
  go_enter Try.func56, Try.ntmps56
  go_wp2
  refine wp_region_last (n := 15) (S := fun W => W.cell? ⟨w.heap.size, 0, none⟩ = some (.slice a1 n1 c1) ∧ W.cell? ⟨w.heap.size, 1, none⟩ = some (.slice (some ⟨b, off, none⟩) n2 c2)) (by kernel_rfl) (by kernel_rfl) (HQ.out _ (Below.drew (Below.refl _ _))) (fun hHeld => ?_)
  refine wpAnyH_take (i := 0) (oi := ?oi0h1) (v := ?v0h1) ?hi0h1 (by kernel_rfl) ?hf0h1 (by kernel_rfl) ?hQ0h1 ?hy0h1 (by assumption) ?rest0h1
  case hi0h1 => (simp only [List.getElem?_toArray, List.getElem?_cons_zero]; rfl)
  case hf0h1 => kernel_rfl
  case hQ0h1 => exact fun _ _ _ h => h
  case hy0h1 => (refine Or.inl ⟨by rfl, ?_⟩; intro W hSw; (try dsimp only at hSw); go_simp; try with_reducible rfl)
  try simp only [Act.put, List.setIfInBounds_toArray, List.set_cons_zero, List.set_cons_succ]
  refine wpAnyH_take (i := 1) (oi := ?oi1h2) (v := ?v1h2) ?hi1h2 (by kernel_rfl) ?hf1h2 (by kernel_rfl) ?hQ1h2 ?hy1h2 (by assumption) ?rest1h2
  case hi1h2 => (simp only [List.getElem?_toArray, List.getElem?_cons_succ, List.getElem?_cons_zero]; rfl)
  case hf1h2 => kernel_rfl
  case hQ1h2 => exact fun _ _ _ h => h
  case hy1h2 => (refine Or.inl ⟨by rfl, ?_⟩; intro W hSw; (try dsimp only at hSw); obtain ⟨g0, g1⟩ := hSw; go_simp; try with_reducible rfl)
  try simp only [Act.put, List.setIfInBounds_toArray, List.set_cons_zero, List.set_cons_succ]
  refine wpAnyH_take (i := 3) (oi := ?oi3h3) (v := ?v3h3) ?hi3h3 (by kernel_rfl) ?hf3h3 (by kernel_rfl) ?hQ3h3 ?hy3h3 (by assumption) ?rest3h3
  case hi3h3 => (simp only [List.getElem?_toArray, List.getElem?_cons_succ, List.getElem?_cons_zero]; rfl)
  case hf3h3 => kernel_rfl
  case hQ3h3 => exact fun _ _ _ h => h
  case hy3h3 => (refine Or.inl ⟨by rfl, ?_⟩; intro W hSw; (try dsimp only at hSw); go_simp; try with_reducible rfl)
  try simp only [Act.put, List.setIfInBounds_toArray, List.set_cons_zero, List.set_cons_succ]
  refine wpAnyH_take (i := 4) (oi := ?oi4h4) (v := ?v4h4) ?hi4h4 (by kernel_rfl) ?hf4h4 (by kernel_rfl) ?hQ4h4 ?hy4h4 (by assumption) ?rest4h4
  case hi4h4 => (simp only [List.getElem?_toArray, List.getElem?_cons_succ, List.getElem?_cons_zero]; rfl)
  case hf4h4 => kernel_rfl
  case hQ4h4 => exact fun _ _ _ h => h
  case hy4h4 => (refine Or.inl ⟨by rfl, ?_⟩; intro W hSw; (try dsimp only at hSw); obtain ⟨g0, g1⟩ := hSw; go_simp; try with_reducible rfl)
  try simp only [Act.put, List.setIfInBounds_toArray, List.set_cons_zero, List.set_cons_succ]
  refine wpAnyH_take (i := 5) (oi := ?oi5h5) (v := ?v5h5) ?hi5h5 (by kernel_rfl) ?hf5h5 (by kernel_rfl) ?hQ5h5 ?hy5h5 (by assumption) ?rest5h5
  case hi5h5 => (simp only [List.getElem?_toArray, List.getElem?_cons_succ, List.getElem?_cons_zero]; rfl)
  case hf5h5 => kernel_rfl
  case hQ5h5 => exact fun _ _ _ h => h
  case hy5h5 => (refine Or.inl ⟨by rfl, ?_⟩; intro W hSw; (try dsimp only at hSw); go_simp; try with_reducible rfl)
  try simp only [Act.put, List.setIfInBounds_toArray, List.set_cons_zero, List.set_cons_succ]
  refine wpAnyH_take (i := 6) (oi := ?oi6h6) (v := ?v6h6) ?hi6h6 (by kernel_rfl) ?hf6h6 (by kernel_rfl) ?hQ6h6 ?hy6h6 (by assumption) ?rest6h6
  case hi6h6 => (simp only [List.getElem?_toArray, List.getElem?_cons_succ, List.getElem?_cons_zero]; rfl)
  case hf6h6 => kernel_rfl
  case hQ6h6 => exact fun _ _ _ h => h
  case hy6h6 => (refine Or.inl ⟨by rfl, ?_⟩; intro W hSw; (try dsimp only at hSw); go_simp; try with_reducible rfl)
  try simp only [Act.put, List.setIfInBounds_toArray, List.set_cons_zero, List.set_cons_succ]
  refine wpAnyH_take (i := 8) (oi := ?oi8h7) (v := ?v8h7) ?hi8h7 (by kernel_rfl) ?hf8h7 (by kernel_rfl) ?hQ8h7 ?hy8h7 (by assumption) ?rest8h7
  case hi8h7 => (simp only [List.getElem?_toArray, List.getElem?_cons_succ, List.getElem?_cons_zero]; rfl)
  case hf8h7 => kernel_rfl
  case hQ8h7 => exact fun _ _ _ h => h
  case hy8h7 => (refine Or.inl ⟨by rfl, ?_⟩; intro W hSw; (try dsimp only at hSw); go_simp; try with_reducible rfl)
  try simp only [Act.put, List.setIfInBounds_toArray, List.set_cons_zero, List.set_cons_succ]
  refine wpAnyH_take (i := 9) (oi := ?oi9h8) (v := ?v9h8) ?hi9h8 (by kernel_rfl) ?hf9h8 (by kernel_rfl) ?hQ9h8 ?hy9h8 (by assumption) ?rest9h8
  case hi9h8 => (simp only [List.getElem?_toArray, List.getElem?_cons_succ, List.getElem?_cons_zero]; rfl)
  case hf9h8 => kernel_rfl
  case hQ9h8 => exact fun _ _ _ h => h
  case hy9h8 => (refine Or.inl ⟨by rfl, ?_⟩; intro W hSw; (try dsimp only at hSw); obtain ⟨g0, g1⟩ := hSw; go_simp; try with_reducible rfl)
  try simp only [Act.put, List.setIfInBounds_toArray, List.set_cons_zero, List.set_cons_succ]
  refine wpAnyH_take (i := 10) (oi := ?oi10h9) (v := ?v10h9) ?hi10h9 (by kernel_rfl) ?hf10h9 (by kernel_rfl) ?hQ10h9 ?hy10h9 (by assumption) ?rest10h9
  case hi10h9 => (simp only [List.getElem?_toArray, List.getElem?_cons_succ, List.getElem?_cons_zero]; rfl)
  case hf10h9 => kernel_rfl
  case hQ10h9 => exact fun _ _ _ h => h
  case hy10h9 => (refine Or.inl ⟨by rfl, ?_⟩; intro W hSw; (try dsimp only at hSw); go_simp; try with_reducible rfl)
  try simp only [Act.put, List.setIfInBounds_toArray, List.set_cons_zero, List.set_cons_succ]
  refine wpAnyH_take (i := 11) (oi := ?oi11h10) (v := ?v11h10) ?hi11h10 (by kernel_rfl) ?hf11h10 (by kernel_rfl) ?hQ11h10 ?hy11h10 (by assumption) ?rest11h10
  case hi11h10 => (simp only [List.getElem?_toArray, List.getElem?_cons_succ, List.getElem?_cons_zero]; rfl)
  case hf11h10 => kernel_rfl
  case hQ11h10 => exact fun _ _ _ h => h
  case hy11h10 => (refine Or.inl ⟨by rfl, ?_⟩; intro W hSw; (try dsimp only at hSw); go_simp; try with_reducible rfl)
  try simp only [Act.put, List.setIfInBounds_toArray, List.set_cons_zero, List.set_cons_succ]
  refine wpAnyH_take (i := 12) (oi := ?oi12h11) (v := ?v12h11) ?hi12h11 (by kernel_rfl) ?hf12h11 (by kernel_rfl) ?hQ12h11 ?hy12h11 (by assumption) ?rest12h11
  case hi12h11 => (simp only [List.getElem?_toArray, List.getElem?_cons_succ, List.getElem?_cons_zero]; rfl)
  case hf12h11 => kernel_rfl
  case hQ12h11 => exact fun _ _ _ h => h
  case hy12h11 => (refine Or.inl ⟨by rfl, ?_⟩; intro W hSw; (try dsimp only at hSw); go_simp; try with_reducible rfl)
  try simp only [Act.put, List.setIfInBounds_toArray, List.set_cons_zero, List.set_cons_succ]
  refine wpAnyH_ready (rs := [2]) (by kernel_rfl) (by simp) ?_
  refine AllReadyH.cons (o := _) (by (simp only [List.getElem?_toArray, List.getElem?_cons_succ, List.getElem?_cons_zero]; rfl)) (fun K hK => ?_) AllReadyH.nil
  go_simp
  refine hK.out _ _ ?_ (fun hHeld => ?_)
  · exact HQ.out _ b3
  clear hK K
  try simp only [Act.put, List.setIfInBounds_toArray, List.set_cons_zero, List.set_cons_succ]
  refine wpAnyH_ready (rs := [7]) (by kernel_rfl) (by simp) ?_
  refine AllReadyH.cons (o := _) (by (simp only [List.getElem?_toArray, List.getElem?_cons_succ, List.getElem?_cons_zero]; rfl)) (fun K hK => ?_) AllReadyH.nil
  refine step_append_encN rfl (.tmp 7) (.tmp 11) rfl w2.heap.size _ [] (by rfl) (World.ownsRow_lit (base := w2.heap.size) (e := 39) (size := 2) w2.drew #[] 0 (Nat.le_refl _) (by unfold maxLen; omega) rfl) _ ⟨b, off, none⟩ rfl i c2 (vs.take i) hl1.out (by rfl) (hsrc1.out _ b3) hone1.out (by simp; omega) (by simp) ?_; intro v5 w5 ho5 hg5 hat5; rw [List.nil_append] at ho5; have bw5 : Below w2.heap.size w2 w5 := b3.grown hg5 (by simp) (fun r e => by cases e; exact Nat.le_refl _)
  refine hK.out _ _ ?_ (fun hHeld => ?_)
  · exact HQ.out _ bw5
  clear hK K
  try simp only [Act.put, List.setIfInBounds_toArray, List.set_cons_zero, List.set_cons_succ]
  refine wpAnyH_ready (rs := [13]) (by kernel_rfl) (by simp) ?_
  refine AllReadyH.cons (o := _) (by (simp only [List.getElem?_toArray, List.getElem?_cons_succ, List.getElem?_cons_zero]; rfl)) (fun K hK => ?_) AllReadyH.nil
  refine step_append_encN rfl (.tmp 12) (.tmp 17) rfl w2.heap.size v5 (vs.take i) (by rfl) ho5 (some A) A rfl (n2 - j) (c2 - j) (vs.drop j) hl2.out (by rfl) (hsrc.out _ bw5) hone2.out (by rw [hl1.out]; omega) bw5.size ?_; intro v6 w6 ho6 hg6 hat6; have bw6 : Below w2.heap.size w2 w6 := bw5.grown hg6 bw5.size (fun r e => (ho5.lt r e).1); have Ho6 := hid_ ho6; have hy6 := ents_of_own ho6 hfl.out (fun k x hx => (hfin.out k x hx).below (Hb2.out.trans (bw6.mono Hb2.out.size)) (Nat.le_refl _)); obtain ⟨a6, c6, rfl, -⟩ := hy6
  refine hK.out _ _ ?_ (fun hHeld => ?_)
  · exact HQ.out _ bw6
  clear hK K
  try simp only [Act.put, List.setIfInBounds_toArray, List.set_cons_zero, List.set_cons_succ]
  refine wpAnyH_take (i := 14) (oi := ?oi14h12) (v := ?v14h12) ?hi14h12 (by kernel_rfl) ?hf14h12 (by kernel_rfl) ?hQ14h12 ?hy14h12 (by assumption) ?rest14h12
  case hi14h12 => (simp only [List.getElem?_toArray, List.getElem?_cons_succ, List.getElem?_cons_zero]; rfl)
  case hf14h12 => kernel_rfl
  case hQ14h12 => exact fun _ _ _ h => h
  case hy14h12 => (refine Or.inl ⟨by rfl, ?_⟩; intro W hSw; (try dsimp only at hSw); go_simp; try with_reducible rfl)
  try simp only [Act.put, List.setIfInBounds_toArray, List.set_cons_zero, List.set_cons_succ]
  have Hb6 := hid_ bw6
  clear ho5 ho6 hg5 hg6 hat5 hat6 bw5 b3
  obtain ⟨⟨y0, y1⟩, y2, y3⟩ := HR.out _ bw6
  clear bw6
  refine wpAnyH_done (by kernel_rfl) ?_ _
  clear hHeld
  refine last_of ?_
  refine wpOp_step (o := _) (by (simp only [List.getElem?_toArray, List.getElem?_cons_succ, List.getElem?_cons_zero]; rfl)) (fun K hK => ?_)
  go_simp
  refine hK _ _ ?_
  clear hK K
  try simp only [Act.put, List.setIfInBounds_toArray, List.set_cons_zero, List.set_cons_succ]
  obtain ⟨t0, t1⟩ := cells_two y0 y1 (.slice a1 n1 c1) (.slice a6 (cutP P i).ents.length c6)
  have z2 := Z2.out
  go_wp2
  have hf : Below w.heap.size w ((w6.setCell ⟨w.heap.size + 1, 0, none⟩ (.slice a1 n1 c1)).setCell ⟨w.heap.size + 1, 1, none⟩ (.slice a6 (cutP P i).ents.length c6)) := ((Hb2.out.trans (Hb6.out.mono Hb2.out.size)).setCell (p := ⟨w.heap.size + 1, 0, none⟩) (by show _ ≤ _ + 1; omega) _).setCell (p := ⟨w.heap.size + 1, 1, none⟩) (by show _ ≤ _ + 1; omega) _
  have hO := ownsRow_setCell_below (ownsRow_setCell_below Ho6.out (a := ⟨w.heap.size + 1, 0, none⟩) (by show w.heap.size + 1 < _; omega) (.slice a1 n1 c1)) (a := ⟨w.heap.size + 1, 1, none⟩) (by show w.heap.size + 1 < _; omega) (.slice a6 (cutP P i).ents.length c6)
  obtain ⟨a7, c7, e7, he7⟩ := ents_of_own hO hfl.out (fun k x hx => (hfin.out k x hx).below hf (Nat.le_refl _))
  injection e7 with e8 e9 e10; subst e8; subst e10
  refine bodyPost_ret (v := .agg #[.slice a1 n1 c1, .slice a6 (cutP P i).ents.length c6]) ?_ rfl ⟨_, _, rfl, ⟨_, _, _, _, _, _, rfl, H1.out.below hf (Nat.le_refl _), he7⟩, fun k hk => Nat.le_trans Hb2.out.size (hO.lt k hk).1, hf⟩
  simp [results, Try.results56, go_sem, t0, t1]
theorem r6drop_calls (v : Value) (P : Par) (i : Nat) (w : World) (h : ParAt w v P) (h50 : P.ents.length ≤ 1000) (hi : i < P.ents.length) :
    Calls Try.prog 56 #[v, .int .i64 (i : Int)] w fun e w' => ∃ v', e = .returned v' ∧ ParAt w' v' (cutP P i) ∧ Below w.heap.size w w' :=
  (r6drop2_calls v P i w h h50 hi).mono fun _ _ ⟨_, _, he, hp, _, hb⟩ => ⟨_, he, hp, hb⟩
end Go.Proofs.Ytdnlpikfibdjoaa
namespace Go.Proofs.Ytdnlpikfibdjoaa
open Go.RowKit Go.Proofs.Kv Go

/-! ### Needless of the document -/
theorem same_symm (l m : List Int) : Same l m = Same m l := by unfold Same; rw [decide_eq_decide]; exact ⟨fun e => e.symm, fun e => e.symm⟩
set_option maxRecDepth 100000 in
set_option maxHeartbeats 8000000 in
theorem r6Needless_calls (v : Value) (P : Par) (w : World) (h : ParAt w v P) :
    Calls Try.prog 11 #[v] w fun e w' => NeedPost P w e w' := by
  obtain ⟨i0, hi0, hz0, hz1, hz2⟩ := info_parts Try.infoInt
  have HP := hid_ h
  obtain ⟨a1, n1, c1, a2, n2, c2, rfl, h1, h2⟩ := h
  obtain ⟨w1, hw1⟩ : ∃ w1, w.alloc (.cells #[.slice a1 n1 c1, .slice a2 n2 c2] 25) = w1 := ⟨_, rfl⟩
  have cb : Below w.heap.size w w1 := by rw [← hw1]; exact below_alloc _ _
  have q0 : w1.cell? ⟨w.heap.size, 0, none⟩ = some (.slice a1 n1 c1) := by rw [← hw1]; exact cells_alloc _ _ _ 0
  have q1 : w1.cell? ⟨w.heap.size, 1, none⟩ = some (.slice a2 n2 c2) := by rw [← hw1]; exact cells_alloc _ _ _ 1
  have HP1 := hid_ (HP.out.below cb (Nat.le_refl _)); have Hc1 := hid_ cb
  have HV := hid_ (r6Validate_calls _ P w1 HP1.out)
  have HQ := hid_ (fun W (hW : Below w1.heap.size w1 W) => (⟨cell_below q0 hW, cell_below q1 hW⟩ : W.cell? ⟨w.heap.size, 0, none⟩ = some (.slice a1 n1 c1) ∧ W.cell? ⟨w.heap.size, 1, none⟩ = some (.slice a2 n2 c2)))
  by_cases hv : validP P = 0
  · obtain ⟨-, -, h10, -⟩ := validP_ok hv
    have HD := hid_ (fun W (hW : Below w1.heap.size w1 W) i (hi : i < P.ents.length) => r6drop_calls _ P i W (HP1.out.below hW (Nat.le_refl _)) (by omega) hi)
    have HF := hid_ (fun W (hW : Below w1.heap.size w1 W) => r6fill_calls _ P W (HP1.out.below hW (Nat.le_refl _)) hv)
    have HFC := hid_ (fun i W v' (hp : ParAt W v' (cutP P i)) => r6fill_calls v' (cutP P i) W hp (valid_cut hv i))
    have hln := h2.len
    rw [hln] at HD h10
    have HR : Hid (resNeed P = needK P n2) := hid_ (by unfold resNeed; rw [if_pos hv, hln])
    have HG : Hid (∀ W a n c, IntsAt W a n c (needK P n2) → Below w.heap.size w W → NeedPost P w (.returned (.tuple #[.slice a n c, .int .i64 0])) W) := hid_ fun W a n c h1 h2 => ⟨a, n, c, by rw [hv], by rw [HR.out]; exact h1, h2⟩
    rw [hv] at HV
    clear h1 h2 cb HP HP1 hv hln HR
    go_enter Try.func11, Try.ntmps11
    go_wp2_with (go_at_call 54; (with_reducible refine HV.out.mono ?_); rintro e w2 ⟨rfl, hb2⟩; obtain ⟨q2, r2⟩ := HQ.out w2 hb2)
    go_loopw [5, 6] (fun lv iv wr => ∃ k : Nat, iv = .int .i64 (k : Int) ∧ k ≤ n2 ∧ wr.ownsRow w2.heap.size 3 1 lv (needK P k).length ((needK P k).map (Value.int .i64)) ∧ Below w2.heap.size w2 wr) (fun _ iv _ => n2 - (intOf iv).toNat)
    case atStart => exact ⟨0, rfl, Nat.zero_le _, World.ownsRow_nil _ _ _ _, Below.refl _ _⟩
    case round =>
      obtain ⟨k, rfl, hk, hO, hb⟩ := hrel
      have Hb := hid_ hb; have HO := hid_ hO
      have hb1 := hb2.trans (hb.mono hb2.size)
      obtain ⟨q3, r3⟩ := HQ.out wr hb1
      by_cases hlt : k < n2
      · have hwk : IntKind.i64.wrap ((k : Int) + 1) = (k : Int) + 1 := IntWalk.i64_in _ (by omega)
        have bd : Below w1.heap.size w1 wr.drew := Below.drew hb1
        have bdw : Below wr.heap.size wr wr.drew := Below.drew (Below.refl _ _)
        have HDk := hid_ (HD.out wr.drew bd k hlt)
        have Hsy : Hid (Same (fillL (cutP P k)) (fillL P) = needB P k) := hid_ (same_symm _ _)
        have hle := needK_len P k
        cases hn : needB P k with
        | true =>
          rw [hn] at Hsy
          have HK := hid_ (needK_yes hn)
          obtain ⟨ln, hln⟩ : ∃ ln, (needK P k).length = ln := ⟨_, rfl⟩
          have Hln := hid_ hln
          rw [hln] at hle HO
          clear hn hO hb hln
          go_wp2
          refine wp_region_held_drew (S := fun W => W.cell? ⟨w.heap.size, 0, none⟩ = some (.slice a1 n1 c1) ∧ W.cell? ⟨w.heap.size, 1, none⟩ = some (.slice a2 n2 c2)) (by kernel_rfl) (HQ.out _ bd) (fun hHeld => ?_)
          refine wpAnyH_take (i := 0) (oi := ?oi0h1) (v := ?v0h1) ?hi0h1 (by kernel_rfl) ?hf0h1 (by kernel_rfl) ?hQ0h1 ?hy0h1 (by assumption) ?rest0h1
          case hi0h1 => (simp only [List.getElem?_toArray, List.getElem?_cons_zero]; rfl)
          case hf0h1 => kernel_rfl
          case hQ0h1 => exact fun _ _ _ h => h
          case hy0h1 => (refine Or.inl ⟨by rfl, ?_⟩; intro W hSw; (try dsimp only at hSw); obtain ⟨g0, g1⟩ := hSw; go_simp; try with_reducible rfl)
          try simp only [Act.put, List.setIfInBounds_toArray, List.set_cons_zero, List.set_cons_succ]
          refine wpAnyH_take (i := 1) (oi := ?oi1h2) (v := ?v1h2) ?hi1h2 (by kernel_rfl) ?hf1h2 (by kernel_rfl) ?hQ1h2 ?hy1h2 (by assumption) ?rest1h2
          case hi1h2 => (simp only [List.getElem?_toArray, List.getElem?_cons_succ, List.getElem?_cons_zero]; rfl)
          case hf1h2 => kernel_rfl
          case hQ1h2 => exact fun _ _ _ h => h
          case hy1h2 => (refine Or.inl ⟨by rfl, ?_⟩; intro W hSw; (try dsimp only at hSw); go_simp; try with_reducible rfl)
          try simp only [Act.put, List.setIfInBounds_toArray, List.set_cons_zero, List.set_cons_succ]
          refine wpAnyH_take (i := 4) (oi := ?oi4h3) (v := ?v4h3) ?hi4h3 (by kernel_rfl) ?hf4h3 (by kernel_rfl) ?hQ4h3 ?hy4h3 (by assumption) ?rest4h3
          case hi4h3 => (simp only [List.getElem?_toArray, List.getElem?_cons_succ, List.getElem?_cons_zero]; rfl)
          case hf4h3 => kernel_rfl
          case hQ4h3 => exact fun _ _ _ h => h
          case hy4h3 => (refine Or.inl ⟨by rfl, ?_⟩; intro W hSw; (try dsimp only at hSw); obtain ⟨g0, g1⟩ := hSw; go_simp; try with_reducible rfl)
          try simp only [Act.put, List.setIfInBounds_toArray, List.set_cons_zero, List.set_cons_succ]
          refine wpAnyH_ready (rs := [2]) (by kernel_rfl) (by simp) ?_
          refine AllReadyH.cons (o := _) (by (simp only [List.getElem?_toArray, List.getElem?_cons_succ, List.getElem?_cons_zero]; rfl)) (fun K hK => ?_) AllReadyH.nil
          go_simp
          (with_reducible refine HDk.out.mono ?_); rintro e w3 ⟨v3, rfl, hp3, hb3⟩; have bb3 := bd.trans (hb3.mono bd.size); have Hp3 := hid_ hp3; have bw3 := bdw.trans (hb3.mono bdw.size)
          refine hK.out _ _ ?_ (fun hHeld => ?_)
          · exact HQ.out _ bb3
          clear hK K
          try simp only [Act.put, List.setIfInBounds_toArray, List.set_cons_zero, List.set_cons_succ]
          refine wpAnyH_ready (rs := [3]) (by kernel_rfl) (by simp) ?_
          refine AllReadyH.cons (o := _) (by (simp only [List.getElem?_toArray, List.getElem?_cons_succ, List.getElem?_cons_zero]; rfl)) (fun K hK => ?_) AllReadyH.nil
          go_simp
          (with_reducible refine (HFC.out k _ _ Hp3.out).mono ?_); rintro e w4 ⟨v4, rfl, hm4⟩; have bb4 := bb3.trans (hm4.bel.mono bb3.size); have bw4 := bw3.trans (hm4.bel.mono bw3.size); obtain ⟨a4, c4, rfl, hi4⟩ := hm4.at_; have Hi4 := hid_ hi4; clear hi4 hm4
          refine hK.out _ _ ?_ (fun hHeld => ?_)
          · exact HQ.out _ bb4
          clear hK K
          try simp only [Act.put, List.setIfInBounds_toArray, List.set_cons_zero, List.set_cons_succ]
          refine wpAnyH_ready (rs := [5]) (by kernel_rfl) (by simp) ?_
          refine AllReadyH.cons (o := _) (by (simp only [List.getElem?_toArray, List.getElem?_cons_succ, List.getElem?_cons_zero]; rfl)) (fun K hK => ?_) AllReadyH.nil
          go_simp
          (with_reducible refine (HF.out _ bb4).mono ?_); rintro e w5 ⟨v5, rfl, hm5⟩; have bb5 := bb4.trans (hm5.bel.mono bb4.size); have bw5 := bw4.trans (hm5.bel.mono bw4.size); obtain ⟨a5, c5, rfl, hi5⟩ := hm5.at_; have Hi5 := hid_ hi5; have Hi45 := hid_ (Hi4.out.below hm5.bel (Nat.le_refl _)); clear hi5 hm5
          refine hK.out _ _ ?_ (fun hHeld => ?_)
          · exact HQ.out _ bb5
          clear hK K
          try simp only [Act.put, List.setIfInBounds_toArray, List.set_cons_zero, List.set_cons_succ]
          refine wpAnyH_ready (rs := [6]) (by kernel_rfl) (by simp) ?_
          refine AllReadyH.cons (o := _) (by (simp only [List.getElem?_toArray, List.getElem?_cons_succ, List.getElem?_cons_zero]; rfl)) (fun K hK => ?_) AllReadyH.nil
          go_simp
          (with_reducible refine (same_calls _ _ _ (fillL (cutP P k)) _ _ _ (fillL P) _ Hi45.out Hi5.out).mono ?_); rintro e w7 ⟨rfl, q7, rfl⟩; rw [Hsy.out]
          refine hK.out _ _ ?_ (fun hHeld => ?_)
          · exact HQ.out _ (below_drewN bb5 _)
          clear hK K
          try simp only [Act.put, List.setIfInBounds_toArray, List.set_cons_zero, List.set_cons_succ]
          refine wpAnyH_done (by kernel_rfl) ?_ _
          clear hHeld
          have bw6 : Below wr.heap.size wr (w5.drewN q7) := below_drewN bw5 _
          clear bw5 bw4 bw3 bb3 bb4 bb5
          generalize w5.drewN q7 = w6 at *
          go_wp2_with (at_builtin; refine wpList_append_ints _ rfl (.tmp 26) (.tmp 28) _ rfl w2.heap.size 3 i0 Try.underlying22 hi0 hz0 hz1 hz2 _ _ _ rfl (own_below (own_below HO.out bw6 (Nat.le_refl _)) (below_alloc w6 (.cells #[.int .i64 (k : Int)] 3)) (Nat.le_refl _)) _ _ _ _ rfl (IntsAt.one _ _ _) (by omega) (by have := Hb.out.size; have := bw6.size; simp; omega) ?_; intro v5 w5 hown5 hg5 hat5; have Hown5 := hid_ hown5; have Hb5 := hid_ (((Hb.out.trans (bw6.mono Hb.out.size)).trans ((below_alloc w6 (.cells #[.int .i64 (k : Int)] 3)).mono (Nat.le_trans Hb.out.size bw6.size))).grown hg5 (by have := Hb.out.size; have := bw6.size; simp; omega) (fun q hq => (HO.out.lt q hq).1)); obtain ⟨a5, c5, rfl, hI5⟩ := IntsAt.own hown5; clear hown5 hg5 hat5 hI5)
          go_roundw
          case rel => exact ⟨k + 1, by go_num, by omega, by rw [HK.out, List.length_append, Hln.out]; exact Hown5.out, Hb5.out⟩
          case measure => simp [intOf]; omega
        | false =>
          rw [hn] at Hsy
          have HK := hid_ (needK_no hn)
          clear hn hO hb
          go_wp2
          refine wp_region_held_drew (S := fun W => W.cell? ⟨w.heap.size, 0, none⟩ = some (.slice a1 n1 c1) ∧ W.cell? ⟨w.heap.size, 1, none⟩ = some (.slice a2 n2 c2)) (by kernel_rfl) (HQ.out _ bd) (fun hHeld => ?_)
          refine wpAnyH_take (i := 0) (oi := ?oi0h4) (v := ?v0h4) ?hi0h4 (by kernel_rfl) ?hf0h4 (by kernel_rfl) ?hQ0h4 ?hy0h4 (by assumption) ?rest0h4
          case hi0h4 => (simp only [List.getElem?_toArray, List.getElem?_cons_zero]; rfl)
          case hf0h4 => kernel_rfl
          case hQ0h4 => exact fun _ _ _ h => h
          case hy0h4 => (refine Or.inl ⟨by rfl, ?_⟩; intro W hSw; (try dsimp only at hSw); obtain ⟨g0, g1⟩ := hSw; go_simp; try with_reducible rfl)
          try simp only [Act.put, List.setIfInBounds_toArray, List.set_cons_zero, List.set_cons_succ]
          refine wpAnyH_take (i := 1) (oi := ?oi1h5) (v := ?v1h5) ?hi1h5 (by kernel_rfl) ?hf1h5 (by kernel_rfl) ?hQ1h5 ?hy1h5 (by assumption) ?rest1h5
          case hi1h5 => (simp only [List.getElem?_toArray, List.getElem?_cons_succ, List.getElem?_cons_zero]; rfl)
          case hf1h5 => kernel_rfl
          case hQ1h5 => exact fun _ _ _ h => h
          case hy1h5 => (refine Or.inl ⟨by rfl, ?_⟩; intro W hSw; (try dsimp only at hSw); go_simp; try with_reducible rfl)
          try simp only [Act.put, List.setIfInBounds_toArray, List.set_cons_zero, List.set_cons_succ]
          refine wpAnyH_take (i := 4) (oi := ?oi4h6) (v := ?v4h6) ?hi4h6 (by kernel_rfl) ?hf4h6 (by kernel_rfl) ?hQ4h6 ?hy4h6 (by assumption) ?rest4h6
          case hi4h6 => (simp only [List.getElem?_toArray, List.getElem?_cons_succ, List.getElem?_cons_zero]; rfl)
          case hf4h6 => kernel_rfl
          case hQ4h6 => exact fun _ _ _ h => h
          case hy4h6 => (refine Or.inl ⟨by rfl, ?_⟩; intro W hSw; (try dsimp only at hSw); obtain ⟨g0, g1⟩ := hSw; go_simp; try with_reducible rfl)
          try simp only [Act.put, List.setIfInBounds_toArray, List.set_cons_zero, List.set_cons_succ]
          refine wpAnyH_ready (rs := [2]) (by kernel_rfl) (by simp) ?_
          refine AllReadyH.cons (o := _) (by (simp only [List.getElem?_toArray, List.getElem?_cons_succ, List.getElem?_cons_zero]; rfl)) (fun K hK => ?_) AllReadyH.nil
          go_simp
          (with_reducible refine HDk.out.mono ?_); rintro e w3 ⟨v3, rfl, hp3, hb3⟩; have bb3 := bd.trans (hb3.mono bd.size); have Hp3 := hid_ hp3; have bw3 := bdw.trans (hb3.mono bdw.size)
          refine hK.out _ _ ?_ (fun hHeld => ?_)
          · exact HQ.out _ bb3
          clear hK K
          try simp only [Act.put, List.setIfInBounds_toArray, List.set_cons_zero, List.set_cons_succ]
          refine wpAnyH_ready (rs := [3]) (by kernel_rfl) (by simp) ?_
          refine AllReadyH.cons (o := _) (by (simp only [List.getElem?_toArray, List.getElem?_cons_succ, List.getElem?_cons_zero]; rfl)) (fun K hK => ?_) AllReadyH.nil
          go_simp
          (with_reducible refine (HFC.out k _ _ Hp3.out).mono ?_); rintro e w4 ⟨v4, rfl, hm4⟩; have bb4 := bb3.trans (hm4.bel.mono bb3.size); have bw4 := bw3.trans (hm4.bel.mono bw3.size); obtain ⟨a4, c4, rfl, hi4⟩ := hm4.at_; have Hi4 := hid_ hi4; clear hi4 hm4
          refine hK.out _ _ ?_ (fun hHeld => ?_)
          · exact HQ.out _ bb4
          clear hK K
          try simp only [Act.put, List.setIfInBounds_toArray, List.set_cons_zero, List.set_cons_succ]
          refine wpAnyH_ready (rs := [5]) (by kernel_rfl) (by simp) ?_
          refine AllReadyH.cons (o := _) (by (simp only [List.getElem?_toArray, List.getElem?_cons_succ, List.getElem?_cons_zero]; rfl)) (fun K hK => ?_) AllReadyH.nil
          go_simp
          (with_reducible refine (HF.out _ bb4).mono ?_); rintro e w5 ⟨v5, rfl, hm5⟩; have bb5 := bb4.trans (hm5.bel.mono bb4.size); have bw5 := bw4.trans (hm5.bel.mono bw4.size); obtain ⟨a5, c5, rfl, hi5⟩ := hm5.at_; have Hi5 := hid_ hi5; have Hi45 := hid_ (Hi4.out.below hm5.bel (Nat.le_refl _)); clear hi5 hm5
          refine hK.out _ _ ?_ (fun hHeld => ?_)
          · exact HQ.out _ bb5
          clear hK K
          try simp only [Act.put, List.setIfInBounds_toArray, List.set_cons_zero, List.set_cons_succ]
          refine wpAnyH_ready (rs := [6]) (by kernel_rfl) (by simp) ?_
          refine AllReadyH.cons (o := _) (by (simp only [List.getElem?_toArray, List.getElem?_cons_succ, List.getElem?_cons_zero]; rfl)) (fun K hK => ?_) AllReadyH.nil
          go_simp
          (with_reducible refine (same_calls _ _ _ (fillL (cutP P k)) _ _ _ (fillL P) _ Hi45.out Hi5.out).mono ?_); rintro e w7 ⟨rfl, q7, rfl⟩; rw [Hsy.out]
          refine hK.out _ _ ?_ (fun hHeld => ?_)
          · exact HQ.out _ (below_drewN bb5 _)
          clear hK K
          try simp only [Act.put, List.setIfInBounds_toArray, List.set_cons_zero, List.set_cons_succ]
          refine wpAnyH_done (by kernel_rfl) ?_ _
          clear hHeld
          have bw6 : Below wr.heap.size wr (w5.drewN q7) := below_drewN bw5 _
          clear bw5 bw4 bw3 bb3 bb4 bb5
          generalize w5.drewN q7 = w6 at *
          have HO6 := hid_ (own_below HO.out bw6 (Nat.le_refl _)); have Hb6 := hid_ (Hb.out.trans (bw6.mono Hb.out.size))
          clear bw6
          go_wp2
          go_roundw
          case rel => exact ⟨k + 1, by go_num, by omega, by rw [HK.out]; exact HO6.out, Hb6.out⟩
          case measure => simp [intOf]; omega
      · obtain rfl : n2 = k := by omega
        obtain ⟨a5, c5, rfl, hI5⟩ := IntsAt.own hO
        have HI5 := hid_ hI5
        clear hO hb hI5
        go_wp2
        go_ret2
        exact HG.out _ _ _ _ HI5.out (Hc1.out.trans (hb1.mono Hc1.out.size))
  · have hq : (validP P != 0) = true := by simpa using hv
    have HG : Hid (∀ W, Below w.heap.size w W → NeedPost P w (.returned (.tuple #[.slice none 0 0, .int .i64 (validP P)])) W) := hid_ fun W hW => ⟨none, 0, 0, rfl, by (unfold resNeed; rw [if_neg hv]; exact IntsAt.nil _ _ _ (by omega)), hW⟩
    generalize validP P = x at *
    clear h1 h2 cb HP HP1 hv
    go_enter Try.func11, Try.ntmps11
    go_wp2_with (go_at_call 54; (with_reducible refine HV.out.mono ?_); rintro e w2 ⟨rfl, hb2⟩)
    go_ret2
    exact HG.out _ (Hc1.out.trans (hb2.mono Hc1.out.size))
end Go.Proofs.Ytdnlpikfibdjoaa
namespace Go.Proofs.Ytdnlpikfibdjoaa
open Go.RowKit Go.Proofs.Kv Go

/-! ### Without of the document -/
theorem errN_twice (P : Par) (i : Int) : errN P [i, i] = errN P [i] := by
  unfold errN
  simp
set_option maxRecDepth 100000 in
set_option maxHeartbeats 8000000 in
theorem r6Without_calls (v : Value) (P : Par) (i : Int) (w : World) (h : ParAt w v P) :
    Calls Try.prog 19 #[v, .int .i64 i] w fun e w' => ∃ v', e = .returned (.tuple #[v', .int .i64 (errN P [i])]) ∧ MadeP6 w w' v' (resCut P i) := by
  have HP := hid_ h
  obtain ⟨a1, n1, c1, a2, n2, c2, rfl, h1, h2⟩ := h
  obtain ⟨w1, hw1⟩ : ∃ w1, w.alloc (.cells #[.slice a1 n1 c1, .slice a2 n2 c2] 25) = w1 := ⟨_, rfl⟩
  have cb : Below w.heap.size w w1 := by rw [← hw1]; exact below_alloc _ _
  have q0 : w1.cell? ⟨w.heap.size, 0, none⟩ = some (.slice a1 n1 c1) := by rw [← hw1]; exact cells_alloc _ _ _ 0
  have q1 : w1.cell? ⟨w.heap.size, 1, none⟩ = some (.slice a2 n2 c2) := by rw [← hw1]; exact cells_alloc _ _ _ 1
  have HP1 := hid_ (HP.out.below cb (Nat.le_refl _)); have Hc1 := hid_ cb
  obtain ⟨w2, hw2⟩ : ∃ w2, w1.alloc (.cells #[.slice none 0 0, .slice none 0 0] 25) = w2 := ⟨_, rfl⟩
  have z1 : w1.heap.size = w.heap.size + 1 := by rw [← hw1]; simp
  have z2 : w2.heap.size = w.heap.size + 2 := by rw [← hw2]; simp [z1]
  have b2 : Below w1.heap.size w1 w2 := by rw [← hw2]; exact below_alloc _ _
  have r0 : w2.cell? ⟨w.heap.size + 1, 0, none⟩ = some (.slice none 0 0) := by rw [← z1, ← hw2]; exact cells_alloc _ _ _ 0
  have r1 : w2.cell? ⟨w.heap.size + 1, 1, none⟩ = some (.slice none 0 0) := by rw [← z1, ← hw2]; exact cells_alloc _ _ _ 1
  have f0 : ∀ j, w2.frozen? ⟨w.heap.size + 1, j, none⟩ = false := fun j => by rw [← z1, ← hw2]; exact World.frozen?_alloc_at _ _ _ _ (by simp)
  have q02 := cell_below q0 b2; have q12 := cell_below q1 b2
  have HP2 := hid_ (HP1.out.below b2 (Nat.le_refl _))
  have HE := hid_ (errN_twice P i ▸ numbered_calls _ P i i w2 HP2.out)
  have HR : Hid (resCut P i = if errN P [i] = 0 then cutP P i.toNat else ⟨[], []⟩) := hid_ rfl
  have Hb2 : Hid (Below w.heap.size w w2) := hid_ (Hc1.out.trans (b2.mono Hc1.out.size))
  have hln := h2.len
  have Z2 := hid_ z2
  have hwz : w.heap.size + 2 ≤ w2.heap.size := by omega
  clear h1 h2 cb b2 q0 q1 z2
  by_cases he : errN P [i] = 0
  · obtain ⟨hv, hi⟩ := errN1_ok he
    obtain ⟨i', rfl, hi'⟩ := isNo_ok hi
    have Hf : Hid (resCut P i' = cutP P i') := hid_ (by rw [HR.out, if_pos he, Int.toNat_natCast])
    obtain ⟨-, -, h10, hent⟩ := validP_ok hv
    have h3 := (validP_ok hv).1.2
    have HD := hid_ (fun W (hW : Below w2.heap.size w2 W) => r6drop_calls _ P i' W (HP2.out.below hW (Nat.le_refl _)) (by omega) hi')
    obtain ⟨-, -, h10', hent'⟩ := validP_ok (valid_cut hv i')
    have h3' := (validP_ok (valid_cut hv i')).1.2
    have HC := hid_ (fun W v' (hp : ParAt W v' (cutP P i')) => r6Copy_calls v' (cutP P i') W hp (by omega) (by omega) (fun k hk => by have := (specB_ok (hent' k hk).1).1; omega))
    clear h10' hent' h3'
    rw [he] at HE ⊢
    rw [Hf.out]
    have qf : ∀ W, Below w2.heap.size w2 W → (W.cell? ⟨w.heap.size + 1, 0, none⟩ = some (.slice none 0 0) ∧ W.cell? ⟨w.heap.size + 1, 1, none⟩ = some (.slice none 0 0)) ∧ (W.frozen? ⟨w.heap.size + 1, 0, none⟩ = false ∧ W.frozen? ⟨w.heap.size + 1, 1, none⟩ = false) := fun W hW => ⟨⟨cell_below r0 hW, cell_below r1 hW⟩, (hW.frozen (p := ⟨w.heap.size + 1, 0, none⟩) (by show w.heap.size + 1 < w2.heap.size; omega)).trans (f0 0), (hW.frozen (p := ⟨w.heap.size + 1, 1, none⟩) (by show w.heap.size + 1 < w2.heap.size; omega)).trans (f0 1)⟩
    have Qf := hid_ qf
    clear he hv hi hent h10 h3 hi' HR hln qf r0 r1 f0
    go_enter Try.func19, Try.ntmps19
    go_wp2_with (first
      | (go_at_call 63; (with_reducible refine HE.out.mono ?_); rintro e w3 ⟨rfl, hb3⟩; have q03 := cell_below q02 hb3; have q13 := cell_below q12 hb3)
      | (go_at_call 56; (with_reducible refine (HD.out _ hb3).mono ?_); rintro e w5 ⟨v5, rfl, hp5, hc5⟩; have hb5 := hb3.trans (hc5.mono hb3.size); have HC5 := hid_ (HC.out _ _ hp5); clear hp5)
      | (go_at_call 12; (with_reducible refine HC5.out.mono ?_); rintro e w4 ⟨v4, rfl, u4, x4, rfl, hu4, hx4, hb4⟩; obtain ⟨a3, n3, c3, rfl, -⟩ := hu4.ints; obtain ⟨a4, c4, rfl, -⟩ := hx4.at_; obtain ⟨⟨y0, y1⟩, y2, y3⟩ := Qf.out _ (hb5.trans (hb4.mono hb5.size))))
    obtain ⟨t0, t1⟩ := cells_two y0 y1 (.slice a3 n3 c3) (.slice a4 (cutP P i').ents.length c4)
    have z2 := Z2.out
    have hp : w.heap.size + 1 < w5.heap.size := by have := hb5.size; omega
    refine bodyPost_ret (v := .tuple #[.agg #[.slice a3 n3 c3, .slice a4 (cutP P i').ents.length c4], .int .i64 0]) ?_ rfl ⟨_, rfl, _, _, rfl, ?_, ?_, ?_⟩
    · simp [results, Try.results19, go_sem, t0, t1]
    · exact ((hu4.store (p := ⟨w.heap.size + 1, 0, none⟩) hp _).store (p := ⟨w.heap.size + 1, 1, none⟩) hp _).base (by omega)
    · exact ((hx4.store (p := ⟨w.heap.size + 1, 0, none⟩) hp _).store (p := ⟨w.heap.size + 1, 1, none⟩) hp _).base (by omega)
    · have hf : Below w.heap.size w w4 := Hb2.out.trans ((hb5.trans (hb4.mono hb5.size)).mono Hb2.out.size)
      exact (hf.setCell (p := ⟨w.heap.size + 1, 0, none⟩) (by show _ ≤ _ + 1; omega) _).setCell (p := ⟨w.heap.size + 1, 1, none⟩) (by show _ ≤ _ + 1; omega) _
  · have hq : (errN P [i] != 0) = true := by simpa using he
    have Hf : Hid (resCut P i = ⟨[], []⟩) := hid_ (by rw [HR.out, if_neg he])
    rw [Hf.out]
    generalize errN P [i] = x at *
    clear he HR
    have qf : ∀ W, Below w2.heap.size w2 W → (W.cell? ⟨w.heap.size + 1, 0, none⟩ = some (.slice none 0 0) ∧ W.cell? ⟨w.heap.size + 1, 1, none⟩ = some (.slice none 0 0)) ∧ (W.frozen? ⟨w.heap.size + 1, 0, none⟩ = false ∧ W.frozen? ⟨w.heap.size + 1, 1, none⟩ = false) := fun W hW => ⟨⟨cell_below r0 hW, cell_below r1 hW⟩, (hW.frozen (p := ⟨w.heap.size + 1, 0, none⟩) (by show w.heap.size + 1 < w2.heap.size; omega)).trans (f0 0), (hW.frozen (p := ⟨w.heap.size + 1, 1, none⟩) (by show w.heap.size + 1 < w2.heap.size; omega)).trans (f0 1)⟩
    have Qf := hid_ qf
    clear qf r0 r1 f0
    go_enter Try.func19, Try.ntmps19
    go_wp2_with (go_at_call 63; (with_reducible refine HE.out.mono ?_); rintro e w3 ⟨rfl, hb3⟩; obtain ⟨⟨y0, y1⟩, y2, y3⟩ := Qf.out _ hb3)
    obtain ⟨t0, t1⟩ := cells_two y0 y1 (.slice none 0 0) (.slice none 0 0)
    refine bodyPost_ret (v := .tuple #[.agg #[.slice none 0 0, .slice none 0 0], .int .i64 x]) ?_ rfl ⟨_, rfl, MadeP6.zero ?_⟩
    · simp [results, Try.results19, go_sem, t0, t1]
    · have hf : Below w.heap.size w w3 := Hb2.out.trans (hb3.mono Hb2.out.size)
      exact (hf.setCell (p := ⟨w.heap.size + 1, 0, none⟩) (by show _ ≤ _ + 1; omega) _).setCell (p := ⟨w.heap.size + 1, 1, none⟩) (by show _ ≤ _ + 1; omega) _
end Go.Proofs.Ytdnlpikfibdjoaa
