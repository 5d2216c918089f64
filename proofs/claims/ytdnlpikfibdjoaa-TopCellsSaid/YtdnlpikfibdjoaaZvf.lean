import Derived.Test.YtdnlpikfibdjoaaZve
import Derived.ArgAppend
import Derived.Deep.RegionLaw
import Derived.Test.YtdnlpikfibdjoaaZda
namespace Go.Proofs.Kv
open Go.RowKit Go
theorem zero_runE {P : Program} {t : TypeId} {i : TypeInfo} {z : Value} (h : P.info? t = some i) (hz : i.zero = some z) : ∀ w, (zeroValue t).run P w = .ok z w := by
  intro w
  simp [zeroValue, typeInfo, h, hz]
theorem run_clear_oneE {P : Program} (w : World) (t e ty : TypeId) (z : Value) (ht : P.underlying t = some (.slice e)) (hv : ∀ w, (zeroValue e).run P w = .ok z w) (b o c : Nat)
    (hc : ∀ j, j < z.cells.size → (w.cell? ⟨b, o + j, none⟩).isSome = true) (hf : ∀ j, j < z.cells.size → w.frozen? ⟨b, o + j, none⟩ = false) (h1 : ∀ u ∈ z.cells.toList, u.oneCell' = true) :
    (Builtin.clear_ #[t] ty #[.slice (some ⟨b, o, none⟩) 1 c]).run P w = .ok (.tuple #[]) (w.setCells b o z.cells.toList) := by
  have hzc : (Builtin.zeroCells z.cells 1).toList = z.cells.toList := by
    simp only [Builtin.zeroCells]
    apply List.ext_getElem
    · simp
    · intro i h1 h2
      simp only [Array.length_toList] at h2
      simp [Nat.mod_eq_of_lt h2, getElem!_pos, h2]
  have hst := run_storeCells_cells (P := P) b o z.cells.toList 0 w (by simpa using hc) (by simpa using hf) h1
  simp only [Nat.add_zero] at hst
  simp [Builtin.clear_, run_underlying ht, hv, hzc, hst]
theorem grown_undrewE {w w' : World} {q : Nat} {row : Option Nat} (h : (w.drewN q).grownBy w' row) : w.grownBy w' row := ⟨h.os, h.tape, h.output, h.size, h.block⟩
end Go.Proofs.Kv
namespace Go.Proofs.Ytdnlpikfibdjoaa
open Go.RowKit Go.Proofs.Kv Go
theorem encE_take (l : List Ec) (i : Nat) : (l.flatMap encE).take (i * 2) = (l.take i).flatMap encE := by
  induction l generalizing i with
  | nil => simp
  | cons x l ih =>
    cases i with
    | zero => simp
    | succ i =>
      rw [List.flatMap_cons, List.take_succ_cons, List.flatMap_cons, List.take_append]
      have e2 : (encE x).length = 2 := rfl
      rw [e2, List.take_of_length_le (by rw [e2]; omega), show (i + 1) * 2 - 2 = i * 2 by omega, ih]
theorem encE_drop (l : List Ec) (i : Nat) : (l.flatMap encE).drop (i * 2) = (l.drop i).flatMap encE := by
  induction l generalizing i with
  | nil => simp
  | cons x l ih =>
    cases i with
    | zero => simp
    | succ i =>
      rw [List.flatMap_cons, List.drop_succ_cons, List.drop_append]
      have e2 : (encE x).length = 2 := rfl
      rw [e2, List.drop_of_length_le (by rw [e2]; omega), show (i + 1) * 2 - 2 = i * 2 by omega, ih, List.nil_append]
/-- an own row of items of which one was taken out -/
theorem own_deletedE {B E n g cap i : Nat} {w : World} {xs : List Ec} (h : w.ownsRow B E 2 (.slice (some ⟨g, 0, none⟩) n cap) n (xs.flatMap encE)) (hi : i < n) (zs : List Value) (hz : zs.length = 2) :
    ((w.setCells g (i * 2) ((xs.drop (i + 1)).flatMap encE)).setCells g ((n - 1) * 2) zs).ownsRow B E 2 (.slice (some ⟨g, 0, none⟩) (n - 1) cap) (n - 1) ((xs.take i ++ xs.drop (i + 1)).flatMap encE) ∧ w.grownBy ((w.setCells g (i * 2) ((xs.drop (i + 1)).flatMap encE)).setCells g ((n - 1) * 2) zs) (some g) := by
  have hl : xs.length = n := by have := h.1; rw [encE_len] at this; omega
  have hfl : (xs.flatMap encE).length = n * 2 := h.1
  have hd : ((xs.drop (i + 1)).flatMap encE).length = (n - (i + 1)) * 2 := by rw [encE_len, List.length_drop, hl]
  obtain ⟨h1, h2⟩ := own_setCells_at ((xs.drop (i + 1)).flatMap encE) (i * 2) h (by rw [hd, hfl]; omega)
  have hl1 := h1.1
  obtain ⟨h3, h4⟩ := own_setCells_at zs ((n - 1) * 2) h1 (by rw [hl1, hz]; omega)
  refine ⟨?_, h2.trans h4⟩
  have h5 := own_cut h3 (show n - 1 ≤ n by omega)
  have hA : ((xs.flatMap encE).take (i * 2) ++ (xs.drop (i + 1)).flatMap encE).length = (n - 1) * 2 := by rw [List.length_append, List.length_take, hd, hfl]; omega
  have e : ∀ X : List Value, ((((xs.flatMap encE).take (i * 2) ++ (xs.drop (i + 1)).flatMap encE) ++ X).take ((n - 1) * 2) ++ zs ++ (((xs.flatMap encE).take (i * 2) ++ (xs.drop (i + 1)).flatMap encE) ++ X).drop ((n - 1) * 2 + zs.length)).take ((n - 1) * 2) = (xs.take i ++ xs.drop (i + 1)).flatMap encE := fun X => by
    rw [List.take_left' hA, List.append_assoc, List.take_left' hA, List.flatMap_append, encE_take]
  rw [e] at h5
  exact h5

/-! ### slices.Delete of one entry -/
set_option maxRecDepth 100000 in
set_option maxHeartbeats 4000000 in
theorem deleteEnt_calls {B n g cap i j : Nat} {xs : List Ec} {w : World} (hown : w.ownsRow B 39 2 (.slice (some ⟨g, 0, none⟩) n cap) n (xs.flatMap encE)) (h1 : ∀ u ∈ xs.flatMap encE, u.oneCell' = true) (hj : j = i + 1) (hi : i < n) (hn : n ≤ cap) :
    Calls Try.prog 111 #[.slice (some ⟨g, 0, none⟩) n cap, .int .i64 i, .int .i64 j] w fun e w' => e = .returned (.slice (some ⟨g, 0, none⟩) (n - 1) cap) ∧ w'.ownsRow B 39 2 (.slice (some ⟨g, 0, none⟩) (n - 1) cap) (n - 1) ((xs.take i ++ xs.drop (i + 1)).flatMap encE) ∧ w.grownBy w' (some g) := by
  obtain ⟨i0, hi0, hz0, hz1, hz2⟩ := info_parts Try.infoEntryC
  have hl : xs.length = n := by have := hown.1; rw [encE_len] at this; omega
  obtain ⟨news, hnews⟩ : ∃ news, news = (xs.drop j).flatMap encE := ⟨_, rfl⟩
  have hlen : news.length = (n - j) * 2 := by rw [hnews, encE_len, List.length_drop, hl]
  have hget : ∀ t u, news[t]? = some u → w.cell? ⟨g, j * 2 + t, none⟩ = some u := fun t u hu => by
    have ht : t < (n - j) * 2 := by rw [← hlen]; exact (List.getElem?_eq_some_iff.1 hu).1
    rw [hown.cellAt _ (by omega), ← hu, hnews, ← encE_drop, List.getElem?_drop]
  obtain ⟨A, hA, hsrc⟩ : ∃ A : Addr, (if cap = j then some (⟨g, 0, none⟩ : Addr) else some ⟨g, j * 2, none⟩) = some A ∧ Hid (∀ t u, news[t]? = some u → w.drew.cell? (A.add t) = some u) := by
    by_cases h : cap = j
    · refine ⟨⟨g, 0, none⟩, by simp [h], hid_ fun t u hu => ?_⟩
      have h0 : news.length = 0 := by rw [hlen]; omega
      rw [List.length_eq_zero_iff.1 h0] at hu
      simp at hu
    · exact ⟨⟨g, j * 2, none⟩, by simp [h], hid_ fun t u hu => by rw [show (⟨g, j * 2, none⟩ : Addr).add t = ⟨g, j * 2 + t, none⟩ by unfold Addr.add; split <;> simp_all]; exact hget t u hu⟩
  have s1 : Hid (news.length = (n - j) * 2) := hid_ hlen
  have s2 : Hid (∀ u ∈ news, u.oneCell' = true) := hid_ (fun u hu => h1 u (by rw [hnews, ← encE_drop] at hu; exact List.mem_of_mem_drop hu))
  have hfl : (xs.flatMap encE).length = n * 2 := hown.1
  have hcl0 : ∀ t, t < n * 2 → (w.drew.cell? ⟨g, t, none⟩).isSome = true ∧ w.drew.frozen? ⟨g, t, none⟩ = false := fun t ht => ⟨by show (w.cell? _).isSome = true; rw [hown.cellAt t (by omega), List.getElem?_eq_getElem (by omega)]; rfl, hown.frozenAt t⟩
  have s3 : Hid (∀ t, t < news.length → (w.drew.cell? ⟨g, 0 + i * 2 + t, none⟩).isSome = true ∧ w.drew.frozen? ⟨g, 0 + i * 2 + t, none⟩ = false) := hid_ (fun t ht => hcl0 _ (by rw [hlen] at ht; omega))
  obtain ⟨W1, hW1⟩ : ∃ W1, W1 = w.drew.setCells g (0 + i * 2) news := ⟨_, rfl⟩
  obtain ⟨k1, k2⟩ := own_setCells_at news (i * 2) (own_drewN hown 1) (by rw [hlen, hfl]; omega)
  have hk : w.drewN 1 = w.drew := rfl
  have hW1' : W1 = (w.drewN 1).setCells g (i * 2) news := by rw [hW1, hk]; congr 1; omega
  rw [← hW1'] at k1 k2
  have hlast : i + (n - j) = n - 1 := by omega
  have hone : n - (n - 1) = 1 := by omega
  have hcl : ∀ ty, (Builtin.clear_ #[23] ty #[.slice (some ⟨g, 0 + (n - 1) * 2, none⟩) 1 (cap - (n - 1))]).run Try.prog W1 = .ok (.tuple #[]) (W1.setCells g (0 + (n - 1) * 2) [.slice none 0 0, .int .i64 0]) :=
    fun ty => run_clear_oneE W1 23 39 ty (.agg #[.slice none 0 0, .int .i64 0]) Try.underlying23 (zero_runE hi0 hz0) g (0 + (n - 1) * 2) _ (fun t ht => by
      have ht : t < 2 := ht
      rw [k1.cellAt _ (by omega), List.getElem?_eq_getElem (by have := k1.1; omega)]; rfl) (fun t ht => k1.frozenAt _) (fun u hu => by
      have hu : u ∈ [Value.slice none 0 0, .int .i64 0] := hu
      simp at hu
      rcases hu with rfl | rfl <;> rfl)
  simp only [Nat.zero_add] at hcl
  have hcne : ¬ cap = n - 1 := by omega
  have Hj : Hid (j = i + 1) := hid_ hj
  have hfin := own_deletedE (own_drewN hown 1) hi [.slice none 0 0, .int .i64 0] rfl
  rw [← hj, ← hnews, ← hW1'] at hfin
  have Hfin := hid_ hfin
  have hW : Hid (W1 = w.drew.setCells g (0 + i * 2) news) := hid_ hW1
  have hic : i ≤ cap := by omega
  have hjc : j ≤ cap := by omega
  have hjn : j ≤ n := by omega
  have hij : i ≤ j := by omega
  have hne : ((i : Int) == (j : Int)) = false := by simp; omega
  clear hW1 hW1' hlen hget k1 k2 hfin hown hcl0 h1 hl hfl
  have Hnews : Hid (news = (xs.drop j).flatMap encE) := hid_ hnews
  clear hnews hj
  go_enter Try.func111, Try.ntmps111
  go_wp2_with fail
  go_region_law (refine step_append_room rfl (.tmp 22) (.tmp 25) 23 rfl 39 i0 2 Try.underlying23 hi0 hz1 g 0 i cap (by simp [Act.eval, Act.put]) A (n - j) (cap - j) news (by simp [Act.eval, Act.put]) s1.out hsrc.out s2.out (by omega) s3.out ?_; rw [← hW.out])
  go_wp2
  go_ret
  rw [← Hj.out]
  exact ⟨rfl, Hfin.out.1, grown_undrewE Hfin.out.2⟩
/-! ### own entries without one -/
def cutE (l : List Ent) (i : Nat) : List Ent := l.take i ++ l.drop (i + 1)
theorem getD_cut {α : Type} (l : List α) (d : α) (i k : Nat) (hi : i < l.length) : (l.take i ++ l.drop (i + 1)).getD k d = if k < i then l.getD k d else l.getD (k + 1) d := by
  simp only [List.getD]
  by_cases h : k < i
  · rw [if_pos h, List.getElem?_append_left (by rw [List.length_take]; omega), List.getElem?_take_of_lt h]
  · rw [if_neg h, List.getElem?_append_right (by rw [List.length_take]; omega), List.length_take, List.getElem?_drop]
    congr 2; omega
theorem OwnE.cells1 {w : World} {B : Nat} {v : Value} {L : List Ent} {vs : List Ec} (h : ∀ i x, vs[i]? = some x → EntX w B v.ownBlock x (L.getD i E0)) : ∀ u ∈ vs.flatMap encE, u.oneCell' = true := by
  intro u hu
  obtain ⟨x, hx, hux⟩ := List.mem_flatMap.1 hu
  obtain ⟨i, hi, e⟩ := List.mem_iff_getElem.1 hx
  obtain ⟨a, n, c, e1, -⟩ := (h i x (by rw [List.getElem?_eq_getElem hi, e])).s.ints
  simp only [encE, List.mem_cons, List.not_mem_nil, or_false] at hux
  rcases hux with rfl | rfl
  · rw [e1]; rfl
  · rfl
theorem OwnE.delete {w : World} {B g n cap i j : Nat} {L : List Ent} (h : OwnE w B (.slice (some ⟨g, 0, none⟩) n cap) L) (hn : n = L.length) (hc : n ≤ cap) (hj : j = i + 1) (hi : i < n) :
    Calls Try.prog 111 #[.slice (some ⟨g, 0, none⟩) n cap, .int .i64 i, .int .i64 j] w fun e w' => e = .returned (.slice (some ⟨g, 0, none⟩) (n - 1) cap) ∧ OwnE w' B (.slice (some ⟨g, 0, none⟩) (n - 1) cap) (cutE L i) ∧ w.grownBy w' (some g) := by
  obtain ⟨vs, h0, h1, h2⟩ := h
  rw [← hn] at h0 h1
  refine (deleteEnt_calls h1 (OwnE.cells1 h2) hj hi hc).mono ?_
  rintro e w' ⟨rfl, h3, h4⟩
  have hl : (cutE L i).length = n - 1 := by unfold cutE; rw [List.length_append, List.length_take, List.length_drop]; omega
  refine ⟨rfl, ⟨vs.take i ++ vs.drop (i + 1), ?_, ?_, fun k x hx => ?_⟩, h4⟩
  · rw [hl, List.length_append, List.length_take, List.length_drop]; omega
  · rw [hl]; exact h3
  · have hk := (List.getElem?_eq_some_iff.1 hx).1
    have key : ∃ m, vs[m]? = some x ∧ (cutE L i).getD k E0 = L.getD m E0 := by
      unfold cutE
      rw [getD_cut L E0 i k (by omega)]
      by_cases hki : k < i
      · rw [if_pos hki]
        rw [List.getElem?_append_left (by rw [List.length_take]; omega), List.getElem?_take_of_lt hki] at hx
        exact ⟨k, hx, rfl⟩
      · rw [if_neg hki]
        rw [List.getElem?_append_right (by rw [List.length_take]; omega), List.length_take, List.getElem?_drop] at hx
        refine ⟨k + 1, ?_, rfl⟩
        rw [← hx]; congr 1; omega
    obtain ⟨m, hm, e⟩ := key
    rw [e]
    have hX := h2 m x hm
    exact ⟨hX.s.after h4 (.inl rfl), hX.f⟩
end Go.Proofs.Ytdnlpikfibdjoaa
namespace Go.Proofs.Ytdnlpikfibdjoaa
open Go.RowKit Go.Proofs.Kv Go

/-! ### without of the program -/
def cutP (P : Par) (i : Nat) : Par := ⟨P.sizes, cutE P.ents i⟩
theorem ints_setSlice {w : World} {a b : Option Addr} {n c m k : Nat} {l : List Int} {p : Addr} {v : Value} (h : IntsAt w a n c l) (hq : w.cell? p = some (.slice b m k)) : IntsAt (w.setCell p v) a n c l :=
  ⟨h.len, h.le, h.small, fun i hi => by
    obtain ⟨b, off, ha, hb, hc⟩ := h.cells i hi
    refine ⟨b, off, ha, by simpa [World.setCell] using hb, ?_⟩
    rw [World.cell?_setCell_other _ _ _ _ (by intro e; rw [← e, hq] at hc; injection hc with hc; cases hc)]
    exact hc⟩
theorem SpecV.setSlice {w : World} {B : Nat} {row : Option Nat} {u : Value} {l : List Int} {b : Option Addr} {m k : Nat} {p : Addr} {v : Value} (h : SpecV w B row u l) (hq : w.cell? p = some (.slice b m k)) : SpecV (w.setCell p v) B row u l := by
  obtain ⟨a, n, c, e, hi, hd⟩ := h
  exact ⟨a, n, c, e, ⟨ints_setSlice hi.i hq, fun b off ha j hj => by rw [World.frozen?_setCell]; exact hi.soft b off ha j hj⟩, hd⟩
theorem grown_setCell1 (w : World) (p : Addr) (v : Value) : w.grownBy (w.setCell p v) (some p.block) :=
  ⟨rfl, rfl, rfl, by simp [World.setCell], fun k _ hne => Below.heap_setCell _ _ _ _ (fun e => hne (by rw [e]))⟩
theorem OwnE.setSlice {w : World} {B : Nat} {v : Value} {L : List Ent} {b : Option Addr} {m k : Nat} {p : Addr} {y : Value} (h : OwnE w B v L) (hq : w.cell? p = some (.slice b m k)) (hne : v.ownBlock ≠ some p.block) : OwnE (w.setCell p y) B v L := by
  obtain ⟨vs, h0, h1, h2⟩ := h
  exact ⟨vs, h0, h1.kept (grown_setCell1 w p y) (.inr hne), fun i x hx => ⟨(h2 i x hx).s.setSlice hq, (h2 i x hx).f⟩⟩
set_option maxRecDepth 100000 in
set_option maxHeartbeats 8000000 in
theorem ceWithout0_calls (v : Value) (P : Par) (i : Nat) (w : World) (h : ParAt w v P) (hs3 : P.sizes.length ≤ 1000) (h50 : P.ents.length ≤ 1000) (hsp : ∀ k, k < P.ents.length → (P.ents.getD k E0).spec.length ≤ 1000) (hi : i < P.ents.length) :
    Calls Try.prog 58 #[v, .int .i64 (i : Int)] w fun e w' => ∃ v', e = .returned v' ∧ MadeP6 w w' v' (cutP P i) := by
  have HP := hid_ h
  obtain ⟨a1, n1, c1, a2, n2, c2, rfl, h1, h2⟩ := h
  obtain ⟨w1, hw1⟩ : ∃ w1, w.alloc (.cells #[.slice a1 n1 c1, .slice a2 n2 c2] 25) = w1 := ⟨_, rfl⟩
  have cb : Below w.heap.size w w1 := by rw [← hw1]; exact below_alloc _ _
  have q0 : w1.cell? ⟨w.heap.size, 0, none⟩ = some (.slice a1 n1 c1) := by rw [← hw1]; exact cells_alloc _ _ _ 0
  have q1 : w1.cell? ⟨w.heap.size, 1, none⟩ = some (.slice a2 n2 c2) := by rw [← hw1]; exact cells_alloc _ _ _ 1
  have HP1 := hid_ (HP.out.below cb (Nat.le_refl _)); have Hc1 := hid_ cb
  obtain ⟨w2, hw2⟩ : ∃ w2, w1.alloc (.cells #[.slice none 0 0, .slice none 0 0] 25) = w2 := ⟨_, rfl⟩
  have z1 : w1.heap.size = w.heap.size + 1 := by rw [← hw1]; simp
  have z2 : w2.heap.size = w.heap.size + 2 := by rw [← hw2]; simp [z1]
  have b2 : Below w1.heap.size w1 w2 := by rw [← hw2]; exact below_alloc _ _
  have r0 : w2.cell? ⟨w.heap.size + 1, 0, none⟩ = some (.slice none 0 0) := by rw [← z1, ← hw2]; exact cells_alloc _ _ _ 0
  have r1 : w2.cell? ⟨w.heap.size + 1, 1, none⟩ = some (.slice none 0 0) := by rw [← z1, ← hw2]; exact cells_alloc _ _ _ 1
  have f0 : ∀ j, w2.frozen? ⟨w.heap.size + 1, j, none⟩ = false := fun j => by rw [← z1, ← hw2]; exact World.frozen?_alloc_at _ _ _ _ (by simp)
  have q02 := cell_below q0 b2; have q12 := cell_below q1 b2
  have HP2 := hid_ (HP1.out.below b2 (Nat.le_refl _))
  have Hb2 : Hid (Below w.heap.size w w2) := hid_ (Hc1.out.trans (b2.mono Hc1.out.size))
  have HC := hid_ (copied_calls _ P w2 HP2.out hs3 h50 hsp)
  have Hln := hid_ h2.len
  have Hi := hid_ hi
  have hi2 : i < n2 := by rw [← Hln.out]; exact hi
  have hwi : IntKind.i64.wrap ((i : Int) + 1) = ((i + 1 : Nat) : Int) := by rw [IntWalk.i64_in _ (by omega)]; omega
  obtain ⟨i1, hi1⟩ : ∃ i1, i + 1 = i1 := ⟨_, rfl⟩
  rw [hi1] at hwi
  have Hi1 := hid_ hi1
  clear h1 h2 HP HP1 cb b2 q0 q1 hs3 h50 hsp hi hi1
  go_enter Try.func58, Try.ntmps58
  go_wp2_with (first
    | (go_at_call 57; (with_reducible refine HC.out.mono ?_); rintro e w4 ⟨v4, rfl, u4, x4, rfl, hu4, hx4, hb4⟩; obtain ⟨a3, n3, c3, rfl, -⟩ := hu4.ints; obtain ⟨g, c4, -, -, -, rfl, -⟩ := hx4.get i Hi.out; rw [Hln.out] at hx4 ⊢; have hcap : n2 ≤ c4 := (by (obtain ⟨a9, c9, e9, h9⟩ := hx4.at_; injection e9 with e8 e7 e6; rw [e6]; have h8 := h9.le; rw [Hln.out] at h8; exact h8)); obtain ⟨W, hW⟩ : ∃ W, w4.alloc (.cells #[.slice a3 n3 c3, .slice (some ⟨g, 0, none⟩) n2 c4] 25) = W := ⟨_, rfl⟩; have bW : Below w4.heap.size w4 W := (by rw [← hW]; exact below_alloc _ _); have t0 : W.cell? ⟨w4.heap.size, 0, none⟩ = some (.slice a3 n3 c3) := (by rw [← hW]; exact cells_alloc _ _ _ 0); have t1 : W.cell? ⟨w4.heap.size, 1, none⟩ = some (.slice (some ⟨g, 0, none⟩) n2 c4) := (by rw [← hW]; exact cells_alloc _ _ _ 1); have tf : W.frozen? ⟨w4.heap.size, 1, none⟩ = false := (by rw [← hW]; exact World.frozen?_alloc_at _ _ _ _ (by simp)); have HDel := hid_ (OwnE.delete (hx4.next bW) Hln.out.symm hcap Hi1.out.symm hi2); have HbW := hid_ bW; have Hu4 := hid_ (hu4.next bW); have Hg4 := hid_ (hx4.lt g rfl); have Hb4 := hid_ hb4; clear hx4 hu4 hb4 bW hw1 hw2)
    | (go_at_call 111; (with_reducible refine HDel.out.mono ?_); rintro e w5 ⟨rfl, hO5, hg5⟩; have hlt4 : w4.heap.size < W.heap.size := (by rw [← hW]; simp); have hne4 : ¬ w4.heap.size = g := (by have := Hg4.out.2; omega); have s0 := hg5.cell t0 (fun e => (by injection e with e; exact hne4 e)); have s1 := hg5.cell t1 (fun e => (by injection e with e; exact hne4 e)); have sf : w5.frozen? ⟨w4.heap.size, 1, none⟩ = false := (World.frozen?_of_block (a := ⟨w4.heap.size, 1, none⟩) (hg5.block w4.heap.size hlt4 (fun e => (by injection e with e; exact hne4 e)))).trans tf; have HO5 := hid_ hO5; have Hg5 := hid_ hg5; obtain ⟨V, hV⟩ : ∃ V, w5.setCell ⟨w4.heap.size, 1, none⟩ (.slice (some ⟨g, 0, none⟩) (n2 - 1) c4) = V := ⟨_, rfl⟩; have v1 : V.cell? ⟨w4.heap.size, 1, none⟩ = some (.slice (some ⟨g, 0, none⟩) (n2 - 1) c4) := (by rw [← hV]; exact World.cell?_setCell_same _ _ _ s1); have v0 : V.cell? ⟨w4.heap.size, 0, none⟩ = some (.slice a3 n3 c3) := (by rw [← hV, World.cell?_setCell_other _ _ _ _ (by simp)]; exact s0); have hVw : Below w2.heap.size w2 V := (by rw [← hV]; exact Below.setCell (p := ⟨w4.heap.size, 1, none⟩) ((Hb4.out.trans (HbW.out.mono Hb4.out.size)).grown hg5 (Nat.le_of_lt (Nat.lt_of_le_of_lt Hb4.out.size hlt4)) (fun k hk => (by injection hk with hk; rw [← hk]; exact Hg4.out.1))) Hb4.out.size _); have y0 := cell_below r0 hVw; have y1 := cell_below r1 hVw; have y2 := (hVw.frozen (p := ⟨w.heap.size + 1, 0, none⟩) (by show w.heap.size + 1 < w2.heap.size; omega)).trans (f0 0); have y3 := (hVw.frozen (p := ⟨w.heap.size + 1, 1, none⟩) (by show w.heap.size + 1 < w2.heap.size; omega)).trans (f0 1); have HVw := hid_ hVw; have HOV := hid_ (show OwnE V w2.heap.size (.slice (some ⟨g, 0, none⟩) (n2 - 1) c4) (cutE P.ents i) by rw [← hV]; exact hO5.setSlice s1 (fun e => hne4 (by have e : some g = some w4.heap.size := e; injection e with e; exact e.symm))); have HUV := hid_ (show SpecV V w2.heap.size (some g) (.slice a3 n3 c3) P.sizes by rw [← hV]; exact ((show SpecV W w2.heap.size (some g) (.slice a3 n3 c3) P.sizes from Hu4.out).after hg5 (.inl rfl)).setSlice s1); clear hO5 hg5 t0 t1 tf hVw))
  obtain ⟨k0, k1⟩ := cells_two (W := V) y0 y1 (.slice a3 n3 c3) (.slice (some ⟨g, 0, none⟩) (n2 - 1) c4)
  have hp : w.heap.size + 1 < w2.heap.size := by omega
  refine bodyPost_ret (v := .agg #[.slice a3 n3 c3, .slice (some ⟨g, 0, none⟩) (n2 - 1) c4]) ?_ rfl ⟨_, rfl, _, _, rfl, ?_, ?_, ?_⟩
  · simp [results, Try.results58, go_sem, k0, k1]
  · exact ((HUV.out.store (p := ⟨w.heap.size + 1, 0, none⟩) hp _).store (p := ⟨w.heap.size + 1, 1, none⟩) hp _).base (by omega)
  · exact ((HOV.out.store (p := ⟨w.heap.size + 1, 0, none⟩) hp _).store (p := ⟨w.heap.size + 1, 1, none⟩) hp _).base (by omega)
  · have hf : Below w.heap.size w V := Hb2.out.trans (HVw.out.mono Hb2.out.size)
    exact ((hf.setCell (p := ⟨w.heap.size + 1, 0, none⟩) (by show _ ≤ _ + 1; omega) _).setCell (p := ⟨w.heap.size + 1, 1, none⟩) (by show _ ≤ _ + 1; omega) _)
end Go.Proofs.Ytdnlpikfibdjoaa
namespace Go.Proofs.Ytdnlpikfibdjoaa
open Go.RowKit Go.Proofs.Kv Go

/-! ### isNeedless of the program -/
theorem valid_cut {P : Par} (hv : validP P = 0) (i : Nat) : validP (cutP P i) = 0 := by
  have hsub : ∀ x ∈ cutE P.ents i, x ∈ P.ents := fun x hx => by
    rcases List.mem_append.1 hx with h | h
    · exact List.mem_of_mem_take h
    · exact List.mem_of_mem_drop h
  have hlen : (cutE P.ents i).length ≤ P.ents.length := by unfold cutE; rw [List.length_append, List.length_take, List.length_drop]; omega
  unfold validP at hv ⊢
  show (if P.sizes.length < 1 ∨ 3 < P.sizes.length then 1 else if P.sizes.any (fun x => !okSize x) then 1 else if 10 < (cutE P.ents i).length then 3 else if (cutE P.ents i).any (badEnt P.sizes) then 1 else 0) = 0
  by_cases h1 : P.sizes.length < 1 ∨ 3 < P.sizes.length
  · rw [if_pos h1] at hv; cases hv
  · rw [if_neg h1] at hv ⊢
    by_cases h2 : P.sizes.any (fun x => !okSize x) = true
    · rw [if_pos h2] at hv; cases hv
    · rw [if_neg h2] at hv ⊢
      by_cases h3 : 10 < P.ents.length
      · rw [if_pos h3] at hv; cases hv
      · rw [if_neg h3] at hv
        rw [if_neg (by omega)]
        by_cases h4 : P.ents.any (badEnt P.sizes) = true
        · rw [if_pos h4] at hv; cases hv
        · rw [if_neg]
          intro h5
          obtain ⟨x, hx, hb⟩ := List.any_eq_true.1 h5
          exact h4 (List.any_eq_true.2 ⟨x, hsub x hx, hb⟩)
def needB (P : Par) (i : Nat) : Bool := Same (fillL P) (fillL (cutP P i))
set_option maxRecDepth 100000 in
set_option maxHeartbeats 8000000 in
theorem isNeedless_calls (v : Value) (P : Par) (i : Nat) (w : World) (h : ParAt w v P) (hv : validP P = 0) (hi : i < P.ents.length) :
    Calls Try.prog 53 #[v, .int .i64 (i : Int)] w fun e w' => e = .returned (.bool (needB P i)) ∧ Below w.heap.size w w' := by
  have HP := hid_ h
  obtain ⟨a1, n1, c1, a2, n2, c2, rfl, h1, h2⟩ := h
  obtain ⟨w1, hw1⟩ : ∃ w1, w.alloc (.cells #[.slice a1 n1 c1, .slice a2 n2 c2] 25) = w1 := ⟨_, rfl⟩
  have cb : Below w.heap.size w w1 := by rw [← hw1]; exact below_alloc _ _
  have q0 : w1.cell? ⟨w.heap.size, 0, none⟩ = some (.slice a1 n1 c1) := by rw [← hw1]; exact cells_alloc _ _ _ 0
  have q1 : w1.cell? ⟨w.heap.size, 1, none⟩ = some (.slice a2 n2 c2) := by rw [← hw1]; exact cells_alloc _ _ _ 1
  have HP1 := hid_ (HP.out.below cb (Nat.le_refl _)); have Hc1 := hid_ cb
  obtain ⟨-, -, h10, hent⟩ := validP_ok hv
  have h3 := (validP_ok hv).1.2
  have HW := hid_ (fun W (hW : Below w1.heap.size w1 W) => ceWithout0_calls _ P i W (HP1.out.below hW (Nat.le_refl _)) (by omega) (by omega) (fun k hk => by have := (specB_ok (hent k hk).1).1; omega) hi)
  have HS := hid_ (fun W v' (hW : Below w1.heap.size w1 W) (hp : ParAt W v' (cutP P i)) => sameFill_calls _ v' P (cutP P i) W (HP1.out.below hW (Nat.le_refl _)) hp hv (valid_cut hv i))
  have Hn : Hid (needB P i = Same (fillL P) (fillL (cutP P i))) := hid_ rfl
  have HQ := hid_ (fun W (hW : Below w1.heap.size w1 W) => (⟨cell_below q0 hW, cell_below q1 hW⟩ : W.cell? ⟨w.heap.size, 0, none⟩ = some (.slice a1 n1 c1) ∧ W.cell? ⟨w.heap.size, 1, none⟩ = some (.slice a2 n2 c2)))
  have bd : Below w1.heap.size w1 w1.drew := Below.drew (Below.refl _ _)
  clear h1 h2 cb hi hent h10 h3 HP HP1
  go_enter Try.func53, Try.ntmps53
  go_wp2
  refine wp_region_last (n := 5) (S := fun W => W.cell? ⟨w.heap.size, 0, none⟩ = some (.slice a1 n1 c1) ∧ W.cell? ⟨w.heap.size, 1, none⟩ = some (.slice a2 n2 c2)) (by kernel_rfl) (by kernel_rfl) (HQ.out _ bd) (fun hHeld => ?_)
  refine wpAnyH_take (i := 0) (oi := ?oi0h1) (v := ?v0h1) ?hi0h1 (by kernel_rfl) ?hf0h1 (by kernel_rfl) ?hQ0h1 ?hy0h1 (by assumption) ?rest0h1
  case hi0h1 => (simp only [List.getElem?_toArray, List.getElem?_cons_zero]; rfl)
  case hf0h1 => kernel_rfl
  case hQ0h1 => exact fun _ _ _ h => h
  case hy0h1 => (refine Or.inl ⟨by rfl, ?_⟩; intro W hSw; (try dsimp only at hSw); obtain ⟨g0, g1⟩ := hSw; go_simp; try with_reducible rfl)
  try simp only [Act.put, List.setIfInBounds_toArray, List.set_cons_zero, List.set_cons_succ]
  refine wpAnyH_take (i := 1) (oi := ?oi1h2) (v := ?v1h2) ?hi1h2 (by kernel_rfl) ?hf1h2 (by kernel_rfl) ?hQ1h2 ?hy1h2 (by assumption) ?rest1h2
  case hi1h2 => (simp only [List.getElem?_toArray, List.getElem?_cons_succ, List.getElem?_cons_zero]; rfl)
  case hf1h2 => kernel_rfl
  case hQ1h2 => exact fun _ _ _ h => h
  case hy1h2 => (refine Or.inl ⟨by rfl, ?_⟩; intro W hSw; (try dsimp only at hSw); obtain ⟨g0, g1⟩ := hSw; go_simp; try with_reducible rfl)
  try simp only [Act.put, List.setIfInBounds_toArray, List.set_cons_zero, List.set_cons_succ]
  refine wpAnyH_take (i := 2) (oi := ?oi2h3) (v := ?v2h3) ?hi2h3 (by kernel_rfl) ?hf2h3 (by kernel_rfl) ?hQ2h3 ?hy2h3 (by assumption) ?rest2h3
  case hi2h3 => (simp only [List.getElem?_toArray, List.getElem?_cons_succ, List.getElem?_cons_zero]; rfl)
  case hf2h3 => kernel_rfl
  case hQ2h3 => exact fun _ _ _ h => h
  case hy2h3 => (refine Or.inl ⟨by rfl, ?_⟩; intro W hSw; (try dsimp only at hSw); go_simp; try with_reducible rfl)
  try simp only [Act.put, List.setIfInBounds_toArray, List.set_cons_zero, List.set_cons_succ]
  refine wpAnyH_ready (rs := [3]) (by kernel_rfl) (by simp) ?_
  refine AllReadyH.cons (o := _) (by (simp only [List.getElem?_toArray, List.getElem?_cons_succ, List.getElem?_cons_zero]; rfl)) (fun K hK => ?_) AllReadyH.nil
  go_simp
  (with_reducible refine (HW.out _ bd).mono ?_); rintro e w5 ⟨v5, rfl, hm5⟩; have hb5 := bd.trans (hm5.bel.mono bd.size); have HS5 := hid_ (HS.out w5 v5 hb5 hm5.par); have Hb5 := hid_ hb5
  refine hK.out _ _ ?_ (fun hHeld => ?_)
  · exact HQ.out _ hb5
  clear hK K
  try simp only [Act.put, List.setIfInBounds_toArray, List.set_cons_zero, List.set_cons_succ]
  refine wpAnyH_ready (rs := [4]) (by kernel_rfl) (by simp) ?_
  refine AllReadyH.cons (o := _) (by (simp only [List.getElem?_toArray, List.getElem?_cons_succ, List.getElem?_cons_zero]; rfl)) (fun K hK => ?_) AllReadyH.nil
  go_simp
  (with_reducible refine HS5.out.mono ?_); rintro e w6 ⟨rfl, hb6'⟩; have hb6 := Hb5.out.trans (hb6'.mono Hb5.out.size)
  refine hK.out _ _ ?_ (fun hHeld => ?_)
  · exact HQ.out _ hb6
  clear hK K
  try simp only [Act.put, List.setIfInBounds_toArray, List.set_cons_zero, List.set_cons_succ]
  refine wpAnyH_done (by kernel_rfl) ?_ _
  clear hHeld
  refine last_of ?_
  refine wpOp_step (o := _) (by (simp only [List.getElem?_toArray, List.getElem?_cons_succ, List.getElem?_cons_zero]; rfl)) (fun K hK => ?_)
  go_simp
  refine hK _ _ ?_
  clear hK K
  try simp only [Act.put, List.setIfInBounds_toArray, List.set_cons_zero, List.set_cons_succ]
  go_wp2
  go_ret
  exact ⟨by rw [Hn.out]; rfl, Hc1.out.trans (hb6.mono Hc1.out.size)⟩
end Go.Proofs.Ytdnlpikfibdjoaa
namespace Go.Proofs.Ytdnlpikfibdjoaa
open Go.RowKit Go.Proofs.Kv Go

/-! ### Needless of the program -/
def needK (P : Par) (k : Nat) : List Int := ((List.range k).filter (needB P)).map fun (x : Nat) => (x : Int)
def resNeed (P : Par) : List Int := if validP P = 0 then needK P P.ents.length else []
theorem needK_yes {P : Par} {k : Nat} (h : needB P k = true) : needK P (k + 1) = needK P k ++ [(k : Int)] := by unfold needK; rw [List.range_succ, List.filter_append]; simp [h]
theorem needK_no {P : Par} {k : Nat} (h : needB P k = false) : needK P (k + 1) = needK P k := by unfold needK; rw [List.range_succ, List.filter_append]; simp [h]
theorem needK_len (P : Par) (k : Nat) : (needK P k).length ≤ k := by unfold needK; rw [List.length_map]; have := List.length_filter_le (needB P) (List.range k); simpa using this
def NeedPost (P : Par) (w : World) (e : Ending) (w' : World) : Prop := ∃ a n c, e = .returned (.tuple #[.slice a n c, .int .i64 (validP P)]) ∧ IntsAt w' a n c (resNeed P) ∧ Below w.heap.size w w'
set_option maxRecDepth 100000 in
set_option maxHeartbeats 8000000 in
theorem ceNeedless_calls (v : Value) (P : Par) (w : World) (h : ParAt w v P) :
    Calls Try.prog 10 #[v] w fun e w' => NeedPost P w e w' := by
  obtain ⟨i0, hi0, hz0, hz1, hz2⟩ := info_parts Try.infoInt
  have HP := hid_ h
  obtain ⟨a1, n1, c1, a2, n2, c2, rfl, h1, h2⟩ := h
  obtain ⟨w1, hw1⟩ : ∃ w1, w.alloc (.cells #[.slice a1 n1 c1, .slice a2 n2 c2] 25) = w1 := ⟨_, rfl⟩
  have cb : Below w.heap.size w w1 := by rw [← hw1]; exact below_alloc _ _
  have q0 : w1.cell? ⟨w.heap.size, 0, none⟩ = some (.slice a1 n1 c1) := by rw [← hw1]; exact cells_alloc _ _ _ 0
  have q1 : w1.cell? ⟨w.heap.size, 1, none⟩ = some (.slice a2 n2 c2) := by rw [← hw1]; exact cells_alloc _ _ _ 1
  have HP1 := hid_ (HP.out.below cb (Nat.le_refl _)); have Hc1 := hid_ cb
  have HV := hid_ (ceValidate_calls _ P w1 HP1.out)
  have HQ := hid_ (fun W (hW : Below w1.heap.size w1 W) => (⟨cell_below q0 hW, cell_below q1 hW⟩ : _ ∧ _))
  by_cases hv : validP P = 0
  · obtain ⟨-, -, h10, -⟩ := validP_ok hv
    have HN := hid_ (fun W (hW : Below w1.heap.size w1 W) i (hi : i < P.ents.length) => isNeedless_calls _ P i W (HP1.out.below hW (Nat.le_refl _)) hv hi)
    have hln := h2.len
    rw [hln] at HN h10
    have HR : Hid (resNeed P = needK P n2) := hid_ (by unfold resNeed; rw [if_pos hv, hln])
    have HG : Hid (∀ W a n c, IntsAt W a n c (needK P n2) → Below w.heap.size w W → NeedPost P w (.returned (.tuple #[.slice a n c, .int .i64 0])) W) := hid_ fun W a n c h1 h2 => ⟨a, n, c, by rw [hv], by rw [HR.out]; exact h1, h2⟩
    rw [hv] at HV
    clear h1 h2 cb HP HP1 hv hln HR
    go_enter Try.func10, Try.ntmps10
    go_wp2_with (go_at_call 52; (with_reducible refine HV.out.mono ?_); rintro e w2 ⟨rfl, hb2⟩; obtain ⟨q2, r2⟩ := HQ.out w2 hb2)
    go_loopw [5, 15] (fun lv iv wr => ∃ k : Nat, iv = .int .i64 (k : Int) ∧ k ≤ n2 ∧ wr.ownsRow w2.heap.size 3 1 lv (needK P k).length ((needK P k).map (Value.int .i64)) ∧ Below w2.heap.size w2 wr) (fun _ iv _ => n2 - (intOf iv).toNat)
    case atStart => exact ⟨0, rfl, Nat.zero_le _, World.ownsRow_nil _ _ _ _, Below.refl _ _⟩
    case round =>
      obtain ⟨k, rfl, hk, hO, hb⟩ := hrel
      have Hb := hid_ hb; have HO := hid_ hO
      have hb1 := hb2.trans (hb.mono hb2.size)
      obtain ⟨q3, r3⟩ := HQ.out wr hb1
      by_cases hlt : k < n2
      · have hwk : IntKind.i64.wrap ((k : Int) + 1) = (k : Int) + 1 := IntWalk.i64_in _ (by omega)
        have HNk := hid_ (HN.out wr hb1 k hlt)
        have hle := needK_len P k
        cases hn : needB P k with
        | true =>
          rw [hn] at HNk
          have HK := hid_ (needK_yes hn)
          obtain ⟨ln, hln⟩ : ∃ ln, (needK P k).length = ln := ⟨_, rfl⟩
          have Hln := hid_ hln
          rw [hln] at hle HO
          clear hn hO hb hln
          go_wp2_with (first
            | (go_at_call 53; (with_reducible refine HNk.out.mono ?_); rintro e w4 ⟨rfl, hb4⟩; have hO4 := own_below (own_below HO.out hb4 (Nat.le_refl _)) (below_alloc w4 (.cells #[.int .i64 (k : Int)] 3)) (Nat.le_refl _); have hz4 : w2.heap.size ≤ w4.heap.size := Nat.le_trans Hb.out.size hb4.size; have Hb4 := hid_ (Hb.out.trans (hb4.mono Hb.out.size)); clear hb4)
            | (at_builtin; refine wpList_append_ints _ rfl (.tmp 21) (.tmp 23) _ rfl w2.heap.size 3 i0 Try.underlying22 hi0 hz0 hz1 hz2 _ _ _ rfl hO4 _ _ _ _ rfl (IntsAt.one _ _ _) (by omega) (by simp; omega) ?_; intro v5 w5 hown5 hg5 hat5; have Hown5 := hid_ hown5; have Hb5 := hid_ ((Hb4.out.trans ((below_alloc w4 (.cells #[.int .i64 (k : Int)] 3)).mono hz4)).grown hg5 (by simp; omega) (fun q hq => (HO.out.lt q hq).1)); obtain ⟨a5, c5, rfl, hI5⟩ := IntsAt.own hown5; clear hown5 hg5 hat5 hI5 hO4))
          go_roundw
          case rel => exact ⟨k + 1, by go_num, by omega, by rw [HK.out, List.length_append, Hln.out]; exact Hown5.out, Hb5.out⟩
          case measure => simp [intOf]; omega
        | false =>
          rw [hn] at HNk
          have HK := hid_ (needK_no hn)
          clear hn hO hb
          go_wp2_with (go_at_call 53; (with_reducible refine HNk.out.mono ?_); rintro e w4 ⟨rfl, hb4⟩; have HO4 := hid_ (own_below HO.out hb4 (Nat.le_refl _)); have Hb4 := hid_ (Hb.out.trans (hb4.mono Hb.out.size)); clear hb4)
          go_roundw
          case rel => exact ⟨k + 1, by go_num, by omega, by rw [HK.out]; exact HO4.out, Hb4.out⟩
          case measure => simp [intOf]; omega
      · obtain rfl : n2 = k := by omega
        obtain ⟨a5, c5, rfl, hI5⟩ := IntsAt.own hO
        have HI5 := hid_ hI5
        clear hO hb hI5
        go_wp2
        go_ret2
        exact HG.out _ _ _ _ HI5.out (Hc1.out.trans (hb1.mono Hc1.out.size))
  · have hq : (validP P != 0) = true := by simpa using hv
    have HG : Hid (∀ W, Below w.heap.size w W → NeedPost P w (.returned (.tuple #[.slice none 0 0, .int .i64 (validP P)])) W) := hid_ fun W hW => ⟨none, 0, 0, rfl, by (unfold resNeed; rw [if_neg hv]; exact IntsAt.nil _ _ _ (by omega)), hW⟩
    generalize validP P = x at *
    clear h1 h2 cb HP HP1 hv
    go_enter Try.func10, Try.ntmps10
    go_wp2_with (go_at_call 52; (with_reducible refine HV.out.mono ?_); rintro e w2 ⟨rfl, hb2⟩)
    go_ret2
    exact HG.out _ (Hc1.out.trans (hb2.mono Hc1.out.size))
end Go.Proofs.Ytdnlpikfibdjoaa
namespace Go.Proofs.Ytdnlpikfibdjoaa
open Go.RowKit Go.Proofs.Kv Go

/-! ### Without of the program -/
def resCut (P : Par) (i : Int) : Par := if errN P [i] = 0 then cutP P i.toNat else ⟨[], []⟩
theorem errN1_ok {P : Par} {i : Int} (h : errN P [i] = 0) : validP P = 0 ∧ isNo P i = true := by
  unfold errN at h
  by_cases hv : validP P = 0
  · rw [if_pos hv] at h
    refine ⟨hv, ?_⟩
    cases hi : isNo P i with
    | true => rfl
    | false => simp [hi] at h
  · rw [if_neg hv] at h; exact absurd h hv
set_option maxRecDepth 100000 in
set_option maxHeartbeats 8000000 in
theorem ceWithout_calls (v : Value) (P : Par) (i : Int) (w : World) (h : ParAt w v P) :
    Calls Try.prog 18 #[v, .int .i64 i] w fun e w' => ∃ v', e = .returned (.tuple #[v', .int .i64 (errN P [i])]) ∧ MadeP6 w w' v' (resCut P i) := by
  have HP := hid_ h
  obtain ⟨a1, n1, c1, a2, n2, c2, rfl, h1, h2⟩ := h
  obtain ⟨w1, hw1⟩ : ∃ w1, w.alloc (.cells #[.slice a1 n1 c1, .slice a2 n2 c2] 25) = w1 := ⟨_, rfl⟩
  have cb : Below w.heap.size w w1 := by rw [← hw1]; exact below_alloc _ _
  have q0 : w1.cell? ⟨w.heap.size, 0, none⟩ = some (.slice a1 n1 c1) := by rw [← hw1]; exact cells_alloc _ _ _ 0
  have q1 : w1.cell? ⟨w.heap.size, 1, none⟩ = some (.slice a2 n2 c2) := by rw [← hw1]; exact cells_alloc _ _ _ 1
  have HP1 := hid_ (HP.out.below cb (Nat.le_refl _)); have Hc1 := hid_ cb
  obtain ⟨w2, hw2⟩ : ∃ w2, w1.alloc (.cells #[.slice none 0 0, .slice none 0 0] 25) = w2 := ⟨_, rfl⟩
  have z1 : w1.heap.size = w.heap.size + 1 := by rw [← hw1]; simp
  have z2 : w2.heap.size = w.heap.size + 2 := by rw [← hw2]; simp [z1]
  have b2 : Below w1.heap.size w1 w2 := by rw [← hw2]; exact below_alloc _ _
  have r0 : w2.cell? ⟨w.heap.size + 1, 0, none⟩ = some (.slice none 0 0) := by rw [← z1, ← hw2]; exact cells_alloc _ _ _ 0
  have r1 : w2.cell? ⟨w.heap.size + 1, 1, none⟩ = some (.slice none 0 0) := by rw [← z1, ← hw2]; exact cells_alloc _ _ _ 1
  have f0 : ∀ j, w2.frozen? ⟨w.heap.size + 1, j, none⟩ = false := fun j => by rw [← z1, ← hw2]; exact World.frozen?_alloc_at _ _ _ _ (by simp)
  have q02 := cell_below q0 b2; have q12 := cell_below q1 b2
  have HP2 := hid_ (HP1.out.below b2 (Nat.le_refl _))
  have HE := hid_ (fun T => validateEntries_calls _ P _ 1 1 [i] (w2.alloc (.cells #[.int .i64 i] T)) (HP2.out.below (below_alloc _ _) (Nat.le_refl _)) (IntsAt.one w2 i T))
  have HR : Hid (resCut P i = if errN P [i] = 0 then cutP P i.toNat else ⟨[], []⟩) := hid_ rfl
  have Hb2 : Hid (Below w.heap.size w w2) := hid_ (Hc1.out.trans (b2.mono Hc1.out.size))
  have hln := h2.len
  have Z2 := hid_ z2
  have hwz : w.heap.size + 2 ≤ w2.heap.size := by omega
  clear h1 h2 cb b2 q0 q1 z2
  by_cases he : errN P [i] = 0
  · obtain ⟨hv, hi⟩ := errN1_ok he
    obtain ⟨i', rfl, hi'⟩ := isNo_ok hi
    have Hf : Hid (resCut P i' = cutP P i') := hid_ (by rw [HR.out, if_pos he, Int.toNat_natCast])
    obtain ⟨-, -, h10, hent⟩ := validP_ok hv
    have h3 := (validP_ok hv).1.2
    have HC := hid_ (fun W (hW : Below w2.heap.size w2 W) => ceWithout0_calls _ P i' W (HP2.out.below hW (Nat.le_refl _)) (by omega) (by omega) (fun k hk => by have := (specB_ok (hent k hk).1).1; omega) hi')
    rw [he] at HE ⊢
    rw [Hf.out]
    have qf : ∀ W, Below w2.heap.size w2 W → (W.cell? ⟨w.heap.size + 1, 0, none⟩ = some (.slice none 0 0) ∧ W.cell? ⟨w.heap.size + 1, 1, none⟩ = some (.slice none 0 0)) ∧ (W.frozen? ⟨w.heap.size + 1, 0, none⟩ = false ∧ W.frozen? ⟨w.heap.size + 1, 1, none⟩ = false) := fun W hW => ⟨⟨cell_below r0 hW, cell_below r1 hW⟩, (hW.frozen (p := ⟨w.heap.size + 1, 0, none⟩) (by show w.heap.size + 1 < w2.heap.size; omega)).trans (f0 0), (hW.frozen (p := ⟨w.heap.size + 1, 1, none⟩) (by show w.heap.size + 1 < w2.heap.size; omega)).trans (f0 1)⟩
    have Qf := hid_ qf
    clear he hv hi hent h10 h3 hi' HR hln qf r0 r1 f0
    go_enter Try.func18, Try.ntmps18
    go_wp2_with (first
      | (go_at_call 62; (with_reducible refine (HE.out _).mono ?_); rintro e w3 ⟨rfl, hc3⟩; have hb3 := (below_alloc w2 (.cells #[.int .i64 (i' : Int)] 3)).trans (hc3.mono (below_alloc w2 (.cells #[.int .i64 (i' : Int)] 3)).size); have q03 := cell_below q02 hb3; have q13 := cell_below q12 hb3)
      | (go_at_call 58; (with_reducible refine (HC.out _ hb3).mono ?_); rintro e w4 ⟨v4, rfl, u4, x4, rfl, hu4, hx4, hb4⟩; obtain ⟨a3, n3, c3, rfl, -⟩ := hu4.ints; obtain ⟨a4, c4, rfl, -⟩ := hx4.at_; obtain ⟨⟨y0, y1⟩, y2, y3⟩ := Qf.out _ (hb3.trans (hb4.mono hb3.size))))
    obtain ⟨t0, t1⟩ := cells_two y0 y1 (.slice a3 n3 c3) (.slice a4 (cutP P i').ents.length c4)
    have z2 := Z2.out
    have hp : w.heap.size + 1 < w3.heap.size := by have := hb3.size; omega
    refine bodyPost_ret (v := .tuple #[.agg #[.slice a3 n3 c3, .slice a4 (cutP P i').ents.length c4], .int .i64 0]) ?_ rfl ⟨_, rfl, _, _, rfl, ?_, ?_, ?_⟩
    · simp [results, Try.results18, go_sem, t0, t1]
    · exact ((hu4.store (p := ⟨w.heap.size + 1, 0, none⟩) hp _).store (p := ⟨w.heap.size + 1, 1, none⟩) hp _).base (by omega)
    · exact ((hx4.store (p := ⟨w.heap.size + 1, 0, none⟩) hp _).store (p := ⟨w.heap.size + 1, 1, none⟩) hp _).base (by omega)
    · have hf : Below w.heap.size w w4 := Hb2.out.trans ((hb3.trans (hb4.mono hb3.size)).mono Hb2.out.size)
      exact (hf.setCell (p := ⟨w.heap.size + 1, 0, none⟩) (by show _ ≤ _ + 1; omega) _).setCell (p := ⟨w.heap.size + 1, 1, none⟩) (by show _ ≤ _ + 1; omega) _
  · have hq : (errN P [i] != 0) = true := by simpa using he
    have Hf : Hid (resCut P i = ⟨[], []⟩) := hid_ (by rw [HR.out, if_neg he])
    rw [Hf.out]
    generalize errN P [i] = x at *
    clear he HR
    have qf : ∀ W, Below w2.heap.size w2 W → (W.cell? ⟨w.heap.size + 1, 0, none⟩ = some (.slice none 0 0) ∧ W.cell? ⟨w.heap.size + 1, 1, none⟩ = some (.slice none 0 0)) ∧ (W.frozen? ⟨w.heap.size + 1, 0, none⟩ = false ∧ W.frozen? ⟨w.heap.size + 1, 1, none⟩ = false) := fun W hW => ⟨⟨cell_below r0 hW, cell_below r1 hW⟩, (hW.frozen (p := ⟨w.heap.size + 1, 0, none⟩) (by show w.heap.size + 1 < w2.heap.size; omega)).trans (f0 0), (hW.frozen (p := ⟨w.heap.size + 1, 1, none⟩) (by show w.heap.size + 1 < w2.heap.size; omega)).trans (f0 1)⟩
    have Qf := hid_ qf
    clear qf r0 r1 f0
    go_enter Try.func18, Try.ntmps18
    go_wp2_with (go_at_call 62; (with_reducible refine (HE.out _).mono ?_); rintro e w3 ⟨rfl, hc3⟩; have hb3 := (below_alloc w2 (.cells #[.int .i64 i] 3)).trans (hc3.mono (below_alloc w2 (.cells #[.int .i64 i] 3)).size); obtain ⟨⟨y0, y1⟩, y2, y3⟩ := Qf.out _ hb3)
    obtain ⟨t0, t1⟩ := cells_two y0 y1 (.slice none 0 0) (.slice none 0 0)
    refine bodyPost_ret (v := .tuple #[.agg #[.slice none 0 0, .slice none 0 0], .int .i64 x]) ?_ rfl ⟨_, rfl, MadeP6.zero ?_⟩
    · simp [results, Try.results18, go_sem, t0, t1]
    · have hf : Below w.heap.size w w3 := Hb2.out.trans (hb3.mono Hb2.out.size)
      exact (hf.setCell (p := ⟨w.heap.size + 1, 0, none⟩) (by show _ ≤ _ + 1; omega) _).setCell (p := ⟨w.heap.size + 1, 1, none⟩) (by show _ ≤ _ + 1; omega) _
end Go.Proofs.Ytdnlpikfibdjoaa
