import Derived.Test.YtpcpmdokgdbonaaVmh
import Derived.Deep.RegionLaw
import Derived.ArgAppend
namespace Go.Proofs.Kv
open Go.RowKit Go
theorem encI_take (l : List Ic) (i : Nat) : (l.flatMap encI).take (i * 3) = (l.take i).flatMap encI := by
  induction l generalizing i with
  | nil => simp
  | cons x l ih =>
    cases i with
    | zero => simp
    | succ i =>
      rw [List.flatMap_cons, List.take_succ_cons, List.flatMap_cons, List.take_append]
      have e2 : (encI x).length = 3 := rfl
      rw [e2, List.take_of_length_le (by rw [e2]; omega), show (i + 1) * 3 - 3 = i * 3 by omega, ih]
theorem encI_drop (l : List Ic) (i : Nat) : (l.flatMap encI).drop (i * 3) = (l.drop i).flatMap encI := by
  induction l generalizing i with
  | nil => simp
  | cons x l ih =>
    cases i with
    | zero => simp
    | succ i =>
      rw [List.flatMap_cons, List.drop_succ_cons, List.drop_append]
      have e2 : (encI x).length = 3 := rfl
      rw [e2, List.drop_of_length_le (by rw [e2]; omega), show (i + 1) * 3 - 3 = i * 3 by omega, ih, List.nil_append]
/-- an own row of items of which one was taken out -/
theorem own_deletedI {B E n g cap i : Nat} {w : World} {xs : List Ic} (h : w.ownsRow B E 3 (.slice (some ⟨g, 0, none⟩) n cap) n (xs.flatMap encI)) (hi : i < n) (zs : List Value) (hz : zs.length = 3) :
    ((w.setCells g (i * 3) ((xs.drop (i + 1)).flatMap encI)).setCells g ((n - 1) * 3) zs).ownsRow B E 3 (.slice (some ⟨g, 0, none⟩) (n - 1) cap) (n - 1) ((xs.take i ++ xs.drop (i + 1)).flatMap encI) ∧ w.grownBy ((w.setCells g (i * 3) ((xs.drop (i + 1)).flatMap encI)).setCells g ((n - 1) * 3) zs) (some g) := by
  have hl : xs.length = n := by have := h.1; rw [encI_len] at this; omega
  have hfl : (xs.flatMap encI).length = n * 3 := h.1
  have hd : ((xs.drop (i + 1)).flatMap encI).length = (n - (i + 1)) * 3 := by rw [encI_len, List.length_drop, hl]
  obtain ⟨h1, h2⟩ := own_setCells_at ((xs.drop (i + 1)).flatMap encI) (i * 3) h (by rw [hd, hfl]; omega)
  have hl1 := h1.1
  obtain ⟨h3, h4⟩ := own_setCells_at zs ((n - 1) * 3) h1 (by rw [hl1, hz]; omega)
  refine ⟨?_, h2.trans h4⟩
  have h5 := own_cut h3 (show n - 1 ≤ n by omega)
  have hA : ((xs.flatMap encI).take (i * 3) ++ (xs.drop (i + 1)).flatMap encI).length = (n - 1) * 3 := by rw [List.length_append, List.length_take, hd, hfl]; omega
  have e : ∀ X : List Value, ((((xs.flatMap encI).take (i * 3) ++ (xs.drop (i + 1)).flatMap encI) ++ X).take ((n - 1) * 3) ++ zs ++ (((xs.flatMap encI).take (i * 3) ++ (xs.drop (i + 1)).flatMap encI) ++ X).drop ((n - 1) * 3 + zs.length)).take ((n - 1) * 3) = (xs.take i ++ xs.drop (i + 1)).flatMap encI := fun X => by
    rw [List.take_left' hA, List.append_assoc, List.take_left' hA, List.flatMap_append, encI_take]
  rw [e] at h5
  exact h5
theorem run_clear_one {P : Program} (w : World) (t e ty : TypeId) (z : Value) (ht : P.underlying t = some (.slice e)) (hv : ∀ w, (zeroValue e).run P w = .ok z w) (b o c : Nat)
    (hc : ∀ j, j < z.cells.size → (w.cell? ⟨b, o + j, none⟩).isSome = true) (hf : ∀ j, j < z.cells.size → w.frozen? ⟨b, o + j, none⟩ = false) (h1 : ∀ u ∈ z.cells.toList, u.oneCell' = true) :
    (Builtin.clear_ #[t] ty #[.slice (some ⟨b, o, none⟩) 1 c]).run P w = .ok (.tuple #[]) (w.setCells b o z.cells.toList) := by
  have hzc : (Builtin.zeroCells z.cells 1).toList = z.cells.toList := by
    simp only [Builtin.zeroCells]
    apply List.ext_getElem
    · simp
    · intro i h1 h2
      simp only [Array.length_toList] at h2
      simp [Nat.mod_eq_of_lt h2, getElem!_pos, h2]
  have hst := run_storeCells_cells (P := P) b o z.cells.toList 0 w (by simpa using hc) (by simpa using hf) h1
  simp only [Nat.add_zero] at hst
  simp [Builtin.clear_, run_underlying ht, hv, hzc, hst]
theorem grown_undrew8 {w w' : World} {q : Nat} {row : Option Nat} (h : (w.drewN q).grownBy w' row) : w.grownBy w' row := ⟨h.os, h.tape, h.output, h.size, h.block⟩
end Go.Proofs.Kv
namespace Go.Proofs.Ytpcpmdokgdbonaa
open Go.RowKit Go.Proofs.Kv Go

/-! ### slices.Delete of one item -/
set_option maxRecDepth 100000 in
set_option maxHeartbeats 4000000 in
theorem deleteItem_calls {B n g cap i j : Nat} {xs : List Ic} {w : World} (hown : w.ownsRow B 50 3 (.slice (some ⟨g, 0, none⟩) n cap) n (xs.flatMap encI)) (h1 : ∀ u ∈ xs.flatMap encI, u.oneCell' = true) (hj : j = i + 1) (hi : i < n) (hn : n ≤ cap) :
    Calls Try.prog 66 #[.slice (some ⟨g, 0, none⟩) n cap, .int .i64 i, .int .i64 j] w fun e w' => e = .returned (.slice (some ⟨g, 0, none⟩) (n - 1) cap) ∧ w'.ownsRow B 50 3 (.slice (some ⟨g, 0, none⟩) (n - 1) cap) (n - 1) ((xs.take i ++ xs.drop (i + 1)).flatMap encI) ∧ w.grownBy w' (some g) := by
  obtain ⟨i0, hi0, hz0, hz1, hz2⟩ := info_parts Try.infoItem
  have hl : xs.length = n := by have := hown.1; rw [encI_len] at this; omega
  obtain ⟨news, hnews⟩ : ∃ news, news = (xs.drop j).flatMap encI := ⟨_, rfl⟩
  have hlen : news.length = (n - j) * 3 := by rw [hnews, encI_len, List.length_drop, hl]
  have hget : ∀ t u, news[t]? = some u → w.cell? ⟨g, j * 3 + t, none⟩ = some u := fun t u hu => by
    have ht : t < (n - j) * 3 := by rw [← hlen]; exact (List.getElem?_eq_some_iff.1 hu).1
    rw [hown.cellAt _ (by omega), ← hu, hnews, ← encI_drop, List.getElem?_drop]
  obtain ⟨A, hA, hsrc⟩ : ∃ A : Addr, (if cap = j then some (⟨g, 0, none⟩ : Addr) else some ⟨g, j * 3, none⟩) = some A ∧ Hid (∀ t u, news[t]? = some u → w.drew.cell? (A.add t) = some u) := by
    by_cases h : cap = j
    · refine ⟨⟨g, 0, none⟩, by simp [h], hid_ fun t u hu => ?_⟩
      have h0 : news.length = 0 := by rw [hlen]; omega
      rw [List.length_eq_zero_iff.1 h0] at hu
      simp at hu
    · exact ⟨⟨g, j * 3, none⟩, by simp [h], hid_ fun t u hu => by rw [show (⟨g, j * 3, none⟩ : Addr).add t = ⟨g, j * 3 + t, none⟩ by unfold Addr.add; split <;> simp_all]; exact hget t u hu⟩
  have s1 : Hid (news.length = (n - j) * 3) := hid_ hlen
  have s2 : Hid (∀ u ∈ news, u.oneCell' = true) := hid_ (fun u hu => h1 u (by rw [hnews, ← encI_drop] at hu; exact List.mem_of_mem_drop hu))
  have hfl : (xs.flatMap encI).length = n * 3 := hown.1
  have hcl0 : ∀ t, t < n * 3 → (w.drew.cell? ⟨g, t, none⟩).isSome = true ∧ w.drew.frozen? ⟨g, t, none⟩ = false := fun t ht => ⟨by show (w.cell? _).isSome = true; rw [hown.cellAt t (by omega), List.getElem?_eq_getElem (by omega)]; rfl, hown.frozenAt t⟩
  have s3 : Hid (∀ t, t < news.length → (w.drew.cell? ⟨g, 0 + i * 3 + t, none⟩).isSome = true ∧ w.drew.frozen? ⟨g, 0 + i * 3 + t, none⟩ = false) := hid_ (fun t ht => hcl0 _ (by rw [hlen] at ht; omega))
  obtain ⟨W1, hW1⟩ : ∃ W1, W1 = w.drew.setCells g (0 + i * 3) news := ⟨_, rfl⟩
  obtain ⟨k1, k2⟩ := own_setCells_at news (i * 3) (own_drewN hown 1) (by rw [hlen, hfl]; omega)
  have hk : w.drewN 1 = w.drew := rfl
  have hW1' : W1 = (w.drewN 1).setCells g (i * 3) news := by rw [hW1, hk]; congr 1; omega
  rw [← hW1'] at k1 k2
  have hlast : i + (n - j) = n - 1 := by omega
  have hone : n - (n - 1) = 1 := by omega
  have hcl : ∀ ty, (Builtin.clear_ #[22] ty #[.slice (some ⟨g, 0 + (n - 1) * 3, none⟩) 1 (cap - (n - 1))]).run Try.prog W1 = .ok (.tuple #[]) (W1.setCells g (0 + (n - 1) * 3) [.slice none 0 0, .int .i64 0, .int .i64 0]) :=
    fun ty => run_clear_one W1 22 50 ty (.agg #[.slice none 0 0, .int .i64 0, .int .i64 0]) Try.underlying22 (zero_run8 hi0 hz0) g (0 + (n - 1) * 3) _ (fun t ht => by
      have ht : t < 3 := ht
      rw [k1.cellAt _ (by omega), List.getElem?_eq_getElem (by have := k1.1; omega)]; rfl) (fun t ht => k1.frozenAt _) (fun u hu => by
      have hu : u ∈ [Value.slice none 0 0, .int .i64 0, .int .i64 0] := hu
      simp at hu
      rcases hu with rfl | rfl <;> rfl)
  simp only [Nat.zero_add] at hcl
  have hcne : ¬ cap = n - 1 := by omega
  have Hj : Hid (j = i + 1) := hid_ hj
  have hfin := own_deletedI (own_drewN hown 1) hi [.slice none 0 0, .int .i64 0, .int .i64 0] rfl
  rw [← hj, ← hnews, ← hW1'] at hfin
  have Hfin := hid_ hfin
  have hW : Hid (W1 = w.drew.setCells g (0 + i * 3) news) := hid_ hW1
  have hic : i ≤ cap := by omega
  have hjc : j ≤ cap := by omega
  have hjn : j ≤ n := by omega
  have hij : i ≤ j := by omega
  have hne : ((i : Int) == (j : Int)) = false := by simp; omega
  clear hW1 hW1' hlen hget k1 k2 hfin hown hcl0 h1 hl hfl
  have Hnews : Hid (news = (xs.drop j).flatMap encI) := hid_ hnews
  clear hnews hj
  go_enter Try.func66, Try.ntmps66
  go_wp2_with fail
  go_region_law (refine step_append_room rfl (.tmp 22) (.tmp 25) 22 rfl 50 i0 3 Try.underlying22 hi0 hz1 g 0 i cap (by simp [Act.eval, Act.put]) A (n - j) (cap - j) news (by simp [Act.eval, Act.put]) s1.out hsrc.out s2.out (by omega) s3.out ?_; rw [← hW.out])
  go_wp2
  go_ret
  rw [← Hj.out]
  exact ⟨rfl, Hfin.out.1, grown_undrew8 Hfin.out.2⟩
end Go.Proofs.Ytpcpmdokgdbonaa
namespace Go.Proofs.Kv
open Go.RowKit Go
theorem RowsIn.erase {E1 : TypeId} {w : World} {B : Nat} {us : List Value} {R : List (List Int)} (h : RowsIn E1 w B us R) (i : Nat) : RowsIn E1 w B (us.eraseIdx i) (R.eraseIdx i) := by
  have hl := h.len
  have hat : ∀ j x, (us.eraseIdx i)[j]? = some x → ∃ j', us[j']? = some x ∧ j' = (if j < i then j else j + 1) := fun j x hx => by
    rw [List.getElem?_eraseIdx] at hx
    split at hx
    · rename_i hlt; exact ⟨j, hx, by rw [if_pos hlt]⟩
    · rename_i hlt; exact ⟨j + 1, hx, by rw [if_neg hlt]⟩
  refine ⟨by rw [List.length_eraseIdx, List.length_eraseIdx, hl], fun j u hu => ?_, fun j k u u' b hjk hu hu' hb => ?_⟩
  · obtain ⟨j', h1, h2⟩ := hat j u hu
    have e : (R.eraseIdx i).getD j [] = R.getD j' [] := by
      simp only [List.getD, List.getElem?_eraseIdx, h2]
      split <;> rfl
    rw [e]; exact h.row j' u h1
  · obtain ⟨j', h1, h2⟩ := hat j u hu
    obtain ⟨k', h3, h4⟩ := hat k u' hu'
    refine h.apart j' k' u u' b ?_ h1 h3 hb
    subst h2; subst h4
    split <;> split <;> omega
theorem own_cap {w : World} {B E size g m c n : Nat} {xs : List Value} (h : w.ownsRow B E size (.slice (some ⟨g, 0, none⟩) m c) n xs) : n ≤ c := by
  rcases h.2 with ⟨h9, _⟩ | ⟨g', cap, cur, e9, _, _, hle, _⟩
  · cases h9
  · injection e9 with e1 e2 e3; omega
/-- one item taken out -/
theorem NewI.erase {EI EL E1 : TypeId} {w w' : World} {B g n c i : Nat} {fv : Value} {xs : List Ic} {fs : List Value} {L : Lx} (h : NewI EI EL E1 w B (.slice (some ⟨g, 0, none⟩) n c) fv xs fs L) (hn : n = L.items.length) (hi : i < n)
    (hi' : w'.ownsRow B EI 3 (.slice (some ⟨g, 0, none⟩) (n - 1) c) (n - 1) ((xs.take i ++ xs.drop (i + 1)).flatMap encI)) (hg : w.grownBy w' (some g)) :
    NewI EI EL E1 w' B (.slice (some ⟨g, 0, none⟩) (n - 1) c) fv (xs.eraseIdx i) fs ⟨L.items.eraseIdx i, L.follow⟩ := by
  subst hn
  have hl := h.len
  have hg' : w.grownBy w' (Value.slice (some ⟨g, 0, none⟩) L.items.length c).ownBlock := hg
  have hR := (h.rows.other h.items h.ne1 hg').erase i
  have hle : (L.items.eraseIdx i).length = L.items.length - 1 := List.length_eraseIdx_of_lt hi
  refine ⟨h.ne1, h.ne2, h.ne3, ?_, by show (xs.eraseIdx i).length = (L.items.eraseIdx i).length; rw [List.length_eraseIdx_of_lt (by omega), hle, hl], fun j x hx => ?_, own_kept_ne h.fol hg' (fun b hb => own_apart h.fol h.items (Ne.symm h.ne3) b hb), ?_⟩
  · show w'.ownsRow B EI 3 _ (L.items.eraseIdx i).length _
    rw [hle, List.eraseIdx_eq_take_drop_succ]; exact hi'
  · rw [List.getElem?_eraseIdx] at hx
    show x.2 = (((L.items.eraseIdx i).getD j I0).kind, ((L.items.eraseIdx i).getD j I0).cost)
    simp only [List.getD, List.getElem?_eraseIdx]
    split at hx
    · rename_i hlt; rw [if_pos hlt]; exact h.kc j x hx
    · rename_i hlt; rw [if_neg hlt]; exact h.kc (j + 1) x hx
  · rw [List.eraseIdx_append_of_lt_length (by simp [hl]; omega), List.eraseIdx_append_of_lt_length (by simpa using hi)] at hR
    have em : ∀ {α β : Type} (f : α → β) (l : List α), (l.map f).eraseIdx i = (l.eraseIdx i).map f := fun f l => by
      simp [List.eraseIdx_eq_take_drop_succ, List.map_take, List.map_drop]
    rw [em, em] at hR
    exact hR
/-- append onto a slice without room -/
theorem step_append_full {P : Program} {ops : Array Oper} {o : Oper} {a : Act} {w : World} {K : Act → World → Prop} {Q : Exit → Act → World → Prop} {E0 : Prop} (hgd : o.guard = none) (s x : Operand) (t : TypeId)
    (ho : o.op = .call { callee := .builtin .append, args := #[s, x], argTypes := #[t, t] }) (e : TypeId) (i : TypeInfo) {z : Value} (size by_ : Nat) (ht : P.underlying t = some (.slice e)) (hi : P.info? e = some i) (hz : i.zero = some z) (hzc : z.cells.size = size) (hsize : i.size = size) (hs0 : 0 < size) (hby : i.bytes = by_) (hb0 : by_ ≤ 48)
    (b off n : Nat) (olds : List Value) (hs : a.eval s = .slice (some ⟨b, off, none⟩) n n) (hlo : olds.length = n * size) (holds : ∀ j u, olds[j]? = some u → w.cell? ((⟨b, off, none⟩ : Addr).add j) = some u)
    (A : Addr) (m c : Nat) (news : List Value) (hx : a.eval x = .slice (some A) m c) (hl : news.length = m * size) (hc : ∀ j u, news[j]? = some u → w.cell? (A.add j) = some u) (hsm : n + m ≤ 1000000)
    (hK : ∀ b' off' c' w', n + m ≤ c' → c' ≤ 9223372036854775807 → (∀ j u, (olds ++ news)[j]? = some u → w'.cell? ((⟨b', off', none⟩ : Addr).add j) = some u) → w.grownBy w' none → K (a.put o.dst (.slice (some ⟨b', off', none⟩) (n + m) c')) w') :
    if Region.wanted o (yielded ops a.tmps) = true then Oper.wp P o a w K Q else E0 := by
  have hm : (n + m) * by_ ≤ 1000000 * 48 := Nat.mul_le_mul hsm hb0
  have hw : Region.wanted o (yielded ops a.tmps) = true := by simp [Region.wanted, hgd]
  rw [if_pos hw]
  by_cases h0 : m = 0
  · subst h0
    have hnl : news = [] := List.length_eq_zero_iff.1 (by omega)
    subst hnl
    have hrun := run_append_room_cells (P := P) w t o.type e i ht hi b off n n A 0 c [] (by simp) (by simp) (by simp) (by omega) (by simp) (by simp)
    unfold Oper.wp
    simp [execOp, ho, resolve, invoke, builtin, hs, hx, hrun, Result.andThen, World.setCells]
    exact hK b off n w (by omega) (by omega) (by simpa using holds) ⟨rfl, rfl, rfl, Nat.le_refl _, fun _ _ _ => rfl⟩
  · obtain ⟨v', w', hrun, h2, h3⟩ := run_append_arg_grows (P := P) w t o.type e i z size by_ ht hi hz hsize hby hzc hs0 ⟨b, off, none⟩ n n olds hlo holds A m c news hl hc (by omega) (by unfold maxLen; omega) (by omega)
    have h2' := h2
    rcases h2.2 with ⟨_, h9⟩ | ⟨g, cap, cur, rfl, _, _, hle, hmx, _⟩
    · omega
    · unfold Oper.wp
      simp [execOp, ho, resolve, invoke, builtin, hs, hx, hrun, Result.andThen]
      exact hK g 0 cap w' hle (by unfold maxLen at hmx; omega) (fun j u hu => h2'.cells (g := g) rfl j u hu) h3
end Go.Proofs.Kv
namespace Go.Proofs.Ytpcpmdokgdbonaa
open Go.RowKit Go.Proofs.Kv Go

/-! ### Without -/
def wiE (L : Lx) (i : Int) : Int := if viE L [i] = 0 then (if L.items.length = 1 then 1 else 0) else viE L [i]
def wiL (L : Lx) (i : Int) : Lx := if wiE L i = 0 then ⟨L.items.eraseIdx i.toNat, L.follow⟩ else ⟨[], []⟩
theorem nil_lex (w : World) : LexAt w (.agg #[.slice none 0 0, .slice none 0 0]) ⟨[], []⟩ := ⟨none, 0, 0, none, 0, 0, rfl, ItemsAt.nil _ _ _ (by omega), ListsAt.nil _ _ _ (by omega)⟩
set_option maxRecDepth 100000 in
set_option maxHeartbeats 4000000 in
theorem taWithout_calls (v : Value) (L : Lx) (i : Int) (w : World) (h : LexAt w v L) :
    Calls Try.prog 33 #[v, .int .i64 i] w fun e w' => ∃ a n c a' n' c', e = .returned (.tuple #[.agg #[.slice a n c, .slice a' n' c'], .int .i64 (wiE L i)]) ∧ LexAt w' (.agg #[.slice a n c, .slice a' n' c']) (wiL L i) ∧ Below w.heap.size w w' := by
  have HP := hid_ h
  obtain ⟨a1, n1, c1, a2, n2, c2, rfl, h1, h2⟩ := h
  obtain ⟨w1, hw1⟩ : ∃ w1, w.alloc (.cells #[.slice a1 n1 c1, .slice a2 n2 c2] 25) = w1 := ⟨_, rfl⟩
  have cb : Below w.heap.size w w1 := by rw [← hw1]; exact below_alloc _ _
  have q0 : w1.cell? ⟨w.heap.size, 0, none⟩ = some (.slice a1 n1 c1) := by rw [← hw1]; exact cells_alloc _ _ _ 0
  have q1 : w1.cell? ⟨w.heap.size, 1, none⟩ = some (.slice a2 n2 c2) := by rw [← hw1]; exact cells_alloc _ _ _ 1
  have HP1 := hid_ (HP.out.below cb (Nat.le_refl _)); have Hc1 := hid_ cb
  obtain ⟨w2, hw2⟩ : ∃ w2, w1.alloc (.cells #[.slice none 0 0, .slice none 0 0] 25) = w2 := ⟨_, rfl⟩
  have z1 : w1.heap.size = w.heap.size + 1 := by rw [← hw1]; simp
  have z2 : w2.heap.size = w.heap.size + 2 := by rw [← hw2]; simp [z1]
  have b2 : Below w1.heap.size w1 w2 := by rw [← hw2]; exact below_alloc _ _
  have r0 : w2.cell? ⟨w.heap.size + 1, 0, none⟩ = some (.slice none 0 0) := by rw [← z1, ← hw2]; exact cells_alloc _ _ _ 0
  have r1 : w2.cell? ⟨w.heap.size + 1, 1, none⟩ = some (.slice none 0 0) := by rw [← z1, ← hw2]; exact cells_alloc _ _ _ 1
  have f0 : ∀ j, w2.frozen? ⟨w.heap.size + 1, j, none⟩ = false := fun j => by rw [← z1, ← hw2]; exact World.frozen?_alloc_at _ _ _ _ (by simp)
  have q02 := cell_below q0 b2; have q12 := cell_below q1 b2
  have Hb2 : Hid (Below w.heap.size w w2) := hid_ (Hc1.out.trans (b2.mono Hc1.out.size))
  have HP2 := hid_ (HP.out.below Hb2.out (Nat.le_refl _))
  have HRs := hid_ (fun W (hW : Below w2.heap.size w2 W) => (⟨(hW.cell (p := ⟨w.heap.size + 1, 0, none⟩) (by show w.heap.size + 1 < w2.heap.size; omega)).trans r0, (hW.cell (p := ⟨w.heap.size + 1, 1, none⟩) (by show w.heap.size + 1 < w2.heap.size; omega)).trans r1, (hW.frozen (p := ⟨w.heap.size + 1, 0, none⟩) (by show w.heap.size + 1 < w2.heap.size; omega)).trans (f0 0), (hW.frozen (p := ⟨w.heap.size + 1, 1, none⟩) (by show w.heap.size + 1 < w2.heap.size; omega)).trans (f0 1)⟩ : W.cell? ⟨w.heap.size + 1, 0, none⟩ = some (.slice none 0 0) ∧ W.cell? ⟨w.heap.size + 1, 1, none⟩ = some (.slice none 0 0) ∧ W.frozen? ⟨w.heap.size + 1, 0, none⟩ = false ∧ W.frozen? ⟨w.heap.size + 1, 1, none⟩ = false))
  have HQ := hid_ (fun W (hW : Below w2.heap.size w2 W) => (⟨cell_below q02 hW, cell_below q12 hW⟩ : _ ∧ _))
  have Z2 := hid_ z2
  have ba := below_alloc w2 (.cells #[.int .i64 i] 3)
  have HV := hid_ (validateItems_calls _ L _ 1 1 [i] _ (HP2.out.below ba (Nat.le_refl _)) (IntsAt.one w2 i 3))
  have Hba := hid_ ba
  have HE : Hid (wiE L i = if viE L [i] = 0 then (if L.items.length = 1 then 1 else 0) else viE L [i]) := hid_ rfl
  have HD : Hid (wiL L i = if wiE L i = 0 then ⟨L.items.eraseIdx i.toNat, L.follow⟩ else ⟨[], []⟩) := hid_ rfl
  have hl1 := h1.len
  generalize wiL L i = D at *
  generalize wiE L i = E at *
  by_cases he : viE L [i] = 0
  · obtain ⟨hv, hi⟩ := viE_ok he
    have g := validL_ok hv
    obtain ⟨j, rfl, hj⟩ := one_item hi
    rw [if_pos he, hl1] at HE
    rw [he] at HV
    rw [Int.toNat_natCast] at HD
    have HCp := hid_ (fun W (hW : Below w2.heap.size w2 W) => copied8_calls _ L W (HP2.out.below hW (Nat.le_refl _)) g)
    rw [hl1] at hj
    have hn8 : n1 ≤ 8 := by have := g.le; omega
    have Hl1 := hid_ hl1
    clear h1 h2 HP HP1 g hv hi he ba cb b2
    by_cases h1 : n1 = 1
    · have HE' : Hid (E = 1) := hid_ (HE.out.trans (if_pos h1))
      have HD' : Hid (D = ⟨[], []⟩) := hid_ (HD.out.trans (if_neg (by rw [HE'.out]; decide)))
      rw [HD'.out, HE'.out]
      have hq : ((n1 : Int) == 1) = true := by simp [h1]
      clear z2 h1 hl1
      go_enter Try.func33, Try.ntmps33
      go_wp2_with (go_at_call 63; (with_reducible refine HV.out.mono ?_); rintro e w3 ⟨rfl, hb3'⟩; have hb3 := below_then8 Hba.out hb3'; obtain ⟨q3, p3⟩ := HQ.out w3 hb3; obtain ⟨s0, s1, g0, g1⟩ := HRs.out w3 hb3)
      obtain ⟨t0, t1⟩ := two_stored (x := .slice none 0 0) (y := .slice none 0 0) s0 s1
      refine bodyPost_ret (v := .tuple #[.agg #[.slice none 0 0, .slice none 0 0], .int .i64 1]) ?_ rfl ⟨_, _, _, _, _, _, rfl, nil_lex _, ?_⟩
      · simp [results, Try.results33, go_sem, t0, t1]
      · have hf := Hb2.out.trans (hb3.mono Hb2.out.size)
        exact (hf.setCell (p := ⟨w.heap.size + 1, 0, none⟩) (by show _ ≤ _ + 1; omega) _).setCell (p := ⟨w.heap.size + 1, 1, none⟩) (by show _ ≤ _ + 1; omega) _
    · have HE' : Hid (E = 0) := hid_ (HE.out.trans (if_neg h1))
      have HD' : Hid (D = ⟨L.items.eraseIdx j, L.follow⟩) := hid_ (HD.out.trans (if_pos HE'.out))
      rw [HD'.out, HE'.out]
      have hq : ((n1 : Int) == 1) = false := by simpa using (fun e : (n1 : Int) = 1 => h1 (by omega))
      obtain ⟨j1, hj1⟩ : ∃ j1, j1 = j + 1 := ⟨_, rfl⟩
      have hwj : IntKind.i64.wrap ((j : Int) + 1) = (j1 : Int) := by rw [IntKind.wrap_i64]; omega
      have Hj1 := hid_ hj1
      clear z2 h1 hl1 hj1
      go_enter Try.func33, Try.ntmps33
      go_wp2_with (first
        | (go_at_call 63; (with_reducible refine HV.out.mono ?_); rintro e w3 ⟨rfl, hb3'⟩; have hb3 := below_then8 Hba.out hb3'; obtain ⟨q3, p3⟩ := HQ.out w3 hb3)
        | (go_at_call 59; (with_reducible refine (HCp.out _ hb3).mono ?_); rintro e w5 ⟨iv, fv, xs, fs, rfl, hN, hb5'⟩; have hb5 := below_then8 hb3 hb5'; obtain ⟨gi, cg, rfl, hgB, hgl⟩ := hN.form (by rw [Hl1.out]; omega); obtain ⟨ac, cc, rfl, -⟩ := hN.listsAt; simp only [Hl1.out] at hN ⊢; have Hhn := hid_ hN; clear hN; obtain ⟨fl, hfl⟩ : ∃ fl, L.follow.length = fl := ⟨_, rfl⟩; rw [hfl] at Hhn ⊢; obtain ⟨w6, hw6⟩ : ∃ w6, w5.alloc (.cells #[.slice (some ⟨gi, 0, none⟩) n1 cg, .slice ac fl cc] 25) = w6 := ⟨_, rfl⟩; have b6 : Below w5.heap.size w5 w6 := (by rw [← hw6]; exact below_alloc _ _); have HN6 := hid_ (Hhn.out.below b6 (Nat.le_refl _)); have HOc := hid_ (show w6.ownsRow w5.heap.size 25 2 (.slice (some ⟨w5.heap.size, 0, none⟩) 1 1) 1 [.slice (some ⟨gi, 0, none⟩) n1 cg, .slice ac fl cc] by rw [← hw6]; exact World.ownsRow_lit (base := w5.heap.size) (e := 25) (size := 2) w5 #[.slice (some ⟨gi, 0, none⟩) n1 cg, .slice ac fl cc] 1 (Nat.le_refl _) (by unfold maxLen; omega) rfl); have e60 : w6.cell? ⟨w5.heap.size, 0, none⟩ = some (.slice (some ⟨gi, 0, none⟩) n1 cg) := HOc.out.cellAt 0 (by omega); have Hb6 := hid_ (hb5.trans (b6.mono hb5.size)); have H3 := hid_ hb3.size; have hit := HN6.out.items; simp only [Hl1.out] at hit; have hone : ∀ u ∈ List.flatMap encI xs, u.oneCell' = true := encI_one xs (fun k x hx => by have h9 := HN6.out.len; have hk : k < L.items.length := (by rw [← h9]; exact (List.getElem?_eq_some_iff.1 hx).1); obtain ⟨y, hy, ho⟩ := HN6.out.word hk; rw [hx] at hy; injection hy with hy; subst hy; obtain ⟨a9, c9, e9, -⟩ := IntsAt.own ho; exact ⟨a9, _, c9, e9⟩); have hncg : n1 ≤ cg := own_cap hit; have HDl := hid_ (deleteItem_calls hit hone Hj1.out hj hncg); clear b6 hit hone)
        | (go_at_call 66; (with_reducible refine HDl.out.mono ?_); rintro e w7 ⟨rfl, hd7, hg7⟩; have hN7 := HN6.out.erase Hl1.out.symm hj hd7 hg7; have hgne : w5.heap.size ≠ gi := (by omega); have oc7 := own_kept_ne HOc.out hg7 (fun b hb => by injection hb with hb; subst hb; intro e; injection e with e; exact hgne e.symm); have c70 : w7.cell? ⟨w5.heap.size, 0, none⟩ = some (.slice (some ⟨gi, 0, none⟩) n1 cg) := oc7.cellAt 0 (by omega); have f70 : w7.frozen? ⟨w5.heap.size, 0, none⟩ = false := oc7.frozenAt 0; obtain ⟨w8, hw8⟩ : ∃ w8, w7.setCell ⟨w5.heap.size, 0, none⟩ (.slice (some ⟨gi, 0, none⟩) (n1 - 1) cg) = w8 := ⟨_, rfl⟩; have st8 := oc7.stored 0 (.slice (some ⟨gi, 0, none⟩) (n1 - 1) cg); rw [hw8] at st8; have d80 : w8.cell? ⟨w5.heap.size, 0, none⟩ = some (.slice (some ⟨gi, 0, none⟩) (n1 - 1) cg) := st8.1.cellAt 0 (by omega); have d81 : w8.cell? ⟨w5.heap.size, 1, none⟩ = some (.slice ac fl cc) := st8.1.cellAt 1 (by omega); have HN8 := hid_ (hN7.other oc7 (by decide) (by decide) (by decide) st8.2); have h2g : w2.heap.size ≤ gi := Nat.le_trans H3.out hgB; have hb7 : Below w2.heap.size w2 w7 := Hb6.out.grown hg7 Hb6.out.size (fun q e => by injection e with e; omega); have hb8 : Below w2.heap.size w2 w8 := (by rw [← hw8]; exact Below.setCell (p := ⟨w5.heap.size, 0, none⟩) hb7 hb5.size _); obtain ⟨s0, s1, g0, g1⟩ := HRs.out w8 hb8; have Hb8 := hid_ hb8; clear hN7 oc7 hd7 hg7 st8 hb7 hb8))
      obtain ⟨t0, t1⟩ := two_stored (x := .slice (some ⟨gi, 0, none⟩) (n1 - 1) cg) (y := .slice ac fl cc) s0 s1
      refine bodyPost_ret (v := .tuple #[.agg #[.slice (some ⟨gi, 0, none⟩) (n1 - 1) cg, .slice ac fl cc], .int .i64 0]) ?_ rfl ⟨_, _, _, _, _, _, rfl, ?_, ?_⟩
      · simp [results, Try.results33, go_sem, t0, t1]
      · exact ((HN8.out.base H3.out).res (by have := Z2.out; omega) _ _).lex
      · have hf := Hb2.out.trans (Hb8.out.mono Hb2.out.size)
        exact (hf.setCell (p := ⟨w.heap.size + 1, 0, none⟩) (by show _ ≤ _ + 1; omega) _).setCell (p := ⟨w.heap.size + 1, 1, none⟩) (by show _ ≤ _ + 1; omega) _
  · have hq : (viE L [i] != 0) = true := by simpa using he
    have HE' : Hid (E = viE L [i]) := hid_ (HE.out.trans (if_neg he))
    have HD' : Hid (D = ⟨[], []⟩) := hid_ (HD.out.trans (if_neg (by rw [HE'.out]; exact he)))
    rw [HD'.out, HE'.out]
    generalize viE L [i] = x at *
    clear he h1 h2 HP HP1 ba cb b2 z2
    go_enter Try.func33, Try.ntmps33
    go_wp2_with (go_at_call 63; (with_reducible refine HV.out.mono ?_); rintro e w3 ⟨rfl, hb3'⟩; have hb3 := below_then8 Hba.out hb3'; obtain ⟨s0, s1, g0, g1⟩ := HRs.out w3 hb3)
    obtain ⟨t0, t1⟩ := two_stored (x := .slice none 0 0) (y := .slice none 0 0) s0 s1
    refine bodyPost_ret (v := .tuple #[.agg #[.slice none 0 0, .slice none 0 0], .int .i64 x]) ?_ rfl ⟨_, _, _, _, _, _, rfl, nil_lex _, ?_⟩
    · simp [results, Try.results33, go_sem, t0, t1]
    · have hf := Hb2.out.trans (hb3.mono Hb2.out.size)
      exact (hf.setCell (p := ⟨w.heap.size + 1, 0, none⟩) (by show _ ≤ _ + 1; omega) _).setCell (p := ⟨w.heap.size + 1, 1, none⟩) (by show _ ≤ _ + 1; omega) _
end Go.Proofs.Ytpcpmdokgdbonaa
namespace Go.Proofs.Kv
open Go.RowKit Go
theorem NewI.lexErase {EI EL E1 : TypeId} {w : World} {B j b off c m : Nat} {iv fv : Value} {xs : List Ic} {fs : List Value} {L : Lx} (h : NewI EI EL E1 w B iv fv xs fs L) (hj : j < L.items.length)
    (hc : ∀ t u, ((xs.take j ++ xs.drop (j + 1)).flatMap encI)[t]? = some u → w.cell? ((⟨b, off, none⟩ : Addr).add t) = some u) (hm : m = L.items.length - 1) (hle : m ≤ c) (hcs : c ≤ 9223372036854775807) :
    LexAt w (.agg #[.slice (some ⟨b, off, none⟩) m c, fv]) ⟨L.items.eraseIdx j, L.follow⟩ := by
  obtain ⟨a', c', rfl, h2⟩ := h.listsAt
  have hl := h.len
  refine ⟨_, m, c, a', _, c', rfl, ⟨by show (L.items.eraseIdx j).length = m; rw [List.length_eraseIdx_of_lt hj, hm], hle, hcs, fun i hi => ?_⟩, h2⟩
  rw [← List.eraseIdx_eq_take_drop_succ] at hc
  obtain ⟨i', hi', he⟩ : ∃ i', i' < L.items.length ∧ i' = (if i < j then i else i + 1) := ⟨_, by split <;> omega, rfl⟩
  obtain ⟨x, hx, ho⟩ := h.word hi'
  have hx' : (xs.eraseIdx j)[i]? = some x := by
    rw [List.getElem?_eraseIdx]
    split
    · rename_i hlt; rw [if_pos hlt] at he; rw [← he]; exact hx
    · rename_i hlt; rw [if_neg hlt] at he; rw [← he]; exact hx
  have hI : (L.items.eraseIdx j).getD i I0 = L.items.getD i' I0 := by
    simp only [List.getD, List.getElem?_eraseIdx, he]
    split <;> rfl
  obtain ⟨e0, e1, e2⟩ := encI_at _ i x hx'
  have hk := h.kc i' x hx
  obtain ⟨a1, c1, hu, hIn⟩ := IntsAt.own ho
  have k0 := hc _ _ e0; have k1 := hc _ _ e1; have k2 := hc _ _ e2
  rw [addr_add8] at k0 k1 k2
  show ∃ b off a1 n1 c1, _ ∧ _ ∧ _ = _ ∧ _ = some (Value.int .i64 ((L.items.eraseIdx j).getD i I0).kind) ∧ _ = some (Value.int .i64 ((L.items.eraseIdx j).getD i I0).cost) ∧ IntsAt w _ _ _ ((L.items.eraseIdx j).getD i I0).word
  rw [hI]
  rw [hk] at k1 k2
  rw [hu] at k0
  exact ⟨b, off, a1, _, c1, rfl, World.block_lt_of_cell? w _ k0, k0, by rw [Nat.add_assoc]; exact k1, by rw [Nat.add_assoc]; exact k2, hIn⟩
/-- append onto a slice without room -/
theorem step_append_full2 {P : Program} {ops : Array Oper} {o : Oper} {a : Act} {w : World} {K : Act → World → Prop} {Q : Exit → Act → World → Prop} {E0 : Prop} (hgd : o.guard = none) (s x : Operand) (t : TypeId)
    (ho : o.op = .call { callee := .builtin .append, args := #[s, x], argTypes := #[t, t] }) (e : TypeId) (i : TypeInfo) {z : Value} (size by_ : Nat) (ht : P.underlying t = some (.slice e)) (hi : P.info? e = some i) (hz : i.zero = some z) (hzc : z.cells.size = size) (hsize : i.size = size) (hs0 : 0 < size) (hby : i.bytes = by_) (hb0 : by_ ≤ 48)
    (b off n : Nat) (olds : List Value) (hs : a.eval s = .slice (some ⟨b, off, none⟩) n n) (hlo : olds.length = n * size) (holds : ∀ j u, olds[j]? = some u → w.cell? ((⟨b, off, none⟩ : Addr).add j) = some u)
    (A : Addr) (m c : Nat) (news : List Value) (hx : a.eval x = .slice (some A) m c) (hl : news.length = m * size) (hc : ∀ j u, news[j]? = some u → w.cell? (A.add j) = some u) (hsm : n + m ≤ 1000000)
    (hK : ∀ b' off' c' w', n + m ≤ c' → c' ≤ 9223372036854775807 → (b' = b ∨ w.heap.size ≤ b') → (∀ j u, (olds ++ news)[j]? = some u → w'.cell? ((⟨b', off', none⟩ : Addr).add j) = some u) → w.grownBy w' none → K (a.put o.dst (.slice (some ⟨b', off', none⟩) (n + m) c')) w') :
    if Region.wanted o (yielded ops a.tmps) = true then Oper.wp P o a w K Q else E0 := by
  have hm : (n + m) * by_ ≤ 1000000 * 48 := Nat.mul_le_mul hsm hb0
  have hw : Region.wanted o (yielded ops a.tmps) = true := by simp [Region.wanted, hgd]
  rw [if_pos hw]
  by_cases h0 : m = 0
  · subst h0
    have hnl : news = [] := List.length_eq_zero_iff.1 (by omega)
    subst hnl
    have hrun := run_append_room_cells (P := P) w t o.type e i ht hi b off n n A 0 c [] (by simp) (by simp) (by simp) (by omega) (by simp) (by simp)
    unfold Oper.wp
    simp [execOp, ho, resolve, invoke, builtin, hs, hx, hrun, Result.andThen, World.setCells]
    exact hK b off n w (by omega) (by omega) (.inl rfl) (by simpa using holds) ⟨rfl, rfl, rfl, Nat.le_refl _, fun _ _ _ => rfl⟩
  · obtain ⟨v', w', hrun, h2, h3⟩ := run_append_arg_grows (P := P) w t o.type e i z size by_ ht hi hz hsize hby hzc hs0 ⟨b, off, none⟩ n n olds hlo holds A m c news hl hc (by omega) (by unfold maxLen; omega) (by omega)
    have h2' := h2
    rcases h2.2 with ⟨_, h9⟩ | ⟨g, cap, cur, rfl, hgB, _, hle, hmx, _⟩
    · omega
    · unfold Oper.wp
      simp [execOp, ho, resolve, invoke, builtin, hs, hx, hrun, Result.andThen]
      exact hK g 0 cap w' hle (by unfold maxLen at hmx; omega) (.inr hgB) (fun j u hu => h2'.cells (g := g) rfl j u hu) h3
end Go.Proofs.Kv
namespace Go.Proofs.Ytpcpmdokgdbonaa
open Go.RowKit Go.Proofs.Kv Go

/-! ### Without of the document -/
set_option maxRecDepth 100000 in
set_option maxHeartbeats 4000000 in
theorem r8Without_calls (v : Value) (L : Lx) (i : Int) (w : World) (h : LexAt w v L) :
    Calls Try.prog 34 #[v, .int .i64 i] w fun e w' => ∃ a n c a' n' c', e = .returned (.tuple #[.agg #[.slice a n c, .slice a' n' c'], .int .i64 (wiE L i)]) ∧ LexAt w' (.agg #[.slice a n c, .slice a' n' c']) (wiL L i) ∧ Below w.heap.size w w' := by
  have HP := hid_ h
  obtain ⟨a1, n1, c1, a2, n2, c2, rfl, h1, h2⟩ := h
  obtain ⟨w1, hw1⟩ : ∃ w1, w.alloc (.cells #[.slice a1 n1 c1, .slice a2 n2 c2] 25) = w1 := ⟨_, rfl⟩
  have cb : Below w.heap.size w w1 := by rw [← hw1]; exact below_alloc _ _
  have q0 : w1.cell? ⟨w.heap.size, 0, none⟩ = some (.slice a1 n1 c1) := by rw [← hw1]; exact cells_alloc _ _ _ 0
  have q1 : w1.cell? ⟨w.heap.size, 1, none⟩ = some (.slice a2 n2 c2) := by rw [← hw1]; exact cells_alloc _ _ _ 1
  have HP1 := hid_ (HP.out.below cb (Nat.le_refl _)); have Hc1 := hid_ cb
  obtain ⟨w2, hw2⟩ : ∃ w2, w1.alloc (.cells #[.slice none 0 0, .slice none 0 0] 25) = w2 := ⟨_, rfl⟩
  have z1 : w1.heap.size = w.heap.size + 1 := by rw [← hw1]; simp
  have z2 : w2.heap.size = w.heap.size + 2 := by rw [← hw2]; simp [z1]
  have b2 : Below w1.heap.size w1 w2 := by rw [← hw2]; exact below_alloc _ _
  have r0 : w2.cell? ⟨w.heap.size + 1, 0, none⟩ = some (.slice none 0 0) := by rw [← z1, ← hw2]; exact cells_alloc _ _ _ 0
  have r1 : w2.cell? ⟨w.heap.size + 1, 1, none⟩ = some (.slice none 0 0) := by rw [← z1, ← hw2]; exact cells_alloc _ _ _ 1
  have f0 : ∀ j, w2.frozen? ⟨w.heap.size + 1, j, none⟩ = false := fun j => by rw [← z1, ← hw2]; exact World.frozen?_alloc_at _ _ _ _ (by simp)
  have q02 := cell_below q0 b2; have q12 := cell_below q1 b2
  have Hb2 : Hid (Below w.heap.size w w2) := hid_ (Hc1.out.trans (b2.mono Hc1.out.size))
  have HP2 := hid_ (HP.out.below Hb2.out (Nat.le_refl _))
  have HRs := hid_ (fun W (hW : Below w2.heap.size w2 W) => (⟨(hW.cell (p := ⟨w.heap.size + 1, 0, none⟩) (by show w.heap.size + 1 < w2.heap.size; omega)).trans r0, (hW.cell (p := ⟨w.heap.size + 1, 1, none⟩) (by show w.heap.size + 1 < w2.heap.size; omega)).trans r1, (hW.frozen (p := ⟨w.heap.size + 1, 0, none⟩) (by show w.heap.size + 1 < w2.heap.size; omega)).trans (f0 0), (hW.frozen (p := ⟨w.heap.size + 1, 1, none⟩) (by show w.heap.size + 1 < w2.heap.size; omega)).trans (f0 1)⟩ : W.cell? ⟨w.heap.size + 1, 0, none⟩ = some (.slice none 0 0) ∧ W.cell? ⟨w.heap.size + 1, 1, none⟩ = some (.slice none 0 0) ∧ W.frozen? ⟨w.heap.size + 1, 0, none⟩ = false ∧ W.frozen? ⟨w.heap.size + 1, 1, none⟩ = false))
  have HQ := hid_ (fun W (hW : Below w2.heap.size w2 W) => (⟨cell_below q02 hW, cell_below q12 hW⟩ : _ ∧ _))
  have Z2 := hid_ z2
  have HV := hid_ (r8item_calls _ L i w2 HP2.out)
  have HE : Hid (wiE L i = if viE L [i] = 0 then (if L.items.length = 1 then 1 else 0) else viE L [i]) := hid_ rfl
  have HD : Hid (wiL L i = if wiE L i = 0 then ⟨L.items.eraseIdx i.toNat, L.follow⟩ else ⟨[], []⟩) := hid_ rfl
  have hl1 := h1.len
  generalize wiL L i = D at *
  generalize wiE L i = E at *
  by_cases he : viE L [i] = 0
  · obtain ⟨hv, hi⟩ := viE_ok he
    have g := validL_ok hv
    obtain ⟨j, rfl, hj⟩ := one_item hi
    rw [if_pos he, hl1] at HE
    rw [he] at HV
    rw [Int.toNat_natCast] at HD
    have HCp := hid_ (fun W (hW : Below w2.heap.size w2 W) => r8Copy_calls _ L W (HP2.out.below hW (Nat.le_refl _)) g.copy.1 g.copy.2.1 g.copy.2.2.1 g.copy.2.2.2)
    rw [hl1] at hj
    have hn8 : n1 ≤ 8 := by have := g.le; omega
    have Hl1 := hid_ hl1
    obtain ⟨i0, hi0, hz0, hz1, hz2⟩ := info_parts Try.infoItem
    clear h1 h2 HP HP1 g hv hi he cb b2
    by_cases h1 : n1 = 1
    · have HE' : Hid (E = 1) := hid_ (HE.out.trans (if_pos h1))
      have HD' : Hid (D = ⟨[], []⟩) := hid_ (HD.out.trans (if_neg (by rw [HE'.out]; decide)))
      rw [HD'.out, HE'.out]
      have hq : ((n1 : Int) == 1) = true := by simp [h1]
      clear z2 h1 hl1
      go_enter Try.func34, Try.ntmps34
      go_wp2_with (go_at_call 65; (with_reducible refine HV.out.mono ?_); rintro e w3 ⟨rfl, hb3⟩; obtain ⟨q3, p3⟩ := HQ.out w3 hb3; obtain ⟨s0, s1, g0, g1⟩ := HRs.out w3 hb3)
      obtain ⟨t0, t1⟩ := two_stored (x := .slice none 0 0) (y := .slice none 0 0) s0 s1
      refine bodyPost_ret (v := .tuple #[.agg #[.slice none 0 0, .slice none 0 0], .int .i64 1]) ?_ rfl ⟨_, _, _, _, _, _, rfl, nil_lex _, ?_⟩
      · simp [results, Try.results34, go_sem, t0, t1]
      · have hf := Hb2.out.trans (hb3.mono Hb2.out.size)
        exact (hf.setCell (p := ⟨w.heap.size + 1, 0, none⟩) (by show _ ≤ _ + 1; omega) _).setCell (p := ⟨w.heap.size + 1, 1, none⟩) (by show _ ≤ _ + 1; omega) _
    · have HE' : Hid (E = 0) := hid_ (HE.out.trans (if_neg h1))
      have HD' : Hid (D = ⟨L.items.eraseIdx j, L.follow⟩) := hid_ (HD.out.trans (if_pos HE'.out))
      rw [HD'.out, HE'.out]
      have hq : ((n1 : Int) == 1) = false := by simpa using (fun e : (n1 : Int) = 1 => h1 (by omega))
      obtain ⟨j1, hj1⟩ : ∃ j1, j1 = j + 1 := ⟨_, rfl⟩
      have hwj : IntKind.i64.wrap ((j : Int) + 1) = (j1 : Int) := by rw [IntKind.wrap_i64]; omega
      have hj1n : j1 ≤ n1 := by omega
      have Hj1 := hid_ hj1
      clear z2 h1 hl1 hj1
      go_enter Try.func34, Try.ntmps34
      go_wp2_with (first
        | (go_at_call 65; (with_reducible refine HV.out.mono ?_); rintro e w3 ⟨rfl, hb3⟩; obtain ⟨q3, p3⟩ := HQ.out w3 hb3)
        | (go_at_call 25; (with_reducible refine (HCp.out _ hb3).mono ?_); rintro e w5 ⟨iv, fv, xs, fs, rfl, hN, hb5'⟩; have hb5 := below_then8 hb3 hb5'; obtain ⟨gi, cg, rfl, hgB, hgl⟩ := hN.form (by rw [Hl1.out]; omega); obtain ⟨ac, cc, rfl, -⟩ := hN.listsAt; simp only [Hl1.out] at hN ⊢; have Hhn := hid_ hN; clear hN; obtain ⟨fl, hfl⟩ : ∃ fl, L.follow.length = fl := ⟨_, rfl⟩; rw [hfl] at Hhn ⊢; obtain ⟨w6, hw6⟩ : ∃ w6, w5.alloc (.cells #[.slice (some ⟨gi, 0, none⟩) n1 cg, .slice ac fl cc] 25) = w6 := ⟨_, rfl⟩; have b6 : Below w5.heap.size w5 w6 := (by rw [← hw6]; exact below_alloc _ _); have HN6 := hid_ (Hhn.out.below b6 (Nat.le_refl _)); have HOc := hid_ (show w6.ownsRow w5.heap.size 25 2 (.slice (some ⟨w5.heap.size, 0, none⟩) 1 1) 1 [.slice (some ⟨gi, 0, none⟩) n1 cg, .slice ac fl cc] by rw [← hw6]; exact World.ownsRow_lit (base := w5.heap.size) (e := 25) (size := 2) w5 #[.slice (some ⟨gi, 0, none⟩) n1 cg, .slice ac fl cc] 1 (Nat.le_refl _) (by unfold maxLen; omega) rfl); have e60 : w6.cell? ⟨w5.heap.size, 0, none⟩ = some (.slice (some ⟨gi, 0, none⟩) n1 cg) := HOc.out.cellAt 0 (by omega); have Hb6 := hid_ (hb5.trans (b6.mono hb5.size)); have H3 := hid_ hb3.size; have hit := HN6.out.items; simp only [Hl1.out] at hit; have hncg : n1 ≤ cg := own_cap hit; have Hit := hid_ hit; have H56 := hid_ (show w6.heap.size = w5.heap.size + 1 by rw [← hw6]; simp); clear b6 hit))
      clear hw6
      have hjc : j ≤ cg := by omega
      have hjc1 : j1 ≤ cg := by omega
      have hxl : xs.length = n1 := by have := Hit.out.1; rw [encI_len] at this; omega
      have hfl3 : (xs.flatMap encI).length = n1 * 3 := Hit.out.1
      obtain ⟨news, hnews⟩ : ∃ news, news = (xs.drop j1).flatMap encI := ⟨_, rfl⟩
      obtain ⟨olds, holds⟩ : ∃ olds, olds = (xs.take j).flatMap encI := ⟨_, rfl⟩
      have hlen : news.length = (n1 - j1) * 3 := by rw [hnews, encI_len, List.length_drop, hxl]
      have hleno : olds.length = j * 3 := by rw [holds, encI_len, List.length_take, hxl]; omega
      have hgo : ∀ t u, olds[t]? = some u → w6.cell? ((⟨gi, 0, none⟩ : Addr).add t) = some u := fun t u hu => by
        have ht : t < j * 3 := by rw [← hleno]; exact (List.getElem?_eq_some_iff.1 hu).1
        rw [add_zero8, Hit.out.cellAt _ (by omega), ← hu, holds, ← encI_take, List.getElem?_take_of_lt ht]
      have hget : ∀ t u, news[t]? = some u → w6.cell? ⟨gi, j1 * 3 + t, none⟩ = some u := fun t u hu => by
        have ht : t < (n1 - j1) * 3 := by rw [← hlen]; exact (List.getElem?_eq_some_iff.1 hu).1
        rw [Hit.out.cellAt _ (by omega), ← hu, hnews, ← encI_drop, List.getElem?_drop]
      obtain ⟨A, hA, Hsrc⟩ : ∃ A : Addr, (if cg = j1 then some (⟨gi, 0, none⟩ : Addr) else some ⟨gi, j1 * 3, none⟩) = some A ∧ Hid (∀ t u, news[t]? = some u → w6.cell? (A.add t) = some u) := by
        by_cases h : cg = j1
        · refine ⟨⟨gi, 0, none⟩, by simp [h], hid_ fun t u hu => ?_⟩
          have h0 : news.length = 0 := by rw [hlen]; omega
          rw [List.length_eq_zero_iff.1 h0] at hu
          simp at hu
        · exact ⟨⟨gi, j1 * 3, none⟩, by simp [h], hid_ fun t u hu => by rw [addr_add8]; exact hget t u hu⟩
      have Hgo := hid_ hgo; have Hlen := hid_ hlen; have Hleno := hid_ hleno
      have Hcat : Hid (olds ++ news = (xs.take j ++ xs.drop (j + 1)).flatMap encI) := hid_ (by rw [holds, hnews, Hj1.out, List.flatMap_append])
      clear hget hgo hlen hleno hfl3 hxl hnews holds
      have hgne : w5.heap.size ≠ gi := by omega
      refine wp_region_last2 (n := 12) (S := fun W' => W'.cell? ⟨w5.heap.size, 0, none⟩ = some (.slice (some ⟨gi, 0, none⟩) n1 cg)) (by kernel_rfl) (by kernel_rfl) (cell_below e60 (Below.drew (Below.refl _ _))) (fun hHeld => ?_)
      refine wpAnyH_take (i := 0) (oi := ?oi0h1) (v := ?v0h1) ?hi0h1 (by kernel_rfl) ?hf0h1 (by kernel_rfl) ?hQ0h1 ?hy0h1 (by assumption) ?rest0h1
      case hi0h1 => (simp only [List.getElem?_toArray, List.getElem?_cons_zero]; rfl)
      case hf0h1 => kernel_rfl
      case hQ0h1 => exact fun _ _ _ h => h
      case hy0h1 => (refine Or.inl ⟨by rfl, ?_⟩; intro W hSw; (try dsimp only at hSw); go_simp; try with_reducible rfl)
      try simp only [Act.put, List.setIfInBounds_toArray, List.set_cons_zero, List.set_cons_succ]
      refine wpAnyH_take (i := 1) (oi := ?oi1h2) (v := ?v1h2) ?hi1h2 (by kernel_rfl) ?hf1h2 (by kernel_rfl) ?hQ1h2 ?hy1h2 (by assumption) ?rest1h2
      case hi1h2 => (simp only [List.getElem?_toArray, List.getElem?_cons_succ, List.getElem?_cons_zero]; rfl)
      case hf1h2 => kernel_rfl
      case hQ1h2 => exact fun _ _ _ h => h
      case hy1h2 => (refine Or.inl ⟨by rfl, ?_⟩; intro W hSw; (try dsimp only at hSw); go_simp; try with_reducible rfl)
      try simp only [Act.put, List.setIfInBounds_toArray, List.set_cons_zero, List.set_cons_succ]
      refine wpAnyH_take (i := 2) (oi := ?oi2h3) (v := ?v2h3) ?hi2h3 (by kernel_rfl) ?hf2h3 (by kernel_rfl) ?hQ2h3 ?hy2h3 (by assumption) ?rest2h3
      case hi2h3 => (simp only [List.getElem?_toArray, List.getElem?_cons_succ, List.getElem?_cons_zero]; rfl)
      case hf2h3 => kernel_rfl
      case hQ2h3 => exact fun _ _ _ h => h
      case hy2h3 => (refine Or.inl ⟨by rfl, ?_⟩; intro W hSw; (try dsimp only at hSw); go_simp; try with_reducible rfl)
      try simp only [Act.put, List.setIfInBounds_toArray, List.set_cons_zero, List.set_cons_succ]
      refine wpAnyH_take (i := 3) (oi := ?oi3h4) (v := ?v3h4) ?hi3h4 (by kernel_rfl) ?hf3h4 (by kernel_rfl) ?hQ3h4 ?hy3h4 (by assumption) ?rest3h4
      case hi3h4 => (simp only [List.getElem?_toArray, List.getElem?_cons_succ, List.getElem?_cons_zero]; rfl)
      case hf3h4 => kernel_rfl
      case hQ3h4 => exact fun _ _ _ h => h
      case hy3h4 => (refine Or.inl ⟨by rfl, ?_⟩; intro W hSw; (try dsimp only at hSw); go_simp; try with_reducible rfl)
      try simp only [Act.put, List.setIfInBounds_toArray, List.set_cons_zero, List.set_cons_succ]
      refine wpAnyH_take (i := 4) (oi := ?oi4h5) (v := ?v4h5) ?hi4h5 (by kernel_rfl) ?hf4h5 (by kernel_rfl) ?hQ4h5 ?hy4h5 (by assumption) ?rest4h5
      case hi4h5 => (simp only [List.getElem?_toArray, List.getElem?_cons_succ, List.getElem?_cons_zero]; rfl)
      case hf4h5 => kernel_rfl
      case hQ4h5 => exact fun _ _ _ h => h
      case hy4h5 => (refine Or.inl ⟨by rfl, ?_⟩; intro W hSw; (try dsimp only at hSw); go_simp; try with_reducible rfl)
      try simp only [Act.put, List.setIfInBounds_toArray, List.set_cons_zero, List.set_cons_succ]
      refine wpAnyH_take (i := 5) (oi := ?oi5h6) (v := ?v5h6) ?hi5h6 (by kernel_rfl) ?hf5h6 (by kernel_rfl) ?hQ5h6 ?hy5h6 (by assumption) ?rest5h6
      case hi5h6 => (simp only [List.getElem?_toArray, List.getElem?_cons_succ, List.getElem?_cons_zero]; rfl)
      case hf5h6 => kernel_rfl
      case hQ5h6 => exact fun _ _ _ h => h
      case hy5h6 => (refine Or.inl ⟨by rfl, ?_⟩; intro W hSw; (try dsimp only at hSw); go_simp; try with_reducible rfl)
      try simp only [Act.put, List.setIfInBounds_toArray, List.set_cons_zero, List.set_cons_succ]
      refine wpAnyH_take (i := 6) (oi := ?oi6h7) (v := ?v6h7) ?hi6h7 (by kernel_rfl) ?hf6h7 (by kernel_rfl) ?hQ6h7 ?hy6h7 (by assumption) ?rest6h7
      case hi6h7 => (simp only [List.getElem?_toArray, List.getElem?_cons_succ, List.getElem?_cons_zero]; rfl)
      case hf6h7 => kernel_rfl
      case hQ6h7 => exact fun _ _ _ h => h
      case hy6h7 => (refine Or.inl ⟨by rfl, ?_⟩; intro W hSw; (try dsimp only at hSw); go_simp; try with_reducible rfl)
      try simp only [Act.put, List.setIfInBounds_toArray, List.set_cons_zero, List.set_cons_succ]
      refine wpAnyH_take (i := 7) (oi := ?oi7h8) (v := ?v7h8) ?hi7h8 (by kernel_rfl) ?hf7h8 (by kernel_rfl) ?hQ7h8 ?hy7h8 (by assumption) ?rest7h8
      case hi7h8 => (simp only [List.getElem?_toArray, List.getElem?_cons_succ, List.getElem?_cons_zero]; rfl)
      case hf7h8 => kernel_rfl
      case hQ7h8 => exact fun _ _ _ h => h
      case hy7h8 => (refine Or.inl ⟨by rfl, ?_⟩; intro W hSw; (try dsimp only at hSw); go_simp; try with_reducible rfl)
      try simp only [Act.put, List.setIfInBounds_toArray, List.set_cons_zero, List.set_cons_succ]
      refine wpAnyH_take (i := 8) (oi := ?oi8h9) (v := ?v8h9) ?hi8h9 (by kernel_rfl) ?hf8h9 (by kernel_rfl) ?hQ8h9 ?hy8h9 (by assumption) ?rest8h9
      case hi8h9 => (simp only [List.getElem?_toArray, List.getElem?_cons_succ, List.getElem?_cons_zero]; rfl)
      case hf8h9 => kernel_rfl
      case hQ8h9 => exact fun _ _ _ h => h
      case hy8h9 => (refine Or.inl ⟨by rfl, ?_⟩; intro W hSw; (try dsimp only at hSw); go_simp; try with_reducible rfl)
      try simp only [Act.put, List.setIfInBounds_toArray, List.set_cons_zero, List.set_cons_succ]
      refine wpAnyH_take (i := 9) (oi := ?oi9h10) (v := ?v9h10) ?hi9h10 (by kernel_rfl) ?hf9h10 (by kernel_rfl) ?hQ9h10 ?hy9h10 (by assumption) ?rest9h10
      case hi9h10 => (simp only [List.getElem?_toArray, List.getElem?_cons_succ, List.getElem?_cons_zero]; rfl)
      case hf9h10 => kernel_rfl
      case hQ9h10 => exact fun _ _ _ h => h
      case hy9h10 => (refine Or.inl ⟨by rfl, ?_⟩; intro W hSw; (try dsimp only at hSw); go_simp; try with_reducible rfl)
      try simp only [Act.put, List.setIfInBounds_toArray, List.set_cons_zero, List.set_cons_succ]
      refine wpAnyH_ready (rs := [10]) (by kernel_rfl) (by simp) ?_
      refine AllReadyH.cons (o := _) (by (simp only [List.getElem?_toArray, List.getElem?_cons_succ, List.getElem?_cons_zero]; rfl)) (fun K hK => ?_) AllReadyH.nil
      refine step_append_full2 rfl (.tmp 26) (.tmp 31) _ rfl 50 i0 3 40 Try.underlying22 hi0 hz0 rfl hz1 (by omega) hz2 (by omega) gi 0 j olds (by rfl) Hleno.out Hgo.out A (n1 - j1) (cg - j1) news (by simp [Act.eval]) Hlen.out Hsrc.out (by omega) ?_; intro b7 o7 c7 w7 hle7 hc7 hb7 hcell7 hg7
      refine hK.out _ _ ?_ (fun hHeld => ?_)
      · exact cell_below e60 ((Below.drew (Below.refl _ w6)).grown hg7 (Nat.le_refl _) (fun k e => by cases e))
      clear hK K
      try simp only [Act.put, List.setIfInBounds_toArray, List.set_cons_zero, List.set_cons_succ]
      refine wpAnyH_take (i := 11) (oi := ?oi11h11) (v := ?v11h11) ?hi11h11 (by kernel_rfl) ?hf11h11 (by kernel_rfl) ?hQ11h11 ?hy11h11 (by assumption) ?rest11h11
      case hi11h11 => (simp only [List.getElem?_toArray, List.getElem?_cons_succ, List.getElem?_cons_zero]; rfl)
      case hf11h11 => kernel_rfl
      case hQ11h11 => exact fun _ _ _ h => h
      case hy11h11 => (refine Or.inl ⟨by rfl, ?_⟩; intro W hSw; (try dsimp only at hSw); go_simp; try with_reducible rfl)
      try simp only [Act.put, List.setIfInBounds_toArray, List.set_cons_zero, List.set_cons_succ]
      have bw7 : Below w6.heap.size w6 w7 := (Below.drew (Below.refl _ w6)).grown hg7 (Nat.le_refl _) (fun k e => by cases e)
      have oc7 := own_below HOc.out bw7 (Nat.le_refl _)
      have c70 : w7.cell? ⟨w5.heap.size, 0, none⟩ = some (.slice (some ⟨gi, 0, none⟩) n1 cg) := oc7.cellAt 0 (by omega)
      have f70 : w7.frozen? ⟨w5.heap.size, 0, none⟩ = false := oc7.frozenAt 0
      have hm7 : j + (n1 - j1) = n1 - 1 := by have := Hj1.out; omega
      have hne7 : b7 ≠ w5.heap.size := by
        rcases hb7 with h9 | h9
        · rw [h9]; exact fun e => hgne e.symm
        · have h9 : w6.heap.size ≤ b7 := h9
          have := H56.out; omega
      obtain ⟨w8, hw8⟩ : ∃ w8, w7.setCell ⟨w5.heap.size, 0, none⟩ (.slice (some ⟨b7, o7, none⟩) (j + (n1 - j1)) c7) = w8 := ⟨_, rfl⟩
      have st8 := oc7.stored 0 (.slice (some ⟨b7, o7, none⟩) (j + (n1 - j1)) c7)
      rw [hw8] at st8
      have d80 : w8.cell? ⟨w5.heap.size, 0, none⟩ = some (.slice (some ⟨b7, o7, none⟩) (j + (n1 - j1)) c7) := st8.1.cellAt 0 (by omega)
      have d81 : w8.cell? ⟨w5.heap.size, 1, none⟩ = some (.slice ac fl cc) := st8.1.cellAt 1 (by omega)
      have HN8 := hid_ ((HN6.out.below bw7 (Nat.le_refl _)).other oc7 (by decide) (by decide) (by decide) st8.2)
      have Hce8 : Hid (∀ t u, ((xs.take j ++ xs.drop (j + 1)).flatMap encI)[t]? = some u → w8.cell? ((⟨b7, o7, none⟩ : Addr).add t) = some u) := hid_ (fun t u hu => by
        rw [← Hcat.out] at hu
        have h9 := hcell7 t u hu
        rw [addr_add8] at h9 ⊢
        rw [← hw8, World.cell?_setCell_other _ _ _ _ (by intro e; injection e with e; exact hne7 e.symm)]; exact h9)
      have hb8 : Below w2.heap.size w2 w8 := by rw [← hw8]; exact Below.setCell (p := ⟨w5.heap.size, 0, none⟩) (Hb6.out.trans (bw7.mono Hb6.out.size)) hb5.size _
      obtain ⟨s0, s1, g0, g1⟩ := HRs.out w8 hb8
      have Hb8 := hid_ hb8
      have Hle7 := hid_ hle7; have Hc7 := hid_ hc7
      have hb9 : b7 ≠ w.heap.size + 1 := by
        have := Z2.out
        have := Nat.le_trans H3.out hgB
        rcases hb7 with h9 | h9
        · omega
        · have h9 : w6.heap.size ≤ b7 := h9
          have := H56.out; have := hb5.size; omega
      have Hb9 := hid_ hb9; have Hm7 := hid_ hm7
      clear bw7 oc7 st8 hb7 hcell7 hg7 hb8 hne7 hle7 hc7 hb9 hm7
      refine wpAnyH_done (by kernel_rfl) ?_ _
      clear hHeld
      refine last_of ?_
      refine wpOp_step (o := _) (by (simp only [List.getElem?_toArray, List.getElem?_cons_succ, List.getElem?_cons_zero]; rfl)) (fun K hK => ?_)
      go_simp
      refine hK _ _ ?_
      clear hK K
      try simp only [Act.put, List.setIfInBounds_toArray, List.set_cons_zero, List.set_cons_succ]
      go_wp2
      obtain ⟨t0, t1⟩ := two_stored (x := .slice (some ⟨b7, o7, none⟩) (j + (n1 - j1)) c7) (y := .slice ac fl cc) s0 s1
      refine bodyPost_ret (v := .tuple #[.agg #[.slice (some ⟨b7, o7, none⟩) (j + (n1 - j1)) c7, .slice ac fl cc], .int .i64 0]) ?_ rfl ⟨_, _, _, _, _, _, rfl, ?_, ?_⟩
      · simp [results, Try.results34, go_sem, t0, t1]
      · refine ((HN8.out.base H3.out).res (by have := Z2.out; omega) _ _).lexErase (by rw [Hl1.out]; exact hj) (fun t u hu => ?_) (by rw [Hm7.out, Hl1.out]) Hle7.out Hc7.out
        have h9 := Hce8.out t u hu
        rw [addr_add8] at h9 ⊢
        rw [World.cell?_setCell_other _ _ _ _ (by intro e; injection e with e; exact Hb9.out e.symm), World.cell?_setCell_other _ _ _ _ (by intro e; injection e with e; exact Hb9.out e.symm)]
        exact h9
      · have hf := Hb2.out.trans (Hb8.out.mono Hb2.out.size)
        exact (hf.setCell (p := ⟨w.heap.size + 1, 0, none⟩) (by show _ ≤ _ + 1; omega) _).setCell (p := ⟨w.heap.size + 1, 1, none⟩) (by show _ ≤ _ + 1; omega) _
  · have hq : (viE L [i] != 0) = true := by simpa using he
    have HE' : Hid (E = viE L [i]) := hid_ (HE.out.trans (if_neg he))
    have HD' : Hid (D = ⟨[], []⟩) := hid_ (HD.out.trans (if_neg (by rw [HE'.out]; exact he)))
    rw [HD'.out, HE'.out]
    generalize viE L [i] = x at *
    clear he h1 h2 HP HP1 cb b2 z2
    go_enter Try.func34, Try.ntmps34
    go_wp2_with (go_at_call 65; (with_reducible refine HV.out.mono ?_); rintro e w3 ⟨rfl, hb3⟩; obtain ⟨s0, s1, g0, g1⟩ := HRs.out w3 hb3)
    obtain ⟨t0, t1⟩ := two_stored (x := .slice none 0 0) (y := .slice none 0 0) s0 s1
    refine bodyPost_ret (v := .tuple #[.agg #[.slice none 0 0, .slice none 0 0], .int .i64 x]) ?_ rfl ⟨_, _, _, _, _, _, rfl, nil_lex _, ?_⟩
    · simp [results, Try.results34, go_sem, t0, t1]
    · have hf := Hb2.out.trans (hb3.mono Hb2.out.size)
      exact (hf.setCell (p := ⟨w.heap.size + 1, 0, none⟩) (by show _ ≤ _ + 1; omega) _).setCell (p := ⟨w.heap.size + 1, 1, none⟩) (by show _ ≤ _ + 1; omega) _
end Go.Proofs.Ytpcpmdokgdbonaa
namespace Go.Proofs.Ytpcpmdokgdbonaa
open Go.RowKit Go.Proofs.Kv Go

theorem code_yes {L : Lx} (h0 : validL L = 0) (hr : ¬ RR L []) : codeB L = true := by unfold codeB; rw [if_pos h0]; simpa using hr
/-! ### an item less -/
def upI (j : Nat) (x : Int) : Int := if x < (j : Int) then x else x + 1
theorem upI_inj (j : Nat) {x y : Int} (h : upI j x = upI j y) : x = y := by
  unfold upI at h; split at h <;> split at h <;> omega
def eraL (L : Lx) (j : Nat) : Lx := ⟨L.items.eraseIdx j, L.follow⟩
theorem eraL_at (L : Lx) (j : Nat) (k : Nat) : (eraL L j).items.getD k I0 = L.items.getD (upI j (k : Int)).toNat I0 := by
  show (L.items.eraseIdx j).getD k I0 = _
  simp only [List.getD, List.getElem?_eraseIdx]
  unfold upI
  by_cases h : k < j
  · rw [if_pos h, if_pos (by omega)]; simp
  · rw [if_neg h, if_neg (by omega)]
    rw [show ((k : Int) + 1).toNat = k + 1 by omega]
theorem eraL_len {L : Lx} {j : Nat} (hj : j < L.items.length) : (eraL L j).items.length = L.items.length - 1 := List.length_eraseIdx_of_lt hj
theorem eraL_good {L : Lx} (g : GoodL L) {j : Nat} (hj : j < L.items.length) (h1 : L.items.length ≠ 1) : GoodL (eraL L j) := by
  have hl := eraL_len hj
  have hup : ∀ k, k < (eraL L j).items.length → (upI j (k : Int)).toNat < L.items.length := fun k hk => by
    unfold upI; split <;> omega
  exact ⟨by have := g.ge; omega, by have := g.le; omega, fun k hk => by rw [eraL_at]; exact g.word _ (hup k hk), fun k hk => by rw [eraL_at]; exact g.kind _ (hup k hk), fun k hk => by rw [eraL_at]; exact g.cost _ (hup k hk), g.rows, g.row⟩
theorem eraL_items {L : Lx} {j : Nat} (hj : j < L.items.length) {s : List Int} (h : itemsB (eraL L j) s = true) : itemsB L (s.map (upI j)) = true := by
  unfold itemsB areB at h ⊢
  rw [eraL_len hj] at h
  rw [List.all_eq_true] at h ⊢
  intro x hx
  obtain ⟨y, hy, rfl⟩ := List.mem_map.1 hx
  have := h y hy
  simp only [Within, Bool.and_eq_true, decide_eq_true_eq] at this ⊢
  unfold upI; split <;> omega
theorem eraL_words {L : Lx} {j : Nat} {s : List Int} (h : itemsB (eraL L j) s = true) : wordsL (eraL L j) s = wordsL L (s.map (upI j)) := by
  unfold wordsL
  rw [List.flatMap_map]
  refine flatMap_congr8 fun x hx => ?_
  unfold itemsB areB at h
  rw [List.all_eq_true] at h
  have := h x hx
  simp only [Within, Bool.and_eq_true, decide_eq_true_eq] at this
  obtain ⟨k, rfl⟩ : ∃ k : Nat, x = (k : Int) := ⟨x.toNat, by omega⟩
  unfold wordL
  rw [Int.toNat_natCast, eraL_at]
theorem eraL_fv (L : Lx) (j : Nat) {a b : Int} (ha : 0 ≤ a) (hb : 0 ≤ b) : fvI (eraL L j) a b = fvI L (upI j a) (upI j b) := by
  obtain ⟨k, rfl⟩ : ∃ k : Nat, a = (k : Int) := ⟨a.toNat, by omega⟩
  obtain ⟨m, rfl⟩ : ∃ m : Nat, b = (m : Int) := ⟨b.toNat, by omega⟩
  unfold fvI follV
  rw [Int.toNat_natCast, Int.toNat_natCast, eraL_at, eraL_at]; rfl
theorem getD_mapI (f : Int → Int) (s : List Int) {i : Nat} (hi : i < s.length) : (s.map f).getD i 0 = f (s.getD i 0) := by simp [List.getD, hi]
theorem eraL_isS {L : Lx} {j : Nat} (hj : j < L.items.length) {t s : List Int} (h : isS (eraL L j) t s) : isS L t (s.map (upI j)) := by
  obtain ⟨h1, h2, h3⟩ := h
  refine ⟨eraL_items hj h1, by rw [← eraL_words h1]; exact h2, okF_yes (List.length_map _) fun k hk => ?_⟩
  have h4 : okC (eraL L j) s k = true := by
    unfold okF at h3
    rw [List.all_eq_true] at h3
    exact h3 k (List.mem_range.2 hk)
  unfold okC at h4 ⊢
  by_cases h0 : k = 0
  · subst h0; rfl
  · rw [decide_eq_false h0, Bool.false_or, decide_eq_true_eq] at h4 ⊢
    obtain ⟨a, ea, ha⟩ := itemsB_at h1 (k := k - 1) (by omega)
    obtain ⟨b, eb, hb⟩ := itemsB_at h1 (k := k) hk
    rw [ea, eb, eraL_fv L j (by omega) (by omega)] at h4
    rw [getD_mapI _ _ (by omega), getD_mapI _ _ hk, ea, eb]
    exact h4
theorem map_upI {j : Nat} : ∀ {s s' : List Int}, s.map (upI j) = s'.map (upI j) → s = s'
  | [], [], _ => rfl
  | [], _ :: _, h => by simp at h
  | _ :: _, [], h => by simp at h
  | x :: s, y :: s', h => by
    rw [List.map_cons, List.map_cons] at h
    injection h with h1 h2
    rw [upI_inj j h1, map_upI h2]
theorem without_facts {L : Lx} {i : Int} (h : wiE L i = 0) (t : List Int) : validL L = 0 ∧ validL (wiL L i) = 0 ∧ textE (wiL L i) t = textE L t ∧ countV (wiL L i) t ≤ countV L t ∧ (codeB L = true → codeB (wiL L i) = true) := by
  have h0 := h
  unfold wiE at h
  by_cases hv : viE L [i] = 0
  · rw [if_pos hv] at h
    by_cases h1 : L.items.length = 1
    · rw [if_pos h1] at h; cases h
    · have g := validL_ok (viE_ok hv).1
      obtain ⟨j, rfl, hj⟩ := one_item (viE_ok hv).2
      have hD : wiL L (j : Int) = eraL L j := by unfold wiL; rw [if_pos h0, Int.toNat_natCast]; rfl
      rw [hD]
      have g' := eraL_good g hj h1
      have ht := textE_eq g' g t
      refine ⟨(viE_ok hv).1, validL_yes g', ht, ?_, fun hc => ?_⟩
      · unfold countV
        rw [ht]
        split
        · exact cnt_map g' g (fun s => s.map (upI j)) (fun s hs => eraL_isS hj hs) (fun s s' _ _ e => map_upI e)
        · exact Int.le_refl _
      · have hnr := (code_at hc).2
        refine code_yes (validL_yes g') fun hr => ?_
        obtain ⟨s, s', hne, hs, hs', hw⟩ := (code_iff g').1 hr
        exact hnr ((code_iff g).2 ⟨_, _, fun e => hne (map_upI e), eraL_items hj hs, eraL_items hj hs', by rw [← eraL_words hs, ← eraL_words hs', hw]⟩)
  · rw [if_neg hv] at h; exact absurd h hv
/-! ### the law TagWithout -/
set_option maxRecDepth 100000 in
set_option maxHeartbeats 8000000 in
theorem tagWithout_calls (v : Value) (L : Lx) (i : Int) (a : Option Addr) (n c : Nat) (t : List Int) (w : World) (h : LexAt w v L) (ht : IntsAt w a n c t) :
    Calls Try.prog 8 #[v, .int .i64 i, .slice a n c] w fun e w' => e = .returned (.bool true) ∧ Below w.heap.size w w' := by
  have HP := hid_ h
  obtain ⟨a1, n1, c1, a2, n2, c2, rfl, h1, h2⟩ := h
  obtain ⟨w1, hw1⟩ : ∃ w1, w.alloc (.cells #[.slice a1 n1 c1, .slice a2 n2 c2] 25) = w1 := ⟨_, rfl⟩
  have cb : Below w.heap.size w w1 := by rw [← hw1]; exact below_alloc _ _
  have q0 : w1.cell? ⟨w.heap.size, 0, none⟩ = some (.slice a1 n1 c1) := by rw [← hw1]; exact cells_alloc _ _ _ 0
  have q1 : w1.cell? ⟨w.heap.size, 1, none⟩ = some (.slice a2 n2 c2) := by rw [← hw1]; exact cells_alloc _ _ _ 1
  have HP1 := hid_ (HP.out.below cb (Nat.le_refl _)); have Hc1 := hid_ cb
  have ht1 := ht.below cb (Nat.le_refl _)
  have HG := hid_ (long8_calls _ L _ 1 1 [t] _ (HP1.out.below (below_alloc w1 (.cells #[.slice a n c] 26)) (Nat.le_refl _)) (lists1_8 w1 26 ht1))
  have Ha := hid_ (below_alloc w1 (.cells #[.slice a n c] 26))
  have HQ := hid_ (fun W (hW : Below w1.heap.size w1 W) => (⟨cell_below q0 hW, cell_below q1 hW⟩ : _ ∧ _))
  have HA := hid_ (fun W (hW : Below w1.heap.size w1 W) => taWithout_calls _ L i W (HP1.out.below hW (Nat.le_refl _)))
  have HB := hid_ (fun W (hW : Below w1.heap.size w1 W) => r8Without_calls _ L i W (HP1.out.below hW (Nat.le_refl _)))
  have HCo := hid_ (fun W (hW : Below w1.heap.size w1 W) => taCount_calls _ L a n c t W (HP1.out.below hW (Nat.le_refl _)) (ht1.below hW (Nat.le_refl _)))
  have HCd := hid_ (fun W (hW : Below w1.heap.size w1 W) v' hv' => taCount_calls v' (wiL L i) a n c t W hv' (ht1.below hW (Nat.le_refl _)))
  have HIs := hid_ (fun W (hW : Below w1.heap.size w1 W) => code_calls _ L W (HP1.out.below hW (Nat.le_refl _)))
  have HId := hid_ (fun W v' hv' => code_calls v' (wiL L i) W hv')
  have HK := hid_ sane_calls
  have HF := fun h => @without_facts L i h t
  clear h1 h2 HP HP1 cb ht ht1
  cases hg : longX L [t] with
  | true =>
    rw [hg] at HG
    clear hg HF
    go_enter Try.func8, Try.ntmps8
    go_wp2_with (first
      | (go_at_call 11; (with_reducible refine HG.out.mono ?_); rintro e w3 ⟨rfl, hb3⟩; have Hb3 := hid_ (below_then8 Ha.out hb3); clear hb3)
      | (go_at_call 12; (with_reducible refine (HK.out _).mono ?_); rintro e w4 ⟨rfl, hb4⟩))
    go_ret
    exact ⟨rfl, Hc1.out.trans ((below_then8 Hb3.out hb4).mono Hc1.out.size)⟩
  | false =>
    rw [hg] at HG
    clear hg
    have hS := hid_ (fun W x y (hx : LexAt W x (wiL L i)) (hy : LexAt W y (wiL L i)) => r8Same_yes x y (wiL L i) W hx hy)
    generalize wiL L i = D at *
    by_cases hE : wiE L i = 0
    · obtain ⟨e1, e2, e3, e4, e5⟩ := HF hE
      rw [hE] at HA HB
      rw [e3] at HCd
      rw [e1] at HIs; rw [e2] at HId
      generalize countV L t = x at *
      generalize countV D t = x' at *
      generalize textE L t = g at *
      have hgg : (g == g) = true := by simp
      have hle : decide (x' ≤ x) = true := decide_eq_true e4
      generalize codeB L = b at *
      generalize codeB D = b' at *
      clear HF e1 e2 e3 hE
      cases b with
      | false =>
        clear e5
        go_enter Try.func8, Try.ntmps8
        go_wp2_with (first
          | (go_at_call 11; (with_reducible refine HG.out.mono ?_); rintro e w3 ⟨rfl, hb3'⟩; have hb3 := below_then8 Ha.out hb3'; obtain ⟨q3, p3⟩ := HQ.out w3 hb3)
          | (go_at_call 33; (with_reducible refine (HA.out _ hb3).mono ?_); rintro e w4 ⟨a4, n4, k4, d4, m4, l4, rfl, hL4, hb4'⟩; have hb4 := below_then8 hb3 hb4'; obtain ⟨w5, hw5⟩ : ∃ W, w4.alloc (.cells #[.slice a4 n4 k4, .slice d4 m4 l4] 25) = W := ⟨_, rfl⟩; have bb5 : Below w4.heap.size w4 w5 := (by rw [← hw5]; exact below_alloc _ _); have HL5 := hid_ (hL4.below bb5 (Nat.le_refl _)); clear hL4; have hb5 := below_then8 hb4 bb5; obtain ⟨q5, p5⟩ := HQ.out w5 hb5; have c50 : w5.cell? ⟨w4.heap.size, 0, none⟩ = some (.slice a4 n4 k4) := (by rw [← hw5]; exact cells_alloc _ _ _ 0); have c51 : w5.cell? ⟨w4.heap.size, 1, none⟩ = some (.slice d4 m4 l4) := (by rw [← hw5]; exact cells_alloc _ _ _ 1); have z5 : w4.heap.size < w5.heap.size := (by rw [← hw5]; simp); clear bb5)
          | (go_at_call 34; (with_reducible refine (HB.out _ hb5).mono ?_); rintro e w6 ⟨a6, n6, k6, d6, m6, l6, rfl, hL6, hb6'⟩; have hb6 := below_then8 hb5 hb6'; obtain ⟨w7, hw7⟩ : ∃ W, w6.alloc (.cells #[.slice a6 n6 k6, .slice d6 m6 l6] 25) = W := ⟨_, rfl⟩; have bb7 : Below w6.heap.size w6 w7 := (by rw [← hw7]; exact below_alloc _ _); have HL7 := hid_ (hL6.below bb7 (Nat.le_refl _)); clear hL6; have hb7 := below_then8 hb6 bb7; obtain ⟨q7, p7⟩ := HQ.out w7 hb7; have c60 := cell_below c50 hb6'; have c61 := cell_below c51 hb6'; have c70 := cell_below c60 bb7; have c71 := cell_below c61 bb7; have e70 : w7.cell? ⟨w6.heap.size, 0, none⟩ = some (.slice a6 n6 k6) := (by rw [← hw7]; exact cells_alloc _ _ _ 0); have e71 : w7.cell? ⟨w6.heap.size, 1, none⟩ = some (.slice d6 m6 l6) := (by rw [← hw7]; exact cells_alloc _ _ _ 1); have HL75 := hid_ ((HL5.out.below hb6' (Nat.le_refl _)).below bb7 (Nat.le_refl _)); have HSa := hid_ (hS.out _ _ _ HL75.out HL7.out); clear c60 c61 bb7)
          | (go_at_call 28; (with_reducible refine HSa.out.mono ?_); rintro e w8 ⟨rfl, hb8'⟩; have hb8 := below_then8 hb7 hb8'; obtain ⟨q8, p8⟩ := HQ.out w8 hb8; have c80 := cell_below c70 hb8'; have c81 := cell_below c71 hb8'; have HL8 := hid_ (HL75.out.below hb8' (Nat.le_refl _)))
          | (go_at_call 15; (with_reducible refine (HCo.out _ hb8).mono ?_); rintro e w9 ⟨rfl, hb9'⟩; have hb9 := below_then8 hb8 hb9'; obtain ⟨q9, p9⟩ := HQ.out w9 hb9; have c90 := cell_below c80 hb9'; have c91 := cell_below c81 hb9'; have HL9 := hid_ (HL8.out.below hb9' (Nat.le_refl _)))
          | (go_at_call 15; (with_reducible refine (HCd.out _ hb9 _ HL9.out).mono ?_); rintro e w10 ⟨rfl, hb10'⟩; have hb10 := below_then8 hb9 hb10'; obtain ⟨q10, p10⟩ := HQ.out w10 hb10; have c100 := cell_below c90 hb10'; have c101 := cell_below c91 hb10'; have HL10 := hid_ (HL9.out.below hb10' (Nat.le_refl _)))
          | (go_at_call 30; (with_reducible refine (HIs.out _ hb10).mono ?_); rintro e w11 ⟨rfl, hb11'⟩; have hb11 := below_then8 hb10 hb11'; have c110 := cell_below c100 hb11'; have c111 := cell_below c101 hb11'; have HL11 := hid_ (HL10.out.below hb11' (Nat.le_refl _)))
          | (go_at_call 30; (with_reducible refine (HId.out _ _ HL11.out).mono ?_); rintro e w12 ⟨rfl, hb12'⟩; have hb12 := below_then8 hb11 hb12')
          | (go_at_call 12; (with_reducible refine (HK.out _).mono ?_); rintro e w13 ⟨rfl, hb13⟩))
        go_ret
        exact ⟨rfl, Hc1.out.trans ((below_then8 hb12 hb13).mono Hc1.out.size)⟩
      | true =>
        obtain rfl := e5 rfl
        clear e5
        go_enter Try.func8, Try.ntmps8
        go_wp2_with (first
          | (go_at_call 11; (with_reducible refine HG.out.mono ?_); rintro e w3 ⟨rfl, hb3'⟩; have hb3 := below_then8 Ha.out hb3'; obtain ⟨q3, p3⟩ := HQ.out w3 hb3)
          | (go_at_call 33; (with_reducible refine (HA.out _ hb3).mono ?_); rintro e w4 ⟨a4, n4, k4, d4, m4, l4, rfl, hL4, hb4'⟩; have hb4 := below_then8 hb3 hb4'; obtain ⟨w5, hw5⟩ : ∃ W, w4.alloc (.cells #[.slice a4 n4 k4, .slice d4 m4 l4] 25) = W := ⟨_, rfl⟩; have bb5 : Below w4.heap.size w4 w5 := (by rw [← hw5]; exact below_alloc _ _); have HL5 := hid_ (hL4.below bb5 (Nat.le_refl _)); clear hL4; have hb5 := below_then8 hb4 bb5; obtain ⟨q5, p5⟩ := HQ.out w5 hb5; have c50 : w5.cell? ⟨w4.heap.size, 0, none⟩ = some (.slice a4 n4 k4) := (by rw [← hw5]; exact cells_alloc _ _ _ 0); have c51 : w5.cell? ⟨w4.heap.size, 1, none⟩ = some (.slice d4 m4 l4) := (by rw [← hw5]; exact cells_alloc _ _ _ 1); have z5 : w4.heap.size < w5.heap.size := (by rw [← hw5]; simp); clear bb5)
          | (go_at_call 34; (with_reducible refine (HB.out _ hb5).mono ?_); rintro e w6 ⟨a6, n6, k6, d6, m6, l6, rfl, hL6, hb6'⟩; have hb6 := below_then8 hb5 hb6'; obtain ⟨w7, hw7⟩ : ∃ W, w6.alloc (.cells #[.slice a6 n6 k6, .slice d6 m6 l6] 25) = W := ⟨_, rfl⟩; have bb7 : Below w6.heap.size w6 w7 := (by rw [← hw7]; exact below_alloc _ _); have HL7 := hid_ (hL6.below bb7 (Nat.le_refl _)); clear hL6; have hb7 := below_then8 hb6 bb7; obtain ⟨q7, p7⟩ := HQ.out w7 hb7; have c60 := cell_below c50 hb6'; have c61 := cell_below c51 hb6'; have c70 := cell_below c60 bb7; have c71 := cell_below c61 bb7; have e70 : w7.cell? ⟨w6.heap.size, 0, none⟩ = some (.slice a6 n6 k6) := (by rw [← hw7]; exact cells_alloc _ _ _ 0); have e71 : w7.cell? ⟨w6.heap.size, 1, none⟩ = some (.slice d6 m6 l6) := (by rw [← hw7]; exact cells_alloc _ _ _ 1); have HL75 := hid_ ((HL5.out.below hb6' (Nat.le_refl _)).below bb7 (Nat.le_refl _)); have HSa := hid_ (hS.out _ _ _ HL75.out HL7.out); clear c60 c61 bb7)
          | (go_at_call 28; (with_reducible refine HSa.out.mono ?_); rintro e w8 ⟨rfl, hb8'⟩; have hb8 := below_then8 hb7 hb8'; obtain ⟨q8, p8⟩ := HQ.out w8 hb8; have c80 := cell_below c70 hb8'; have c81 := cell_below c71 hb8'; have HL8 := hid_ (HL75.out.below hb8' (Nat.le_refl _)))
          | (go_at_call 15; (with_reducible refine (HCo.out _ hb8).mono ?_); rintro e w9 ⟨rfl, hb9'⟩; have hb9 := below_then8 hb8 hb9'; obtain ⟨q9, p9⟩ := HQ.out w9 hb9; have c90 := cell_below c80 hb9'; have c91 := cell_below c81 hb9'; have HL9 := hid_ (HL8.out.below hb9' (Nat.le_refl _)))
          | (go_at_call 15; (with_reducible refine (HCd.out _ hb9 _ HL9.out).mono ?_); rintro e w10 ⟨rfl, hb10'⟩; have hb10 := below_then8 hb9 hb10'; obtain ⟨q10, p10⟩ := HQ.out w10 hb10; have c100 := cell_below c90 hb10'; have c101 := cell_below c91 hb10'; have HL10 := hid_ (HL9.out.below hb10' (Nat.le_refl _)))
          | (go_at_call 30; (with_reducible refine (HIs.out _ hb10).mono ?_); rintro e w11 ⟨rfl, hb11'⟩; have hb11 := below_then8 hb10 hb11'; have c110 := cell_below c100 hb11'; have c111 := cell_below c101 hb11'; have HL11 := hid_ (HL10.out.below hb11' (Nat.le_refl _)))
          | (go_at_call 30; (with_reducible refine (HId.out _ _ HL11.out).mono ?_); rintro e w12 ⟨rfl, hb12'⟩; have hb12 := below_then8 hb11 hb12')
          | (go_at_call 12; (with_reducible refine (HK.out _).mono ?_); rintro e w13 ⟨rfl, hb13⟩))
        go_ret
        exact ⟨rfl, Hc1.out.trans ((below_then8 hb12 hb13).mono Hc1.out.size)⟩
    · have hq : (wiE L i != 0) = true := by simpa using hE
      generalize wiE L i = y at *
      have hyy : (y != y) = false := by simp
      clear HF hE
      go_enter Try.func8, Try.ntmps8
      go_wp2_with (first
        | (go_at_call 11; (with_reducible refine HG.out.mono ?_); rintro e w3 ⟨rfl, hb3'⟩; have hb3 := below_then8 Ha.out hb3'; obtain ⟨q3, p3⟩ := HQ.out w3 hb3)
        | (go_at_call 33; (with_reducible refine (HA.out _ hb3).mono ?_); rintro e w4 ⟨a4, n4, k4, d4, m4, l4, rfl, hL4, hb4'⟩; have hb4 := below_then8 hb3 hb4'; obtain ⟨w5, hw5⟩ : ∃ W, w4.alloc (.cells #[.slice a4 n4 k4, .slice d4 m4 l4] 25) = W := ⟨_, rfl⟩; have bb5 : Below w4.heap.size w4 w5 := (by rw [← hw5]; exact below_alloc _ _); have HL5 := hid_ (hL4.below bb5 (Nat.le_refl _)); clear hL4; have hb5 := below_then8 hb4 bb5; obtain ⟨q5, p5⟩ := HQ.out w5 hb5; have c50 : w5.cell? ⟨w4.heap.size, 0, none⟩ = some (.slice a4 n4 k4) := (by rw [← hw5]; exact cells_alloc _ _ _ 0); have c51 : w5.cell? ⟨w4.heap.size, 1, none⟩ = some (.slice d4 m4 l4) := (by rw [← hw5]; exact cells_alloc _ _ _ 1); have z5 : w4.heap.size < w5.heap.size := (by rw [← hw5]; simp); clear bb5)
        | (go_at_call 34; (with_reducible refine (HB.out _ hb5).mono ?_); rintro e w6 ⟨a6, n6, k6, d6, m6, l6, rfl, hL6, hb6'⟩; have hb6 := below_then8 hb5 hb6'; obtain ⟨w7, hw7⟩ : ∃ W, w6.alloc (.cells #[.slice a6 n6 k6, .slice d6 m6 l6] 25) = W := ⟨_, rfl⟩; have bb7 : Below w6.heap.size w6 w7 := (by rw [← hw7]; exact below_alloc _ _); have HL7 := hid_ (hL6.below bb7 (Nat.le_refl _)); clear hL6; have hb7 := below_then8 hb6 bb7; obtain ⟨q7, p7⟩ := HQ.out w7 hb7; have c60 := cell_below c50 hb6'; have c61 := cell_below c51 hb6'; have c70 := cell_below c60 bb7; have c71 := cell_below c61 bb7; have e70 : w7.cell? ⟨w6.heap.size, 0, none⟩ = some (.slice a6 n6 k6) := (by rw [← hw7]; exact cells_alloc _ _ _ 0); have e71 : w7.cell? ⟨w6.heap.size, 1, none⟩ = some (.slice d6 m6 l6) := (by rw [← hw7]; exact cells_alloc _ _ _ 1); have HL75 := hid_ ((HL5.out.below hb6' (Nat.le_refl _)).below bb7 (Nat.le_refl _)); have HSa := hid_ (hS.out _ _ _ HL75.out HL7.out); clear c60 c61 bb7)
        | (go_at_call 28; (with_reducible refine HSa.out.mono ?_); rintro e w8 ⟨rfl, hb8'⟩; have hb8 := below_then8 hb7 hb8'; obtain ⟨q8, p8⟩ := HQ.out w8 hb8; have c80 := cell_below c70 hb8'; have c81 := cell_below c71 hb8'; have HL8 := hid_ (HL75.out.below hb8' (Nat.le_refl _)))
        | (go_at_call 12; (with_reducible refine (HK.out _).mono ?_); rintro e w9 ⟨rfl, hb9⟩))
      go_ret
      exact ⟨rfl, Hc1.out.trans ((below_then8 hb8 hb9).mono Hc1.out.size)⟩
end Go.Proofs.Ytpcpmdokgdbonaa
