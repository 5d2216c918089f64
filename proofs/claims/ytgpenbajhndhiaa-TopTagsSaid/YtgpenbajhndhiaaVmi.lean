import Derived.Test.YtgpenbajhndhiaaVmh
import Derived.Deep.RegionLaw
import Derived.ArgAppend
namespace Go.Proofs.Kv
open Go.RowKit Go
theorem encI_take (l : List Ic) (i : Nat) : (l.flatMap encI).take (i * 3) = (l.take i).flatMap encI := by
  induction l generalizing i with
  | nil => simp
  | cons x l ih =>
    cases i with
    | zero => simp
    | succ i =>
      rw [List.flatMap_cons, List.take_succ_cons, List.flatMap_cons, List.take_append]
      have e2 : (encI x).length = 3 := rfl
      rw [e2, List.take_of_length_le (by rw [e2]; omega), show (i + 1) * 3 - 3 = i * 3 by omega, ih]
theorem encI_drop (l : List Ic) (i : Nat) : (l.flatMap encI).drop (i * 3) = (l.drop i).flatMap encI := by
  induction l generalizing i with
  | nil => simp
  | cons x l ih =>
    cases i with
    | zero => simp
    | succ i =>
      rw [List.flatMap_cons, List.drop_succ_cons, List.drop_append]
      have e2 : (encI x).length = 3 := rfl
      rw [e2, List.drop_of_length_le (by rw [e2]; omega), show (i + 1) * 3 - 3 = i * 3 by omega, ih, List.nil_append]
/-- an own row of items of which one was taken out -/
theorem own_deletedI {B E n g cap i : Nat} {w : World} {xs : List Ic} (h : w.ownsRow B E 3 (.slice (some ⟨g, 0, none⟩) n cap) n (xs.flatMap encI)) (hi : i < n) (zs : List Value) (hz : zs.length = 3) :
    ((w.setCells g (i * 3) ((xs.drop (i + 1)).flatMap encI)).setCells g ((n - 1) * 3) zs).ownsRow B E 3 (.slice (some ⟨g, 0, none⟩) (n - 1) cap) (n - 1) ((xs.take i ++ xs.drop (i + 1)).flatMap encI) ∧ w.grownBy ((w.setCells g (i * 3) ((xs.drop (i + 1)).flatMap encI)).setCells g ((n - 1) * 3) zs) (some g) := by
  have hl : xs.length = n := by have := h.1; rw [encI_len] at this; omega
  have hfl : (xs.flatMap encI).length = n * 3 := h.1
  have hd : ((xs.drop (i + 1)).flatMap encI).length = (n - (i + 1)) * 3 := by rw [encI_len, List.length_drop, hl]
  obtain ⟨h1, h2⟩ := own_setCells_at ((xs.drop (i + 1)).flatMap encI) (i * 3) h (by rw [hd, hfl]; omega)
  have hl1 := h1.1
  obtain ⟨h3, h4⟩ := own_setCells_at zs ((n - 1) * 3) h1 (by rw [hl1, hz]; omega)
  refine ⟨?_, h2.trans h4⟩
  have h5 := own_cut h3 (show n - 1 ≤ n by omega)
  have hA : ((xs.flatMap encI).take (i * 3) ++ (xs.drop (i + 1)).flatMap encI).length = (n - 1) * 3 := by rw [List.length_append, List.length_take, hd, hfl]; omega
  have e : ∀ X : List Value, ((((xs.flatMap encI).take (i * 3) ++ (xs.drop (i + 1)).flatMap encI) ++ X).take ((n - 1) * 3) ++ zs ++ (((xs.flatMap encI).take (i * 3) ++ (xs.drop (i + 1)).flatMap encI) ++ X).drop ((n - 1) * 3 + zs.length)).take ((n - 1) * 3) = (xs.take i ++ xs.drop (i + 1)).flatMap encI := fun X => by
    rw [List.take_left' hA, List.append_assoc, List.take_left' hA, List.flatMap_append, encI_take]
  rw [e] at h5
  exact h5
theorem run_clear_one {P : Program} (w : World) (t e ty : TypeId) (z : Value) (ht : P.underlying t = some (.slice e)) (hv : ∀ w, (zeroValue e).run P w = .ok z w) (b o c : Nat)
    (hc : ∀ j, j < z.cells.size → (w.cell? ⟨b, o + j, none⟩).isSome = true) (hf : ∀ j, j < z.cells.size → w.frozen? ⟨b, o + j, none⟩ = false) (h1 : ∀ u ∈ z.cells.toList, u.oneCell' = true) :
    (Builtin.clear_ #[t] ty #[.slice (some ⟨b, o, none⟩) 1 c]).run P w = .ok (.tuple #[]) (w.setCells b o z.cells.toList) := by
  have hzc : (Builtin.zeroCells z.cells 1).toList = z.cells.toList := by
    simp only [Builtin.zeroCells]
    apply List.ext_getElem
    · simp
    · intro i h1 h2
      simp only [Array.length_toList] at h2
      simp [Nat.mod_eq_of_lt h2, getElem!_pos, h2]
  have hst := run_storeCells_cells (P := P) b o z.cells.toList 0 w (by simpa using hc) (by simpa using hf) h1
  simp only [Nat.add_zero] at hst
  simp [Builtin.clear_, run_underlying ht, hv, hzc, hst]
theorem grown_undrew8 {w w' : World} {q : Nat} {row : Option Nat} (h : (w.drewN q).grownBy w' row) : w.grownBy w' row := ⟨h.os, h.tape, h.output, h.size, h.block⟩
end Go.Proofs.Kv
namespace Go.Proofs.Ytgpenbajhndhiaa
open Go.RowKit Go.Proofs.Kv Go

/-! ### slices.Delete of one item -/
end Go.Proofs.Ytgpenbajhndhiaa
namespace Go.Proofs.Kv
open Go.RowKit Go
theorem RowsIn.erase {E1 : TypeId} {w : World} {B : Nat} {us : List Value} {R : List (List Int)} (h : RowsIn E1 w B us R) (i : Nat) : RowsIn E1 w B (us.eraseIdx i) (R.eraseIdx i) := by
  have hl := h.len
  have hat : ∀ j x, (us.eraseIdx i)[j]? = some x → ∃ j', us[j']? = some x ∧ j' = (if j < i then j else j + 1) := fun j x hx => by
    rw [List.getElem?_eraseIdx] at hx
    split at hx
    · rename_i hlt; exact ⟨j, hx, by rw [if_pos hlt]⟩
    · rename_i hlt; exact ⟨j + 1, hx, by rw [if_neg hlt]⟩
  refine ⟨by rw [List.length_eraseIdx, List.length_eraseIdx, hl], fun j u hu => ?_, fun j k u u' b hjk hu hu' hb => ?_⟩
  · obtain ⟨j', h1, h2⟩ := hat j u hu
    have e : (R.eraseIdx i).getD j [] = R.getD j' [] := by
      simp only [List.getD, List.getElem?_eraseIdx, h2]
      split <;> rfl
    rw [e]; exact h.row j' u h1
  · obtain ⟨j', h1, h2⟩ := hat j u hu
    obtain ⟨k', h3, h4⟩ := hat k u' hu'
    refine h.apart j' k' u u' b ?_ h1 h3 hb
    subst h2; subst h4
    split <;> split <;> omega
theorem own_cap {w : World} {B E size g m c n : Nat} {xs : List Value} (h : w.ownsRow B E size (.slice (some ⟨g, 0, none⟩) m c) n xs) : n ≤ c := by
  rcases h.2 with ⟨h9, _⟩ | ⟨g', cap, cur, e9, _, _, hle, _⟩
  · cases h9
  · injection e9 with e1 e2 e3; omega
/-- one item taken out -/
theorem NewI.erase {EI EL E1 : TypeId} {w w' : World} {B g n c i : Nat} {fv : Value} {xs : List Ic} {fs : List Value} {L : Lx} (h : NewI EI EL E1 w B (.slice (some ⟨g, 0, none⟩) n c) fv xs fs L) (hn : n = L.items.length) (hi : i < n)
    (hi' : w'.ownsRow B EI 3 (.slice (some ⟨g, 0, none⟩) (n - 1) c) (n - 1) ((xs.take i ++ xs.drop (i + 1)).flatMap encI)) (hg : w.grownBy w' (some g)) :
    NewI EI EL E1 w' B (.slice (some ⟨g, 0, none⟩) (n - 1) c) fv (xs.eraseIdx i) fs ⟨L.items.eraseIdx i, L.follow⟩ := by
  subst hn
  have hl := h.len
  have hg' : w.grownBy w' (Value.slice (some ⟨g, 0, none⟩) L.items.length c).ownBlock := hg
  have hR := (h.rows.other h.items h.ne1 hg').erase i
  have hle : (L.items.eraseIdx i).length = L.items.length - 1 := List.length_eraseIdx_of_lt hi
  refine ⟨h.ne1, h.ne2, h.ne3, ?_, by show (xs.eraseIdx i).length = (L.items.eraseIdx i).length; rw [List.length_eraseIdx_of_lt (by omega), hle, hl], fun j x hx => ?_, own_kept_ne h.fol hg' (fun b hb => own_apart h.fol h.items (Ne.symm h.ne3) b hb), ?_⟩
  · show w'.ownsRow B EI 3 _ (L.items.eraseIdx i).length _
    rw [hle, List.eraseIdx_eq_take_drop_succ]; exact hi'
  · rw [List.getElem?_eraseIdx] at hx
    show x.2 = (((L.items.eraseIdx i).getD j I0).kind, ((L.items.eraseIdx i).getD j I0).cost)
    simp only [List.getD, List.getElem?_eraseIdx]
    split at hx
    · rename_i hlt; rw [if_pos hlt]; exact h.kc j x hx
    · rename_i hlt; rw [if_neg hlt]; exact h.kc (j + 1) x hx
  · rw [List.eraseIdx_append_of_lt_length (by simp [hl]; omega), List.eraseIdx_append_of_lt_length (by simpa using hi)] at hR
    have em : ∀ {α β : Type} (f : α → β) (l : List α), (l.map f).eraseIdx i = (l.eraseIdx i).map f := fun f l => by
      simp [List.eraseIdx_eq_take_drop_succ, List.map_take, List.map_drop]
    rw [em, em] at hR
    exact hR
/-- append onto a slice without room -/
theorem step_append_full {P : Program} {ops : Array Oper} {o : Oper} {a : Act} {w : World} {K : Act → World → Prop} {Q : Exit → Act → World → Prop} {E0 : Prop} (hgd : o.guard = none) (s x : Operand) (t : TypeId)
    (ho : o.op = .call { callee := .builtin .append, args := #[s, x], argTypes := #[t, t] }) (e : TypeId) (i : TypeInfo) {z : Value} (size by_ : Nat) (ht : P.underlying t = some (.slice e)) (hi : P.info? e = some i) (hz : i.zero = some z) (hzc : z.cells.size = size) (hsize : i.size = size) (hs0 : 0 < size) (hby : i.bytes = by_) (hb0 : by_ ≤ 48)
    (b off n : Nat) (olds : List Value) (hs : a.eval s = .slice (some ⟨b, off, none⟩) n n) (hlo : olds.length = n * size) (holds : ∀ j u, olds[j]? = some u → w.cell? ((⟨b, off, none⟩ : Addr).add j) = some u)
    (A : Addr) (m c : Nat) (news : List Value) (hx : a.eval x = .slice (some A) m c) (hl : news.length = m * size) (hc : ∀ j u, news[j]? = some u → w.cell? (A.add j) = some u) (hsm : n + m ≤ 1000000)
    (hK : ∀ b' off' c' w', n + m ≤ c' → c' ≤ 9223372036854775807 → (∀ j u, (olds ++ news)[j]? = some u → w'.cell? ((⟨b', off', none⟩ : Addr).add j) = some u) → w.grownBy w' none → K (a.put o.dst (.slice (some ⟨b', off', none⟩) (n + m) c')) w') :
    if Region.wanted o (yielded ops a.tmps) = true then Oper.wp P o a w K Q else E0 := by
  have hm : (n + m) * by_ ≤ 1000000 * 48 := Nat.mul_le_mul hsm hb0
  have hw : Region.wanted o (yielded ops a.tmps) = true := by simp [Region.wanted, hgd]
  rw [if_pos hw]
  by_cases h0 : m = 0
  · subst h0
    have hnl : news = [] := List.length_eq_zero_iff.1 (by omega)
    subst hnl
    have hrun := run_append_room_cells (P := P) w t o.type e i ht hi b off n n A 0 c [] (by simp) (by simp) (by simp) (by omega) (by simp) (by simp)
    unfold Oper.wp
    simp [execOp, ho, resolve, invoke, builtin, hs, hx, hrun, Result.andThen, World.setCells]
    exact hK b off n w (by omega) (by omega) (by simpa using holds) ⟨rfl, rfl, rfl, Nat.le_refl _, fun _ _ _ => rfl⟩
  · obtain ⟨v', w', hrun, h2, h3⟩ := run_append_arg_grows (P := P) w t o.type e i z size by_ ht hi hz hsize hby hzc hs0 ⟨b, off, none⟩ n n olds hlo holds A m c news hl hc (by omega) (by unfold maxLen; omega) (by omega)
    have h2' := h2
    rcases h2.2 with ⟨_, h9⟩ | ⟨g, cap, cur, rfl, _, _, hle, hmx, _⟩
    · omega
    · unfold Oper.wp
      simp [execOp, ho, resolve, invoke, builtin, hs, hx, hrun, Result.andThen]
      exact hK g 0 cap w' hle (by unfold maxLen at hmx; omega) (fun j u hu => h2'.cells (g := g) rfl j u hu) h3
end Go.Proofs.Kv
namespace Go.Proofs.Ytgpenbajhndhiaa
open Go.RowKit Go.Proofs.Kv Go

/-! ### Without -/
def wiE (L : Lx) (i : Int) : Int := if viE L [i] = 0 then (if L.items.length = 1 then 1 else 0) else viE L [i]
def wiL (L : Lx) (i : Int) : Lx := if wiE L i = 0 then ⟨L.items.eraseIdx i.toNat, L.follow⟩ else ⟨[], []⟩
theorem nil_lex (w : World) : LexAt w (.agg #[.slice none 0 0, .slice none 0 0]) ⟨[], []⟩ := ⟨none, 0, 0, none, 0, 0, rfl, ItemsAt.nil _ _ _ (by omega), ListsAt.nil _ _ _ (by omega)⟩
end Go.Proofs.Ytgpenbajhndhiaa
namespace Go.Proofs.Kv
open Go.RowKit Go
theorem NewI.lexErase {EI EL E1 : TypeId} {w : World} {B j b off c m : Nat} {iv fv : Value} {xs : List Ic} {fs : List Value} {L : Lx} (h : NewI EI EL E1 w B iv fv xs fs L) (hj : j < L.items.length)
    (hc : ∀ t u, ((xs.take j ++ xs.drop (j + 1)).flatMap encI)[t]? = some u → w.cell? ((⟨b, off, none⟩ : Addr).add t) = some u) (hm : m = L.items.length - 1) (hle : m ≤ c) (hcs : c ≤ 9223372036854775807) :
    LexAt w (.agg #[.slice (some ⟨b, off, none⟩) m c, fv]) ⟨L.items.eraseIdx j, L.follow⟩ := by
  obtain ⟨a', c', rfl, h2⟩ := h.listsAt
  have hl := h.len
  refine ⟨_, m, c, a', _, c', rfl, ⟨by show (L.items.eraseIdx j).length = m; rw [List.length_eraseIdx_of_lt hj, hm], hle, hcs, fun i hi => ?_⟩, h2⟩
  rw [← List.eraseIdx_eq_take_drop_succ] at hc
  obtain ⟨i', hi', he⟩ : ∃ i', i' < L.items.length ∧ i' = (if i < j then i else i + 1) := ⟨_, by split <;> omega, rfl⟩
  obtain ⟨x, hx, ho⟩ := h.word hi'
  have hx' : (xs.eraseIdx j)[i]? = some x := by
    rw [List.getElem?_eraseIdx]
    split
    · rename_i hlt; rw [if_pos hlt] at he; rw [← he]; exact hx
    · rename_i hlt; rw [if_neg hlt] at he; rw [← he]; exact hx
  have hI : (L.items.eraseIdx j).getD i I0 = L.items.getD i' I0 := by
    simp only [List.getD, List.getElem?_eraseIdx, he]
    split <;> rfl
  obtain ⟨e0, e1, e2⟩ := encI_at _ i x hx'
  have hk := h.kc i' x hx
  obtain ⟨a1, c1, hu, hIn⟩ := IntsAt.own ho
  have k0 := hc _ _ e0; have k1 := hc _ _ e1; have k2 := hc _ _ e2
  rw [addr_add8] at k0 k1 k2
  show ∃ b off a1 n1 c1, _ ∧ _ ∧ _ = _ ∧ _ = some (Value.int .i64 ((L.items.eraseIdx j).getD i I0).kind) ∧ _ = some (Value.int .i64 ((L.items.eraseIdx j).getD i I0).cost) ∧ IntsAt w _ _ _ ((L.items.eraseIdx j).getD i I0).word
  rw [hI]
  rw [hk] at k1 k2
  rw [hu] at k0
  exact ⟨b, off, a1, _, c1, rfl, World.block_lt_of_cell? w _ k0, k0, by rw [Nat.add_assoc]; exact k1, by rw [Nat.add_assoc]; exact k2, hIn⟩
/-- append onto a slice without room -/
theorem step_append_full2 {P : Program} {ops : Array Oper} {o : Oper} {a : Act} {w : World} {K : Act → World → Prop} {Q : Exit → Act → World → Prop} {E0 : Prop} (hgd : o.guard = none) (s x : Operand) (t : TypeId)
    (ho : o.op = .call { callee := .builtin .append, args := #[s, x], argTypes := #[t, t] }) (e : TypeId) (i : TypeInfo) {z : Value} (size by_ : Nat) (ht : P.underlying t = some (.slice e)) (hi : P.info? e = some i) (hz : i.zero = some z) (hzc : z.cells.size = size) (hsize : i.size = size) (hs0 : 0 < size) (hby : i.bytes = by_) (hb0 : by_ ≤ 48)
    (b off n : Nat) (olds : List Value) (hs : a.eval s = .slice (some ⟨b, off, none⟩) n n) (hlo : olds.length = n * size) (holds : ∀ j u, olds[j]? = some u → w.cell? ((⟨b, off, none⟩ : Addr).add j) = some u)
    (A : Addr) (m c : Nat) (news : List Value) (hx : a.eval x = .slice (some A) m c) (hl : news.length = m * size) (hc : ∀ j u, news[j]? = some u → w.cell? (A.add j) = some u) (hsm : n + m ≤ 1000000)
    (hK : ∀ b' off' c' w', n + m ≤ c' → c' ≤ 9223372036854775807 → (b' = b ∨ w.heap.size ≤ b') → (∀ j u, (olds ++ news)[j]? = some u → w'.cell? ((⟨b', off', none⟩ : Addr).add j) = some u) → w.grownBy w' none → K (a.put o.dst (.slice (some ⟨b', off', none⟩) (n + m) c')) w') :
    if Region.wanted o (yielded ops a.tmps) = true then Oper.wp P o a w K Q else E0 := by
  have hm : (n + m) * by_ ≤ 1000000 * 48 := Nat.mul_le_mul hsm hb0
  have hw : Region.wanted o (yielded ops a.tmps) = true := by simp [Region.wanted, hgd]
  rw [if_pos hw]
  by_cases h0 : m = 0
  · subst h0
    have hnl : news = [] := List.length_eq_zero_iff.1 (by omega)
    subst hnl
    have hrun := run_append_room_cells (P := P) w t o.type e i ht hi b off n n A 0 c [] (by simp) (by simp) (by simp) (by omega) (by simp) (by simp)
    unfold Oper.wp
    simp [execOp, ho, resolve, invoke, builtin, hs, hx, hrun, Result.andThen, World.setCells]
    exact hK b off n w (by omega) (by omega) (.inl rfl) (by simpa using holds) ⟨rfl, rfl, rfl, Nat.le_refl _, fun _ _ _ => rfl⟩
  · obtain ⟨v', w', hrun, h2, h3⟩ := run_append_arg_grows (P := P) w t o.type e i z size by_ ht hi hz hsize hby hzc hs0 ⟨b, off, none⟩ n n olds hlo holds A m c news hl hc (by omega) (by unfold maxLen; omega) (by omega)
    have h2' := h2
    rcases h2.2 with ⟨_, h9⟩ | ⟨g, cap, cur, rfl, hgB, _, hle, hmx, _⟩
    · omega
    · unfold Oper.wp
      simp [execOp, ho, resolve, invoke, builtin, hs, hx, hrun, Result.andThen]
      exact hK g 0 cap w' hle (by unfold maxLen at hmx; omega) (.inr hgB) (fun j u hu => h2'.cells (g := g) rfl j u hu) h3
end Go.Proofs.Kv
namespace Go.Proofs.Ytgpenbajhndhiaa
open Go.RowKit Go.Proofs.Kv Go

/-! ### Without of the document -/
end Go.Proofs.Ytgpenbajhndhiaa
namespace Go.Proofs.Ytgpenbajhndhiaa
open Go.RowKit Go.Proofs.Kv Go

theorem code_yes {L : Lx} (h0 : validL L = 0) (hr : ¬ RR L []) : codeB L = true := by unfold codeB; rw [if_pos h0]; simpa using hr
/-! ### an item less -/
def upI (j : Nat) (x : Int) : Int := if x < (j : Int) then x else x + 1
theorem upI_inj (j : Nat) {x y : Int} (h : upI j x = upI j y) : x = y := by
  unfold upI at h; split at h <;> split at h <;> omega
def eraL (L : Lx) (j : Nat) : Lx := ⟨L.items.eraseIdx j, L.follow⟩
theorem eraL_at (L : Lx) (j : Nat) (k : Nat) : (eraL L j).items.getD k I0 = L.items.getD (upI j (k : Int)).toNat I0 := by
  show (L.items.eraseIdx j).getD k I0 = _
  simp only [List.getD, List.getElem?_eraseIdx]
  unfold upI
  by_cases h : k < j
  · rw [if_pos h, if_pos (by omega)]; simp
  · rw [if_neg h, if_neg (by omega)]
    rw [show ((k : Int) + 1).toNat = k + 1 by omega]
theorem eraL_len {L : Lx} {j : Nat} (hj : j < L.items.length) : (eraL L j).items.length = L.items.length - 1 := List.length_eraseIdx_of_lt hj
theorem eraL_good {L : Lx} (g : GoodL L) {j : Nat} (hj : j < L.items.length) (h1 : L.items.length ≠ 1) : GoodL (eraL L j) := by
  have hl := eraL_len hj
  have hup : ∀ k, k < (eraL L j).items.length → (upI j (k : Int)).toNat < L.items.length := fun k hk => by
    unfold upI; split <;> omega
  exact ⟨by have := g.ge; omega, by have := g.le; omega, fun k hk => by rw [eraL_at]; exact g.word _ (hup k hk), fun k hk => by rw [eraL_at]; exact g.kind _ (hup k hk), fun k hk => by rw [eraL_at]; exact g.cost _ (hup k hk), g.rows, g.row⟩
theorem eraL_items {L : Lx} {j : Nat} (hj : j < L.items.length) {s : List Int} (h : itemsB (eraL L j) s = true) : itemsB L (s.map (upI j)) = true := by
  unfold itemsB areB at h ⊢
  rw [eraL_len hj] at h
  rw [List.all_eq_true] at h ⊢
  intro x hx
  obtain ⟨y, hy, rfl⟩ := List.mem_map.1 hx
  have := h y hy
  simp only [Within, Bool.and_eq_true, decide_eq_true_eq] at this ⊢
  unfold upI; split <;> omega
theorem eraL_words {L : Lx} {j : Nat} {s : List Int} (h : itemsB (eraL L j) s = true) : wordsL (eraL L j) s = wordsL L (s.map (upI j)) := by
  unfold wordsL
  rw [List.flatMap_map]
  refine flatMap_congr8 fun x hx => ?_
  unfold itemsB areB at h
  rw [List.all_eq_true] at h
  have := h x hx
  simp only [Within, Bool.and_eq_true, decide_eq_true_eq] at this
  obtain ⟨k, rfl⟩ : ∃ k : Nat, x = (k : Int) := ⟨x.toNat, by omega⟩
  unfold wordL
  rw [Int.toNat_natCast, eraL_at]
theorem eraL_fv (L : Lx) (j : Nat) {a b : Int} (ha : 0 ≤ a) (hb : 0 ≤ b) : fvI (eraL L j) a b = fvI L (upI j a) (upI j b) := by
  obtain ⟨k, rfl⟩ : ∃ k : Nat, a = (k : Int) := ⟨a.toNat, by omega⟩
  obtain ⟨m, rfl⟩ : ∃ m : Nat, b = (m : Int) := ⟨b.toNat, by omega⟩
  unfold fvI follV
  rw [Int.toNat_natCast, Int.toNat_natCast, eraL_at, eraL_at]; rfl
theorem getD_mapI (f : Int → Int) (s : List Int) {i : Nat} (hi : i < s.length) : (s.map f).getD i 0 = f (s.getD i 0) := by simp [List.getD, hi]
theorem eraL_isS {L : Lx} {j : Nat} (hj : j < L.items.length) {t s : List Int} (h : isS (eraL L j) t s) : isS L t (s.map (upI j)) := by
  obtain ⟨h1, h2, h3⟩ := h
  refine ⟨eraL_items hj h1, by rw [← eraL_words h1]; exact h2, okF_yes (List.length_map _) fun k hk => ?_⟩
  have h4 : okC (eraL L j) s k = true := by
    unfold okF at h3
    rw [List.all_eq_true] at h3
    exact h3 k (List.mem_range.2 hk)
  unfold okC at h4 ⊢
  by_cases h0 : k = 0
  · subst h0; rfl
  · rw [decide_eq_false h0, Bool.false_or, decide_eq_true_eq] at h4 ⊢
    obtain ⟨a, ea, ha⟩ := itemsB_at h1 (k := k - 1) (by omega)
    obtain ⟨b, eb, hb⟩ := itemsB_at h1 (k := k) hk
    rw [ea, eb, eraL_fv L j (by omega) (by omega)] at h4
    rw [getD_mapI _ _ (by omega), getD_mapI _ _ hk, ea, eb]
    exact h4
theorem map_upI {j : Nat} : ∀ {s s' : List Int}, s.map (upI j) = s'.map (upI j) → s = s'
  | [], [], _ => rfl
  | [], _ :: _, h => by simp at h
  | _ :: _, [], h => by simp at h
  | x :: s, y :: s', h => by
    rw [List.map_cons, List.map_cons] at h
    injection h with h1 h2
    rw [upI_inj j h1, map_upI h2]
theorem without_facts {L : Lx} {i : Int} (h : wiE L i = 0) (t : List Int) : validL L = 0 ∧ validL (wiL L i) = 0 ∧ textE (wiL L i) t = textE L t ∧ countV (wiL L i) t ≤ countV L t ∧ (codeB L = true → codeB (wiL L i) = true) := by
  have h0 := h
  unfold wiE at h
  by_cases hv : viE L [i] = 0
  · rw [if_pos hv] at h
    by_cases h1 : L.items.length = 1
    · rw [if_pos h1] at h; cases h
    · have g := validL_ok (viE_ok hv).1
      obtain ⟨j, rfl, hj⟩ := one_item (viE_ok hv).2
      have hD : wiL L (j : Int) = eraL L j := by unfold wiL; rw [if_pos h0, Int.toNat_natCast]; rfl
      rw [hD]
      have g' := eraL_good g hj h1
      have ht := textE_eq g' g t
      refine ⟨(viE_ok hv).1, validL_yes g', ht, ?_, fun hc => ?_⟩
      · unfold countV
        rw [ht]
        split
        · exact cnt_map g' g (fun s => s.map (upI j)) (fun s hs => eraL_isS hj hs) (fun s s' _ _ e => map_upI e)
        · exact Int.le_refl _
      · have hnr := (code_at hc).2
        refine code_yes (validL_yes g') fun hr => ?_
        obtain ⟨s, s', hne, hs, hs', hw⟩ := (code_iff g').1 hr
        exact hnr ((code_iff g).2 ⟨_, _, fun e => hne (map_upI e), eraL_items hj hs, eraL_items hj hs', by rw [← eraL_words hs, ← eraL_words hs', hw]⟩)
  · rw [if_neg hv] at h; exact absurd h hv
/-! ### the law TagWithout -/
end Go.Proofs.Ytgpenbajhndhiaa
