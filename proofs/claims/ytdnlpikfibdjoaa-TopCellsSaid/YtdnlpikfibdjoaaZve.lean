import Derived.Test.YtdnlpikfibdjoaaZvd
import Derived.OneCell
import Derived.Test.YtdnlpikfibdjoaaZvc
namespace Go.Proofs.Ytdnlpikfibdjoaa
open Go.RowKit Go.Proofs.Kv Go

/-! ### entries whose row and specs lie in blocks of a kind F -/
def SpecF (F : Nat → Prop) (w : World) (row : Option Nat) (u : Value) (l : List Int) : Prop := ∃ a n c, u = .slice a n c ∧ IntsS w a n c l ∧ ∀ b off, 0 < n → a = some ⟨b, off, none⟩ → F b ∧ row ≠ some b
theorem SpecF.next {F : Nat → Prop} {w w' : World} {row : Option Nat} {u : Value} {l : List Int} (h : SpecF F w row u l) (hb : Below w.heap.size w w') : SpecF F w' row u l := by
  obtain ⟨a, n, c, e, hi, hd⟩ := h
  exact ⟨a, n, c, e, hi.below hb (Nat.le_refl _), hd⟩
theorem SpecF.after {F : Nat → Prop} {w w' : World} {row row' : Option Nat} {u : Value} {l : List Int} (h : SpecF F w row u l) (hg : w.grownBy w' row) (hat : row' = row ∨ ∃ k, row' = some k ∧ w.heap.size ≤ k) : SpecF F w' row' u l := by
  obtain ⟨a, n, c, e, hi, hd⟩ := h
  refine ⟨a, n, c, e, sints_kept hi hg fun b off hn ha => (hd b off hn ha).2, fun b off hn ha => ⟨(hd b off hn ha).1, ?_⟩⟩
  rcases hat with rfl | ⟨k, rfl, hk⟩
  · exact (hd b off hn ha).2
  · intro e; injection e with e
    have := ints_lt hi.i hn ha
    omega
theorem SpecF.store {F : Nat → Prop} {w : World} {row : Option Nat} {u : Value} {l : List Int} (h : SpecF F w row u l) {p : Addr} (hp : ¬ F p.block) (y : Value) : SpecF F (w.setCell p y) row u l := by
  obtain ⟨a, n, c, e, hi, hd⟩ := h
  exact ⟨a, n, c, e, hi.other y fun b off j ha hj e => by
    have hF := (hd b off (by omega) ha).1
    rw [← e] at hp; exact hp hF, hd⟩
theorem SpecV.toF {F : Nat → Prop} {w : World} {B : Nat} {row : Option Nat} {u : Value} {l : List Int} (h : SpecV w B row u l) (hF : ∀ b, B ≤ b → b < w.heap.size → F b) : SpecF F w row u l := by
  obtain ⟨a, n, c, e, hi, hd⟩ := h
  exact ⟨a, n, c, e, hi, fun b off hn ha => ⟨hF b (hd b off hn ha).1 (ints_lt hi.i hn ha), (hd b off hn ha).2⟩⟩
theorem SpecF.toV {F : Nat → Prop} {w : World} {B : Nat} {row : Option Nat} {u : Value} {l : List Int} (h : SpecF F w row u l) (hF : ∀ b, F b → B ≤ b) : SpecV w B row u l := by
  obtain ⟨a, n, c, e, hi, hd⟩ := h
  exact ⟨a, n, c, e, hi, fun b off hn ha => ⟨hF b (hd b off hn ha).1, (hd b off hn ha).2⟩⟩
def OwnF (F : Nat → Prop) (w : World) (v : Value) (L : List Ent) : Prop :=
  ∃ vs : List Ec, vs.length = L.length ∧ w.ownsRow 0 39 2 v L.length (vs.flatMap encE) ∧ (∀ k, v.ownBlock = some k → F k) ∧ ∀ i x, vs[i]? = some x → SpecF F w v.ownBlock x.1 (L.getD i E0).spec ∧ x.2 = (L.getD i E0).form
theorem OwnE.toF {F : Nat → Prop} {w : World} {B : Nat} {v : Value} {L : List Ent} (h : OwnE w B v L) (hF : ∀ b, B ≤ b → b < w.heap.size → F b) : OwnF F w v L := by
  have hlt := h.lt
  obtain ⟨vs, h0, h1, h2⟩ := h
  exact ⟨vs, h0, own_base h1 (Nat.zero_le _), fun k hk => hF k (hlt k hk).1 (hlt k hk).2, fun i x hx => ⟨(h2 i x hx).s.toF hF, (h2 i x hx).f⟩⟩
theorem OwnF.toE {F : Nat → Prop} {w : World} {B : Nat} {v : Value} {L : List Ent} (h : OwnF F w v L) (hF : ∀ b, F b → B ≤ b) : OwnE w B v L := by
  obtain ⟨vs, h0, h1, hr, h2⟩ := h
  refine ⟨vs, h0, ⟨h1.1, h1.2.imp id ?_⟩, fun i x hx => ⟨(h2 i x hx).1.toV hF, (h2 i x hx).2⟩⟩
  rintro ⟨g, cap, cur, rfl, -, h3⟩
  exact ⟨g, cap, cur, rfl, hF g (hr g rfl), h3⟩
theorem OwnF.next {F : Nat → Prop} {w w' : World} {v : Value} {L : List Ent} (h : OwnF F w v L) (hb : Below w.heap.size w w') : OwnF F w' v L := by
  obtain ⟨vs, h0, h1, hr, h2⟩ := h
  exact ⟨vs, h0, own_below h1 hb (Nat.le_refl _), hr, fun i x hx => ⟨(h2 i x hx).1.next hb, (h2 i x hx).2⟩⟩
theorem OwnF.store {F : Nat → Prop} {w : World} {v : Value} {L : List Ent} (h : OwnF F w v L) {p : Addr} (hp : ¬ F p.block) (y : Value) : OwnF F (w.setCell p y) v L := by
  obtain ⟨vs, h0, h1, hr, h2⟩ := h
  exact ⟨vs, h0, ownsRow_setCell_other h1 (fun e => hp (hr _ e)) y, hr, fun i x hx => ⟨(h2 i x hx).1.store hp y, (h2 i x hx).2⟩⟩
theorem OwnF.lt {F : Nat → Prop} {w : World} {v : Value} {L : List Ent} (h : OwnF F w v L) : ∀ k, v.ownBlock = some k → F k ∧ k < w.heap.size := by
  obtain ⟨vs, _, h1, hr, _⟩ := h
  exact fun k hk => ⟨hr k hk, (h1.lt k hk).2⟩
/-- append of an entry onto an own row of a kind, as one step of a region that draws its order -/
theorem step_append_entF {F : Nat → Prop} {ops : Array Oper} {o : Oper} {a : Act} {w : World} {K : Act → World → Prop} {Q : Exit → Act → World → Prop} {E' : Prop} (hg : o.guard = none) (s x : Operand)
    (ho : o.op = .call { callee := .builtin .append, args := #[s, x], argTypes := #[23, 23] }) (v : Value) (L : List Ent) (hs : a.eval s = v) (hown : OwnF F w v L)
    (A : Addr) (c : Nat) (y : Ec) (E : Ent) (hx : a.eval x = .slice (some A) 1 c) (hy : ∀ j u, (encE y)[j]? = some u → w.cell? (A.add j) = some u) (hE : SpecF F w v.ownBlock y.1 E.spec) (hf : y.2 = E.form)
    (hsm : L.length + 1 ≤ 100000) (hnew : F w.heap.size)
    (hK : ∀ v' w', OwnF F w' v' (L ++ [E]) → w.grownBy w' v.ownBlock → (v'.ownBlock = v.ownBlock ∨ v'.ownBlock = some w.heap.size) → K (a.put o.dst v') w') :
    if Region.wanted o (yielded ops a.tmps) = true then Oper.wp Try.prog o a w K Q else E' := by
  obtain ⟨i0, hi0, hz0, hz1, hz2⟩ := info_parts Try.infoEntryC
  have hw : Region.wanted o (yielded ops a.tmps) = true := by simp [Region.wanted, hg]
  rw [if_pos hw]
  obtain ⟨vs, h0, h1, hr, h2⟩ := hown
  obtain ⟨v', w', hrun, k1, k2, _, k4⟩ := run_append_own_at (P := Try.prog) w 0 23 o.type 39 i0 _ 2 32 Try.underlying23 hi0 hz0 hz1 hz2 rfl (by omega) v L.length _ h1 A 1 c (encE y) rfl hy
    (fun u hu => by
      simp [encE] at hu
      rcases hu with rfl | rfl
      · obtain ⟨a, n, c, e, _, _⟩ := hE; rw [e]; rfl
      · rfl) (by unfold maxLen; omega) (by omega) (Nat.zero_le _)
  unfold Oper.wp
  simp [execOp, ho, resolve, invoke, builtin, hs, hx, hrun, Result.andThen]
  have hat' : v'.ownBlock = v.ownBlock ∨ ∃ k, v'.ownBlock = some k ∧ w.heap.size ≤ k := k4.imp id fun e => ⟨_, e, Nat.le_refl _⟩
  refine hK _ _ ⟨vs ++ [y], by simp [h0], ?_, fun k hk => ?_, fun i x' hx' => ?_⟩ k2 k4
  · rw [List.flatMap_append, List.length_append]
    simpa using k1
  · rcases k4 with k4 | k4
    · exact hr k (by rw [← k4]; exact hk)
    · rw [k4] at hk; injection hk with hk; rw [← hk]; exact hnew
  · by_cases hi : i < vs.length
    · rw [List.getElem?_append_left hi] at hx'
      rw [show (L ++ [E]).getD i E0 = L.getD i E0 by simp only [List.getD]; rw [List.getElem?_append_left (by omega)]]
      exact ⟨(h2 i x' hx').1.after k2 hat', (h2 i x' hx').2⟩
    · obtain rfl : i = vs.length := by
        rcases Nat.lt_or_ge i (vs.length + 1) with h | h
        · omega
        · rw [List.getElem?_eq_none (by simp; omega)] at hx'; cases hx'
      rw [List.getElem?_append_right (Nat.le_refl _), Nat.sub_self] at hx'
      simp at hx'; subst hx'
      rw [show (L ++ [E]).getD vs.length E0 = E by rw [h0]; simp [List.getD]]
      exact ⟨hE.after k2 hat', hf⟩
end Go.Proofs.Ytdnlpikfibdjoaa
namespace Go.Proofs.Ytdnlpikfibdjoaa
open Go.RowKit Go.Proofs.Kv

/-! ### the forms do not look at the entries' places -/
def goodP (P : Par) (l : List Int) (k : Nat) : Prop := k < P.ents.length ∧ hB (sp P k) l = true ∧ ∀ m, m < P.ents.length → hB (sp P m) l = true → m ≠ k → moreB (sp P k) (sp P m) = true
theorem mem_mat {P : Par} {l : List Int} {x : Int} : x ∈ matL P l ↔ ∃ k : Nat, x = (k : Int) ∧ k < P.ents.length ∧ hB (sp P k) l = true := by
  rw [matL, matK, List.mem_map]
  constructor
  · rintro ⟨y, hy, rfl⟩
    obtain ⟨h1, h2⟩ := List.mem_filter.1 hy
    exact ⟨y, rfl, List.mem_range.1 h1, h2⟩
  · rintro ⟨k, rfl, h1, h2⟩
    exact ⟨k, List.mem_filter.2 ⟨List.mem_range.2 h1, h2⟩, rfl⟩
theorem good_iff {P : Par} {l : List Int} {k : Nat} (hk : (k : Int) ∈ matL P l) : goodB P (matL P l) (k : Int) = true ↔ goodP P l k := by
  obtain ⟨k', e, h1, h2⟩ := mem_mat.1 hk
  obtain rfl : k = k' := Int.ofNat.inj e
  rw [goodB, Bool.not_eq_true', List.any_eq_false]
  constructor
  · intro h
    refine ⟨h1, h2, fun m hm hb hne => ?_⟩
    have := h (m : Int) (mem_mat.2 ⟨m, rfl, hm, hb⟩)
    rw [Int.toNat_natCast, Int.toNat_natCast, stopB, decide_eq_false hne] at this
    simpa using this
  · rintro ⟨-, -, h⟩ x hx
    obtain ⟨m, rfl, hm, hb⟩ := mem_mat.1 hx
    rw [Int.toNat_natCast, Int.toNat_natCast, stopB]
    by_cases hne : m = k
    · rw [decide_eq_true hne]; simp
    · rw [decide_eq_false hne, h m hm hb hne]; simp
theorem form_char (P : Par) (l : List Int) : (∃ k, goodP P l k ∧ formR P l = (P.ents.getD k E0).form) ∨ ((∀ k, ¬ goodP P l k) ∧ formR P l = -1) := by
  rcases dec_cases P l with ⟨k, -, hm, hg, -, -, hf⟩ | ⟨hn, -, -, hf⟩
  · exact .inl ⟨k, (good_iff hm).1 hg, hf⟩
  · refine .inr ⟨fun k hk => ?_, hf⟩
    have hm : (k : Int) ∈ matL P l := mem_mat.2 ⟨k, rfl, hk.1, hk.2.1⟩
    have := List.find?_eq_none.1 hn _ hm
    exact this ((good_iff hm).2 hk)
theorem good_one {P : Par} {l : List Int} {k k' : Nat} (h : goodP P l k) (h' : goodP P l k') : k = k' := by
  by_cases he : k = k'
  · exact he
  · have h1 := h.2.2 k' h'.1 h'.2.1 (Ne.symm he)
    have h2 := h'.2.2 k h.1 h.2.1 he
    rw [moreB, Bool.and_eq_true] at h1 h2
    rw [h2.1] at h1
    exact absurd h1.2 (by simp)
/-- two paradigms whose entries are the same up to their places -/
theorem form_perm {P Q : Par} (τ : Nat → Nat) (hl : Q.ents.length = P.ents.length) (hτ : ∀ k, k < P.ents.length → τ k < P.ents.length ∧ τ (τ k) = k ∧ Q.ents.getD k E0 = P.ents.getD (τ k) E0) (l : List Int) : formR Q l = formR P l := by
  have hsp : ∀ k, k < P.ents.length → sp Q k = sp P (τ k) := fun k hk => by rw [sp, (hτ k hk).2.2]; rfl
  have key : ∀ k, goodP Q l k → goodP P l (τ k) := fun k ⟨h1, h2, h3⟩ => by
    rw [hl] at h1
    refine ⟨(hτ k h1).1, by rw [← hsp k h1]; exact h2, fun m hm hb hne => ?_⟩
    have e : sp P m = sp Q (τ m) := by rw [hsp _ (hτ m hm).1, (hτ m hm).2.1]
    rw [e, ← hsp k h1]
    rw [e] at hb
    exact h3 (τ m) (by rw [hl]; exact (hτ m hm).1) hb (fun e2 => hne (by rw [← e2, (hτ m hm).2.1]))
  have key2 : ∀ k, goodP P l k → goodP Q l (τ k) := fun k ⟨h1, h2, h3⟩ => by
    have hs : sp Q (τ k) = sp P k := by rw [hsp _ (hτ k h1).1, (hτ k h1).2.1]
    refine ⟨by rw [hl]; exact (hτ k h1).1, by rw [hs]; exact h2, fun m hm hb hne => ?_⟩
    rw [hl] at hm
    rw [hs, hsp m hm]
    rw [hsp m hm] at hb
    exact h3 (τ m) (hτ m hm).1 hb (fun e2 => hne (by rw [← e2, (hτ m hm).2.1]))
  rcases form_char P l with ⟨k, hk, hf⟩ | ⟨hn, hf⟩
  · rcases form_char Q l with ⟨k', hk', hf'⟩ | ⟨hn', -⟩
    · have e := good_one (key k' hk') hk
      rw [hf', hf, (hτ k' (by rw [← hl]; exact hk'.1)).2.2, e]
    · exact absurd (key2 k hk) (hn' _)
  · rcases form_char Q l with ⟨k', hk', -⟩ | ⟨-, hf'⟩
    · exact absurd (key k' hk') (hn _)
    · rw [hf, hf']
def swT (i j k : Nat) : Nat := if k = i then j else if k = j then i else k
theorem swap_at {P : Par} {i j : Nat} (hi : i < P.ents.length) (hj : j < P.ents.length) (k : Nat) (hk : k < P.ents.length) : swT i j k < P.ents.length ∧ swT i j (swT i j k) = k ∧ (swapP P i j).ents.getD k E0 = P.ents.getD (swT i j k) E0 := by
  refine ⟨?_, ?_, ?_⟩
  · unfold swT; split
    · exact hj
    · split <;> assumption
  · unfold swT
    by_cases h1 : k = i
    · subst h1
      rw [if_pos rfl]
      by_cases h2 : j = k
      · rw [if_pos h2]; exact h2
      · rw [if_neg h2, if_pos rfl]
    · rw [if_neg h1]
      by_cases h2 : k = j
      · subst h2; rw [if_pos rfl, if_pos rfl]
      · rw [if_neg h2, if_neg h1, if_neg h2]
  · unfold swapP swT
    dsimp only
    by_cases h2 : k = j
    · subst h2
      rw [show ((P.ents.set i (P.ents.getD k E0)).set k (P.ents.getD i E0)).getD k E0 = P.ents.getD i E0 by simp [List.getD, hk]]
      by_cases h1 : k = i
      · rw [if_pos h1, h1]
      · rw [if_neg h1, if_pos rfl]
    · rw [show ((P.ents.set i (P.ents.getD j E0)).set j (P.ents.getD i E0)).getD k E0 = (P.ents.set i (P.ents.getD j E0)).getD k E0 by simp [List.getD, List.getElem?_set_ne (Ne.symm h2)]]
      by_cases h1 : k = i
      · subst h1
        rw [if_pos rfl]
        simp [List.getD, hk]
      · rw [if_neg h1, if_neg h2]
        simp [List.getD, List.getElem?_set_ne (Ne.symm h1)]
theorem valid_mk {P : Par} (h1 : 1 ≤ P.sizes.length ∧ P.sizes.length ≤ 3) (h2 : P.sizes.any (fun x => !okSize x) = false) (h3 : P.ents.length ≤ 10) (h4 : ∀ i, i < P.ents.length → specB P.sizes (P.ents.getD i E0).spec (-1) = true ∧ Within (P.ents.getD i E0).form 0 9 = true) : validP P = 0 := by
  rw [validP, if_neg (by omega), if_neg (by rw [h2]; simp), if_neg (by omega), if_neg]
  rw [Bool.not_eq_true, List.any_eq_false]
  intro e he
  obtain ⟨i, hi, rfl⟩ := List.mem_iff_getElem.1 he
  have := h4 i hi
  rw [show P.ents.getD i E0 = P.ents[i] by simp [List.getD, List.getElem?_eq_getElem hi]] at this
  rw [badEnt, this.1, this.2]; simp
theorem swap_valid {P : Par} {i j : Nat} (hv : validP P = 0) (hi : i < P.ents.length) (hj : j < P.ents.length) : validP (swapP P i j) = 0 := by
  obtain ⟨h1, h2, h3, h4⟩ := validP_ok hv
  have hl : (swapP P i j).ents.length = P.ents.length := by simp [swapP]
  refine valid_mk h1 h2 (by rw [hl]; exact h3) fun k hk => ?_
  rw [hl] at hk
  obtain ⟨e1, -, e3⟩ := swap_at hi hj k hk
  rw [e3]
  exact h4 _ e1
theorem swap_fill {P : Par} {i j : Int} (h : errN P [i, j] = 0) : validP P = 0 ∧ validP (resSwap P i j) = 0 ∧ resFill (resSwap P i j) = resFill P := by
  obtain ⟨hv, hi, hj⟩ := errN_ok h
  obtain ⟨i', rfl, hi'⟩ := isNo_ok hi
  obtain ⟨j', rfl, hj'⟩ := isNo_ok hj
  have e : resSwap P i' j' = swapP P i' j' := by rw [resSwap, if_pos h, Int.toNat_natCast, Int.toNat_natCast]
  have hs := swap_valid hv hi' hj'
  refine ⟨hv, by rw [e]; exact hs, ?_⟩
  rw [e, resFill, resFill, if_pos hs, if_pos hv, fillL, fillL]
  exact List.map_congr_left fun l _ => form_perm (swT i' j') (by simp [swapP]) (swap_at hi' hj') l
theorem MadeP6.par {w w' : World} {v : Value} {P : Par} (h : MadeP6 w w' v P) : ParAt w' v P := by
  obtain ⟨u, x, rfl, hs, he, -⟩ := h
  obtain ⟨a, n, c, rfl, hi⟩ := hs.ints
  obtain ⟨a', c', rfl, hx⟩ := he.at_
  exact ⟨a, n, c, a', _, c', rfl, hi, hx⟩
theorem MadeP6.bel {w w' : World} {v : Value} {P : Par} (h : MadeP6 w w' v P) : Below w.heap.size w w' := by
  obtain ⟨u, x, rfl, hs, he, hb⟩ := h
  exact hb
end Go.Proofs.Ytdnlpikfibdjoaa
namespace Go.Proofs.Ytdnlpikfibdjoaa
open Go.RowKit Go.Proofs.Kv Go

/-! ### Add of the program -/
def addP (P : Par) (E : Ent) : Par := ⟨P.sizes, P.ents ++ [E]⟩
def errAdd (P : Par) (E : Ent) : Int := if validP P = 0 then validP (addP P E) else validP P
def resAdd (P : Par) (E : Ent) : Par := if errAdd P E = 0 then addP P E else ⟨[], []⟩
theorem cf_grown {p : Addr} {v : Value} {w w' : World} {row : Option Nat} (h : CF p v w) (hg : w.grownBy w' row) (hne : row ≠ some p.block) : CF p v w' := by
  refine ⟨hg.cell h.1 (fun e => hne e.symm), ?_⟩
  have hb := hg.block p.block (World.block_lt_of_cell? w p h.1) (fun e => hne e.symm)
  have := h.2
  unfold World.frozen? at this ⊢
  rw [hb]; exact this
end Go.Proofs.Ytdnlpikfibdjoaa
namespace Go.Proofs.Ytdnlpikfibdjoaa
open Go.RowKit Go.Proofs.Kv Go

/-! ### Add of the document -/
end Go.Proofs.Ytdnlpikfibdjoaa
namespace Go.Proofs.Ytdnlpikfibdjoaa
open Go.RowKit Go.Proofs.Kv

/-! ### one more entry: cells for which it does not hold -/
theorem add_at {P : Par} {E : Ent} {k : Nat} (hk : k < P.ents.length) : (addP P E).ents.getD k E0 = P.ents.getD k E0 := by
  simp only [addP, List.getD]; rw [List.getElem?_append_left hk]
theorem add_last {P : Par} {E : Ent} : (addP P E).ents.getD P.ents.length E0 = E := by simp [addP, List.getD]
theorem form_add {P : Par} {E : Ent} {l : List Int} (h : hB E.spec l = false) : formR (addP P E) l = formR P l := by
  have hl : (addP P E).ents.length = P.ents.length + 1 := by simp [addP]
  have hsp : ∀ k, k < P.ents.length → sp (addP P E) k = sp P k := fun k hk => by rw [sp, add_at hk]; rfl
  have hnot : hB (sp (addP P E) P.ents.length) l = false := by rw [sp, add_last]; exact h
  have key : ∀ k, goodP P l k → goodP (addP P E) l k := fun k ⟨h1, h2, h3⟩ => by
    refine ⟨by omega, by rw [hsp k h1]; exact h2, fun m hm hb hne => ?_⟩
    by_cases hm2 : m < P.ents.length
    · rw [hsp m hm2] at hb ⊢
      rw [hsp k h1]
      exact h3 m hm2 hb hne
    · obtain rfl : m = P.ents.length := by omega
      rw [hnot] at hb; cases hb
  have key2 : ∀ k, goodP (addP P E) l k → goodP P l k := fun k ⟨h1, h2, h3⟩ => by
    have hk : k < P.ents.length := by
      rcases Nat.lt_or_ge k P.ents.length with hk | hk
      · exact hk
      · obtain rfl : k = P.ents.length := by omega
        rw [hnot] at h2; cases h2
    rw [hsp k hk] at h2
    refine ⟨hk, h2, fun m hm hb hne => ?_⟩
    have := h3 m (by omega) (by rw [hsp m hm]; exact hb) hne
    rwa [hsp k hk, hsp m hm] at this
  rcases form_char P l with ⟨k, hk, hf⟩ | ⟨hn, hf⟩
  · rcases form_char (addP P E) l with ⟨k', hk', hf'⟩ | ⟨hn', -⟩
    · have e := good_one (key2 k' hk') hk
      subst e
      rw [hf', hf, add_at hk.1]
    · exact absurd (key k hk) (hn' _)
  · rcases form_char (addP P E) l with ⟨k', hk', -⟩ | ⟨-, hf'⟩
    · exact absurd (key2 k' hk') (hn _)
    · rw [hf, hf']
theorem map_at {f : List Int → Int} {L : List (List Int)} {k : Nat} (hk : k < L.length) : (L.map f).getD k 0 = f (L.getD k []) := by
  simp [List.getD, hk]
theorem adds_ok {P : Par} {E : Ent} (h : errAdd P E = 0) : validP P = 0 ∧ validP (resAdd P E) = 0 ∧ (resFill P).length = (resCells P).length ∧ (resFill (resAdd P E)).length = (resCells P).length ∧ (∀ j, j < E.spec.length → -1 ≤ E.spec.getD j 0) ∧ ∀ k, k < (resCells P).length → E.spec.length = ((resCells P).getD k []).length ∧ (hB E.spec ((resCells P).getD k []) = false → (resFill P).getD k 0 = (resFill (resAdd P E)).getD k 0) := by
  have hr : resAdd P E = addP P E := by rw [resAdd, if_pos h]
  have hv : validP P = 0 := by
    unfold errAdd at h
    split at h
    · assumption
    · contradiction
  have hq : validP (addP P E) = 0 := by rw [errAdd, if_pos hv] at h; exact h
  have hE := ((validP_ok hq).2.2.2 P.ents.length (by simp [addP])).1
  rw [add_last] at hE
  obtain ⟨e1, e2⟩ := specB_ok hE
  have e1 : E.spec.length = P.sizes.length := e1
  rw [hr, resCells, resFill, resFill, if_pos hv, if_pos hv, if_pos hq]
  refine ⟨hv, hq, by simp [fillL], by simp [fillL, addP], fun j hj => (e2 j hj).1, fun k hk => ⟨?_, fun hb => ?_⟩⟩
  · rw [e1, (specB_ok (cells_spec hv hk)).1]
  · rw [fillL, fillL, map_at hk, map_at (show k < (cellsL (addP P E).sizes).length from hk)]
    exact (form_add hb).symm
end Go.Proofs.Ytdnlpikfibdjoaa
