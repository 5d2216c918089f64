import Derived.Test.YtebbmhlkdfmmcaaGreatJxc
namespace Go.Proofs.YtebbmhlkdfmmcaaGreat
open Go.RowKit Go.Proofs.Kv

/-! ### reached: the graph grows -/
theorem GrAt.less {F F' : Nat → Prop} {w : World} {Bx B : Nat} {vw vn vf : Value} {W N : List (List Int)} {D : List Int} (h : GrAt F w Bx B vw vn vf W N D) (hs : ∀ b, F' b → F b) (fx : F' Bx) (fw : ∀ b, vw.ownBlock = some b → F' b) (fn : ∀ b, vn.ownBlock = some b → F' b) (ff : ∀ b, vf.ownBlock = some b → F' b) : GrAt F' w Bx B vw vn vf W N D := by
  obtain ⟨vs, v1, v2⟩ := h.words
  obtain ⟨us, u1, u2⟩ := h.next
  have key : ∀ u l, WordF F w u l → WordF F' w u l := fun u l ⟨a, n, c, e, hi, hd⟩ => ⟨a, n, c, e, hi, fun b off hn ha g => hd b off hn ha (hs b g)⟩
  exact ⟨h.box, ⟨vs, v1, fun i u hu => key _ _ (v2 i u hu)⟩, ⟨us, u1, fun i u hu => key _ _ (u2 i u hu)⟩, h.far, h.apart, fx, fw, fn, ff, fun b hb => h.lim b (hs b hb)⟩
theorem GrAt.base {F : Nat → Prop} {w : World} {Bx B B' : Nat} {vw vn vf : Value} {W N : List (List Int)} {D : List Int} (h : GrAt F w Bx B' vw vn vf W N D) (hB : B ≤ B') : GrAt F w Bx B vw vn vf W N D := by
  obtain ⟨vs, v1, v2⟩ := h.words
  obtain ⟨us, u1, u2⟩ := h.next
  exact ⟨h.box, ⟨vs, own_base v1 hB, v2⟩, ⟨us, own_base u1 hB, u2⟩, own_base h.far hB, h.apart, h.fx, h.fw, h.fn, h.ff, fun b hb => ⟨Nat.le_trans hB (h.lim b hb).1, (h.lim b hb).2⟩⟩
theorem GrAt.ownL {F : Nat → Prop} {w : World} {Bx B : Nat} {vw vn vf : Value} {W N : List (List Int)} {D : List Int} (h : GrAt F w Bx B vw vn vf W N D) : OwnL 23 w B vw W := by
  obtain ⟨vs, h1, h2⟩ := h.words
  have hvl : vs.length = W.length := by have := h1.1; simpa using this
  refine ⟨vs, h1, fun i hi => ?_⟩
  have hv : vs[i]? = some vs[i] := List.getElem?_eq_getElem (by omega)
  obtain ⟨a, n, c, e, hI, hd⟩ := h2 i _ hv
  exact ⟨a, n, c, by rw [hv, e], hI, fun b off hn ha e' => hd b off hn ha (h.fw b e')⟩
/-- a row of numbers grows beside the graph, to which it is counted -/
theorem GrAt.beside {F : Nat → Prop} {w w1 w2 : World} {Bx B B8 n8 n9 : Nat} {vw vn vf v8 v9 : Value} {W N : List (List Int)} {D : List Int} {xs8 xs9 : List Value} (h : GrAt F w Bx B vw vn vf W N D) (hown : w.ownsRow B8 3 1 v8 n8 xs8)
    (hF8 : ∀ b, v8.ownBlock = some b → F b) (h8 : ∀ b, v8.ownBlock = some b → vf.ownBlock ≠ some b) (hb : Below w.heap.size w w1) (hg : w1.grownBy w2 v8.ownBlock) (hat : v9.ownBlock = v8.ownBlock ∨ v9.ownBlock = some w1.heap.size) (how2 : w2.ownsRow B8 3 1 v9 n9 xs9) (hB8 : B ≤ B8) :
    GrAt (orB F v9) w2 Bx B vw vn vf W N D ∧ Kept F w w2 ∧ (∀ b, b < w.heap.size → orB F v9 b → F b) ∧ ∀ b, v9.ownBlock = some b → vf.ownBlock ≠ some b := by
  have hk : Kept (fun b => v8.ownBlock = some b) w w2 := (hb.kept (F := fun b => v8.ownBlock = some b)).grown hg fun _ _ e => e
  have old : ∀ b, b < w.heap.size → orB F v9 b → F b := fun b hlt e => e.elim id fun e => by
    rcases hat with q | q
    · exact hF8 b (by rw [← q]; exact e)
    · rw [e] at q; injection q with q; have := hb.size; omega
  obtain ⟨vs, v1, v2⟩ := h.words
  obtain ⟨us, u1, u2⟩ := h.next
  refine ⟨⟨(hk.block _ (h.lim _ h.fx).2 (h.box_apart hown (by decide))).trans h.box, ⟨vs, ownsRow_kept v1 hk fun b hb' e => own_apart v1 hown (by decide) hb' e, fun i u hu => (v2 i u hu).kept hk (fun b _ e => hF8 b e) old⟩,
    ⟨us, ownsRow_kept u1 hk fun b hb' e => own_apart u1 hown (by decide) hb' e, fun i u hu => (u2 i u hu).kept hk (fun b _ e => hF8 b e) old⟩, ownsRow_kept h.far hk fun b hb' e => h8 b e hb', h.apart, .inl h.fx, fun b e => .inl (h.fw b e), fun b e => .inl (h.fn b e), fun b e => .inl (h.ff b e), ?_⟩, hk.mono fun b _ e => hF8 b e, old, ?_⟩
  · rintro b (hb' | hb')
    · exact ⟨(h.lim b hb').1, Nat.lt_of_lt_of_le (h.lim b hb').2 hk.size⟩
    · exact ⟨Nat.le_trans hB8 (how2.lt b hb').1, (how2.lt b hb').2⟩
  · intro b e e'
    rcases hat with q | q
    · exact h8 b (by rw [← q]; exact e) e'
    · rw [e] at q; injection q with q
      have := (h.far.lt b e').2; have := hb.size; omega
/-- a graph stays while a block is written that is none of its own and holds no numbers -/
theorem GrAt.other {F : Nat → Prop} {w w' : World} {Bx B b0 : Nat} {vw vn vf : Value} {W N : List (List Int)} {D : List Int} {cs : Array Value} {T : TypeId} (h : GrAt F w Bx B vw vn vf W N D) (hb : w.heap[b0]? = some (.cells cs T (0, 0)))
    (hcs : ∀ (i : Nat) (x : Int), cs[i]? ≠ some (.int .i64 x)) (hF : ¬ F b0) (hk : Kept (fun b => b = b0) w w') : GrAt F w' Bx B vw vn vf W N D := by
  obtain ⟨vs, v1, v2⟩ := h.words
  obtain ⟨us, u1, u2⟩ := h.next
  have hne : ∀ b, F b → b ≠ b0 := fun b hb' e => hF (e ▸ hb')
  have key : ∀ u l, WordF F w u l → WordF F w' u l := by
    rintro u l ⟨a, n, c, rfl, hi, hd⟩
    refine ⟨a, n, c, rfl, hi.kept hk fun b off hn ha e => ?_, hd⟩
    obtain ⟨b', off', ha', _, hc⟩ := hi.cells 0 hn
    rw [ha] at ha'
    injection ha' with ha'; injection ha' with e1 e2
    subst e1; subst e
    rw [Go.Joins.cell_of_block hb] at hc
    exact hcs _ _ hc
  exact ⟨(hk.block _ (h.lim _ h.fx).2 (hne _ h.fx)).trans h.box, ⟨vs, ownsRow_kept v1 hk fun b hb' => hne b (h.fw b hb'), fun i u hu => key _ _ (v2 i u hu)⟩,
    ⟨us, ownsRow_kept u1 hk fun b hb' => hne b (h.fn b hb'), fun i u hu => key _ _ (u2 i u hu)⟩, ownsRow_kept h.far hk fun b hb' => hne b (h.ff b hb'), h.apart, h.fx, h.fw, h.fn, h.ff, fun b hb' => ⟨(h.lim b hb').1, Nat.lt_of_lt_of_le (h.lim b hb').2 hk.size⟩⟩
theorem step_gr_word {w : World} {ops : Array Oper} {o : Oper} {a : Act} {K : Act → World → Prop} {Q : Exit → Act → World → Prop} {E' : Prop} (hgd : o.guard = none) (s x : Operand)
    (ho : o.op = .call { callee := .builtin .append, args := #[s, x], argTypes := #[27, 27] }) {F : Nat → Prop} {Bx B : Nat} {vw vn vf : Value} {W N : List (List Int)} {D : List Int}
    (h : GrAt F w Bx B vw vn vf W N D) (hB : B ≤ w.heap.size) (hs : a.eval s = vw) {u : Value} {l : List Int} (hu : WordF F w u l) (E : TypeId) (hx : a.eval x = .slice (some ⟨w.heap.size, 0, none⟩) 1 1) (hsm : W.length ≤ 1000)
    (hK : ∀ v' w', (∃ g k, v' = .slice (some ⟨g, 0, none⟩) (W.length + 1) k) → w'.cell? ⟨Bx, 0, none⟩ = some vw → w'.frozen? ⟨Bx, 0, none⟩ = false → GrAt (orB F v') (w'.setCell ⟨Bx, 0, none⟩ v') Bx B v' vn vf (W ++ [l]) N D → Kept F w (w'.setCell ⟨Bx, 0, none⟩ v') →
      (∀ b, b < w.heap.size → orB F v' b → F b) → Kept (fun b => vw.ownBlock = some b ∨ b = Bx) w (w'.setCell ⟨Bx, 0, none⟩ v') → K (a.put o.dst v') w') :
    if Region.wanted o (yielded ops a.tmps) = true then Oper.wp Tryz.prog o a (w.alloc (.cells #[u] E)) K Q else E' := by
  have hw : Region.wanted o (yielded ops a.tmps) = true := by simp [Region.wanted, hgd]
  rw [if_pos hw]
  obtain ⟨vs, v1, v2⟩ := h.words
  obtain ⟨i0, hi0, hz0, hz1, hz2⟩ := info_parts Tryz.infoInts
  have hb := below_alloc w (.cells #[u] E)
  have hu1 : u.oneCell' = true := by obtain ⟨a', n', c', rfl, _⟩ := hu; rfl
  obtain ⟨v', w', hrun, k1, k2, _, k4⟩ := run_append_own_at (P := Tryz.prog) _ B 27 o.type 23 i0 _ 1 24 Tryz.underlying27 hi0 hz0 hz1 hz2 rfl (by omega) vw W.length vs (own_grown v1 hb) ⟨w.heap.size, 0, none⟩ 1 1 [u] rfl (cell_one_new _ _ _) (by simp [hu1])
    (by unfold maxLen; omega) (by omega) (by simp; omega)
  obtain ⟨r1, r2⟩ := h.word hb v1 v2 hu k1 k2 k4
  have hbx := h.box_after hb v1 (by decide) k2
  unfold Oper.wp
  simp [execOp, ho, resolve, invoke, builtin, hs, hx, hrun, Result.andThen]
  exact hK v' w' (own_slice k1 (by omega)) (by rw [Go.Joins.cell_of_block hbx]; rfl) (Go.Joins.unfrozen_of_block hbx 0) r1 r2 (Grew.old ⟨hb, k2, k4, h.fw⟩ (Bx := Bx) (B := B)) (Grew.kept3 ⟨hb, k2, k4, h.fw⟩ (Bx := Bx) (B := B) 0)
theorem step_gr_dist {w : World} {ops : Array Oper} {o : Oper} {a : Act} {K : Act → World → Prop} {Q : Exit → Act → World → Prop} {E' : Prop} (hgd : o.guard = none) (s x : Operand)
    (ho : o.op = .call { callee := .builtin .append, args := #[s, x], argTypes := #[23, 23] }) {F : Nat → Prop} {Bx B : Nat} {vw vn vf : Value} {W N : List (List Int)} {D : List Int}
    (h : GrAt F w Bx B vw vn vf W N D) (hB : B ≤ w.heap.size) (hs : a.eval s = vf) (d : Int) (E : TypeId) (hx : a.eval x = .slice (some ⟨w.heap.size, 0, none⟩) 1 1) (hsm : D.length ≤ 1000)
    (hK : ∀ v' w', (∃ g k, v' = .slice (some ⟨g, 0, none⟩) (D.length + 1) k) → w'.cell? ⟨Bx, 2, none⟩ = some vf → w'.frozen? ⟨Bx, 2, none⟩ = false → GrAt (orB F v') (w'.setCell ⟨Bx, 2, none⟩ v') Bx B vw vn v' W N (D ++ [d]) → Kept F w (w'.setCell ⟨Bx, 2, none⟩ v') →
      (∀ b, b < w.heap.size → orB F v' b → F b) → (v'.ownBlock = vf.ownBlock ∨ v'.ownBlock = some (w.heap.size + 1)) → Kept (fun b => vf.ownBlock = some b ∨ b = Bx) w (w'.setCell ⟨Bx, 2, none⟩ v') → K (a.put o.dst v') w') :
    if Region.wanted o (yielded ops a.tmps) = true then Oper.wp Tryz.prog o a (w.alloc (.cells #[.int .i64 d] E)) K Q else E' := by
  have hw : Region.wanted o (yielded ops a.tmps) = true := by simp [Region.wanted, hgd]
  rw [if_pos hw]
  obtain ⟨i0, hi0, hz0, hz1, hz2⟩ := info_parts Tryz.infoInt
  have hb := below_alloc w (.cells #[.int .i64 d] E)
  obtain ⟨v', w', hrun, k1, k2, _, k4⟩ := run_append_own_at (P := Tryz.prog) _ B 23 o.type 3 i0 _ 1 8 Tryz.underlying23 hi0 hz0 hz1 hz2 rfl (by omega) vf D.length (D.map (Value.int .i64)) (own_grown h.far hb) ⟨w.heap.size, 0, none⟩ 1 1 [.int .i64 d] rfl (cell_one_new _ _ _) (by simp [Value.oneCell'])
    (by unfold maxLen; omega) (by omega) (by simp; omega)
  obtain ⟨r1, r2⟩ := h.dist hb (d := d) (by rw [List.map_append]; exact k1) k2 k4
  have hbx := h.box_after hb h.far (by decide) k2
  unfold Oper.wp
  simp [execOp, ho, resolve, invoke, builtin, hs, hx, hrun, Result.andThen]
  exact hK v' w' (own_slice k1 (by omega)) (by rw [Go.Joins.cell_of_block hbx]; rfl) (Go.Joins.unfrozen_of_block hbx 2) r1 r2 (Grew.old ⟨hb, k2, k4, h.ff⟩ (Bx := Bx) (B := B)) (by simpa using k4) (Grew.kept3 ⟨hb, k2, k4, h.ff⟩ (Bx := Bx) (B := B) 2)
/-- no word is further away than its number -/
def FarOk (D : List Int) : Prop := ∀ j, j < D.length → 0 ≤ D.getD j 0 ∧ D.getD j 0 ≤ j
theorem FarOk.push {D : List Int} (h : FarOk D) {i : Nat} (hi : i < D.length) : FarOk (D ++ [D.getD i 0 + 1]) := fun j hj => by
  have h1 := h i hi
  by_cases e : j < D.length
  · have h2 := h j e
    rw [show (D ++ [D.getD i 0 + 1]).getD j 0 = D.getD j 0 by simp only [List.getD]; rw [List.getElem?_append_left e]]
    exact h2
  · have hj' : j = D.length := by simp at hj; omega
    subst hj'
    rw [show (D ++ [D.getD i 0 + 1]).getD D.length 0 = D.getD i 0 + 1 by simp [List.getD]]
    omega
theorem FarOk.one : FarOk [0] := fun j hj => by
  have : j = 0 := by simp at hj; omega
  subst this; exact ⟨Int.le_refl _, Int.le_refl _⟩
theorem prefix_getD {D D2 : List Int} (h : D <+: D2) {i : Nat} (hi : i < D.length) : D2.getD i 0 = D.getD i 0 := by
  obtain ⟨t, rfl⟩ := h
  simp only [List.getD]; rw [List.getElem?_append_left hi]
theorem drop_getD {vs : List (List Int)} {k : Nat} (hk : k < vs.length) : vs.drop k = vs.getD k [] :: vs.drop (k + 1) := by
  rw [List.drop_eq_getElem_cons hk]; simp [List.getD, List.getElem?_eq_getElem hk]
theorem inF_old {d : Int} {W : List (List Int)} {D r : List Int} {vs : List (List Int)} {k j : Nat} (hk : k < vs.length) (hf : findW W (vs.getD k []) = some j) : inF d W D r (vs.drop k) = inF d W D (r ++ [(j : Int)]) (vs.drop (k + 1)) := by
  rw [drop_getD hk, inF, hf]
theorem inF_full {d : Int} {W : List (List Int)} {D r : List Int} {vs : List (List Int)} {k : Nat} (hk : k < vs.length) (hf : findW W (vs.getD k []) = none) (h3 : W.length = 300) : inF d W D r (vs.drop k) = none := by
  rw [drop_getD hk, inF, hf]; simp [h3]
theorem inF_new {d : Int} {W : List (List Int)} {D r : List Int} {vs : List (List Int)} {k : Nat} (hk : k < vs.length) (hf : findW W (vs.getD k []) = none) (h3 : W.length ≠ 300) : inF d W D r (vs.drop k) = inF d (W ++ [vs.getD k []]) (D ++ [d + 1]) (r ++ [(W.length : Int)]) (vs.drop (k + 1)) := by
  rw [drop_getD hk, inF, hf]; simp [h3]
theorem outF_step {L : List Rl} {f : Nat} {x : Fd} {i : Nat} (hi : i < x.words.length) : outF L (f + 1) x i = (inF (x.far.getD i 0) x.words x.far [] (resNext L (x.words.getD i []))).bind fun s => outF L f ⟨s.1, x.next ++ [s.2.2], s.2.1⟩ (i + 1) := by
  rw [outF, if_pos hi]
theorem outF_end {L : List Rl} {f : Nat} {x : Fd} {i : Nat} (hi : ¬ i < x.words.length) : outF L (f + 1) x i = some x := by
  rw [outF, if_neg hi]
end Go.Proofs.YtebbmhlkdfmmcaaGreat
namespace Go.Proofs.YtebbmhlkdfmmcaaGreat
open Go.RowKit Go.Proofs.Kv

/-! ### reached -/
def ReachedPost (L : List Rl) (l : List Int) (w : World) (e : Ending) (w' : World) : Prop :=
  match reachedF L l with
  | some y => ∃ F Bx aw cw an cn af cf, e = .returned (.tuple #[.agg #[.slice aw y.words.length cw, .slice an y.next.length cn, .slice af y.far.length cf], .bool true]) ∧ GrAt F w' Bx w.heap.size (.slice aw y.words.length cw) (.slice an y.next.length cn) (.slice af y.far.length cf) y.words y.next y.far ∧ Below w.heap.size w w'
  | none => e = .returned (.tuple #[.agg #[.slice none 0 0, .slice none 0 0, .slice none 0 0], .bool false]) ∧ Below w.heap.size w w'
/-- what stands while the words are gone through -/
def OutInv (L : List Rl) (l : List Int) (w : World) (Bx i : Nat) (wr : World) : Prop :=
  ∃ F vw vn vf W N D, GrAt F wr Bx (w.heap.size + 1) vw vn vf W N D ∧ FdOk L l W D ∧ FarOk D ∧ N.length = i ∧ i ≤ W.length ∧ reachedF L l = outF L (301 - i) ⟨W, N, D⟩ i ∧ Below w.heap.size w wr ∧ wr.heap[w.heap.size]? = some (.cells #[.slice none 0 0, .slice none 0 0, .slice none 0 0] 54 (0, 0))
/-- .. and while the words that come next are gone through -/
def InInv (L : List Rl) (l : List Int) (d : Int) (M W0 : List (List Int)) (D0 : List Int) (N : List (List Int)) (w5 : World) (F5 : Nat → Prop) (B Bx k : Nat) (v8 : Value) (wr : World) : Prop :=
  ∃ F vw vn vf W D r, GrAt F wr Bx B vw vn vf W N D ∧ FdOk L l W D ∧ FarOk D ∧ W0 <+: W ∧ D0 <+: D ∧ inF d W0 D0 [] M = inF d W D r (M.drop k) ∧ r.length ≤ k ∧ wr.ownsRow w5.heap.size 3 1 v8 r.length (r.map (Value.int .i64)) ∧ (∀ b, v8.ownBlock = some b → F b) ∧ (∀ b, v8.ownBlock = some b → vf.ownBlock ≠ some b) ∧ (∀ b, b < w5.heap.size → F b → F5 b) ∧ Kept F5 w5 wr
theorem _root_.Go.Proofs.Kv.OwnLQ.cellsQ {Q : Nat → Prop} {E : TypeId} {w : World} {B : Nat} {v : Value} {L : List (List Int)} (h : OwnLQ Q E w B v L) {k : Nat} (hk : k < L.length) :
    ∃ g c a n c', v = .slice (some ⟨g, 0, none⟩) L.length c ∧ B ≤ g ∧ g < w.heap.size ∧ w.cell? ⟨g, k, none⟩ = some (.slice a n c') ∧ IntsAt w a n c' (L.getD k []) ∧ ∀ b off, 0 < n → a = some ⟨b, off, none⟩ → Q b := by
  obtain ⟨vs, h1, h2⟩ := h.has
  obtain ⟨g, c, rfl⟩ := own_slice h1 (by omega)
  obtain ⟨a, n, c', e, hI, hd⟩ := h2 k hk
  have hc := h1.cells (g := g) rfl k _ e
  rw [inQ_add, Nat.zero_add] at hc
  exact ⟨g, c, a, n, c', rfl, (h1.lt g rfl).1, (h1.lt g rfl).2, hc, hI, fun b off hn ha => (hd b off hn ha).2⟩
theorem GrAt.wordAt {F : Nat → Prop} {w : World} {Bx B : Nat} {vw vn vf : Value} {W N : List (List Int)} {D : List Int} (h : GrAt F w Bx B vw vn vf W N D) {k : Nat} (hk : k < W.length) :
    ∃ g c a n c', vw = .slice (some ⟨g, 0, none⟩) W.length c ∧ g < w.heap.size ∧ w.cell? ⟨g, k, none⟩ = some (.slice a n c') ∧ IntsAt w a n c' (W.getD k []) := by
  obtain ⟨vs, h1, h2⟩ := h.words
  have hvl : vs.length = W.length := by have := h1.1; simpa using this
  obtain ⟨g, c, rfl⟩ := own_slice h1 (by omega)
  have hv : vs[k]? = some vs[k] := List.getElem?_eq_getElem (by omega)
  obtain ⟨a, n, c', e, hI, hd⟩ := h2 k _ hv
  have hc := h1.cells (g := g) rfl k _ hv
  rw [inQ_add, Nat.zero_add, e] at hc
  exact ⟨g, c, a, n, c', rfl, (h1.lt g rfl).2, hc, hI⟩
theorem noInts3s {u0 u1 u2 : Option Addr} {n0 c0 n1 c1 n2 c2 : Nat} : ∀ (i : Nat) (x : Int), (#[.slice u0 n0 c0, .slice u1 n1 c1, .slice u2 n2 c2] : Array Value)[i]? ≠ some (.int .i64 x) := fun i x => by
  match i with
  | 0 => simp
  | 1 => simp
  | 2 => simp
  | i + 3 => simp
theorem next_ok {L : List Rl} {l : List Int} (hs : validS L = 0) {W : List (List Int)} {D : List Int} (h : FdOk L l W D) {i : Nat} (hi : i < W.length) : ∀ v ∈ resNext L (W.getD i []), validW v = 0 ∧ Rch L l v := fun v hv => by
  have hmem := getD_mem' hi
  obtain ⟨m, hm, rfl⟩ := (mem_resNext hs (h.ok _ hmem)).1 hv
  exact ⟨moves_valid (validS_ok hs).2 (h.ok _ hmem) m hm, (h.rch _ hmem).tail hm⟩
theorem resNext_le {L : List Rl} {l : List Int} (he : errSW L [l] = 0) : (resNext L l).length ≤ 54 := by
  have h1 := foldI_le ((movesL L l).map (·.2))
  have h2 := movesL_le L he
  rw [List.length_map] at h1
  rw [resNext, if_pos he]; unfold foldI at h1 ⊢; omega
set_option maxRecDepth 100000 in
set_option maxHeartbeats 8000000 in
theorem reached_calls (A : Option Addr) (N0 C : Nat) (L : List Rl) (a : Option Addr) (n c : Nat) (l : List Int) (w : World) (h : RulesAt w A N0 C L) (hI : IntsAt w a n c l) (he : errSW L [l] = 0) :
    Calls Tryz.prog 50 #[.slice A N0 C, .slice a n c] w (ReachedPost L l w) := by
  obtain ⟨hs, hl⟩ := errSW_ok' he
  have HPost : Hid (∀ e w', ReachedPost L l w e w' = (match reachedF L l with
    | some y => ∃ F Bx aw cw an cn af cf, e = .returned (.tuple #[.agg #[.slice aw y.words.length cw, .slice an y.next.length cn, .slice af y.far.length cf], .bool true]) ∧ GrAt F w' Bx w.heap.size (.slice aw y.words.length cw) (.slice an y.next.length cn) (.slice af y.far.length cf) y.words y.next y.far ∧ Below w.heap.size w w'
    | none => e = .returned (.tuple #[.agg #[.slice none 0 0, .slice none 0 0, .slice none 0 0], .bool false]) ∧ Below w.heap.size w w')) := hid_ (fun e w' => rfl)
  obtain ⟨w1, hw1⟩ : ∃ w1, w.alloc (.cells #[.slice none 0 0, .slice none 0 0, .slice none 0 0] 54) = w1 := ⟨_, rfl⟩
  obtain ⟨w2, hw2⟩ : ∃ w2, w1.alloc (.cells #[.slice a n c] 23) = w2 := ⟨_, rfl⟩
  obtain ⟨w3, hw3⟩ : ∃ w3, w2.alloc (.cells #[.int .i64 0] 3) = w3 := ⟨_, rfl⟩
  obtain ⟨w4, hw4⟩ : ∃ w4, w3.alloc (.cells #[.slice (some ⟨w.heap.size + 1, 0, none⟩) 1 1, .slice none 0 0, .slice (some ⟨w.heap.size + 1 + 1, 0, none⟩) 1 1] 54) = w4 := ⟨_, rfl⟩
  have z1 : w1.heap.size = w.heap.size + 1 := by rw [← hw1]; simp
  have z2 : w2.heap.size = w.heap.size + 1 + 1 := by rw [← hw2, ← z1]; simp
  have z3 : w3.heap.size = w.heap.size + 1 + 1 + 1 := by rw [← hw3, ← z2]; simp
  have z4 : w4.heap.size = w.heap.size + 1 + 1 + 1 + 1 := by rw [← hw4, ← z3]; simp
  have c01 : Below w.heap.size w w1 := by rw [← hw1]; exact below_alloc _ _
  have c12 : Below w1.heap.size w1 w2 := by rw [← hw2]; exact below_alloc _ _
  have c23 : Below w2.heap.size w2 w3 := by rw [← hw3]; exact below_alloc _ _
  have c34 : Below w3.heap.size w3 w4 := by rw [← hw4]; exact below_alloc _ _
  have c24 : Below w2.heap.size w2 w4 := c23.trans (c34.mono c23.size)
  have c14 : Below w1.heap.size w1 w4 := c12.trans (c24.mono c12.size)
  have c04 : Below w.heap.size w w4 := c01.trans (c14.mono c01.size)
  have o2 : w2.ownsRow (w.heap.size + 1) 23 1 (.slice (some ⟨w.heap.size + 1, 0, none⟩) 1 1) 1 [.slice a n c] := by
    rw [← hw2, ← z1]; exact World.ownsRow_lit (base := w1.heap.size) (e := 23) (size := 1) w1 #[.slice a n c] 1 (Nat.le_refl _) (by unfold maxLen; omega) rfl
  have o3 : w3.ownsRow (w.heap.size + 1) 3 1 (.slice (some ⟨w.heap.size + 1 + 1, 0, none⟩) 1 1) 1 [.int .i64 0] := by
    rw [← hw3, ← z2]; exact World.ownsRow_lit (base := w.heap.size + 1) (e := 3) (size := 1) w2 #[.int .i64 0] 1 (by omega) (by unfold maxLen; omega) rfl
  have b4 : w4.heap[w.heap.size + 1 + 1 + 1]? = some (.cells #[.slice (some ⟨w.heap.size + 1, 0, none⟩) 1 1, .slice none 0 0, .slice (some ⟨w.heap.size + 1 + 1, 0, none⟩) 1 1] 54 (0, 0)) := by rw [← hw4, ← z3]; exact heap_alloc_at _ _
  have b0 : w4.heap[w.heap.size]? = some (.cells #[.slice none 0 0, .slice none 0 0, .slice none 0 0] 54 (0, 0)) := (c14.block _ (by omega)).trans (by rw [← hw1]; exact heap_alloc_at _ _)
  have HG4 : Hid (GrAt (fun b => w.heap.size + 1 ≤ b ∧ b < w4.heap.size) w4 (w.heap.size + 1 + 1 + 1) (w.heap.size + 1) (.slice (some ⟨w.heap.size + 1, 0, none⟩) 1 1) (.slice none 0 0) (.slice (some ⟨w.heap.size + 1 + 1, 0, none⟩) 1 1) [l] [] [0]) := hid_
    ⟨b4, ⟨_, own_grown o2 c24, fun i u hu => by
      have hi : i = 0 := by
        rcases i with _ | i
        · rfl
        · simp at hu
      subst hi
      simp at hu; subst hu
      exact ⟨a, n, c, rfl, hI.below c04 (Nat.le_refl _), fun b off hn ha hf => by have := hI.lt hn ha; omega⟩⟩, ⟨[], World.ownsRow_nil _ _ _ _, fun i u hu => by simp at hu⟩,
      own_grown o3 c34, fun b hb hb2 => (by cases hb2), (by constructor <;> omega), fun b hb => (by injection hb with hb; change w.heap.size + 1 = b at hb; constructor <;> omega), fun b hb => (by cases hb), fun b hb => (by injection hb with hb; change w.heap.size + 1 + 1 = b at hb; constructor <;> omega), fun b hb => hb⟩
  have HOk : Hid (FdOk L l [l] [0]) := hid_ ⟨by simp, rfl, by simp, fun u hu => by rw [List.mem_singleton] at hu; subst hu; exact hl, fun u hu => by rw [List.mem_singleton] at hu; subst hu; exact .refl _⟩
  have HI0 : Hid (OutInv L l w (w.heap.size + 1 + 1 + 1) 0 w4) := hid_ ⟨_, _, _, _, _, _, _, HG4.out, HOk.out, FarOk.one, rfl, Nat.zero_le _, rfl, c04, b0⟩
  have HR := hid_ (fun W (hW : Below w.heap.size w W) => h.below hW (Nat.le_refl _))
  have Hs := hid_ hs
  have Hw1 := hid_ hw1; have Hw2 := hid_ hw2; have Hw3 := hid_ hw3; have Hw4 := hid_ hw4
  clear hw1 hw2 hw3 hw4 z1 z2 z3 z4 c01 c12 c23 c34 c24 c14 c04 o2 o3 b4 b0 HG4 HOk h hI hs hl he
  go_enter Tryz.func50, Tryz.ntmps50
  go_wp2_with fail
  rw [Hw1.out, Hw2.out, Hw3.out, Hw4.out]
  go_loopw [7] (fun i wr => ∃ k : Nat, i = .int .i64 k ∧ OutInv L l w (w.heap.size + 1 + 1 + 1) k wr) (fun i _ => 301 - (intOf i).toNat)
  case atStart => exact ⟨0, rfl, HI0.out⟩
  case round =>
    obtain ⟨i, rfl, F, vw, vn, vf, W, N, D, hG, hok, hfar, hN, hiW, hout, hbw, hbox⟩ := hrel
    by_cases hlt : i < W.length
    · obtain ⟨g1, cw, a1, n1, c1, rfl, hg1, hcell, hI1⟩ := hG.wordAt hlt
      obtain ⟨c0, -, -, cf⟩ := hG.cells
      have hmem := getD_mem' hlt
      have hne : errSW L [W.getD i []] = 0 := errSW_one Hs.out (hok.ok _ hmem)
      have HNx := hid_ (r3nextQ_calls A N0 C L a1 n1 c1 (W.getD i []) wr (HR.out wr hbw) hI1 hne)
      have HM54 := hid_ (resNext_le hne)
      have HMok := hid_ (next_ok Hs.out hok hlt)
      have Hstep : Hid (reachedF L l = (inF (D.getD i 0) W D [] (resNext L (W.getD i []))).bind fun s => outF L (300 - i) ⟨s.1, N ++ [s.2.2], s.2.1⟩ (i + 1)) := hid_ (by rw [hout, show 301 - i = (300 - i) + 1 by have := hok.le; omega, outF_step hlt])
      generalize resNext L (W.getD i []) = M at *
      obtain ⟨d, hd⟩ : ∃ d, D.getD i 0 = d := ⟨_, rfl⟩
      rw [hd] at Hstep
      have Hd := hid_ hd
      clear hd
      have HG := hid_ hG; have Hok := hid_ hok; have Hbw := hid_ hbw; have Hbox := hid_ hbox; have HN := hid_ hN
      have hi3 : i < 300 := by have := hok.le; omega
      clear hG hok hbw hbox hout hne hmem hI1 hN
      go_wp2_with (go_at_call 67; (with_reducible refine HNx.out.mono ?_); rintro e w5 ⟨v9, rfl, hO9, hb5⟩; obtain ⟨a9, c9, rfl, -⟩ := hO9.at_; have HO9 := hid_ hO9; have Hb5 := hid_ hb5; clear hO9 hb5)
      clear c0 hcell cf
      obtain ⟨wo, rfl⟩ : ∃ wo, wo = wr := ⟨_, rfl⟩
      have hM54 := HM54.out
      go_loopw [8, 10] (fun v8 i2 wr2 => ∃ k : Nat, k ≤ M.length ∧ i2 = .int .i64 k ∧ InInv L l (d) M W D N w5 F (w.heap.size + 1) (w.heap.size + 1 + 1 + 1) k v8 wr2) (fun _ i2 _ => M.length - (intOf i2).toNat)
      case atStart => exact ⟨0, Nat.zero_le _, rfl, F, _, vn, vf, W, D, [], HG.out.below Hb5.out, Hok.out, hfar, List.prefix_refl _, List.prefix_refl _, rfl, Nat.zero_le _, World.ownsRow_nil _ _ _ _, fun b hb => (by cases hb), fun b hb => (by cases hb), fun b _ h => h, Kept.refl _ _⟩
      case round =>
        obtain ⟨k, hk, rfl, F2, vw2, vn2, vf2, W2, D2, r, hG2, hok2, hfar2, hW2, hD2, hin, hr, hr8, h8F, h8f, hF2, hK2⟩ := hrel
        obtain ⟨j0, hj0, hy0, hy1, hy2⟩ := info_parts Tryz.infoInt
        have hw300 := hok2.le
        have hnF : ∀ b, wo.heap.size ≤ b → ¬ F b := fun b h1 h3 => by have := (HG.out.lim b h3).2; omega
        have hB2 : w.heap.size + 1 ≤ wr.heap.size := by have := (hG2.lim _ hG2.fx); omega
        have hbx : wr.heap[w.heap.size]? = some (.cells #[.slice none 0 0, .slice none 0 0, .slice none 0 0] 54 (0, 0)) :=
          (hK2.block _ (Nat.lt_of_lt_of_le (Go.lt_of_block Hbox.out) Hb5.out.size) fun hf => by have := (HG.out.lim _ hf).1; omega).trans ((Hb5.out.block _ (Go.lt_of_block Hbox.out)).trans Hbox.out)
        have o0 := Go.Joins.cell_of_block hbx (i := 0); have o1 := Go.Joins.cell_of_block hbx (i := 1); have o2 := Go.Joins.cell_of_block hbx (i := 2); have of_ := fun i => Go.Joins.unfrozen_of_block hbx i
        have Hbx := hid_ hbx
        have Hfin : Hid (Below w.heap.size w wr) := hid_ (Hbw.out.trans ((Hb5.out.mono Hbw.out.size).trans (hK2.below (Nat.le_trans Hbw.out.size Hb5.out.size) fun b hb => by have := (HG.out.lim b hb).1; omega)))
        clear hbx
        by_cases hlt2 : k < M.length
        · obtain ⟨aw, cw2, rfl, hLW⟩ := hG2.ownL.at_
          obtain ⟨a8, c8, rfl⟩ := own_any hr8
          have hDl : D2.length = W2.length := hok2.same
          have hWl := hW2.length_le
          have hDi : i < D.length := by rw [Hok.out.same]; exact hlt
          obtain ⟨gf, kf, rfl⟩ := own_slice hG2.far (by omega)
          have hdi := (prefix_getD hD2 hDi).trans Hd.out
          have hdb := hfar2 i (by omega)
          rw [hdi] at hdb
          have HDi := hid_ hdi; have HDl := hid_ hDl
          clear hdi hDl
          have hB5 : w.heap.size + 1 ≤ w5.heap.size := by have := Hb5.out.size; have := (HG.out.lim _ HG.out.fx); omega
          obtain ⟨c0, -, c2, cf⟩ := hG2.cells
          obtain ⟨g9, c9', a9', n9, c9'', e, hge, hglt, hc9, hI9, hQ9⟩ := HO9.out.cellsQ hlt2
          injection e with e1 _ e3
          subst e1; subst e3
          have hc9r := hK2.cell hc9 (hnF g9 hge)
          have hI9r := hI9.kept hK2 fun b off hn ha => hnF b (hQ9 b off hn ha)
          have HU : Hid (WordF F2 wr (.slice a9' n9 c9'') (M.getD k [])) := hid_ ⟨a9', n9, c9'', rfl, hI9r, fun b off hn ha hf => hnF b (hQ9 b off hn ha) (hF2 b (hI9.lt hn ha) hf)⟩
          have HF := hid_ (fun q => find_calls _ _ _ W2 _ _ _ (M.getD k []) _ (hLW.drewN q) (hI9r.drewN q))
          have Hv := hid_ (HMok.out (M.getD k []) (getD_mem' hlt2))
          have Hfar2 := hid_ hfar2; have HG2 := hid_ hG2; have Hok2 := hid_ hok2; have Hr8 := hid_ hr8; have H8F := hid_ h8F; have H8f := hid_ h8f; have HF2 := hid_ hF2; have HK2 := hid_ hK2; have Hin := hid_ hin; have HW2 := hid_ hW2; have HD2 := hid_ hD2
          clear hfar2 hG2 hok2 hr8 h8F h8f hF2 hK2 hI9 hI9r hQ9 hc9 hLW hin hW2 hD2
          cases hf : findW W2 (M.getD k []) with
          | some j =>
            have hfn : findN W2 (M.getD k []) = (j : Int) := by rw [findN, hf]
            rw [hfn] at HF
            have hj := (findW_some hf).1
            have Hin2 := hid_ (inF_old (d := d) (D := D2) (r := r) hlt2 hf)
            have hj0' : ¬ (j : Int) < 0 := by omega
            clear hf hfn
            go_wp2_with fail
            go_quiet ((go_at_call 63; exact quiet_more (HF.out _)))
            go_wp2_with (at_builtin; refine wpList_append_ints _ rfl (.tmp 71) (.tmp 73) 23 rfl w5.heap.size 3 j0 Tryz.underlying23 hj0 hy0 hy1 hy2 (.slice a8 r.length c8) r.length r rfl (own_grown (own_drewN Hr8.out _) (below_alloc _ _)) (some ⟨(wr.drewN nq).heap.size, 0, none⟩) 1 1 [(j : Int)] rfl (IntsAt.one _ _ _) (by omega) (Nat.le_trans HK2.out.size (by simp)) ?_; intro v7 w7 k1 k2 k3)
            have hb7 : Below wr.heap.size wr ((wr.drewN nq).alloc (.cells #[.int .i64 (j : Int)] 3)) := (below_drewN (Below.refl _ _) nq).alloc (Nat.le_refl _) _
            obtain ⟨q1, q2, q3, q4⟩ := HG2.out.beside Hr8.out H8F.out H8f.out hb7 k2 k3 k1 hB5
            go_roundw
            case rel => exact ⟨k + 1, by omega, by go_num, _, _, vn2, _, W2, D2, r ++ [(j : Int)], q1, Hok2.out, Hfar2.out, HW2.out, HD2.out, Hin.out.trans Hin2.out, by simp; omega, by rw [List.length_append]; exact k1, fun b e => .inr e, q4, fun b hb hf => HF2.out b hb (q3 b (Nat.lt_of_lt_of_le hb HK2.out.size) hf), HK2.out.trans q2 (fun _ _ h => h) (fun b hb hf => HF2.out b hb hf)⟩
            case measure => simp [intOf]; omega
          | none =>
            have hfn : findN W2 (M.getD k []) = -1 := by rw [findN, hf]
            rw [hfn] at HF
            by_cases h300 : W2.length = 300
            · have Hr : Hid (reachedF L l = none) := hid_ (by rw [Hstep.out, Hin.out, inF_full hlt2 hf h300]; rfl)
              rw [h300] at c0 HF
              have hfin := Hfin.out
              clear hf hfn
              go_wp2_with fail
              go_quiet ((go_at_call 63; exact quiet_more (HF.out _)))
              go_wp2
              refine bodyPost_ret (v := .tuple #[.agg #[.slice none 0 0, .slice none 0 0, .slice none 0 0], .bool false]) (by simp [results, Tryz.results50, go_sem, o0, o1, o2]) rfl ?_
              rw [HPost.out, Hr.out]
              exact ⟨rfl, below3 (below_drewN hfin nq) _ (Nat.le_refl _) _ _ _⟩
            · have h300' : ¬ (W2.length : Int) = 300 := by omega
              have Hin2 := hid_ (inF_new (d := d) (D := D2) (r := r) hlt2 hf h300)
              have Hn := hid_ (findW_none.1 hf)
              have HGd := hid_ (fun q => HG2.out.below (below_drewN (Below.refl _ wr) q))
              have HUd := hid_ (fun q => HU.out.kept (F' := F2) (below_drewN (Below.refl _ wr) q).kept (fun _ _ h => h) (fun _ _ h => h))
              have hBx := (HG2.out.lim _ HG2.out.fx).2
              clear hf hfn h300
              go_wp2_with fail
              go_quiet ((go_at_call 63; exact quiet_more (HF.out _)))
              go_wp2
              have c0a : ((wr.drewN (nq + 1)).alloc (.cells #[.slice a9' n9 c9''] 23)).cell? ⟨w.heap.size + 1 + 1 + 1, 0, none⟩ = some (.slice aw W2.length cw2) := cell_below c0 ((below_drewN (Below.refl _ wr) (nq + 1)).alloc (Nat.le_refl _) _)
              go_region_law (refine step_gr_word rfl (.tmp 52) (.tmp 57) rfl (HGd.out _) hB2 rfl (HUd.out _) _ rfl (by omega) ?_; rintro v3 w3 ⟨g3, k3, rfl⟩ p0 pf hG3 hK3 hs3 hL3)
              all_goals
                obtain ⟨wA, hwA⟩ : ∃ wA, w3.setCell ⟨w.heap.size + 1 + 1 + 1, 0, none⟩ (.slice (some ⟨g3, 0, none⟩) (W2.length + 1) k3) = wA := ⟨_, rfl⟩
                rw [hwA] at hG3 hK3 hL3 ⊢
                clear p0 pf hwA
                have hr8A := ownsRow_kept (own_drewN Hr8.out (nq + 1)) hL3 fun b hb e => e.elim (fun e => own_apart (HGd.out (nq + 1)).words.choose_spec.1 (own_drewN Hr8.out (nq + 1)) (by decide) e hb) fun e => (HGd.out (nq + 1)).box_apart (own_drewN Hr8.out (nq + 1)) (by decide) (e ▸ hb)
                obtain ⟨-, -, p2, pf⟩ := hG3.cells
                have hfc := hG3.far.cells (g := gf) rfl i (.int .i64 (d)) (by rw [List.getElem?_map, List.getElem?_eq_getElem (by rw [HDl.out]; omega)]; simp only [Option.map_some]; congr 2; rw [← HDi.out]; simp [List.getD, List.getElem?_eq_getElem (show i < D2.length by rw [HDl.out]; omega)])
                rw [inQ_add, Nat.zero_add] at hfc
                have hBA : w.heap.size + 1 ≤ wA.drew.heap.size := Nat.le_trans hB2 hK3.size
                have hWA : (W2 ++ [M.getD k []]).length = W2.length + 1 := by simp
                have hxA := (hG3.lim _ hG3.fx).2
                have HGA := hid_ (hG3.below (below_drew1 (Below.refl _ _)))
                have HG3 := hid_ hG3; have HK3 := hid_ hK3; have HS3 := hid_ hs3; have Hr8A := hid_ hr8A
                have p2a : (wA.drew.alloc (.cells #[.int .i64 (d + 1)] 3)).cell? ⟨w.heap.size + 1 + 1 + 1, 2, none⟩ = some (.slice (some ⟨gf, 0, none⟩) D2.length kf) := cell_below p2 ((below_drew1 (Below.refl _ _)).alloc (Nat.le_refl _) _)
                clear hG3 hK3 hs3 hL3 hr8A
                have hD3 : i < D2.length := by rw [HDl.out]; omega
                have hD4 : D2.length ≤ 1000 := by rw [HDl.out]; omega
                go_wp2_with fail
                have hwd : IntKind.i64.wrap (d + 1) = d + 1 := IntWalk.i64_in _ (by omega)
                go_region_law (refine step_gr_dist rfl (.tmp 61) (.tmp 68) rfl HGA.out hBA rfl _ _ rfl hD4 ?_; rintro v5 w6 ⟨g5, k5, rfl⟩ z0 zf hG5 hK5 hs5 hat5 hL5)
                all_goals
                  clear hwd p2 p2a pf hfc z0 zf
                  obtain ⟨wB, hwB⟩ : ∃ wB, w6.setCell ⟨w.heap.size + 1 + 1 + 1, 2, none⟩ (.slice (some ⟨g5, 0, none⟩) (D2.length + 1) k5) = wB := ⟨_, rfl⟩
                  rw [hwB] at hG5 hK5 hL5 ⊢
                  clear hwB
                  have hr8B := ownsRow_kept (show wA.drew.ownsRow _ _ _ _ _ _ from Hr8A.out) hL5 fun b hb e => e.elim (fun e => H8f.out b hb e) fun e => HGA.out.box_apart (show wA.drew.ownsRow _ _ _ _ _ _ from Hr8A.out) (by decide) (e ▸ hb)
                  have h8f5 : ∀ b, (Value.slice a8 r.length c8).ownBlock = some b → (Value.slice (some ⟨g5, 0, none⟩) (D2.length + 1) k5).ownBlock ≠ some b := fun b hb e => by
                    rcases hat5 with q | q
                    · exact H8f.out b hb (q ▸ e)
                    · rw [e] at q; injection q with q
                      have h1 := (Hr8A.out.lt b hb).2
                      have h2 : wA.drew.heap.size = wA.heap.size := rfl
                      omega
                  have hz1 : w5.heap.size ≤ wr.heap.size := HK2.out.size
                  have hz2 : wr.heap.size ≤ wA.heap.size := HK3.out.size
                  have hz3 : wA.heap.size ≤ wB.heap.size := hK5.size
                  have Hr8B := hid_ hr8B; have H8f5 := hid_ h8f5; have HG5 := hid_ hG5; have HK5 := hid_ hK5; have HS5 := hid_ hs5
                  clear hr8B h8f5 hG5 hK5 hs5 hat5 hL5
                  go_wp2_with (at_builtin; refine wpList_append_ints _ rfl (.tmp 71) (.tmp 73) 23 rfl w5.heap.size 3 j0 Tryz.underlying23 hj0 hy0 hy1 hy2 (.slice a8 r.length c8) r.length r rfl (own_grown Hr8B.out (below_alloc _ _)) (some ⟨wB.heap.size, 0, none⟩) 1 1 [(W2.length : Int)] rfl (IntsAt.one _ _ _) (by omega) (Nat.le_trans (Nat.le_trans hz1 (Nat.le_trans hz2 hz3)) (by simp)) ?_; intro v7 w7 k1 k2 k3)
                  obtain ⟨q1, q2, q3, q4⟩ := HG5.out.beside Hr8B.out (fun b hb => .inl (.inl (H8F.out b hb))) H8f5.out (below_alloc wB (.cells #[.int .i64 (W2.length : Int)] 3)) k2 k3 k1 hB5
                  go_roundw
                  case rel =>
                    refine ⟨k + 1, by omega, by go_num, _, _, vn2, _, W2 ++ [M.getD k []], D2 ++ [d + 1], r ++ [(W2.length : Int)], q1, Hok2.out.push Hv.out.1 Hv.out.2 Hn.out (by omega) _, ?_, HW2.out.trans (List.prefix_append _ _), HD2.out.trans (List.prefix_append _ _), Hin.out.trans Hin2.out, by simp; omega, by rw [List.length_append]; exact k1, fun b e => .inr e, q4, ?_, ?_⟩
                    · have := Hfar2.out.push (i := i) hD3
                      rw [HDi.out] at this; exact this
                    · exact fun b hb hf => HF2.out b hb (HS3.out b (show b < wr.heap.size by omega) (HS5.out b (show b < wA.heap.size by omega) (q3 b (by omega) hf)))
                    · exact ((((HK2.out.next (below_drewN (Below.refl _ wr) (nq + 1))).trans HK3.out (fun _ _ h => h) fun b hb hf => HF2.out b hb hf).next (below_drew1 (Below.refl _ wA))).trans HK5.out (fun _ _ h => h) fun b hb hf => HF2.out b hb (HS3.out b (show b < wr.heap.size by omega) hf)).trans q2 (fun _ _ h => h) fun b hb hf => HF2.out b hb (HS3.out b (show b < wr.heap.size by omega) (HS5.out b (show b < wA.heap.size by omega) hf))
                  case measure => simp [intOf]; omega
        · obtain rfl : k = M.length := by omega
          have hin' : inF (d) W D [] M = some (W2, D2, r) := by rw [hin, List.drop_length]; rfl
          have Hnext : Hid (reachedF L l = outF L (300 - i) ⟨W2, N ++ [r], D2⟩ (i + 1)) := hid_ (by rw [Hstep.out, hin']; rfl)
          obtain ⟨vs2, v1, -⟩ := hG2.words
          obtain ⟨us2, u1, -⟩ := hG2.next
          obtain ⟨an2, cn2, rfl⟩ := own_any u1
          obtain ⟨a8, c8, rfl⟩ := own_any hr8
          obtain ⟨-, c1, -, cf⟩ := hG2.cells
          have hWl := hW2.length_le
          have HGl := hid_ (hG2.less (F' := fun b => F2 b ∧ (Value.slice a8 r.length c8).ownBlock ≠ some b) (fun b h => h.1) ⟨hG2.fx, hG2.box_apart hr8 (by decide)⟩ (fun b e => ⟨hG2.fw b e, own_apart v1 hr8 (by decide) e⟩) (fun b e => ⟨hG2.fn b e, own_apart u1 hr8 (by decide) e⟩) (fun b e => ⟨hG2.ff b e, fun e' => h8f b e' e⟩))
          have HU : Hid (WordF (fun b => F2 b ∧ (Value.slice a8 r.length c8).ownBlock ≠ some b) wr (.slice a8 r.length c8) r) := hid_ (by
            obtain ⟨a', c', e, hi'⟩ := IntsAt.own hr8
            injection e with e1 _ e3
            subst e1; subst e3
            exact ⟨_, _, _, rfl, hi', fun b off hn ha hf => hf.2 (by rw [ha]; rfl)⟩)
          have Hok2 := hid_ hok2; have Hfar2 := hid_ hfar2
          have HlF : Hid (∀ b, F2 b → w.heap.size + 1 ≤ b) := hid_ (fun b hf => (hG2.lim b hf).1)
          have hN3 : N.length ≤ 1000 := by rw [HN.out]; omega
          clear hin hin' hG2 hr8 h8F h8f hF2 hK2 hok2 hfar2 v1 u1 hW2 hD2
          go_wp2_with (at_builtin; refine wpList_gr_link rfl (.tmp 76) (.tmp 78) rfl HGl.out hB2 rfl HU.out _ rfl hN3 ?_; rintro v6 w6 ⟨g6, k6, rfl⟩ y0 yf hG6 hK6 hs6)
          go_roundw
          case rel => exact ⟨i + 1, by go_num, _, _, _, _, W2, N ++ [r], D2, hG6, Hok2.out, Hfar2.out, by simp [HN.out], by omega, (show 301 - (i + 1) = 300 - i by omega) ▸ Hnext.out, Hfin.out.trans (hK6.below Hfin.out.size fun b hf => Nat.le_of_succ_le (HlF.out b hf.1)), (hK6.block _ (Go.lt_of_block Hbx.out) fun hf => by have := HlF.out _ hf.1; omega).trans Hbx.out⟩
          case measure => simp [intOf]; omega
    · have Hr : Hid (reachedF L l = some ⟨W, N, D⟩) := hid_ (by rw [hout, show 301 - i = (300 - i) + 1 by have := hok.le; omega, outF_end hlt])
      obtain ⟨aw, cw, rfl, -⟩ := hG.ownL.at_
      obtain ⟨us, u1, -⟩ := hG.next
      obtain ⟨an, cn, rfl⟩ := own_any u1
      obtain ⟨af, cf', rfl⟩ := own_any hG.far
      obtain ⟨c0, c1, c2, cf⟩ := hG.cells
      have o0 := Go.Joins.cell_of_block hbox (i := 0); have o1 := Go.Joins.cell_of_block hbox (i := 1); have o2 := Go.Joins.cell_of_block hbox (i := 2); have of_ := fun i => Go.Joins.unfrozen_of_block hbox i
      have HG := hid_ hG; have Hbox := hid_ hbox; have Hbw := hid_ hbw
      have hnl : ¬ (i : Int) < (W.length : Int) := by omega
      clear hG hbox hbw hout hok hfar hN u1
      go_wp2
      refine bodyPost_ret (v := .tuple #[.agg #[.slice aw W.length cw, .slice an N.length cn, .slice af D.length cf'], .bool true]) (by simp [results, Tryz.results50, go_sem, o0, o1, o2]) rfl ?_
      rw [HPost.out, Hr.out]
      exact ⟨F, _, aw, cw, an, cn, af, cf', rfl, (HG.out.base (Nat.le_succ _)).other Hbox.out noInts3s (fun hf => by have := (HG.out.lim _ hf).1; omega) (keep3 _ _ _ _ _), below3 Hbw.out _ (Nat.le_refl _) _ _ _⟩
end Go.Proofs.YtebbmhlkdfmmcaaGreat
namespace Go.Proofs.YtebbmhlkdfmmcaaGreat
open Go.RowKit Go.Proofs.Kv

/-! ### graphed and Reach of the document -/
def graphR (L : List Rl) (l : List Int) : Option Fd := if errSW L [l] = 0 then reachedF L l else none
theorem graphR_some {L : List Rl} {l : List Int} {y : Fd} (h : graphR L l = some y) : errWeb L l = 0 ∧ errSW L [l] = 0 ∧ reachedF L l = some y := by
  unfold graphR at h
  by_cases he : errSW L [l] = 0
  · rw [if_pos he] at h
    refine ⟨?_, he, h⟩
    rw [errWeb, if_pos he, (reach_same he).1, h]; rfl
  · rw [if_neg he] at h; cases h
theorem graphR_none {L : List Rl} {l : List Int} (h : graphR L l = none) : errWeb L l ≠ 0 := by
  unfold graphR at h
  by_cases he : errSW L [l] = 0
  · rw [if_pos he] at h
    rw [errWeb, if_pos he, (reach_same he).1, h]; simp
  · rw [errWeb, if_neg he]; exact he
set_option maxRecDepth 100000 in
set_option maxHeartbeats 4000000 in
theorem graphed_good {A : Option Addr} {N C : Nat} {L : List Rl} {a : Option Addr} {n c : Nat} {l : List Int} {w : World} (h : RulesAt w A N C L) (hI : IntsAt w a n c l) {y : Fd} (hy : graphR L l = some y) :
    Calls Tryz.prog 30 #[.slice A N C, .slice a n c] w fun e w' => ∃ F Bx aw cw an cn af cf, e = .returned (.tuple #[.agg #[.slice aw y.words.length cw, .slice an y.next.length cn, .slice af y.far.length cf], .int .i64 0]) ∧
      GrAt F w' Bx w.heap.size (.slice aw y.words.length cw) (.slice an y.next.length cn) (.slice af y.far.length cf) y.words y.next y.far ∧ Below w.heap.size w w' := by
  obtain ⟨_, he, hx⟩ := graphR_some hy
  obtain ⟨w1, hw1⟩ : ∃ w1, w.alloc (.cells #[.slice none 0 0, .slice none 0 0, .slice none 0 0] 54) = w1 := ⟨_, rfl⟩
  have c01 : Below w.heap.size w w1 := by rw [← hw1]; exact below_alloc _ _
  have z1 : w1.heap.size = w.heap.size + 1 := by rw [← hw1]; simp
  have br1 : w1.heap[w.heap.size]? = some (.cells #[.slice none 0 0, .slice none 0 0, .slice none 0 0] 54 (0, 0)) := by rw [← hw1]; exact heap_alloc_at _ _
  have HV0 := worded_calls A N C L a n c l none 0 0 [] w1 (h.below c01 (Nat.le_refl _)) (hI.below c01 (Nat.le_refl _)) (IntsAt.nil _ _ _ (by omega))
  rw [errSW_nil, he] at HV0
  have HV := hid_ HV0
  have HX := hid_ (fun W (hW : Below w1.heap.size w1 W) => (reached_calls A N C L a n c l W ((h.below c01 (Nat.le_refl _)).below hW (Nat.le_refl _)) ((hI.below c01 (Nat.le_refl _)).below hW (Nat.le_refl _)) he).mono fun e w' hp =>
    (by unfold ReachedPost at hp; rw [hx] at hp; exact hp : ∃ F Bx aw cw an cn af cf, e = .returned (.tuple #[.agg #[.slice aw y.words.length cw, .slice an y.next.length cn, .slice af y.far.length cf], .bool true]) ∧ GrAt F w' Bx W.heap.size (.slice aw y.words.length cw) (.slice an y.next.length cn) (.slice af y.far.length cf) y.words y.next y.far ∧ Below W.heap.size W w'))
  have Hbr := hid_ (fun W (hW : Below w1.heap.size w1 W) => (hW.block w.heap.size (by omega)).trans br1)
  have Hc01 := hid_ c01; have Hz1 := hid_ z1; have Hw1 := hid_ hw1
  clear HV0 c01 z1 br1 he hx hy h hI hw1
  go_enter Tryz.func30, Tryz.ntmps30
  go_wp2_with fail
  rw [Hw1.out]
  go_wp2_with (first
    | (go_at_call 41; (with_reducible refine HV.out.mono ?_); rintro e w3 ⟨rfl, hb3⟩)
    | (go_at_call 50; (with_reducible refine (HX.out w3 hb3).mono ?_); rintro e w4 ⟨F, Bx, aw, cw, an, cn, af, cf, rfl, hG4, hb4⟩; have hb5 := below_alloc w4 (.cells #[.slice aw y.words.length cw, .slice an y.next.length cn, .slice af y.far.length cf] 54); have hbr5 := (hb5.block _ (Nat.lt_of_lt_of_le (Go.lt_of_block (Hbr.out w3 hb3)) hb4.size)).trans ((hb4.block _ (Go.lt_of_block (Hbr.out w3 hb3))).trans (Hbr.out w3 hb3)); have o0 := Go.Joins.cell_of_block hbr5 (i := 0); have o1 := Go.Joins.cell_of_block hbr5 (i := 1); have o2 := Go.Joins.cell_of_block hbr5 (i := 2); have of_ := fun i => Go.Joins.unfrozen_of_block hbr5 i))
  have hF4 : ¬ F w.heap.size := fun hh => by have := (hG4.lim _ hh).1; have := hb3.size; have := Hz1.out; omega
  have hfin : Below w.heap.size w w4 := Hc01.out.trans ((hb3.mono Hc01.out.size).trans (hb4.mono (Nat.le_trans Hc01.out.size hb3.size)))
  refine bodyPost_ret (v := .tuple #[.agg #[.slice aw y.words.length cw, .slice an y.next.length cn, .slice af y.far.length cf], .int .i64 0]) (by simp [results, Tryz.results30, go_sem, o0, o1, o2]) rfl ?_
  exact ⟨F, _, aw, cw, an, cn, af, cf, rfl, ((hG4.below hb5).base (Nat.le_trans Hc01.out.size hb3.size)).other hbr5 noInts3s hF4 (keep3 _ _ _ _ _), below3 (hfin.trans (hb5.mono hfin.size)) _ (Nat.le_refl _) _ _ _⟩
set_option maxRecDepth 100000 in
set_option maxHeartbeats 4000000 in
theorem graphed_bad {A : Option Addr} {N C : Nat} {L : List Rl} {a : Option Addr} {n c : Nat} {l : List Int} {w : World} (h : RulesAt w A N C L) (hI : IntsAt w a n c l) (hy : graphR L l = none) :
    Calls Tryz.prog 30 #[.slice A N C, .slice a n c] w fun e w' => e = .returned (.tuple #[.agg #[.slice none 0 0, .slice none 0 0, .slice none 0 0], .int .i64 (errWeb L l)]) ∧ Below w.heap.size w w' := by
  obtain ⟨w1, hw1⟩ : ∃ w1, w.alloc (.cells #[.slice none 0 0, .slice none 0 0, .slice none 0 0] 54) = w1 := ⟨_, rfl⟩
  have c01 : Below w.heap.size w w1 := by rw [← hw1]; exact below_alloc _ _
  have z1 : w1.heap.size = w.heap.size + 1 := by rw [← hw1]; simp
  have br1 : w1.heap[w.heap.size]? = some (.cells #[.slice none 0 0, .slice none 0 0, .slice none 0 0] 54 (0, 0)) := by rw [← hw1]; exact heap_alloc_at _ _
  have HV0 := worded_calls A N C L a n c l none 0 0 [] w1 (h.below c01 (Nat.le_refl _)) (hI.below c01 (Nat.le_refl _)) (IntsAt.nil _ _ _ (by omega))
  rw [errSW_nil] at HV0
  have HV := hid_ HV0
  have Hbr := hid_ (fun W (hW : Below w1.heap.size w1 W) => (hW.block w.heap.size (by omega)).trans br1)
  have Hc01 := hid_ c01; have Hw1 := hid_ hw1
  clear HV0
  by_cases he : errSW L [l] = 0
  · have hx : reachedF L l = none := by rw [graphR, if_pos he] at hy; exact hy
    have hr : errWeb L l = 3 := by rw [errWeb, if_pos he, (reach_same he).1, hx]; simp
    have HX := hid_ (fun W (hW : Below w1.heap.size w1 W) => (reached_calls A N C L a n c l W ((h.below c01 (Nat.le_refl _)).below hW (Nat.le_refl _)) ((hI.below c01 (Nat.le_refl _)).below hW (Nat.le_refl _)) he).mono fun e w' hp =>
      (by unfold ReachedPost at hp; rw [hx] at hp; exact hp : e = .returned (.tuple #[.agg #[.slice none 0 0, .slice none 0 0, .slice none 0 0], .bool false]) ∧ Below W.heap.size W w'))
    rw [he] at HV
    rw [hr]
    clear c01 z1 br1 he hx hy h hI hw1 hr
    go_enter Tryz.func30, Tryz.ntmps30
    go_wp2_with fail
    rw [Hw1.out]
    go_wp2_with (first
      | (go_at_call 41; (with_reducible refine HV.out.mono ?_); rintro e w3 ⟨rfl, hb3⟩)
      | (go_at_call 50; (with_reducible refine (HX.out w3 hb3).mono ?_); rintro e w4 ⟨rfl, hb4⟩; have hb5 := below_alloc w4 (.cells #[.slice none 0 0, .slice none 0 0, .slice none 0 0] 54); have hbr5 := (hb5.block _ (Nat.lt_of_lt_of_le (Go.lt_of_block (Hbr.out w3 hb3)) hb4.size)).trans ((hb4.block _ (Go.lt_of_block (Hbr.out w3 hb3))).trans (Hbr.out w3 hb3)); have o0 := Go.Joins.cell_of_block hbr5 (i := 0); have o1 := Go.Joins.cell_of_block hbr5 (i := 1); have o2 := Go.Joins.cell_of_block hbr5 (i := 2); have of_ := fun i => Go.Joins.unfrozen_of_block hbr5 i))
    have hfin : Below w.heap.size w w4 := Hc01.out.trans ((hb3.mono Hc01.out.size).trans (hb4.mono (Nat.le_trans Hc01.out.size hb3.size)))
    refine bodyPost_ret (v := .tuple #[.agg #[.slice none 0 0, .slice none 0 0, .slice none 0 0], .int .i64 3]) (by simp [results, Tryz.results30, go_sem, o0, o1, o2]) rfl ?_
    exact ⟨rfl, below3 (hfin.trans (hb5.mono hfin.size)) _ (Nat.le_refl _) _ _ _⟩
  · have hr : errWeb L l = errSW L [l] := by rw [errWeb, if_neg he]
    have hq : (errSW L [l] != 0) = true := by simpa using he
    rw [hr]
    generalize errSW L [l] = x at *
    clear c01 z1 br1 he hy h hI hw1 hr
    go_enter Tryz.func30, Tryz.ntmps30
    go_wp2_with fail
    rw [Hw1.out]
    go_wp2_with (go_at_call 41; (with_reducible refine HV.out.mono ?_); rintro e w3 ⟨rfl, hb3⟩; have hbr3 := Hbr.out w3 hb3; have o0 := Go.Joins.cell_of_block hbr3 (i := 0); have o1 := Go.Joins.cell_of_block hbr3 (i := 1); have o2 := Go.Joins.cell_of_block hbr3 (i := 2); have of_ := fun i => Go.Joins.unfrozen_of_block hbr3 i)
    have hfin : Below w.heap.size w w3 := Hc01.out.trans (hb3.mono Hc01.out.size)
    refine bodyPost_ret (v := .tuple #[.agg #[.slice none 0 0, .slice none 0 0, .slice none 0 0], .int .i64 x]) (by simp [results, Tryz.results30, go_sem, o0, o1, o2]) rfl ?_
    exact ⟨rfl, below3 hfin _ (Nat.le_refl _) _ _ _⟩
theorem resReach_eq (L : List Rl) (l : List Int) : resReach L l = match graphR L l with | some y => foldI y.words | none => [] := by
  unfold resReach webR graphR
  by_cases he : errSW L [l] = 0
  · rw [if_pos he, if_pos he]
    obtain ⟨h1, h2⟩ := reach_same he
    cases hx : exploreF L l with
    | none =>
      rw [hx] at h1
      cases hy : reachedF L l with
      | none => rfl
      | some y => rw [hy] at h1; cases h1
    | some x =>
      rw [hx] at h1
      cases hy : reachedF L l with
      | none => rw [hy] at h1; cases h1
      | some y => exact h2 x y hx hy
  · rw [if_neg he, if_neg he]
end Go.Proofs.YtebbmhlkdfmmcaaGreat
