import Derived.Test.YtebbmhlkdfmmcaaGreatJr
namespace Go.Proofs.YtebbmhlkdfmmcaaGreat
open Go.RowKit Go.Proofs.Kv

/-! ### a web in memory -/
theorem own_obj {w : World} {B E size : Nat} {v : Value} {n b : Nat} {xs : List Value} (h : w.ownsRow B E size v n xs) (hb : v.ownBlock = some b) : ∃ cur, w.heap[b]? = some (.cells cur E (0, 0)) := by
  rcases h.2 with ⟨rfl, _⟩ | ⟨g, cap, cur, rfl, _, hg, _⟩
  · cases hb
  · injection hb with hb; subst hb; exact ⟨cur, hg⟩
/-- rows of other kinds lie apart -/
theorem own_apart {w : World} {B B' E E' size size' : Nat} {v v' : Value} {n n' b : Nat} {xs xs' : List Value} (h : w.ownsRow B E size v n xs) (h' : w.ownsRow B' E' size' v' n' xs') (hne : E ≠ E') (hb : v.ownBlock = some b) : v'.ownBlock ≠ some b := fun hb' => by
  obtain ⟨c, e⟩ := own_obj h hb
  obtain ⟨c', e'⟩ := own_obj h' hb'
  rw [e] at e'
  injection e' with e'
  injection e' with _ e2 _
  exact hne e2
def encA (x : (Int × Int) × Nat) : List Value := [.int .i64 x.1.1, .int .i64 x.1.2, .int .i64 (x.2 : Int)]
/-- a slice that holds a word, in memory that is none of F -/
def WordF (F : Nat → Prop) (w : World) (u : Value) (l : List Int) : Prop := ∃ a n c, u = .slice a n c ∧ IntsAt w a n c l ∧ ∀ b off, 0 < n → a = some ⟨b, off, none⟩ → ¬ F b
theorem WordF.kept {F G F' : Nat → Prop} {w w' : World} {u : Value} {l : List Int} (h : WordF F w u l) (hk : Kept G w w') (hG : ∀ b, b < w.heap.size → G b → F b) (hF : ∀ b, b < w.heap.size → F' b → F b) : WordF F' w' u l := by
  obtain ⟨a, n, c, rfl, hi, hd⟩ := h
  exact ⟨a, n, c, rfl, hi.kept hk fun b off hn ha g => hd b off hn ha (hG b (hi.lt hn ha) g), fun b off hn ha g => hd b off hn ha (hF b (hi.lt hn ha) g)⟩
/-- the web with the words W, of which Wn have their numbers in the map, and the arcs A: its box is the block Bx, its map the block Bm; all that is written when it grows are the blocks F -/
structure WebAt (F : Nat → Prop) (w : World) (Bx Bm B : Nat) (vw va : Value) (Wn W : List (List Int)) (A : List (List ((Int × Int) × Nat))) : Prop where
  box : w.heap[Bx]? = some (.cells #[vw, .map (some Bm), va] 49 (0, 0))
  nums : NumsAt w Bm Wn
  words : ∃ vs : List Value, w.ownsRow B 23 1 vw W.length vs ∧ ∀ (i : Nat) (u : Value), vs[i]? = some u → WordF F w u (W.getD i [])
  arcs : ∃ us : List Value, w.ownsRow B 72 1 va A.length us ∧ (∀ (i : Nat) (u : Value), us[i]? = some u → w.ownsRow B 84 3 u (A.getD i []).length ((A.getD i []).flatMap encA) ∧ ∀ b, u.ownBlock = some b → F b) ∧
    ∀ (i j : Nat) (u u' : Value) (b : Nat), us[i]? = some u → us[j]? = some u' → i ≠ j → u.ownBlock = some b → u'.ownBlock ≠ some b
  fx : F Bx
  fm : F Bm
  fw : ∀ b, vw.ownBlock = some b → F b
  fa : ∀ b, va.ownBlock = some b → F b
  lim : ∀ b, F b → B ≤ b ∧ b < w.heap.size
theorem WebAt.next {F : Nat → Prop} {w w' : World} {Bx Bm B : Nat} {vw va : Value} {Wn W : List (List Int)} {A : List (List ((Int × Int) × Nat))} (h : WebAt F w Bx Bm B vw va Wn W A) (hb : Below w.heap.size w w') : WebAt F w' Bx Bm B vw va Wn W A := by
  have hk : Kept (fun _ => False) w w' := hb.kept
  obtain ⟨vs, v1, v2⟩ := h.words
  obtain ⟨us, u1, u2, u3⟩ := h.arcs
  exact ⟨(hb.block _ (h.lim _ h.fx).2).trans h.box, h.nums.block (hb.block _ (h.lim _ h.fm).2), ⟨vs, own_grown v1 hb, fun i u hu => (v2 i u hu).kept hk (fun _ _ g => g.elim) fun _ _ g => g⟩,
    ⟨us, own_grown u1 hb, fun i u hu => ⟨own_grown (u2 i u hu).1 hb, (u2 i u hu).2⟩, u3⟩, h.fx, h.fm, h.fw, h.fa, fun b hb' => ⟨(h.lim b hb').1, Nat.lt_of_lt_of_le (h.lim b hb').2 hb.size⟩⟩
/-- the box lies apart from the rows -/
theorem WebAt.box_apart {F : Nat → Prop} {w : World} {Bx Bm B : Nat} {vw va : Value} {Wn W : List (List Int)} {A : List (List ((Int × Int) × Nat))} (h : WebAt F w Bx Bm B vw va Wn W A) {B' E size n : Nat} {v : Value} {xs : List Value} (ho : w.ownsRow B' E size v n xs) (hE : E ≠ 49) : v.ownBlock ≠ some Bx := fun e => by
  obtain ⟨c, e'⟩ := own_obj ho e
  rw [h.box] at e'
  injection e' with e'; injection e' with _ e2 _
  exact hE e2.symm
theorem WebAt.map_apart {F : Nat → Prop} {w : World} {Bx Bm B : Nat} {vw va : Value} {Wn W : List (List Int)} {A : List (List ((Int × Int) × Nat))} (h : WebAt F w Bx Bm B vw va Wn W A) {B' E size n : Nat} {v : Value} {xs : List Value} (ho : w.ownsRow B' E size v n xs) : v.ownBlock ≠ some Bm := fun e => by
  obtain ⟨c, e'⟩ := own_obj ho e
  obtain ⟨es, cl, e2⟩ := h.nums.obj
  rw [e2] at e'
  cases e'
theorem WebAt.box_map {F : Nat → Prop} {w : World} {Bx Bm B : Nat} {vw va : Value} {Wn W : List (List Int)} {A : List (List ((Int × Int) × Nat))} (h : WebAt F w Bx Bm B vw va Wn W A) : Bx ≠ Bm := fun e => by
  obtain ⟨es, cl, e2⟩ := h.nums.obj
  rw [← e, h.box] at e2
  cases e2
/-- a word's number was put into the map -/
theorem WebAt.num {F : Nat → Prop} {w w' : World} {Bx Bm B : Nat} {vw va : Value} {Wn Wn' W : List (List Int)} {A : List (List ((Int × Int) × Nat))} (h : WebAt F w Bx Bm B vw va Wn W A) (hn : NumsAt w' Bm Wn') (hg : w.grownBy w' (some Bm)) : WebAt F w' Bx Bm B vw va Wn' W A := by
  have hk : Kept (fun b => Bm = b) w w' := (Kept.refl _ _).grown hg fun i _ e => by injection e
  obtain ⟨vs, v1, v2⟩ := h.words
  obtain ⟨us, u1, u2, u3⟩ := h.arcs
  have hG : ∀ b, b < w.heap.size → Bm = b → F b := fun b _ e => e ▸ h.fm
  exact ⟨(hg.block _ (h.lim _ h.fx).2 fun e => h.box_map (by injection e)).trans h.box, hn, ⟨vs, v1.kept hg (.inr (h.map_apart v1)), fun i u hu => (v2 i u hu).kept hk hG fun _ _ g => g⟩,
    ⟨us, u1.kept hg (.inr (h.map_apart u1)), fun i u hu => ⟨(u2 i u hu).1.kept hg (.inr (h.map_apart (u2 i u hu).1)), (u2 i u hu).2⟩, u3⟩, h.fx, h.fm, h.fw, h.fa, fun b hb' => ⟨(h.lim b hb').1, Nat.lt_of_lt_of_le (h.lim b hb').2 hg.size⟩⟩
/-- the blocks of a web when a row has moved -/
def orB (F : Nat → Prop) (v : Value) : Nat → Prop := fun b => F b ∨ v.ownBlock = some b
/-- a word was put behind the others, and the row into the box -/
theorem WebAt.word {F : Nat → Prop} {w w1 w2 : World} {Bx Bm B : Nat} {vw va v' u : Value} {Wn W : List (List Int)} {A : List (List ((Int × Int) × Nat))} {l : List Int} {vs : List Value} (h : WebAt F w Bx Bm B vw va Wn W A) (hb : Below w.heap.size w w1)
    (v1 : w.ownsRow B 23 1 vw W.length vs) (v2 : ∀ i u, vs[i]? = some u → WordF F w u (W.getD i [])) (hu : WordF F w u l)
    (hown : w2.ownsRow B 23 1 v' (W.length + 1) (vs ++ [u])) (hg : w1.grownBy w2 vw.ownBlock) (hat : v'.ownBlock = vw.ownBlock ∨ v'.ownBlock = some w1.heap.size) :
    WebAt (orB F v') (w2.setCell ⟨Bx, 0, none⟩ v') Bx Bm B v' va Wn (W ++ [l]) A ∧ Kept F w (w2.setCell ⟨Bx, 0, none⟩ v') := by
  have h1 := h.next hb
  have hxw : vw.ownBlock ≠ some Bx := h.box_apart v1 (by decide)
  have hk12 : Kept (fun b => vw.ownBlock = some b) w w2 := (hb.kept (F := fun b => vw.ownBlock = some b)).grown hg fun _ _ e => e
  have hk : Kept (fun b => vw.ownBlock = some b ∨ b = Bx) w (w2.setCell ⟨Bx, 0, none⟩ v') := (hk12.mono fun _ _ e => .inl e).setCell (fun _ => .inr rfl) _
  have hG : ∀ b, b < w.heap.size → (vw.ownBlock = some b ∨ b = Bx) → F b := fun b _ e => e.elim (h.fw b) fun e => e ▸ h.fx
  have hnew : ∀ b, b < w.heap.size → orB F v' b → F b := fun b hlt e => e.elim id fun e => by
    rcases hat with q | q
    · exact h.fw b (by rw [← q]; exact e)
    · rw [e] at q; injection q with q; have := hb.size; omega
  have hbox2 : w2.heap[Bx]? = some (.cells #[vw, .map (some Bm), va] 49 (0, 0)) := (hk12.block _ (h.lim _ h.fx).2 hxw).trans h.box
  have hv'x : v'.ownBlock ≠ some Bx := fun e => by
    obtain ⟨c, e'⟩ := own_obj hown e
    rw [hbox2] at e'
    injection e' with e'; injection e' with _ e2 _
    exact absurd e2 (by decide)
  obtain ⟨us, u1, u2, u3⟩ := h.arcs
  have hvl : vs.length = W.length := by have := v1.1; simpa using this
  refine ⟨⟨?_, ?_, ⟨vs ++ [u], ?_, fun i u' hu' => ?_⟩, ⟨us, ?_, fun i u' hu' => ⟨?_, fun b hb' => .inl ((u2 i u' hu').2 b hb')⟩, u3⟩, .inl h.fx, .inl h.fm, fun b hb' => .inr hb', fun b hb' => .inl (h.fa b hb'), fun b hb' => ?_⟩, hk.mono hG⟩
  · have := Go.Joins.block_setCell hbox2 (i := 0) v'
    rw [this]; rfl
  · exact h.nums.block (hk.block _ (h.lim _ h.fm).2 fun e => e.elim (h.map_apart v1) fun e => h.box_map e.symm)
  · rw [List.length_append]; exact Go.ownsRow_setCell_other hown hv'x _
  · by_cases hi : i < vs.length
    · rw [List.getElem?_append_left hi] at hu'
      rw [show (W ++ [l]).getD i [] = W.getD i [] by simp only [List.getD]; rw [List.getElem?_append_left (by omega)]]
      exact (v2 i u' hu').kept hk hG hnew
    · obtain rfl : i = vs.length := by
        rcases Nat.lt_or_ge i (vs.length + 1) with h | h
        · omega
        · rw [List.getElem?_eq_none (by simp; omega)] at hu'; cases hu'
      rw [List.getElem?_append_right (Nat.le_refl _), Nat.sub_self] at hu'
      simp at hu'; subst hu'
      rw [show (W ++ [l]).getD vs.length [] = l by rw [hvl]; simp [List.getD]]
      exact hu.kept hk hG hnew
  · exact ownsRow_kept u1 hk fun b hb' e => e.elim (own_apart u1 v1 (by decide) hb') fun e => h.box_apart u1 (by decide) (e ▸ hb')
  · exact ownsRow_kept (u2 i u' hu').1 hk fun b hb' e => e.elim (own_apart (u2 i u' hu').1 v1 (by decide) hb') fun e => h.box_apart (u2 i u' hu').1 (by decide) (e ▸ hb')
  · have hs : w.heap.size ≤ w2.heap.size := hk12.size
    show B ≤ b ∧ b < (w2.setCell ⟨Bx, 0, none⟩ v').heap.size
    rw [show (w2.setCell ⟨Bx, 0, none⟩ v').heap.size = w2.heap.size by simp [World.setCell]]
    rcases hb' with hb' | hb'
    · exact ⟨(h.lim b hb').1, Nat.lt_of_lt_of_le (h.lim b hb').2 hs⟩
    · exact hown.lt b hb'
theorem WebAt.cells {F : Nat → Prop} {w : World} {Bx Bm B : Nat} {vw va : Value} {Wn W : List (List Int)} {A : List (List ((Int × Int) × Nat))} (h : WebAt F w Bx Bm B vw va Wn W A) :
    w.cell? ⟨Bx, 0, none⟩ = some vw ∧ w.cell? ⟨Bx, 1, none⟩ = some (.map (some Bm)) ∧ w.cell? ⟨Bx, 2, none⟩ = some va ∧ ∀ i, w.frozen? ⟨Bx, i, none⟩ = false :=
  ⟨by rw [Go.Joins.cell_of_block h.box]; rfl, by rw [Go.Joins.cell_of_block h.box]; rfl, by rw [Go.Joins.cell_of_block h.box]; rfl, fun i => Go.Joins.unfrozen_of_block h.box i⟩
theorem own_slice {w : World} {B E size n : Nat} {v : Value} {xs : List Value} (h : w.ownsRow B E size v n xs) (hn : 0 < n) : ∃ g k, v = .slice (some ⟨g, 0, none⟩) n k := by
  rcases h.2 with ⟨_, h0⟩ | ⟨g, cap, cur, rfl, _⟩
  · omega
  · exact ⟨g, cap, rfl⟩
/-- the append of a word, which the box is still to hear of -/
theorem wpList_web_word {w : World} {ops : Array Oper} {rest : List Oper} {o : Oper} {a : Act} {Q : Exit → Act → World → Prop} (hgd : o.guard = none) (s x : Operand)
    (ho : o.op = .call { callee := .builtin .append, args := #[s, x], argTypes := #[27, 27] }) {F : Nat → Prop} {Bx Bm B : Nat} {vw va : Value} {Wn W : List (List Int)} {A : List (List ((Int × Int) × Nat))}
    (h : WebAt F w Bx Bm B vw va Wn W A) (hB : B ≤ w.heap.size) (hs : a.eval s = vw) {u : Value} {l : List Int} (hu : WordF F w u l) (E : TypeId) (hx : a.eval x = .slice (some ⟨w.heap.size, 0, none⟩) 1 1) (hsm : W.length ≤ 1000)
    (hK : ∀ v' w', (∃ g k, v' = .slice (some ⟨g, 0, none⟩) (W.length + 1) k) → w'.cell? ⟨Bx, 0, none⟩ = some vw → w'.frozen? ⟨Bx, 0, none⟩ = false → WebAt (orB F v') (w'.setCell ⟨Bx, 0, none⟩ v') Bx Bm B v' va Wn (W ++ [l]) A → Kept F w (w'.setCell ⟨Bx, 0, none⟩ v') →
      (∀ b, b < w.heap.size → orB F v' b → F b) → wpList Tryz.prog ops Q rest (a.put o.dst v') w') :
    wpList Tryz.prog ops Q (o :: rest) a (w.alloc (.cells #[u] E)) := by
  obtain ⟨vs, v1, v2⟩ := h.words
  obtain ⟨i0, hi0, hz0, hz1, hz2⟩ := info_parts Tryz.infoInts
  have hb := below_alloc w (.cells #[u] E)
  have hu1 : u.oneCell' = true := by obtain ⟨a', n', c', rfl, _⟩ := hu; rfl
  refine wpList_append_own_at _ hgd s x _ ho B 23 i0 _ 1 24 Tryz.underlying27 hi0 hz0 hz1 hz2 rfl (by omega) vw W.length vs hs (own_grown v1 hb) ⟨w.heap.size, 0, none⟩ 1 1 [u] hx rfl (cell_one_new _ _ _) (by simp [hu1])
    (by unfold maxLen; omega) (by omega) (by simp; omega) fun v' w' k1 k2 _ k4 => ?_
  obtain ⟨r1, r2⟩ := h.word hb v1 v2 hu k1 k2 k4
  have hxw : vw.ownBlock ≠ some Bx := h.box_apart v1 (by decide)
  have hbx : w'.heap[Bx]? = some (.cells #[vw, .map (some Bm), va] 49 (0, 0)) :=
    ((k2.block Bx (Nat.lt_of_lt_of_le (h.lim _ h.fx).2 hb.size) (Ne.symm hxw)).trans (hb.block _ (h.lim _ h.fx).2)).trans h.box
  refine hK v' w' (own_slice k1 (by omega)) (by rw [Go.Joins.cell_of_block hbx]; rfl) (Go.Joins.unfrozen_of_block hbx 0) r1 r2 fun b hlt e => e.elim id fun e => ?_
  rcases k4 with q | q
  · exact h.fw b (by rw [← q]; exact e)
  · rw [e] at q; injection q with q; have := hb.size; omega
/-- no arcs were put behind the others, and the row into the box -/
theorem WebAt.row {F : Nat → Prop} {w w1 w2 : World} {Bx Bm B : Nat} {vw va v' : Value} {Wn W : List (List Int)} {A : List (List ((Int × Int) × Nat))} {us : List Value} (h : WebAt F w Bx Bm B vw va Wn W A) (hb : Below w.heap.size w w1)
    (u1 : w.ownsRow B 72 1 va A.length us) (u2 : ∀ (i : Nat) (u : Value), us[i]? = some u → w.ownsRow B 84 3 u (A.getD i []).length ((A.getD i []).flatMap encA) ∧ ∀ b, u.ownBlock = some b → F b)
    (u3 : ∀ (i j : Nat) (u u' : Value) (b : Nat), us[i]? = some u → us[j]? = some u' → i ≠ j → u.ownBlock = some b → u'.ownBlock ≠ some b)
    (hown : w2.ownsRow B 72 1 v' (A.length + 1) (us ++ [.slice none 0 0])) (hg : w1.grownBy w2 va.ownBlock) (hat : v'.ownBlock = va.ownBlock ∨ v'.ownBlock = some w1.heap.size) :
    WebAt (orB F v') (w2.setCell ⟨Bx, 2, none⟩ v') Bx Bm B vw v' Wn W (A ++ [[]]) ∧ Kept F w (w2.setCell ⟨Bx, 2, none⟩ v') := by
  have hxw : va.ownBlock ≠ some Bx := h.box_apart u1 (by decide)
  have hk12 : Kept (fun b => va.ownBlock = some b) w w2 := (hb.kept (F := fun b => va.ownBlock = some b)).grown hg fun _ _ e => e
  have hk : Kept (fun b => va.ownBlock = some b ∨ b = Bx) w (w2.setCell ⟨Bx, 2, none⟩ v') := (hk12.mono fun _ _ e => .inl e).setCell (fun _ => .inr rfl) _
  have hG : ∀ b, b < w.heap.size → (va.ownBlock = some b ∨ b = Bx) → F b := fun b _ e => e.elim (h.fa b) fun e => e ▸ h.fx
  have hnew : ∀ b, b < w.heap.size → orB F v' b → F b := fun b hlt e => e.elim id fun e => by
    rcases hat with q | q
    · exact h.fa b (by rw [← q]; exact e)
    · rw [e] at q; injection q with q; have := hb.size; omega
  have hbox2 : w2.heap[Bx]? = some (.cells #[vw, .map (some Bm), va] 49 (0, 0)) := (hk12.block _ (h.lim _ h.fx).2 hxw).trans h.box
  have hv'x : v'.ownBlock ≠ some Bx := fun e => by
    obtain ⟨c, e'⟩ := own_obj hown e
    rw [hbox2] at e'
    injection e' with e'; injection e' with _ e2 _
    exact absurd e2 (by decide)
  obtain ⟨vs, v1, v2⟩ := h.words
  have hul : us.length = A.length := by have := u1.1; simpa using this
  have hold : ∀ i u', (us ++ [.slice none 0 0])[i]? = some u' → (us[i]? = some u' ∧ (A ++ [[]]).getD i [] = A.getD i []) ∨ (u' = .slice none 0 0 ∧ (A ++ [[]]).getD i [] = []) := fun i u' hu' => by
    by_cases hi : i < us.length
    · rw [List.getElem?_append_left hi] at hu'
      exact .inl ⟨hu', by simp only [List.getD]; rw [List.getElem?_append_left (by omega)]⟩
    · obtain rfl : i = us.length := by
        rcases Nat.lt_or_ge i (us.length + 1) with h | h
        · omega
        · rw [List.getElem?_eq_none (by simp; omega)] at hu'; cases hu'
      rw [List.getElem?_append_right (Nat.le_refl _), Nat.sub_self] at hu'
      simp at hu'
      exact .inr ⟨hu'.symm, by rw [hul]; simp [List.getD]⟩
  refine ⟨⟨?_, ?_, ⟨vs, ?_, fun i u' hu' => (v2 i u' hu').kept hk hG hnew⟩, ⟨us ++ [.slice none 0 0], ?_, fun i u' hu' => ?_, fun i j u u' b hi hj hne hb' => ?_⟩, .inl h.fx, .inl h.fm, fun b hb' => .inl (h.fw b hb'), fun b hb' => .inr hb', fun b hb' => ?_⟩, hk.mono hG⟩
  · have := Go.Joins.block_setCell hbox2 (i := 2) v'
    rw [this]; rfl
  · exact h.nums.block (hk.block _ (h.lim _ h.fm).2 fun e => e.elim (h.map_apart u1) fun e => h.box_map e.symm)
  · exact ownsRow_kept v1 hk fun b hb' e => e.elim (own_apart v1 u1 (by decide) hb') fun e => h.box_apart v1 (by decide) (e ▸ hb')
  · rw [List.length_append]; exact Go.ownsRow_setCell_other hown hv'x _
  · rcases hold i u' hu' with ⟨e1, e2⟩ | ⟨rfl, e2⟩
    · rw [e2]
      exact ⟨ownsRow_kept (u2 i u' e1).1 hk fun b hb' e => e.elim (own_apart (u2 i u' e1).1 u1 (by decide) hb') fun e => h.box_apart (u2 i u' e1).1 (by decide) (e ▸ hb'), fun b hb' => .inl ((u2 i u' e1).2 b hb')⟩
    · rw [e2]
      exact ⟨World.ownsRow_nil _ _ _ _, fun b hb' => by cases hb'⟩
  · rcases hold i u hi with ⟨e1, _⟩ | ⟨rfl, _⟩
    · rcases hold j u' hj with ⟨e2, _⟩ | ⟨rfl, _⟩
      · exact u3 i j u u' b e1 e2 hne hb'
      · intro e; cases e
    · cases hb'
  · have hs : w.heap.size ≤ w2.heap.size := hk12.size
    show B ≤ b ∧ b < (w2.setCell ⟨Bx, 2, none⟩ v').heap.size
    rw [show (w2.setCell ⟨Bx, 2, none⟩ v').heap.size = w2.heap.size by simp [World.setCell]]
    rcases hb' with hb' | hb'
    · exact ⟨(h.lim b hb').1, Nat.lt_of_lt_of_le (h.lim b hb').2 hs⟩
    · exact hown.lt b hb'
theorem Tryz.infoArcs : (Tryz.prog.info? 72).map (fun i => (i.zero, i.size, i.bytes)) = some (some (.slice none 0 0), 1, 24) := by kernel_rfl
theorem Tryz.infoArc : (Tryz.prog.info? 84).map (fun i => (i.zero, i.size, i.bytes)) = some (some (.agg #[.int .i64 0, .int .i64 0, .int .i64 0]), 3, 24) := by kernel_rfl
theorem wpList_web_row {w : World} {ops : Array Oper} {rest : List Oper} {o : Oper} {a : Act} {Q : Exit → Act → World → Prop} (hgd : o.guard = none) (s x : Operand)
    (ho : o.op = .call { callee := .builtin .append, args := #[s, x], argTypes := #[47, 47] }) {F : Nat → Prop} {Bx Bm B : Nat} {vw va : Value} {Wn W : List (List Int)} {A : List (List ((Int × Int) × Nat))}
    (h : WebAt F w Bx Bm B vw va Wn W A) (hB : B ≤ w.heap.size) (hs : a.eval s = va) (E : TypeId) (hx : a.eval x = .slice (some ⟨w.heap.size, 0, none⟩) 1 1) (hsm : A.length ≤ 1000)
    (hK : ∀ v' w', (∃ g k, v' = .slice (some ⟨g, 0, none⟩) (A.length + 1) k) → w'.cell? ⟨Bx, 2, none⟩ = some va → w'.frozen? ⟨Bx, 2, none⟩ = false → WebAt (orB F v') (w'.setCell ⟨Bx, 2, none⟩ v') Bx Bm B vw v' Wn W (A ++ [[]]) → Kept F w (w'.setCell ⟨Bx, 2, none⟩ v') →
      (∀ b, b < w.heap.size → orB F v' b → F b) → wpList Tryz.prog ops Q rest (a.put o.dst v') w') :
    wpList Tryz.prog ops Q (o :: rest) a (w.alloc (.cells #[.slice none 0 0] E)) := by
  obtain ⟨us, u1, u2, u3⟩ := h.arcs
  obtain ⟨i0, hi0, hz0, hz1, hz2⟩ := info_parts Tryz.infoArcs
  have hb := below_alloc w (.cells #[.slice none 0 0] E)
  refine wpList_append_own_at _ hgd s x _ ho B 72 i0 _ 1 24 Tryz.underlying47 hi0 hz0 hz1 hz2 rfl (by omega) va A.length us hs (own_grown u1 hb) ⟨w.heap.size, 0, none⟩ 1 1 [.slice none 0 0] hx rfl (cell_one_new _ _ _) (by simp [Value.oneCell'])
    (by unfold maxLen; omega) (by omega) (by simp; omega) fun v' w' k1 k2 _ k4 => ?_
  obtain ⟨r1, r2⟩ := h.row hb u1 u2 u3 k1 k2 k4
  have hxw : va.ownBlock ≠ some Bx := h.box_apart u1 (by decide)
  have hbx : w'.heap[Bx]? = some (.cells #[vw, .map (some Bm), va] 49 (0, 0)) :=
    ((k2.block Bx (Nat.lt_of_lt_of_le (h.lim _ h.fx).2 hb.size) (Ne.symm hxw)).trans (hb.block _ (h.lim _ h.fx).2)).trans h.box
  refine hK v' w' (own_slice k1 (by omega)) (by rw [Go.Joins.cell_of_block hbx]; rfl) (Go.Joins.unfrozen_of_block hbx 2) r1 r2 fun b hlt e => e.elim id fun e => ?_
  rcases k4 with q | q
  · exact h.fa b (by rw [← q]; exact e)
  · rw [e] at q; injection q with q; have := hb.size; omega
/-- one more arc, put behind those of the word number i, and their row into the row of rows -/
theorem WebAt.arc_ {F : Nat → Prop} {w w1 w2 : World} {Bx Bm B i g cap : Nat} {vw va v' ui : Value} {Wn W : List (List Int)} {A : List (List ((Int × Int) × Nat))} {r : (Int × Int) × Nat} {us : List Value} (h : WebAt F w Bx Bm B vw va Wn W A) (hi : i < A.length) (hb : Below w.heap.size w w1)
    (u1 : w.ownsRow B 72 1 va A.length us) (u2 : ∀ (i : Nat) (u : Value), us[i]? = some u → w.ownsRow B 84 3 u (A.getD i []).length ((A.getD i []).flatMap encA) ∧ ∀ b, u.ownBlock = some b → F b)
    (u3 : ∀ (i j : Nat) (u u' : Value) (b : Nat), us[i]? = some u → us[j]? = some u' → i ≠ j → u.ownBlock = some b → u'.ownBlock ≠ some b) (hva : va = .slice (some ⟨g, 0, none⟩) A.length cap) (hui : us[i]? = some ui)
    (hown : w2.ownsRow B 84 3 v' ((A.getD i []).length + 1) ((A.getD i []).flatMap encA ++ encA r)) (hg : w1.grownBy w2 ui.ownBlock) (hat : v'.ownBlock = ui.ownBlock ∨ v'.ownBlock = some w1.heap.size) :
    WebAt (orB F v') (w2.setCell ⟨g, i, none⟩ v') Bx Bm B vw va Wn W (A.set i (A.getD i [] ++ [r])) ∧ Kept F w (w2.setCell ⟨g, i, none⟩ v') ∧ ∀ b, b < w.heap.size → orB F v' b → F b := by
  obtain ⟨o1, o2⟩ := u2 i ui hui
  have hvg : va.ownBlock = some g := by rw [hva]; rfl
  have hig : ui.ownBlock ≠ some g := own_apart u1 o1 (by decide) hvg
  have hk12 : Kept (fun b => ui.ownBlock = some b) w w2 := (hb.kept (F := fun b => ui.ownBlock = some b)).grown hg fun _ _ e => e
  have hk : Kept (fun b => ui.ownBlock = some b ∨ b = g) w (w2.setCell ⟨g, i, none⟩ v') := (hk12.mono fun _ _ e => .inl e).setCell (fun _ => .inr rfl) _
  have hG : ∀ b, b < w.heap.size → (ui.ownBlock = some b ∨ b = g) → F b := fun b _ e => e.elim (o2 b) fun e => e ▸ h.fa g hvg
  have hnew : ∀ b, b < w.heap.size → orB F v' b → F b := fun b hlt e => e.elim id fun e => by
    rcases hat with q | q
    · exact o2 b (by rw [← q]; exact e)
    · rw [e] at q; injection q with q; have := hb.size; omega
  obtain ⟨vs, v1, v2⟩ := h.words
  have u1' := ownsRow_kept u1 hk12 fun b hb' e => own_apart o1 u1 (by decide) e hb'
  have hv'g : v'.ownBlock ≠ some g := own_apart u1' hown (by decide) hvg
  have hxg : Bx ≠ g := fun e => h.box_apart u1 (by decide) (by rw [hvg, e])
  have hmg : Bm ≠ g := fun e => h.map_apart u1 (by rw [hvg, e])
  rw [hva] at u1'
  obtain ⟨s1, s2⟩ := u1'.stored i v'
  have hul : us.length = A.length := by have := u1.1; simpa using this
  have hold : ∀ j u', (us.set i v')[j]? = some u' → (j ≠ i ∧ us[j]? = some u' ∧ (A.set i (A.getD i [] ++ [r])).getD j [] = A.getD j []) ∨ (j = i ∧ u' = v' ∧ (A.set i (A.getD i [] ++ [r])).getD j [] = A.getD i [] ++ [r]) := fun j u' hu' => by
    by_cases hj : j = i
    · subst hj
      rw [List.getElem?_set_self (by omega)] at hu'
      injection hu' with hu'
      exact .inr ⟨rfl, hu'.symm, by simp [List.getD, hi]⟩
    · rw [List.getElem?_set_ne (Ne.symm hj)] at hu'
      exact .inl ⟨hj, hu', by simp only [List.getD]; rw [List.getElem?_set_ne (Ne.symm hj)]⟩
  have hnewb : ∀ b, v'.ownBlock = some b → ∀ j u, j ≠ i → us[j]? = some u → u.ownBlock ≠ some b := fun b hb' j u hj hu e => by
    rcases hat with q | q
    · exact u3 j i u ui b hu hui hj e (by rw [← q]; exact hb')
    · have := ((u2 j u hu).1.lt b e).2
      rw [hb'] at q; injection q with q; have := hb.size; omega
  refine ⟨⟨?_, ?_, ⟨vs, ?_, fun j u' hu' => (v2 j u' hu').kept hk hG hnew⟩, ⟨us.set i v', ?_, fun j u' hu' => ?_, fun j k u u' b hj hk' hne hb' => ?_⟩, .inl h.fx, .inl h.fm, fun b hb' => .inl (h.fw b hb'), fun b hb' => .inl (h.fa b hb'), fun b hb' => ?_⟩, hk.mono hG, hnew⟩
  · exact (hk.block _ (h.lim _ h.fx).2 fun e => e.elim (h.box_apart o1 (by decide)) hxg).trans h.box
  · exact h.nums.block (hk.block _ (h.lim _ h.fm).2 fun e => e.elim (h.map_apart o1) hmg)
  · exact ownsRow_kept v1 hk fun b hb' e => e.elim (own_apart v1 o1 (by decide) hb') fun e => own_apart v1 u1 (by decide) hb' (e ▸ hvg)
  · rw [List.length_set, hva]; exact s1
  · rcases hold j u' hu' with ⟨hj, e1, e2⟩ | ⟨rfl, rfl, e2⟩
    · rw [e2]
      obtain ⟨p1, p2⟩ := u2 j u' e1
      exact ⟨ownsRow_kept p1 hk fun b hb' e => e.elim (u3 j i u' ui b e1 hui hj hb') fun e => own_apart p1 u1 (by decide) hb' (e ▸ hvg), fun b hb' => .inl (p2 b hb')⟩
    · rw [e2]
      refine ⟨?_, fun b hb' => .inr hb'⟩
      have := Go.ownsRow_setCell_other hown (a := ⟨g, j, none⟩) hv'g u'
      simpa using this
  · rcases hold j u hj with ⟨hj1, e1, _⟩ | ⟨rfl, rfl, _⟩
    · rcases hold k u' hk' with ⟨hk1, e2, _⟩ | ⟨rfl, rfl, _⟩
      · exact u3 j k u u' b e1 e2 hne hb'
      · exact fun e => hnewb b e j u hj1 e1 hb'
    · rcases hold k u' hk' with ⟨hk1, e2, _⟩ | ⟨rfl, rfl, _⟩
      · exact hnewb b hb' k u' hk1 e2
      · exact absurd rfl hne
  · have hs : w.heap.size ≤ w2.heap.size := hk12.size
    show B ≤ b ∧ b < (w2.setCell ⟨g, i, none⟩ v').heap.size
    rw [show (w2.setCell ⟨g, i, none⟩ v').heap.size = w2.heap.size by simp [World.setCell]]
    rcases hb' with hb' | hb'
    · exact ⟨(h.lim b hb').1, Nat.lt_of_lt_of_le (h.lim b hb').2 hs⟩
    · exact hown.lt b hb'
/-- a web's row of rows, and the row of one word -/
theorem WebAt.rowAt {F : Nat → Prop} {w : World} {Bx Bm B i : Nat} {vw va : Value} {Wn W : List (List Int)} {A : List (List ((Int × Int) × Nat))} (h : WebAt F w Bx Bm B vw va Wn W A) (hi : i < A.length) :
    ∃ g cap us ui, va = .slice (some ⟨g, 0, none⟩) A.length cap ∧ us[i]? = some ui ∧ w.cell? ⟨g, i, none⟩ = some ui ∧ w.ownsRow B 72 1 va A.length us ∧
      (∀ (i : Nat) (u : Value), us[i]? = some u → w.ownsRow B 84 3 u (A.getD i []).length ((A.getD i []).flatMap encA) ∧ ∀ b, u.ownBlock = some b → F b) ∧
      (∀ (i j : Nat) (u u' : Value) (b : Nat), us[i]? = some u → us[j]? = some u' → i ≠ j → u.ownBlock = some b → u'.ownBlock ≠ some b) ∧ w.frozen? ⟨g, i, none⟩ = false := by
  obtain ⟨us, u1, u2, u3⟩ := h.arcs
  obtain ⟨g, cap, rfl⟩ := own_slice u1 (by omega)
  have hul : us.length = A.length := by have := u1.1; simpa using this
  have hui : us[i]? = some us[i] := List.getElem?_eq_getElem (by omega)
  have hc := u1.cells (g := g) rfl i _ hui
  rw [add_at, Nat.zero_add] at hc
  obtain ⟨cur, ho⟩ := own_obj u1 rfl
  exact ⟨g, cap, us, us[i], rfl, hui, hc, u1, u2, u3, Go.Joins.unfrozen_of_block ho i⟩
/-- the append of an arc, as one step of a region that draws its order -/
theorem step_web_arc {w : World} {ops : Array Oper} {o : Oper} {a : Act} {K : Act → World → Prop} {Q : Exit → Act → World → Prop} {E' : Prop} (hgd : o.guard = none) (s x : Operand)
    (ho : o.op = .call { callee := .builtin .append, args := #[s, x], argTypes := #[72, 72] }) {F : Nat → Prop} {Bx Bm B i g cap : Nat} {vw va ui : Value} {Wn W : List (List Int)} {A : List (List ((Int × Int) × Nat))} {us : List Value} (r : (Int × Int) × Nat)
    (h : WebAt F w Bx Bm B vw va Wn W A) (hi : i < A.length) (u1 : w.ownsRow B 72 1 va A.length us) (u2 : ∀ (i : Nat) (u : Value), us[i]? = some u → w.ownsRow B 84 3 u (A.getD i []).length ((A.getD i []).flatMap encA) ∧ ∀ b, u.ownBlock = some b → F b)
    (u3 : ∀ (i j : Nat) (u u' : Value) (b : Nat), us[i]? = some u → us[j]? = some u' → i ≠ j → u.ownBlock = some b → u'.ownBlock ≠ some b) (hva : va = .slice (some ⟨g, 0, none⟩) A.length cap) (hui : us[i]? = some ui)
    (hB : B ≤ w.heap.size) (hs : a.eval s = ui) (E : TypeId) (hx : a.eval x = .slice (some ⟨w.heap.size, 0, none⟩) 1 1) (hsm : (A.getD i []).length ≤ 1000)
    (hK : ∀ v' w', (∃ g n k, v' = .slice (some ⟨g, 0, none⟩) n k) → w'.cell? ⟨Bx, 2, none⟩ = some va → w'.cell? ⟨g, i, none⟩ = some ui → w'.frozen? ⟨g, i, none⟩ = false → Kept (fun b => ui.ownBlock = some b) w w' →
      WebAt (orB F v') (w'.setCell ⟨g, i, none⟩ v') Bx Bm B vw va Wn W (A.set i (A.getD i [] ++ [r])) → Kept F w (w'.setCell ⟨g, i, none⟩ v') → (∀ b, b < w.heap.size → orB F v' b → F b) → K (a.put o.dst v') w') :
    if Region.wanted o (yielded ops a.tmps) = true then Oper.wp Tryz.prog o a (w.alloc (.cells #[.int .i64 r.1.1, .int .i64 r.1.2, .int .i64 (r.2 : Int)] E)) K Q else E' := by
  obtain ⟨i0, hi0, hz0, hz1, hz2⟩ := info_parts Tryz.infoArc
  have hw : Region.wanted o (yielded ops a.tmps) = true := by simp [Region.wanted, hgd]
  rw [if_pos hw]
  have hb := below_alloc w (.cells #[.int .i64 r.1.1, .int .i64 r.1.2, .int .i64 (r.2 : Int)] E)
  obtain ⟨o1, o2⟩ := u2 i ui hui
  obtain ⟨v', w', hrun, k1, k2, _, k4⟩ := run_append_own_at (P := Tryz.prog) _ B 72 o.type 84 i0 _ 3 24 Tryz.underlying72 hi0 hz0 hz1 hz2 rfl (by omega) ui (A.getD i []).length _ (own_grown o1 hb) ⟨w.heap.size, 0, none⟩ 1 1 (encA r) rfl (cells_new3 _ _ _ _ _)
    (by intro y hy; simp [encA] at hy; rcases hy with rfl | rfl | rfl <;> rfl) (by unfold maxLen; omega) (by omega) (by simp; omega)
  obtain ⟨r1, r2, r3⟩ := h.arc_ hi hb u1 u2 u3 hva hui k1 k2 k4
  have hk : Kept (fun b => ui.ownBlock = some b) w w' := (hb.kept (F := fun b => ui.ownBlock = some b)).grown k2 fun _ _ e => e
  have hvg : va.ownBlock = some g := by rw [hva]; rfl
  have hig : ui.ownBlock ≠ some g := own_apart u1 o1 (by decide) hvg
  have hc := u1.cells (g := g) hvg i _ hui
  rw [add_at, Nat.zero_add] at hc
  obtain ⟨cur, hob⟩ := own_obj u1 hvg
  unfold Oper.wp
  simp [execOp, ho, resolve, invoke, builtin, hs, hx, hrun, Result.andThen]
  refine hK v' w' (have ⟨g', k', e⟩ := own_slice k1 (by omega); ⟨g', _, k', e⟩) (hk.cell h.cells.2.2.1 (h.box_apart o1 (by decide))) (hk.cell hc hig) ?_ hk r1 r2 r3
  exact Go.Joins.unfrozen_of_block ((hk.block g (Go.lt_of_block hob) hig).trans hob) i
end Go.Proofs.YtebbmhlkdfmmcaaGreat
