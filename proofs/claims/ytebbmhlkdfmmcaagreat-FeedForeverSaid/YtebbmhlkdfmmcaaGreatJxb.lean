import Derived.Test.YtebbmhlkdfmmcaaGreatJxa
namespace Go.Proofs.YtebbmhlkdfmmcaaGreat
open Go.RowKit Go.Proofs.Kv

/-! ### the place of a word in a list -/
def findN (W : List (List Int)) (v : List Int) : Int := match findW W v with | some j => (j : Int) | none => -1
theorem findN_hit {W : List (List Int)} {v : List Int} {k : Nat} (hk : k < W.length) (he : W.getD k [] = v) (hn : ∀ j, j < k → W.getD j [] ≠ v) : findN W v = k := by
  have : findW W v = some k := by
    unfold findW
    rw [List.findIdx?_eq_some_iff_getElem]
    refine ⟨hk, ?_, fun j hj => ?_⟩
    · rw [← he]; simp [List.getD, List.getElem?_eq_getElem hk]
    · have := hn j hj
      simp only [List.getD, List.getElem?_eq_getElem (show j < W.length by omega), Option.getD_some] at this
      simpa using this
  rw [findN, this]
theorem findN_miss {W : List (List Int)} {v : List Int} (hn : ∀ j, j < W.length → W.getD j [] ≠ v) : findN W v = -1 := by
  have : findW W v = none := findW_none.2 fun hm => by
    obtain ⟨i, hi, rfl⟩ := List.mem_iff_getElem.1 hm
    exact hn i hi (by simp [List.getD, List.getElem?_eq_getElem hi])
  rw [findN, this]
set_option maxRecDepth 100000 in
set_option maxHeartbeats 1000000 in
theorem find_calls (a : Option Addr) (n c : Nat) (W : List (List Int)) (a' : Option Addr) (n' c' : Nat) (v : List Int) (w : World) (h : ListsAt w a n c W) (h' : IntsAt w a' n' c' v) :
    Calls Tryz.prog 63 #[.slice a n c, .slice a' n' c'] w fun e w' => e = .returned (.int .i64 (findN W v)) ∧ ∃ q, w' = w.drewN q := by
  have hn : n ≤ 9223372036854775807 := Nat.le_trans h.le h.small
  have H := hid_ h
  have H' := hid_ h'
  have Hl := hid_ h.len
  clear h h'
  go_enter Tryz.func63, Tryz.ntmps63
  go_wp2
  go_loopw [5] (fun i wr => ∃ k q : Nat, k ≤ n ∧ i = .int .i64 k ∧ wr = w.drewN q ∧ ∀ j, j < k → W.getD j [] ≠ v) (fun i _ => n - (intOf i).toNat)
  case atStart => exact ⟨0, 0, Nat.zero_le _, rfl, rfl, fun _ h => absurd h (by omega)⟩
  case round =>
    obtain ⟨k, q, hk, rfl, hq, hall⟩ := hrel
    have HL : Hid (ListsAt wr a n c W) := hid_ (by rw [hq]; exact H.out.drewN q)
    have HI : Hid (IntsAt wr a' n' c' v) := hid_ (by rw [hq]; exact H'.out.drewN q)
    have Hq := hid_ hq
    have Hall := hid_ hall
    clear hq hall
    by_cases hlt : k < n
    · obtain ⟨b, off, a1, n1, c1, rfl, hb, hcell, hr⟩ := HL.out.cells k hlt
      have HS := hid_ (same_calls _ _ _ _ _ _ _ _ wr hr HI.out)
      have hkw : k < W.length := by rw [Hl.out]; exact hlt
      clear hr
      by_cases he : W.getD k [] = v
      · have Hf := hid_ (findN_hit hkw he Hall.out)
        rw [show Same (W.getD k []) v = true by simp [Same]; exact he] at HS
        clear he
        go_wp2_with (go_at_call 25; refine (HS.out).mono ?_; rintro e w' ⟨rfl, q2, rfl⟩)
        go_ret
        exact ⟨by rw [Hf.out] <;> rfl, _, by rw [Hq.out, drewN2]⟩
      · have Hn : Hid (∀ j, j < k + 1 → W.getD j [] ≠ v) := hid_ (fun j hj => by
          by_cases e : j = k
          · subst e; exact he
          · exact Hall.out j (by omega))
        rw [show Same (W.getD k []) v = false by simp [Same]; exact he] at HS
        clear he
        go_wp2_with (go_at_call 25; refine (HS.out).mono ?_; rintro e w' ⟨rfl, q2, rfl⟩)
        go_roundw
        case rel => exact ⟨k + 1, _, by omega, by go_num, by rw [Hq.out, drewN2], Hn.out⟩
        case measure => simp [intOf]; omega
    · obtain rfl : n = k := by omega
      have Hf := hid_ (findN_miss (W := W) (v := v) (by rw [Hl.out]; exact Hall.out))
      go_wp2
      go_ret
      exact ⟨by rw [Hf.out] <;> rfl, _, Hq.out⟩
end Go.Proofs.YtebbmhlkdfmmcaaGreat
namespace Go.Proofs.YtebbmhlkdfmmcaaGreat
open Go.RowKit Go.Proofs.Kv

/-! ### the graph of the document in memory -/
/-- the graph with the words W, the numbers N of those that come next, and how far D they are: its box is the block Bx; all that is written when it grows are the blocks F -/
structure GrAt (F : Nat → Prop) (w : World) (Bx B : Nat) (vw vn vf : Value) (W N : List (List Int)) (D : List Int) : Prop where
  box : w.heap[Bx]? = some (.cells #[vw, vn, vf] 54 (0, 0))
  words : ∃ vs : List Value, w.ownsRow B 23 1 vw W.length vs ∧ ∀ (i : Nat) (u : Value), vs[i]? = some u → WordF F w u (W.getD i [])
  next : ∃ us : List Value, w.ownsRow B 23 1 vn N.length us ∧ ∀ (i : Nat) (u : Value), us[i]? = some u → WordF F w u (N.getD i [])
  far : w.ownsRow B 3 1 vf D.length (D.map (Value.int .i64))
  apart : ∀ b, vw.ownBlock = some b → vn.ownBlock ≠ some b
  fx : F Bx
  fw : ∀ b, vw.ownBlock = some b → F b
  fn : ∀ b, vn.ownBlock = some b → F b
  ff : ∀ b, vf.ownBlock = some b → F b
  lim : ∀ b, F b → B ≤ b ∧ b < w.heap.size
theorem GrAt.below {F : Nat → Prop} {w w' : World} {Bx B : Nat} {vw vn vf : Value} {W N : List (List Int)} {D : List Int} (h : GrAt F w Bx B vw vn vf W N D) (hb : Below w.heap.size w w') : GrAt F w' Bx B vw vn vf W N D := by
  have hk : Kept (fun _ => False) w w' := hb.kept
  obtain ⟨vs, v1, v2⟩ := h.words
  obtain ⟨us, u1, u2⟩ := h.next
  exact ⟨(hb.block _ (h.lim _ h.fx).2).trans h.box, ⟨vs, own_grown v1 hb, fun i u hu => (v2 i u hu).kept hk (fun _ _ g => g.elim) fun _ _ g => g⟩,
    ⟨us, own_grown u1 hb, fun i u hu => (u2 i u hu).kept hk (fun _ _ g => g.elim) fun _ _ g => g⟩, own_grown h.far hb, h.apart, h.fx, h.fw, h.fn, h.ff, fun b hb' => ⟨(h.lim b hb').1, Nat.lt_of_lt_of_le (h.lim b hb').2 hb.size⟩⟩
theorem GrAt.box_apart {F : Nat → Prop} {w : World} {Bx B : Nat} {vw vn vf : Value} {W N : List (List Int)} {D : List Int} (h : GrAt F w Bx B vw vn vf W N D) {B' E size n : Nat} {v : Value} {xs : List Value} (ho : w.ownsRow B' E size v n xs) (hE : E ≠ 54) : v.ownBlock ≠ some Bx := fun e => by
  obtain ⟨c, e'⟩ := own_obj ho e
  rw [h.box] at e'
  injection e' with e'; injection e' with _ e2 _
  exact hE e2.symm
/-- what one row of the graph may do when it grows: it moves, and the box hears of it -/
structure Grew (F : Nat → Prop) (w w1 w2 : World) (Bx B : Nat) (v v' : Value) : Prop where
  bel : Below w.heap.size w w1
  grown : w1.grownBy w2 v.ownBlock
  at_ : v'.ownBlock = v.ownBlock ∨ v'.ownBlock = some w1.heap.size
  fv : ∀ b, v.ownBlock = some b → F b
theorem Grew.kept {F : Nat → Prop} {w w1 w2 : World} {Bx B : Nat} {v v' : Value} (h : Grew F w w1 w2 Bx B v v') : Kept (fun b => v.ownBlock = some b) w w2 := (h.bel.kept (F := fun b => v.ownBlock = some b)).grown h.grown fun _ _ e => e
theorem Grew.kept3 {F : Nat → Prop} {w w1 w2 : World} {Bx B : Nat} {v v' : Value} (h : Grew F w w1 w2 Bx B v v') (i : Nat) : Kept (fun b => v.ownBlock = some b ∨ b = Bx) w (w2.setCell ⟨Bx, i, none⟩ v') := (h.kept.mono fun _ _ e => .inl e).setCell (fun _ => .inr rfl) _
theorem Grew.inF {F : Nat → Prop} {w w1 w2 : World} {Bx B : Nat} {v v' : Value} (h : Grew F w w1 w2 Bx B v v') (hx : F Bx) : ∀ b, b < w.heap.size → (v.ownBlock = some b ∨ b = Bx) → F b := fun b _ e => e.elim (h.fv b) fun e => e ▸ hx
theorem Grew.old {F : Nat → Prop} {w w1 w2 : World} {Bx B : Nat} {v v' : Value} (h : Grew F w w1 w2 Bx B v v') : ∀ b, b < w.heap.size → orB F v' b → F b := fun b hlt e => e.elim id fun e => by
  rcases h.at_ with q | q
  · exact h.fv b (by rw [← q]; exact e)
  · rw [e] at q; injection q with q; have := h.bel.size; omega
theorem wordsF_snoc {F G F' : Nat → Prop} {w w' : World} {W : List (List Int)} {vs : List Value} {u : Value} {l : List Int} (hl : vs.length = W.length) (h : ∀ i u, vs[i]? = some u → WordF F w u (W.getD i [])) (hu : WordF F w u l) (hk : Kept G w w') (hG : ∀ b, b < w.heap.size → G b → F b) (hF : ∀ b, b < w.heap.size → F' b → F b) :
    ∀ i u', (vs ++ [u])[i]? = some u' → WordF F' w' u' ((W ++ [l]).getD i []) := fun i u' hu' => by
  by_cases hi : i < vs.length
  · rw [List.getElem?_append_left hi] at hu'
    rw [show (W ++ [l]).getD i [] = W.getD i [] by simp only [List.getD]; rw [List.getElem?_append_left (by omega)]]
    exact (h i u' hu').kept hk hG hF
  · obtain rfl : i = vs.length := by
      rcases Nat.lt_or_ge i (vs.length + 1) with h | h
      · omega
      · rw [List.getElem?_eq_none (by simp; omega)] at hu'; cases hu'
    rw [List.getElem?_append_right (Nat.le_refl _), Nat.sub_self] at hu'
    simp at hu'; subst hu'
    rw [show (W ++ [l]).getD vs.length [] = l by rw [hl]; simp [List.getD]]
    exact hu.kept hk hG hF
theorem Grew.lim {F : Nat → Prop} {w w1 w2 : World} {Bx B E size n : Nat} {v v' : Value} {xs : List Value} (h : Grew F w w1 w2 Bx B v v') (hl : ∀ b, F b → B ≤ b ∧ b < w.heap.size) (ho : w2.ownsRow B E size v' n xs) (i : Nat) : ∀ b, orB F v' b → B ≤ b ∧ b < (w2.setCell ⟨Bx, i, none⟩ v').heap.size := fun b hb' => by
  rw [show (w2.setCell ⟨Bx, i, none⟩ v').heap.size = w2.heap.size by simp [World.setCell]]
  rcases hb' with hb' | hb'
  · exact ⟨(hl b hb').1, Nat.lt_of_lt_of_le (hl b hb').2 h.kept.size⟩
  · exact ho.lt b hb'
theorem Grew.far_ {F : Nat → Prop} {w w1 w2 : World} {Bx B : Nat} {v v' : Value} (h : Grew F w w1 w2 Bx B v v') {x : Value} (hx : ∀ b, v.ownBlock = some b → x.ownBlock ≠ some b) (hlt : ∀ b, x.ownBlock = some b → b < w.heap.size) : ∀ b, v'.ownBlock = some b → x.ownBlock ≠ some b := fun b e e' => by
  rcases h.at_ with q | q
  · exact hx b (by rw [← q]; exact e) e'
  · rw [e] at q; injection q with q; have := h.bel.size; have := hlt b e'; omega
theorem Grew.boxed {F : Nat → Prop} {w w1 w2 : World} {Bx B E size n : Nat} {v v' : Value} {xs : List Value} {cs : Array Value} (h : Grew F w w1 w2 Bx B v v') (hx : Bx < w.heap.size) (hv : v.ownBlock ≠ some Bx) (hbox : w.heap[Bx]? = some (.cells cs 54 (0, 0))) (ho : w2.ownsRow B E size v' n xs) (hE : E ≠ 54) :
    w2.heap[Bx]? = some (.cells cs 54 (0, 0)) ∧ v'.ownBlock ≠ some Bx := by
  have h2 := (h.kept.block _ hx hv).trans hbox
  refine ⟨h2, fun e => ?_⟩
  obtain ⟨c, e'⟩ := own_obj ho e
  rw [h2] at e'
  injection e' with e'; injection e' with _ e2 _
  exact hE e2.symm
/-- a word was put behind the others -/
theorem GrAt.word {F : Nat → Prop} {w w1 w2 : World} {Bx B : Nat} {vw vn vf v' u : Value} {W N : List (List Int)} {D : List Int} {l : List Int} {vs : List Value} (h : GrAt F w Bx B vw vn vf W N D) (hb : Below w.heap.size w w1)
    (v1 : w.ownsRow B 23 1 vw W.length vs) (v2 : ∀ i u, vs[i]? = some u → WordF F w u (W.getD i [])) (hu : WordF F w u l)
    (hown : w2.ownsRow B 23 1 v' (W.length + 1) (vs ++ [u])) (hg : w1.grownBy w2 vw.ownBlock) (hat : v'.ownBlock = vw.ownBlock ∨ v'.ownBlock = some w1.heap.size) :
    GrAt (orB F v') (w2.setCell ⟨Bx, 0, none⟩ v') Bx B v' vn vf (W ++ [l]) N D ∧ Kept F w (w2.setCell ⟨Bx, 0, none⟩ v') := by
  have G : Grew F w w1 w2 Bx B vw v' := ⟨hb, hg, hat, h.fw⟩
  obtain ⟨us, u1, u2⟩ := h.next
  have hxw := h.box_apart v1 (by decide)
  obtain ⟨b2, bv⟩ := G.boxed (h.lim _ h.fx).2 hxw h.box hown (by decide)
  have hk := G.kept3 0
  have hG := G.inF h.fx
  have hvl : vs.length = W.length := by have := v1.1; simpa using this
  refine ⟨⟨?_, ⟨vs ++ [u], ?_, wordsF_snoc hvl v2 hu hk hG G.old⟩, ⟨us, ?_, fun i u hu => (u2 i u hu).kept hk hG G.old⟩, ?_, G.far_ h.apart fun b e => (u1.lt b e).2, .inl h.fx, fun b e => .inr e, fun b e => .inl (h.fn b e), fun b e => .inl (h.ff b e), G.lim h.lim hown 0⟩, hk.mono hG⟩
  · rw [Go.Joins.block_setCell b2 (i := 0) v']; rfl
  · rw [List.length_append]; exact Go.ownsRow_setCell_other hown bv _
  · exact ownsRow_kept u1 hk fun b hb' e => e.elim (fun e => h.apart b e hb') fun e => h.box_apart u1 (by decide) (e ▸ hb')
  · exact ownsRow_kept h.far hk fun b hb' e => e.elim (own_apart h.far v1 (by decide) hb') fun e => h.box_apart h.far (by decide) (e ▸ hb')
/-- the numbers of those that come next were put behind the others -/
theorem GrAt.link {F : Nat → Prop} {w w1 w2 : World} {Bx B : Nat} {vw vn vf v' u : Value} {W N : List (List Int)} {D : List Int} {l : List Int} {us : List Value} (h : GrAt F w Bx B vw vn vf W N D) (hb : Below w.heap.size w w1)
    (u1 : w.ownsRow B 23 1 vn N.length us) (u2 : ∀ i u, us[i]? = some u → WordF F w u (N.getD i [])) (hu : WordF F w u l)
    (hown : w2.ownsRow B 23 1 v' (N.length + 1) (us ++ [u])) (hg : w1.grownBy w2 vn.ownBlock) (hat : v'.ownBlock = vn.ownBlock ∨ v'.ownBlock = some w1.heap.size) :
    GrAt (orB F v') (w2.setCell ⟨Bx, 1, none⟩ v') Bx B vw v' vf W (N ++ [l]) D ∧ Kept F w (w2.setCell ⟨Bx, 1, none⟩ v') := by
  have G : Grew F w w1 w2 Bx B vn v' := ⟨hb, hg, hat, h.fn⟩
  obtain ⟨vs, v1, v2⟩ := h.words
  have hxw := h.box_apart u1 (by decide)
  obtain ⟨b2, bv⟩ := G.boxed (h.lim _ h.fx).2 hxw h.box hown (by decide)
  have hk := G.kept3 1
  have hG := G.inF h.fx
  have hul : us.length = N.length := by have := u1.1; simpa using this
  refine ⟨⟨?_, ⟨vs, ?_, fun i u hu => (v2 i u hu).kept hk hG G.old⟩, ⟨us ++ [u], ?_, wordsF_snoc hul u2 hu hk hG G.old⟩, ?_, fun b e e' => G.far_ (fun b e e' => h.apart b e' e) (fun b e => (v1.lt b e).2) b e' e, .inl h.fx, fun b e => .inl (h.fw b e), fun b e => .inr e, fun b e => .inl (h.ff b e), G.lim h.lim hown 1⟩, hk.mono hG⟩
  · rw [Go.Joins.block_setCell b2 (i := 1) v']; rfl
  · exact ownsRow_kept v1 hk fun b hb' e => e.elim (fun e => h.apart b hb' e) fun e => h.box_apart v1 (by decide) (e ▸ hb')
  · rw [List.length_append]; exact Go.ownsRow_setCell_other hown bv _
  · exact ownsRow_kept h.far hk fun b hb' e => e.elim (own_apart h.far u1 (by decide) hb') fun e => h.box_apart h.far (by decide) (e ▸ hb')
/-- how far a word is was put behind the others -/
theorem GrAt.dist {F : Nat → Prop} {w w1 w2 : World} {Bx B : Nat} {vw vn vf v' : Value} {W N : List (List Int)} {D : List Int} {d : Int} (h : GrAt F w Bx B vw vn vf W N D) (hb : Below w.heap.size w w1)
    (hown : w2.ownsRow B 3 1 v' (D.length + 1) ((D ++ [d]).map (Value.int .i64))) (hg : w1.grownBy w2 vf.ownBlock) (hat : v'.ownBlock = vf.ownBlock ∨ v'.ownBlock = some w1.heap.size) :
    GrAt (orB F v') (w2.setCell ⟨Bx, 2, none⟩ v') Bx B vw vn v' W N (D ++ [d]) ∧ Kept F w (w2.setCell ⟨Bx, 2, none⟩ v') := by
  have G : Grew F w w1 w2 Bx B vf v' := ⟨hb, hg, hat, h.ff⟩
  obtain ⟨vs, v1, v2⟩ := h.words
  obtain ⟨us, u1, u2⟩ := h.next
  have hxw := h.box_apart h.far (by decide)
  obtain ⟨b2, bv⟩ := G.boxed (h.lim _ h.fx).2 hxw h.box hown (by decide)
  have hk := G.kept3 2
  have hG := G.inF h.fx
  refine ⟨⟨?_, ⟨vs, ?_, fun i u hu => (v2 i u hu).kept hk hG G.old⟩, ⟨us, ?_, fun i u hu => (u2 i u hu).kept hk hG G.old⟩, ?_, h.apart, .inl h.fx, fun b e => .inl (h.fw b e), fun b e => .inl (h.fn b e), fun b e => .inr e, G.lim h.lim hown 2⟩, hk.mono hG⟩
  · rw [Go.Joins.block_setCell b2 (i := 2) v']; rfl
  · exact ownsRow_kept v1 hk fun b hb' e => e.elim (own_apart v1 h.far (by decide) hb') fun e => h.box_apart v1 (by decide) (e ▸ hb')
  · exact ownsRow_kept u1 hk fun b hb' e => e.elim (own_apart u1 h.far (by decide) hb') fun e => h.box_apart u1 (by decide) (e ▸ hb')
  · rw [List.length_append]; exact Go.ownsRow_setCell_other hown bv _
theorem GrAt.cells {F : Nat → Prop} {w : World} {Bx B : Nat} {vw vn vf : Value} {W N : List (List Int)} {D : List Int} (h : GrAt F w Bx B vw vn vf W N D) :
    w.cell? ⟨Bx, 0, none⟩ = some vw ∧ w.cell? ⟨Bx, 1, none⟩ = some vn ∧ w.cell? ⟨Bx, 2, none⟩ = some vf ∧ ∀ i, w.frozen? ⟨Bx, i, none⟩ = false :=
  ⟨by rw [Go.Joins.cell_of_block h.box]; rfl, by rw [Go.Joins.cell_of_block h.box]; rfl, by rw [Go.Joins.cell_of_block h.box]; rfl, fun i => Go.Joins.unfrozen_of_block h.box i⟩
end Go.Proofs.YtebbmhlkdfmmcaaGreat
namespace Go.Proofs.YtebbmhlkdfmmcaaGreat
open Go.RowKit Go.Proofs.Kv

/-! ### appends to the graph's rows -/
theorem GrAt.box_after {F : Nat → Prop} {w w1 w' : World} {Bx B E size n : Nat} {vw vn vf v : Value} {xs : List Value} {W N : List (List Int)} {D : List Int} (h : GrAt F w Bx B vw vn vf W N D) (hb : Below w.heap.size w w1) (ho : w.ownsRow B E size v n xs) (hE : E ≠ 54) (hg : w1.grownBy w' v.ownBlock) :
    w'.heap[Bx]? = some (.cells #[vw, vn, vf] 54 (0, 0)) :=
  ((hg.block Bx (Nat.lt_of_lt_of_le (h.lim _ h.fx).2 hb.size) (Ne.symm (h.box_apart ho hE))).trans (hb.block _ (h.lim _ h.fx).2)).trans h.box
theorem wpList_gr_word {w : World} {ops : Array Oper} {rest : List Oper} {o : Oper} {a : Act} {Q : Exit → Act → World → Prop} (hgd : o.guard = none) (s x : Operand)
    (ho : o.op = .call { callee := .builtin .append, args := #[s, x], argTypes := #[27, 27] }) {F : Nat → Prop} {Bx B : Nat} {vw vn vf : Value} {W N : List (List Int)} {D : List Int}
    (h : GrAt F w Bx B vw vn vf W N D) (hB : B ≤ w.heap.size) (hs : a.eval s = vw) {u : Value} {l : List Int} (hu : WordF F w u l) (E : TypeId) (hx : a.eval x = .slice (some ⟨w.heap.size, 0, none⟩) 1 1) (hsm : W.length ≤ 1000)
    (hK : ∀ v' w', (∃ g k, v' = .slice (some ⟨g, 0, none⟩) (W.length + 1) k) → w'.cell? ⟨Bx, 0, none⟩ = some vw → w'.frozen? ⟨Bx, 0, none⟩ = false → GrAt (orB F v') (w'.setCell ⟨Bx, 0, none⟩ v') Bx B v' vn vf (W ++ [l]) N D → Kept F w (w'.setCell ⟨Bx, 0, none⟩ v') →
      (∀ b, b < w.heap.size → orB F v' b → F b) → wpList Tryz.prog ops Q rest (a.put o.dst v') w') :
    wpList Tryz.prog ops Q (o :: rest) a (w.alloc (.cells #[u] E)) := by
  obtain ⟨vs, v1, v2⟩ := h.words
  obtain ⟨i0, hi0, hz0, hz1, hz2⟩ := info_parts Tryz.infoInts
  have hb := below_alloc w (.cells #[u] E)
  have hu1 : u.oneCell' = true := by obtain ⟨a', n', c', rfl, _⟩ := hu; rfl
  refine wpList_append_own_at _ hgd s x _ ho B 23 i0 _ 1 24 Tryz.underlying27 hi0 hz0 hz1 hz2 rfl (by omega) vw W.length vs hs (own_grown v1 hb) ⟨w.heap.size, 0, none⟩ 1 1 [u] hx rfl (cell_one_new _ _ _) (by simp [hu1])
    (by unfold maxLen; omega) (by omega) (by simp; omega) fun v' w' k1 k2 _ k4 => ?_
  obtain ⟨r1, r2⟩ := h.word hb v1 v2 hu k1 k2 k4
  have hbx := h.box_after hb v1 (by decide) k2
  exact hK v' w' (own_slice k1 (by omega)) (by rw [Go.Joins.cell_of_block hbx]; rfl) (Go.Joins.unfrozen_of_block hbx 0) r1 r2 (Grew.old ⟨hb, k2, k4, h.fw⟩ (Bx := Bx) (B := B))
theorem wpList_gr_link {w : World} {ops : Array Oper} {rest : List Oper} {o : Oper} {a : Act} {Q : Exit → Act → World → Prop} (hgd : o.guard = none) (s x : Operand)
    (ho : o.op = .call { callee := .builtin .append, args := #[s, x], argTypes := #[27, 27] }) {F : Nat → Prop} {Bx B : Nat} {vw vn vf : Value} {W N : List (List Int)} {D : List Int}
    (h : GrAt F w Bx B vw vn vf W N D) (hB : B ≤ w.heap.size) (hs : a.eval s = vn) {u : Value} {l : List Int} (hu : WordF F w u l) (E : TypeId) (hx : a.eval x = .slice (some ⟨w.heap.size, 0, none⟩) 1 1) (hsm : N.length ≤ 1000)
    (hK : ∀ v' w', (∃ g k, v' = .slice (some ⟨g, 0, none⟩) (N.length + 1) k) → w'.cell? ⟨Bx, 1, none⟩ = some vn → w'.frozen? ⟨Bx, 1, none⟩ = false → GrAt (orB F v') (w'.setCell ⟨Bx, 1, none⟩ v') Bx B vw v' vf W (N ++ [l]) D → Kept F w (w'.setCell ⟨Bx, 1, none⟩ v') →
      (∀ b, b < w.heap.size → orB F v' b → F b) → wpList Tryz.prog ops Q rest (a.put o.dst v') w') :
    wpList Tryz.prog ops Q (o :: rest) a (w.alloc (.cells #[u] E)) := by
  obtain ⟨us, u1, u2⟩ := h.next
  obtain ⟨i0, hi0, hz0, hz1, hz2⟩ := info_parts Tryz.infoInts
  have hb := below_alloc w (.cells #[u] E)
  have hu1 : u.oneCell' = true := by obtain ⟨a', n', c', rfl, _⟩ := hu; rfl
  refine wpList_append_own_at _ hgd s x _ ho B 23 i0 _ 1 24 Tryz.underlying27 hi0 hz0 hz1 hz2 rfl (by omega) vn N.length us hs (own_grown u1 hb) ⟨w.heap.size, 0, none⟩ 1 1 [u] hx rfl (cell_one_new _ _ _) (by simp [hu1])
    (by unfold maxLen; omega) (by omega) (by simp; omega) fun v' w' k1 k2 _ k4 => ?_
  obtain ⟨r1, r2⟩ := h.link hb u1 u2 hu k1 k2 k4
  have hbx := h.box_after hb u1 (by decide) k2
  exact hK v' w' (own_slice k1 (by omega)) (by rw [Go.Joins.cell_of_block hbx]; rfl) (Go.Joins.unfrozen_of_block hbx 1) r1 r2 (Grew.old ⟨hb, k2, k4, h.fn⟩ (Bx := Bx) (B := B))
theorem wpList_gr_dist {w : World} {ops : Array Oper} {rest : List Oper} {o : Oper} {a : Act} {Q : Exit → Act → World → Prop} (hgd : o.guard = none) (s x : Operand)
    (ho : o.op = .call { callee := .builtin .append, args := #[s, x], argTypes := #[23, 23] }) {F : Nat → Prop} {Bx B : Nat} {vw vn vf : Value} {W N : List (List Int)} {D : List Int}
    (h : GrAt F w Bx B vw vn vf W N D) (hB : B ≤ w.heap.size) (hs : a.eval s = vf) (d : Int) (E : TypeId) (hx : a.eval x = .slice (some ⟨w.heap.size, 0, none⟩) 1 1) (hsm : D.length ≤ 1000)
    (hK : ∀ v' w', (∃ g k, v' = .slice (some ⟨g, 0, none⟩) (D.length + 1) k) → w'.cell? ⟨Bx, 2, none⟩ = some vf → w'.frozen? ⟨Bx, 2, none⟩ = false → GrAt (orB F v') (w'.setCell ⟨Bx, 2, none⟩ v') Bx B vw vn v' W N (D ++ [d]) → Kept F w (w'.setCell ⟨Bx, 2, none⟩ v') →
      (∀ b, b < w.heap.size → orB F v' b → F b) → wpList Tryz.prog ops Q rest (a.put o.dst v') w') :
    wpList Tryz.prog ops Q (o :: rest) a (w.alloc (.cells #[.int .i64 d] E)) := by
  obtain ⟨i0, hi0, hz0, hz1, hz2⟩ := info_parts Tryz.infoInt
  have hb := below_alloc w (.cells #[.int .i64 d] E)
  refine wpList_append_own_at _ hgd s x _ ho B 3 i0 _ 1 8 Tryz.underlying23 hi0 hz0 hz1 hz2 rfl (by omega) vf D.length (D.map (Value.int .i64)) hs (own_grown h.far hb) ⟨w.heap.size, 0, none⟩ 1 1 [.int .i64 d] hx rfl (cell_one_new _ _ _) (by simp [Value.oneCell'])
    (by unfold maxLen; omega) (by omega) (by simp; omega) fun v' w' k1 k2 _ k4 => ?_
  obtain ⟨r1, r2⟩ := h.dist hb (d := d) (by rw [List.map_append]; exact k1) k2 k4
  have hbx := h.box_after hb h.far (by decide) k2
  exact hK v' w' (own_slice k1 (by omega)) (by rw [Go.Joins.cell_of_block hbx]; rfl) (Go.Joins.unfrozen_of_block hbx 2) r1 r2 (Grew.old ⟨hb, k2, k4, h.ff⟩ (Bx := Bx) (B := B))
end Go.Proofs.YtebbmhlkdfmmcaaGreat
