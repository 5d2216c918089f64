import Derived.Test.YtpcpmdokgdbonaaVN
/-! lexicons in new memory -/
namespace Go.Proofs.Kv
open Go.RowKit Go

/-- rows of the call's own, each in a block of its own -/
structure RowsIn (E1 : TypeId) (w : World) (B : Nat) (us : List Value) (R : List (List Int)) : Prop where
  len : us.length = R.length
  row : ∀ i u, us[i]? = some u → w.ownsRow B E1 1 u (R.getD i []).length ((R.getD i []).map (Value.int .i64))
  apart : ∀ (i j : Nat) (u u' : Value) (b : Nat), i ≠ j → us[i]? = some u → us[j]? = some u' → u.ownBlock = some b → u'.ownBlock ≠ some b
theorem RowsIn.nil (E1 : TypeId) (w : World) (B : Nat) : RowsIn E1 w B [] [] := ⟨rfl, fun i u h => by simp at h, fun i j u u' b _ h => by simp at h⟩
theorem RowsIn.below {E1 : TypeId} {w w' : World} {B B' : Nat} {us : List Value} {R : List (List Int)} (h : RowsIn E1 w B us R) (hb : Below B' w w') (hB : w.heap.size ≤ B') : RowsIn E1 w' B us R :=
  ⟨h.len, fun i u hu => own_below (h.row i u hu) hb hB, h.apart⟩
theorem RowsIn.base {E1 : TypeId} {w : World} {B B' : Nat} {us : List Value} {R : List (List Int)} (h : RowsIn E1 w B' us R) (hB : B ≤ B') : RowsIn E1 w B us R :=
  ⟨h.len, fun i u hu => own_base (h.row i u hu) hB, h.apart⟩
theorem RowsIn.lt {E1 : TypeId} {w : World} {B : Nat} {us : List Value} {R : List (List Int)} (h : RowsIn E1 w B us R) {i : Nat} {u : Value} (hu : us[i]? = some u) : ∀ b, u.ownBlock = some b → B ≤ b ∧ b < w.heap.size := (h.row i u hu).lt
theorem RowsIn.kept {E1 : TypeId} {w w' : World} {B : Nat} {us : List Value} {R : List (List Int)} {row : Option Nat} (h : RowsIn E1 w B us R) (hg : w.grownBy w' row) (hne : ∀ (i : Nat) (u : Value) (b : Nat), us[i]? = some u → u.ownBlock = some b → row ≠ some b) : RowsIn E1 w' B us R :=
  ⟨h.len, fun i u hu => (h.row i u hu).kept hg (by
    by_cases hx : u.ownBlock = none
    · exact .inl hx
    · obtain ⟨b, hb⟩ := Option.ne_none_iff_exists'.1 hx
      exact .inr (by rw [hb]; exact fun e => hne i u b hu hb e.symm)), h.apart⟩
/-- .. by what changes a row of another type -/
theorem RowsIn.other {E1 E n size : Nat} {w w' : World} {B B' : Nat} {us xs : List Value} {v : Value} {R : List (List Int)} (h : RowsIn E1 w B us R) (ho : w.ownsRow B' E size v n xs) (hE : E ≠ E1) (hg : w.grownBy w' v.ownBlock) : RowsIn E1 w' B us R :=
  h.kept hg fun i u b hu hb => by
    have := own_apart (h.row i u hu) ho (Ne.symm hE)
    exact this b hb
theorem snoc_at {α : Type} {l : List α} {x y : α} {i : Nat} (h : (l ++ [x])[i]? = some y) : (i < l.length ∧ l[i]? = some y) ∨ (i = l.length ∧ y = x) := by
  by_cases hk : i < l.length
  · rw [List.getElem?_append_left hk] at h; exact .inl ⟨hk, h⟩
  · have hk2 := (List.getElem?_eq_some_iff.1 h).1
    rw [List.length_append, List.length_singleton] at hk2
    obtain rfl : i = l.length := by omega
    rw [List.getElem?_append_right (Nat.le_refl _), Nat.sub_self] at h
    exact .inr ⟨rfl, by simpa using h.symm⟩
/-- a new own row put behind -/
theorem RowsIn.push {E1 : TypeId} {w w1 : World} {B : Nat} {us : List Value} {R : List (List Int)} {u : Value} {r : List Int} (h : RowsIn E1 w B us R) (hb : Below w.heap.size w w1) (hu : w1.ownsRow w.heap.size E1 1 u r.length (r.map (Value.int .i64))) (hB : B ≤ w.heap.size) : RowsIn E1 w1 B (us ++ [u]) (R ++ [r]) := by
  have hl := h.len
  refine ⟨by simp [hl], fun i x hx => ?_, fun i j x y b hij hx hy hxb hyb => ?_⟩
  · rcases snoc_at hx with ⟨h1, h2⟩ | ⟨h1, rfl⟩
    · rw [getD_app7, if_pos (by omega)]
      exact own_below (h.row i x h2) hb (Nat.le_refl _)
    · rw [getD_app7, if_neg (by omega), show i - R.length = 0 by omega]
      exact own_base hu hB
  · rcases snoc_at hx with ⟨h1, h2⟩ | ⟨h1, rfl⟩ <;> rcases snoc_at hy with ⟨h3, h4⟩ | ⟨h3, rfl⟩
    · exact h.apart i j x y b hij h2 h4 hxb hyb
    · have := (h.lt h2 b hxb).2; have := (hu.lt b hyb).1; omega
    · have := (h.lt h4 b hyb).2; have := (hu.lt b hxb).1; omega
    · omega
theorem getD_set8 {α : Type} (L : List α) (r d : α) (i j : Nat) (hi : i < L.length) : (L.set i r).getD j d = if j = i then r else L.getD j d := by
  by_cases e : j = i
  · subst e; simp [List.getD, hi]
  · simp [List.getD, e, List.getElem?_set_ne (Ne.symm e)]
/-- row i turns in its own block -/
theorem RowsIn.turn {E1 : TypeId} {w w' : World} {B i : Nat} {u : Value} {us : List Value} {R : List (List Int)} {r : List Int} (h : RowsIn E1 w B us R) (hu : us[i]? = some u) (hg : w.grownBy w' u.ownBlock) (hu' : w'.ownsRow B E1 1 u r.length (r.map (Value.int .i64))) : RowsIn E1 w' B us (R.set i r) := by
  have hl := h.len
  have hi : i < R.length := by rw [← hl]; exact (List.getElem?_eq_some_iff.1 hu).1
  refine ⟨by simp [hl], fun j x hx => ?_, h.apart⟩
  rw [getD_set8 _ _ _ _ _ hi]
  by_cases e : j = i
  · subst e
    rw [hu] at hx; injection hx with hx; subst hx
    rw [if_pos rfl]; exact hu'
  · rw [if_neg e]
    refine (h.row j x hx).kept hg ?_
    by_cases hxn : x.ownBlock = none
    · exact .inl hxn
    · obtain ⟨b, hb⟩ := Option.ne_none_iff_exists'.1 hxn
      exact .inr (by rw [hb]; exact fun q => h.apart j i x u b e hx hu hb q.symm)
/-- a new own row takes the place of row i -/
theorem RowsIn.put {E1 : TypeId} {w w1 : World} {B i : Nat} {us : List Value} {R : List (List Int)} {u : Value} {r : List Int} (h : RowsIn E1 w B us R) (hi : i < R.length) (hb : Below w.heap.size w w1) (hu : w1.ownsRow w.heap.size E1 1 u r.length (r.map (Value.int .i64))) (hB : B ≤ w.heap.size) : RowsIn E1 w1 B (us.set i u) (R.set i r) := by
  have hl := h.len
  have hat : ∀ j x, (us.set i u)[j]? = some x → (j = i ∧ x = u) ∨ (j ≠ i ∧ us[j]? = some x) := fun j x hx => by
    by_cases e : j = i
    · subst e
      rw [List.getElem?_set_self (by omega)] at hx
      injection hx with hx; exact .inl ⟨rfl, hx.symm⟩
    · rw [List.getElem?_set_ne (Ne.symm e)] at hx
      exact .inr ⟨e, hx⟩
  refine ⟨by simp [hl], fun j x hx => ?_, fun j k x y b hjk hx hy hxb hyb => ?_⟩
  · rw [getD_set8 _ _ _ _ _ hi]
    rcases hat j x hx with ⟨rfl, rfl⟩ | ⟨e, h2⟩
    · rw [if_pos rfl]; exact own_base hu hB
    · rw [if_neg e]; exact own_below (h.row j x h2) hb (Nat.le_refl _)
  · rcases hat j x hx with ⟨h1, h2⟩ | ⟨h1, h2⟩ <;> rcases hat k y hy with ⟨h3, h4⟩ | ⟨h3, h4⟩
    · omega
    · subst h2; have := (h.lt h4 b hyb).2; have := (hu.lt b hxb).1; omega
    · subst h4; have := (h.lt h2 b hxb).2; have := (hu.lt b hyb).1; omega
    · exact h.apart j k x y b hjk h2 h4 hxb hyb
theorem RowsIn.ints {E1 : TypeId} {w : World} {B : Nat} {us : List Value} {R : List (List Int)} (h : RowsIn E1 w B us R) {i : Nat} {u : Value} (hu : us[i]? = some u) : ∃ a c, u = .slice a (R.getD i []).length c ∧ IntsAt w a (R.getD i []).length c (R.getD i []) := IntsAt.own (h.row i u hu)

/-- an item as cells -/
abbrev Ic : Type := Value × Int × Int
def encI (x : Ic) : List Value := [x.1, .int .i64 x.2.1, .int .i64 x.2.2]
theorem encI_len : ∀ (l : List Ic), (l.flatMap encI).length = l.length * 3
  | [] => rfl
  | x :: l => by simp only [List.flatMap_cons, List.length_append, encI_len l, List.length_cons]; simp [encI]; omega
theorem encI_at : ∀ (l : List Ic) (i : Nat) (x : Ic), l[i]? = some x → (l.flatMap encI)[i * 3]? = some x.1 ∧ (l.flatMap encI)[i * 3 + 1]? = some (.int .i64 x.2.1) ∧ (l.flatMap encI)[i * 3 + 2]? = some (.int .i64 x.2.2)
  | [], i, x, h => by simp at h
  | y :: l, 0, x, h => by simp at h; subst h; exact ⟨rfl, rfl, rfl⟩
  | y :: l, i + 1, x, h => by
    have ih := encI_at l i x (by simpa using h)
    rw [List.flatMap_cons]
    have e2 : (encI y).length = 3 := rfl
    refine ⟨?_, ?_, ?_⟩
    · rw [List.getElem?_append_right (by rw [e2]; omega), e2, show (i + 1) * 3 - 3 = i * 3 by omega]; exact ih.1
    · rw [List.getElem?_append_right (by rw [e2]; omega), e2, show (i + 1) * 3 + 1 - 3 = i * 3 + 1 by omega]; exact ih.2.1
    · rw [List.getElem?_append_right (by rw [e2]; omega), e2, show (i + 1) * 3 + 2 - 3 = i * 3 + 2 by omega]; exact ih.2.2
theorem encI_word : ∀ (l : List Ic) (i : Nat) (x : Ic) (u : Value), l[i]? = some x → (l.flatMap encI).set (i * 3) u = (l.set i (u, x.2)).flatMap encI
  | [], i, x, u, h => by simp at h
  | y :: l, 0, x, u, h => by simp at h; subst h; rfl
  | y :: l, i + 1, x, u, h => by
    have ih := encI_word l i x u (by simpa using h)
    rw [List.set_cons_succ, List.flatMap_cons, List.flatMap_cons, ← ih, show (i + 1) * 3 = i * 3 + 3 by omega]
    rfl
theorem encI_cost : ∀ (l : List Ic) (i : Nat) (x : Ic) (k : Int), l[i]? = some x → (l.flatMap encI).set (i * 3 + 2) (.int .i64 k) = (l.set i (x.1, x.2.1, k)).flatMap encI
  | [], i, x, k, h => by simp at h
  | y :: l, 0, x, k, h => by simp at h; subst h; rfl
  | y :: l, i + 1, x, k, h => by
    have ih := encI_cost l i x k (by simpa using h)
    rw [List.set_cons_succ, List.flatMap_cons, List.flatMap_cons, ← ih, show (i + 1) * 3 + 2 = i * 3 + 2 + 3 by omega]
    rfl
/-- the items row iv and the row fv of lists are a lexicon in memory of its own -/
structure NewI (EI EL E1 : TypeId) (w : World) (B : Nat) (iv fv : Value) (xs : List Ic) (fs : List Value) (L : Lx) : Prop where
  ne1 : EI ≠ E1
  ne2 : EL ≠ E1
  ne3 : EI ≠ EL
  items : w.ownsRow B EI 3 iv L.items.length (xs.flatMap encI)
  len : xs.length = L.items.length
  kc : ∀ i x, xs[i]? = some x → x.2 = ((L.items.getD i I0).kind, (L.items.getD i I0).cost)
  fol : w.ownsRow B EL 1 fv L.follow.length fs
  rows : RowsIn E1 w B (xs.map (·.1) ++ fs) (L.items.map (·.word) ++ L.follow)
theorem NewI.flen {EI EL E1 : TypeId} {w : World} {B : Nat} {iv fv : Value} {xs : List Ic} {fs : List Value} {L : Lx} (h : NewI EI EL E1 w B iv fv xs fs L) : fs.length = L.follow.length := by have := h.fol.1; omega
theorem NewI.below {EI EL E1 : TypeId} {w w' : World} {B B' : Nat} {iv fv : Value} {xs : List Ic} {fs : List Value} {L : Lx} (h : NewI EI EL E1 w B iv fv xs fs L) (hb : Below B' w w') (hB : w.heap.size ≤ B') : NewI EI EL E1 w' B iv fv xs fs L :=
  ⟨h.ne1, h.ne2, h.ne3, own_below h.items hb hB, h.len, h.kc, own_below h.fol hb hB, h.rows.below hb hB⟩
theorem NewI.base {EI EL E1 : TypeId} {w : World} {B B' : Nat} {iv fv : Value} {xs : List Ic} {fs : List Value} {L : Lx} (h : NewI EI EL E1 w B' iv fv xs fs L) (hB : B ≤ B') : NewI EI EL E1 w B iv fv xs fs L :=
  ⟨h.ne1, h.ne2, h.ne3, own_base h.items hB, h.len, h.kc, own_base h.fol hB, h.rows.base hB⟩
theorem getD_cat {α : Type} (L M : List α) (d : α) (i : Nat) : (L ++ M).getD i d = if i < L.length then L.getD i d else M.getD (i - L.length) d := by
  by_cases h : i < L.length
  · simp [List.getD, h, List.getElem?_append_left h]
  · rw [if_neg h]; simp only [List.getD]; rw [List.getElem?_append_right (by omega)]
theorem NewI.word {EI EL E1 : TypeId} {w : World} {B : Nat} {iv fv : Value} {xs : List Ic} {fs : List Value} {L : Lx} (h : NewI EI EL E1 w B iv fv xs fs L) {i : Nat} (hi : i < L.items.length) : ∃ x, xs[i]? = some x ∧ w.ownsRow B E1 1 x.1 (L.items.getD i I0).word.length ((L.items.getD i I0).word.map (Value.int .i64)) := by
  have hx : i < xs.length := by rw [h.len]; exact hi
  refine ⟨xs[i], List.getElem?_eq_getElem hx, ?_⟩
  have := h.rows.row i xs[i].1 (by rw [List.getElem?_append_left (by simpa using hx), List.getElem?_map, List.getElem?_eq_getElem hx]; rfl)
  have e : (L.items.map (·.word) ++ L.follow).getD i [] = (L.items.getD i I0).word := by
    rw [getD_cat, if_pos (by simpa using hi)]; simp [List.getD, hi]
  rw [e] at this
  exact this
theorem NewI.list {EI EL E1 : TypeId} {w : World} {B : Nat} {iv fv : Value} {xs : List Ic} {fs : List Value} {L : Lx} (h : NewI EI EL E1 w B iv fv xs fs L) {k : Nat} (hk : k < L.follow.length) : ∃ u, fs[k]? = some u ∧ (xs.map (·.1) ++ fs)[L.items.length + k]? = some u ∧ w.ownsRow B E1 1 u (L.follow.getD k []).length ((L.follow.getD k []).map (Value.int .i64)) := by
  have hx : k < fs.length := by rw [h.flen]; exact hk
  have hl := h.len
  have hu : (xs.map (·.1) ++ fs)[L.items.length + k]? = some fs[k] := by
    rw [List.getElem?_append_right (by simp [hl])]; simp [hl, hx]
  refine ⟨fs[k], List.getElem?_eq_getElem hx, hu, ?_⟩
  have := h.rows.row _ _ hu
  have e : (L.items.map (·.word) ++ L.follow).getD (L.items.length + k) [] = L.follow.getD k [] := by
    rw [getD_cat, if_neg (by simp)]; simp
  rw [e] at this
  exact this
theorem add_zero8 (g j : Nat) : (⟨g, 0, none⟩ : Addr).add j = ⟨g, j, none⟩ := by unfold Addr.add; split <;> simp_all
theorem NewI.itemsAt {EI EL E1 : TypeId} {w : World} {B : Nat} {iv fv : Value} {xs : List Ic} {fs : List Value} {L : Lx} (h : NewI EI EL E1 w B iv fv xs fs L) : ∃ a c, iv = .slice a L.items.length c ∧ ItemsAt w a L.items.length c L.items := by
  have H1 := h.items
  rcases H1.2 with ⟨rfl, h0⟩ | ⟨g, cap, cur, rfl, _, hg, hn, hm, hs, ht⟩
  · rw [h0]
    exact ⟨none, 0, rfl, h0, Nat.le_refl _, by omega, fun i hi => absurd hi (by omega)⟩
  · refine ⟨_, cap, rfl, rfl, hn, by unfold maxLen at hm; omega, fun i hi => ?_⟩
    obtain ⟨x, hx, ho⟩ := h.word hi
    obtain ⟨e0, e1, e2⟩ := encI_at xs i x hx
    have hk := h.kc i x hx
    have A : ∀ j u, (xs.flatMap encI)[j]? = some u → w.cell? ⟨g, j, none⟩ = some u := fun j u hu => by
      have := H1.cells (g := g) rfl j u hu
      rwa [add_zero8] at this
    obtain ⟨a1, c1, hu, hI⟩ := IntsAt.own ho
    rw [hu] at e0
    rw [hk] at e1 e2
    refine ⟨g, 0, a1, _, c1, rfl, (Array.getElem?_eq_some_iff.1 hg).1, ?_, ?_, ?_, hI⟩
    · rw [Nat.zero_add]; exact A _ _ e0
    · rw [Nat.zero_add]; exact A _ _ e1
    · rw [Nat.zero_add]; exact A _ _ e2
theorem NewI.listsAt {EI EL E1 : TypeId} {w : World} {B : Nat} {iv fv : Value} {xs : List Ic} {fs : List Value} {L : Lx} (h : NewI EI EL E1 w B iv fv xs fs L) : ∃ a c, fv = .slice a L.follow.length c ∧ ListsAt w a L.follow.length c L.follow := by
  have H1 := h.fol
  rcases H1.2 with ⟨rfl, h0⟩ | ⟨g, cap, cur, rfl, _, hg, hn, hm, hs, ht⟩
  · rw [h0]
    exact ⟨none, 0, rfl, h0, Nat.le_refl _, by omega, fun i hi => absurd hi (by omega)⟩
  · refine ⟨_, cap, rfl, rfl, hn, by unfold maxLen at hm; omega, fun i hi => ?_⟩
    obtain ⟨u, hu, -, ho⟩ := h.list hi
    obtain ⟨a, c, rfl, hI⟩ := IntsAt.own ho
    have hc := H1.cells (g := g) rfl i _ hu
    rw [add_zero8] at hc
    exact ⟨g, 0, a, _, c, rfl, (Array.getElem?_eq_some_iff.1 hg).1, by rw [Nat.zero_add]; exact hc, hI⟩
theorem NewI.lex {EI EL E1 : TypeId} {w : World} {B : Nat} {iv fv : Value} {xs : List Ic} {fs : List Value} {L : Lx} (h : NewI EI EL E1 w B iv fv xs fs L) : LexAt w (.agg #[iv, fv]) L := by
  obtain ⟨a, c, rfl, h1⟩ := h.itemsAt
  obtain ⟨a', c', rfl, h2⟩ := h.listsAt
  exact ⟨a, _, c, a', _, c', rfl, h1, h2⟩
theorem setCell_grown (w : World) (p : Addr) (v : Value) : w.grownBy (w.setCell p v) (some p.block) :=
  ⟨rfl, rfl, rfl, by simp, fun k _ hk => heap_setCell_other w p k v (fun e => hk (by simp [e]))⟩
theorem own_store {w : World} {B E size n : Nat} {v : Value} {xs : List Value} (h : w.ownsRow B E size v n xs) {p : Addr} (hp : p.block < B) (y : Value) : (w.setCell p y).ownsRow B E size v n xs :=
  h.kept (setCell_grown w p y) (by
    by_cases hx : v.ownBlock = none
    · exact .inl hx
    · obtain ⟨b, hb⟩ := Option.ne_none_iff_exists'.1 hx
      exact .inr (by rw [hb]; intro e; injection e with e; have := (h.lt b hb).1; omega))
theorem RowsIn.store {E1 : TypeId} {w : World} {B : Nat} {us : List Value} {R : List (List Int)} (h : RowsIn E1 w B us R) {p : Addr} (hp : p.block < B) (y : Value) : RowsIn E1 (w.setCell p y) B us R :=
  ⟨h.len, fun i u hu => own_store (h.row i u hu) hp y, h.apart⟩
theorem NewI.store {EI EL E1 : TypeId} {w : World} {B : Nat} {iv fv : Value} {xs : List Ic} {fs : List Value} {L : Lx} (h : NewI EI EL E1 w B iv fv xs fs L) {p : Addr} (hp : p.block < B) (y : Value) : NewI EI EL E1 (w.setCell p y) B iv fv xs fs L :=
  ⟨h.ne1, h.ne2, h.ne3, own_store h.items hp y, h.len, h.kc, own_store h.fol hp y, h.rows.store hp y⟩
theorem own_kept_ne {w w' : World} {B E size n : Nat} {v : Value} {xs : List Value} {row : Option Nat} (h : w.ownsRow B E size v n xs) (hg : w.grownBy w' row) (hne : ∀ b, v.ownBlock = some b → row ≠ some b) : w'.ownsRow B E size v n xs :=
  h.kept hg (by
    by_cases hx : v.ownBlock = none
    · exact .inl hx
    · obtain ⟨b, hb⟩ := Option.ne_none_iff_exists'.1 hx
      exact .inr (by rw [hb]; exact fun e => hne b hb e.symm))
/-- a new row of the lists, behind the others -/
theorem NewI.push {EI EL E1 : TypeId} {w w1 w2 : World} {B : Nat} {iv fv fv' u : Value} {xs : List Ic} {fs : List Value} {I : List It} {F : List (List Int)} {r : List Int} (h : NewI EI EL E1 w B iv fv xs fs ⟨I, F⟩) (hB : B ≤ w.heap.size)
    (hb1 : Below w.heap.size w w1) (hu : w1.ownsRow w.heap.size E1 1 u r.length (r.map (Value.int .i64))) {o : Obj} (hf : w2.ownsRow B EL 1 fv' (F.length + 1) (fs ++ [u])) (hg : (w1.alloc o).grownBy w2 fv.ownBlock) :
    NewI EI EL E1 w2 B iv fv' xs (fs ++ [u]) ⟨I, F ++ [r]⟩ := by
  have hb2 : Below w.heap.size w (w1.alloc o) := hb1.alloc hb1.size o
  have h2 := h.below hb2 (Nat.le_refl _)
  have hu2 : (w1.alloc o).ownsRow w.heap.size E1 1 u r.length (r.map (Value.int .i64)) := hu.alloc _
  have hR := h.rows.push hb2 hu2 hB
  have hI : w2.ownsRow B EI 3 iv I.length (xs.flatMap encI) := own_kept_ne h2.items hg (fun b hb => own_apart h2.items h2.fol h.ne3 b hb)
  refine ⟨h.ne1, h.ne2, h.ne3, hI, h.len, h.kc, by simpa using hf, ?_⟩
  have := hR.other h2.fol h.ne2 hg
  simpa [List.append_assoc] using this
section
variable {P : Program}
theorem wpList_appendN {ops : Array Oper} {rest : List Oper} {o : Oper} {a : Act} {Q : Exit → Act → World → Prop} (w : World) (hgd : o.guard = none) (s x : Operand) (t : TypeId)
    (ho : o.op = .call { callee := .builtin .append, args := #[s, x], argTypes := #[t, t] })
    (base : Nat) (e : TypeId) (i : TypeInfo) {z : Value} (size by_ : Nat) (ht : P.underlying t = some (.slice e)) (hi : P.info? e = some i) (hz : i.zero = some z) (hzc : z.cells.size = size) (hsize : i.size = size) (hs0 : 0 < size) (hby : i.bytes = by_) (hb0 : by_ ≤ 48)
    (v : Value) (n : Nat) (xs : List Value) (hs : a.eval s = v) (hown : w.ownsRow base e size v n xs)
    (A : Addr) (m c : Nat) (news : List Value) (hx : a.eval x = .slice (some A) m c) (hl : news.length = m * size) (hc : ∀ j u, news[j]? = some u → w.cell? (A.add j) = some u) (h1 : ∀ u ∈ news, u.oneCell' = true) (hsm : n + m ≤ 1000000) (hbase : base ≤ w.heap.size)
    (h : ∀ v' w', w'.ownsRow base e size v' (n + m) (xs ++ news) → w.grownBy w' v.ownBlock → (v'.ownBlock = v.ownBlock ∨ v'.ownBlock = some w.heap.size) → wpList P ops Q rest (a.put o.dst v') w') :
    wpList P ops Q (o :: rest) a w := by
  have hm : (n + m) * by_ ≤ 1000000 * 48 := Nat.mul_le_mul hsm hb0
  refine wpList_plain hgd fun K hK => ?_
  obtain ⟨v', w', hrun, h2, h3, _, h5⟩ := run_append_own_at (P := P) w base t o.type e i z size by_ ht hi hz hsize hby hzc hs0 v n xs hown A m c news hl hc h1 (by unfold maxLen; omega) (by omega) hbase
  unfold Oper.wp execOp
  simp only [ho, resolve, invoke, builtin, Sem.run_bind, Sem.run_pure, Result.andThen_ok, List.map_toArray, List.map_cons, List.map_nil, hs, hx, hrun]
  exact hK _ _ (h v' w' h2 h3 h5)
theorem step_appendN {ops : Array Oper} {o : Oper} {a : Act} {w : World} {K : Act → World → Prop} {Q : Exit → Act → World → Prop} {E0 : Prop} (hgd : o.guard = none) (s x : Operand) (t : TypeId)
    (ho : o.op = .call { callee := .builtin .append, args := #[s, x], argTypes := #[t, t] })
    (base : Nat) (e : TypeId) (i : TypeInfo) {z : Value} (size by_ : Nat) (ht : P.underlying t = some (.slice e)) (hi : P.info? e = some i) (hz : i.zero = some z) (hzc : z.cells.size = size) (hsize : i.size = size) (hs0 : 0 < size) (hby : i.bytes = by_) (hb0 : by_ ≤ 48)
    (v : Value) (n : Nat) (xs : List Value) (hs : a.eval s = v) (hown : w.ownsRow base e size v n xs)
    (A : Addr) (m c : Nat) (news : List Value) (hx : a.eval x = .slice (some A) m c) (hl : news.length = m * size) (hc : ∀ j u, news[j]? = some u → w.cell? (A.add j) = some u) (h1 : ∀ u ∈ news, u.oneCell' = true) (hsm : n + m ≤ 1000000) (hbase : base ≤ w.heap.size)
    (hK : ∀ v' w', w'.ownsRow base e size v' (n + m) (xs ++ news) → w.grownBy w' v.ownBlock → (v'.ownBlock = v.ownBlock ∨ v'.ownBlock = some w.heap.size) → K (a.put o.dst v') w') :
    if Region.wanted o (yielded ops a.tmps) = true then Oper.wp P o a w K Q else E0 := by
  have hm : (n + m) * by_ ≤ 1000000 * 48 := Nat.mul_le_mul hsm hb0
  have hw : Region.wanted o (yielded ops a.tmps) = true := by simp [Region.wanted, hgd]
  rw [if_pos hw]
  obtain ⟨v', w', hrun, h2, h3, _, h5⟩ := run_append_own_at (P := P) w base t o.type e i z size by_ ht hi hz hsize hby hzc hs0 v n xs hown A m c news hl hc h1 (by unfold maxLen; omega) (by omega) hbase
  unfold Oper.wp
  simp [execOp, ho, resolve, invoke, builtin, hs, hx, hrun, Result.andThen]
  exact hK _ _ h2 h3 h5
end
end Go.Proofs.Kv
