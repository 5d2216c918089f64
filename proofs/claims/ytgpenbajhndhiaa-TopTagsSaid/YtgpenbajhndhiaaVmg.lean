import Derived.Test.YtgpenbajhndhiaaVmn
import Derived.Test.YtgpenbajhndhiaaVlt
/-! lexicons in new memory -/
namespace Go.Proofs.Kv
open Go.RowKit Go

/-- rows of the call's own, each in a block of its own -/
structure RowsIn (E1 : TypeId) (w : World) (B : Nat) (us : List Value) (R : List (List Int)) : Prop where
  len : us.length = R.length
  row : ∀ i u, us[i]? = some u → w.ownsRow B E1 1 u (R.getD i []).length ((R.getD i []).map (Value.int .i64))
  apart : ∀ (i j : Nat) (u u' : Value) (b : Nat), i ≠ j → us[i]? = some u → us[j]? = some u' → u.ownBlock = some b → u'.ownBlock ≠ some b
theorem RowsIn.nil (E1 : TypeId) (w : World) (B : Nat) : RowsIn E1 w B [] [] := ⟨rfl, fun i u h => by simp at h, fun i j u u' b _ h => by simp at h⟩
theorem RowsIn.below {E1 : TypeId} {w w' : World} {B B' : Nat} {us : List Value} {R : List (List Int)} (h : RowsIn E1 w B us R) (hb : Below B' w w') (hB : w.heap.size ≤ B') : RowsIn E1 w' B us R :=
  ⟨h.len, fun i u hu => own_below (h.row i u hu) hb hB, h.apart⟩
theorem RowsIn.base {E1 : TypeId} {w : World} {B B' : Nat} {us : List Value} {R : List (List Int)} (h : RowsIn E1 w B' us R) (hB : B ≤ B') : RowsIn E1 w B us R :=
  ⟨h.len, fun i u hu => own_base (h.row i u hu) hB, h.apart⟩
theorem RowsIn.lt {E1 : TypeId} {w : World} {B : Nat} {us : List Value} {R : List (List Int)} (h : RowsIn E1 w B us R) {i : Nat} {u : Value} (hu : us[i]? = some u) : ∀ b, u.ownBlock = some b → B ≤ b ∧ b < w.heap.size := (h.row i u hu).lt
theorem RowsIn.kept {E1 : TypeId} {w w' : World} {B : Nat} {us : List Value} {R : List (List Int)} {row : Option Nat} (h : RowsIn E1 w B us R) (hg : w.grownBy w' row) (hne : ∀ (i : Nat) (u : Value) (b : Nat), us[i]? = some u → u.ownBlock = some b → row ≠ some b) : RowsIn E1 w' B us R :=
  ⟨h.len, fun i u hu => (h.row i u hu).kept hg (by
    by_cases hx : u.ownBlock = none
    · exact .inl hx
    · obtain ⟨b, hb⟩ := Option.ne_none_iff_exists'.1 hx
      exact .inr (by rw [hb]; exact fun e => hne i u b hu hb e.symm)), h.apart⟩
/-- .. by what changes a row of another type -/
theorem RowsIn.other {E1 E n size : Nat} {w w' : World} {B B' : Nat} {us xs : List Value} {v : Value} {R : List (List Int)} (h : RowsIn E1 w B us R) (ho : w.ownsRow B' E size v n xs) (hE : E ≠ E1) (hg : w.grownBy w' v.ownBlock) : RowsIn E1 w' B us R :=
  h.kept hg fun i u b hu hb => by
    have := own_apart (h.row i u hu) ho (Ne.symm hE)
    exact this b hb
theorem snoc_at {α : Type} {l : List α} {x y : α} {i : Nat} (h : (l ++ [x])[i]? = some y) : (i < l.length ∧ l[i]? = some y) ∨ (i = l.length ∧ y = x) := by
  by_cases hk : i < l.length
  · rw [List.getElem?_append_left hk] at h; exact .inl ⟨hk, h⟩
  · have hk2 := (List.getElem?_eq_some_iff.1 h).1
    rw [List.length_append, List.length_singleton] at hk2
    obtain rfl : i = l.length := by omega
    rw [List.getElem?_append_right (Nat.le_refl _), Nat.sub_self] at h
    exact .inr ⟨rfl, by simpa using h.symm⟩
/-- a new own row put behind -/
theorem RowsIn.push {E1 : TypeId} {w w1 : World} {B : Nat} {us : List Value} {R : List (List Int)} {u : Value} {r : List Int} (h : RowsIn E1 w B us R) (hb : Below w.heap.size w w1) (hu : w1.ownsRow w.heap.size E1 1 u r.length (r.map (Value.int .i64))) (hB : B ≤ w.heap.size) : RowsIn E1 w1 B (us ++ [u]) (R ++ [r]) := by
  have hl := h.len
  refine ⟨by simp [hl], fun i x hx => ?_, fun i j x y b hij hx hy hxb hyb => ?_⟩
  · rcases snoc_at hx with ⟨h1, h2⟩ | ⟨h1, rfl⟩
    · rw [getD_app7, if_pos (by omega)]
      exact own_below (h.row i x h2) hb (Nat.le_refl _)
    · rw [getD_app7, if_neg (by omega), show i - R.length = 0 by omega]
      exact own_base hu hB
  · rcases snoc_at hx with ⟨h1, h2⟩ | ⟨h1, rfl⟩ <;> rcases snoc_at hy with ⟨h3, h4⟩ | ⟨h3, rfl⟩
    · exact h.apart i j x y b hij h2 h4 hxb hyb
    · have := (h.lt h2 b hxb).2; have := (hu.lt b hyb).1; omega
    · have := (h.lt h4 b hyb).2; have := (hu.lt b hxb).1; omega
    · omega
theorem getD_set8 {α : Type} (L : List α) (r d : α) (i j : Nat) (hi : i < L.length) : (L.set i r).getD j d = if j = i then r else L.getD j d := by
  by_cases e : j = i
  · subst e; simp [List.getD, hi]
  · simp [List.getD, e, List.getElem?_set_ne (Ne.symm e)]
/-- row i turns in its own block -/
theorem RowsIn.turn {E1 : TypeId} {w w' : World} {B i : Nat} {u : Value} {us : List Value} {R : List (List Int)} {r : List Int} (h : RowsIn E1 w B us R) (hu : us[i]? = some u) (hg : w.grownBy w' u.ownBlock) (hu' : w'.ownsRow B E1 1 u r.length (r.map (Value.int .i64))) : RowsIn E1 w' B us (R.set i r) := by
  have hl := h.len
  have hi : i < R.length := by rw [← hl]; exact (List.getElem?_eq_some_iff.1 hu).1
  refine ⟨by simp [hl], fun j x hx => ?_, h.apart⟩
  rw [getD_set8 _ _ _ _ _ hi]
  by_cases e : j = i
  · subst e
    rw [hu] at hx; injection hx with hx; subst hx
    rw [if_pos rfl]; exact hu'
  · rw [if_neg e]
    refine (h.row j x hx).kept hg ?_
    by_cases hxn : x.ownBlock = none
    · exact .inl hxn
    · obtain ⟨b, hb⟩ := Option.ne_none_iff_exists'.1 hxn
      exact .inr (by rw [hb]; exact fun q => h.apart j i x u b e hx hu hb q.symm)
/-- a new own row takes the place of row i -/
theorem RowsIn.put {E1 : TypeId} {w w1 : World} {B i : Nat} {us : List Value} {R : List (List Int)} {u : Value} {r : List Int} (h : RowsIn E1 w B us R) (hi : i < R.length) (hb : Below w.heap.size w w1) (hu : w1.ownsRow w.heap.size E1 1 u r.length (r.map (Value.int .i64))) (hB : B ≤ w.heap.size) : RowsIn E1 w1 B (us.set i u) (R.set i r) := by
  have hl := h.len
  have hat : ∀ j x, (us.set i u)[j]? = some x → (j = i ∧ x = u) ∨ (j ≠ i ∧ us[j]? = some x) := fun j x hx => by
    by_cases e : j = i
    · subst e
      rw [List.getElem?_set_self (by omega)] at hx
      injection hx with hx; exact .inl ⟨rfl, hx.symm⟩
    · rw [List.getElem?_set_ne (Ne.symm e)] at hx
      exact .inr ⟨e, hx⟩
  refine ⟨by simp [hl], fun j x hx => ?_, fun j k x y b hjk hx hy hxb hyb => ?_⟩
  · rw [getD_set8 _ _ _ _ _ hi]
    rcases hat j x hx with ⟨rfl, rfl⟩ | ⟨e, h2⟩
    · rw [if_pos rfl]; exact own_base hu hB
    · rw [if_neg e]; exact own_below (h.row j x h2) hb (Nat.le_refl _)
  · rcases hat j x hx with ⟨h1, h2⟩ | ⟨h1, h2⟩ <;> rcases hat k y hy with ⟨h3, h4⟩ | ⟨h3, h4⟩
    · omega
    · subst h2; have := (h.lt h4 b hyb).2; have := (hu.lt b hxb).1; omega
    · subst h4; have := (h.lt h2 b hxb).2; have := (hu.lt b hyb).1; omega
    · exact h.apart j k x y b hjk h2 h4 hxb hyb
theorem RowsIn.ints {E1 : TypeId} {w : World} {B : Nat} {us : List Value} {R : List (List Int)} (h : RowsIn E1 w B us R) {i : Nat} {u : Value} (hu : us[i]? = some u) : ∃ a c, u = .slice a (R.getD i []).length c ∧ IntsAt w a (R.getD i []).length c (R.getD i []) := IntsAt.own (h.row i u hu)

/-- an item as cells -/
abbrev Ic : Type := Value × Int × Int
def encI (x : Ic) : List Value := [x.1, .int .i64 x.2.1, .int .i64 x.2.2]
theorem encI_len : ∀ (l : List Ic), (l.flatMap encI).length = l.length * 3
  | [] => rfl
  | x :: l => by simp only [List.flatMap_cons, List.length_append, encI_len l, List.length_cons]; simp [encI]; omega
theorem encI_at : ∀ (l : List Ic) (i : Nat) (x : Ic), l[i]? = some x → (l.flatMap encI)[i * 3]? = some x.1 ∧ (l.flatMap encI)[i * 3 + 1]? = some (.int .i64 x.2.1) ∧ (l.flatMap encI)[i * 3 + 2]? = some (.int .i64 x.2.2)
  | [], i, x, h => by simp at h
  | y :: l, 0, x, h => by simp at h; subst h; exact ⟨rfl, rfl, rfl⟩
  | y :: l, i + 1, x, h => by
    have ih := encI_at l i x (by simpa using h)
    rw [List.flatMap_cons]
    have e2 : (encI y).length = 3 := rfl
    refine ⟨?_, ?_, ?_⟩
    · rw [List.getElem?_append_right (by rw [e2]; omega), e2, show (i + 1) * 3 - 3 = i * 3 by omega]; exact ih.1
    · rw [List.getElem?_append_right (by rw [e2]; omega), e2, show (i + 1) * 3 + 1 - 3 = i * 3 + 1 by omega]; exact ih.2.1
    · rw [List.getElem?_append_right (by rw [e2]; omega), e2, show (i + 1) * 3 + 2 - 3 = i * 3 + 2 by omega]; exact ih.2.2
theorem encI_word : ∀ (l : List Ic) (i : Nat) (x : Ic) (u : Value), l[i]? = some x → (l.flatMap encI).set (i * 3) u = (l.set i (u, x.2)).flatMap encI
  | [], i, x, u, h => by simp at h
  | y :: l, 0, x, u, h => by simp at h; subst h; rfl
  | y :: l, i + 1, x, u, h => by
    have ih := encI_word l i x u (by simpa using h)
    rw [List.set_cons_succ, List.flatMap_cons, List.flatMap_cons, ← ih, show (i + 1) * 3 = i * 3 + 3 by omega]
    rfl
theorem encI_cost : ∀ (l : List Ic) (i : Nat) (x : Ic) (k : Int), l[i]? = some x → (l.flatMap encI).set (i * 3 + 2) (.int .i64 k) = (l.set i (x.1, x.2.1, k)).flatMap encI
  | [], i, x, k, h => by simp at h
  | y :: l, 0, x, k, h => by simp at h; subst h; rfl
  | y :: l, i + 1, x, k, h => by
    have ih := encI_cost l i x k (by simpa using h)
    rw [List.set_cons_succ, List.flatMap_cons, List.flatMap_cons, ← ih, show (i + 1) * 3 + 2 = i * 3 + 2 + 3 by omega]
    rfl
/-- the items row iv and the row fv of lists are a lexicon in memory of its own -/
structure NewI (EI EL E1 : TypeId) (w : World) (B : Nat) (iv fv : Value) (xs : List Ic) (fs : List Value) (L : Lx) : Prop where
  ne1 : EI ≠ E1
  ne2 : EL ≠ E1
  ne3 : EI ≠ EL
  items : w.ownsRow B EI 3 iv L.items.length (xs.flatMap encI)
  len : xs.length = L.items.length
  kc : ∀ i x, xs[i]? = some x → x.2 = ((L.items.getD i I0).kind, (L.items.getD i I0).cost)
  fol : w.ownsRow B EL 1 fv L.follow.length fs
  rows : RowsIn E1 w B (xs.map (·.1) ++ fs) (L.items.map (·.word) ++ L.follow)
theorem NewI.flen {EI EL E1 : TypeId} {w : World} {B : Nat} {iv fv : Value} {xs : List Ic} {fs : List Value} {L : Lx} (h : NewI EI EL E1 w B iv fv xs fs L) : fs.length = L.follow.length := by have := h.fol.1; omega
theorem NewI.below {EI EL E1 : TypeId} {w w' : World} {B B' : Nat} {iv fv : Value} {xs : List Ic} {fs : List Value} {L : Lx} (h : NewI EI EL E1 w B iv fv xs fs L) (hb : Below B' w w') (hB : w.heap.size ≤ B') : NewI EI EL E1 w' B iv fv xs fs L :=
  ⟨h.ne1, h.ne2, h.ne3, own_below h.items hb hB, h.len, h.kc, own_below h.fol hb hB, h.rows.below hb hB⟩
theorem NewI.base {EI EL E1 : TypeId} {w : World} {B B' : Nat} {iv fv : Value} {xs : List Ic} {fs : List Value} {L : Lx} (h : NewI EI EL E1 w B' iv fv xs fs L) (hB : B ≤ B') : NewI EI EL E1 w B iv fv xs fs L :=
  ⟨h.ne1, h.ne2, h.ne3, own_base h.items hB, h.len, h.kc, own_base h.fol hB, h.rows.base hB⟩
theorem getD_cat {α : Type} (L M : List α) (d : α) (i : Nat) : (L ++ M).getD i d = if i < L.length then L.getD i d else M.getD (i - L.length) d := by
  by_cases h : i < L.length
  · simp [List.getD, h, List.getElem?_append_left h]
  · rw [if_neg h]; simp only [List.getD]; rw [List.getElem?_append_right (by omega)]
theorem NewI.word {EI EL E1 : TypeId} {w : World} {B : Nat} {iv fv : Value} {xs : List Ic} {fs : List Value} {L : Lx} (h : NewI EI EL E1 w B iv fv xs fs L) {i : Nat} (hi : i < L.items.length) : ∃ x, xs[i]? = some x ∧ w.ownsRow B E1 1 x.1 (L.items.getD i I0).word.length ((L.items.getD i I0).word.map (Value.int .i64)) := by
  have hx : i < xs.length := by rw [h.len]; exact hi
  refine ⟨xs[i], List.getElem?_eq_getElem hx, ?_⟩
  have := h.rows.row i xs[i].1 (by rw [List.getElem?_append_left (by simpa using hx), List.getElem?_map, List.getElem?_eq_getElem hx]; rfl)
  have e : (L.items.map (·.word) ++ L.follow).getD i [] = (L.items.getD i I0).word := by
    rw [getD_cat, if_pos (by simpa using hi)]; simp [List.getD, hi]
  rw [e] at this
  exact this
theorem NewI.list {EI EL E1 : TypeId} {w : World} {B : Nat} {iv fv : Value} {xs : List Ic} {fs : List Value} {L : Lx} (h : NewI EI EL E1 w B iv fv xs fs L) {k : Nat} (hk : k < L.follow.length) : ∃ u, fs[k]? = some u ∧ (xs.map (·.1) ++ fs)[L.items.length + k]? = some u ∧ w.ownsRow B E1 1 u (L.follow.getD k []).length ((L.follow.getD k []).map (Value.int .i64)) := by
  have hx : k < fs.length := by rw [h.flen]; exact hk
  have hl := h.len
  have hu : (xs.map (·.1) ++ fs)[L.items.length + k]? = some fs[k] := by
    rw [List.getElem?_append_right (by simp [hl])]; simp [hl, hx]
  refine ⟨fs[k], List.getElem?_eq_getElem hx, hu, ?_⟩
  have := h.rows.row _ _ hu
  have e : (L.items.map (·.word) ++ L.follow).getD (L.items.length + k) [] = L.follow.getD k [] := by
    rw [getD_cat, if_neg (by simp)]; simp
  rw [e] at this
  exact this
theorem add_zero8 (g j : Nat) : (⟨g, 0, none⟩ : Addr).add j = ⟨g, j, none⟩ := by unfold Addr.add; split <;> simp_all
theorem NewI.itemsAt {EI EL E1 : TypeId} {w : World} {B : Nat} {iv fv : Value} {xs : List Ic} {fs : List Value} {L : Lx} (h : NewI EI EL E1 w B iv fv xs fs L) : ∃ a c, iv = .slice a L.items.length c ∧ ItemsAt w a L.items.length c L.items := by
  have H1 := h.items
  rcases H1.2 with ⟨rfl, h0⟩ | ⟨g, cap, cur, rfl, _, hg, hn, hm, hs, ht⟩
  · rw [h0]
    exact ⟨none, 0, rfl, h0, Nat.le_refl _, by omega, fun i hi => absurd hi (by omega)⟩
  · refine ⟨_, cap, rfl, rfl, hn, by unfold maxLen at hm; omega, fun i hi => ?_⟩
    obtain ⟨x, hx, ho⟩ := h.word hi
    obtain ⟨e0, e1, e2⟩ := encI_at xs i x hx
    have hk := h.kc i x hx
    have A : ∀ j u, (xs.flatMap encI)[j]? = some u → w.cell? ⟨g, j, none⟩ = some u := fun j u hu => by
      have := H1.cells (g := g) rfl j u hu
      rwa [add_zero8] at this
    obtain ⟨a1, c1, hu, hI⟩ := IntsAt.own ho
    rw [hu] at e0
    rw [hk] at e1 e2
    refine ⟨g, 0, a1, _, c1, rfl, (Array.getElem?_eq_some_iff.1 hg).1, ?_, ?_, ?_, hI⟩
    · rw [Nat.zero_add]; exact A _ _ e0
    · rw [Nat.zero_add]; exact A _ _ e1
    · rw [Nat.zero_add]; exact A _ _ e2
theorem NewI.listsAt {EI EL E1 : TypeId} {w : World} {B : Nat} {iv fv : Value} {xs : List Ic} {fs : List Value} {L : Lx} (h : NewI EI EL E1 w B iv fv xs fs L) : ∃ a c, fv = .slice a L.follow.length c ∧ ListsAt w a L.follow.length c L.follow := by
  have H1 := h.fol
  rcases H1.2 with ⟨rfl, h0⟩ | ⟨g, cap, cur, rfl, _, hg, hn, hm, hs, ht⟩
  · rw [h0]
    exact ⟨none, 0, rfl, h0, Nat.le_refl _, by omega, fun i hi => absurd hi (by omega)⟩
  · refine ⟨_, cap, rfl, rfl, hn, by unfold maxLen at hm; omega, fun i hi => ?_⟩
    obtain ⟨u, hu, -, ho⟩ := h.list hi
    obtain ⟨a, c, rfl, hI⟩ := IntsAt.own ho
    have hc := H1.cells (g := g) rfl i _ hu
    rw [add_zero8] at hc
    exact ⟨g, 0, a, _, c, rfl, (Array.getElem?_eq_some_iff.1 hg).1, by rw [Nat.zero_add]; exact hc, hI⟩
theorem NewI.lex {EI EL E1 : TypeId} {w : World} {B : Nat} {iv fv : Value} {xs : List Ic} {fs : List Value} {L : Lx} (h : NewI EI EL E1 w B iv fv xs fs L) : LexAt w (.agg #[iv, fv]) L := by
  obtain ⟨a, c, rfl, h1⟩ := h.itemsAt
  obtain ⟨a', c', rfl, h2⟩ := h.listsAt
  exact ⟨a, _, c, a', _, c', rfl, h1, h2⟩
theorem setCell_grown (w : World) (p : Addr) (v : Value) : w.grownBy (w.setCell p v) (some p.block) :=
  ⟨rfl, rfl, rfl, by simp, fun k _ hk => heap_setCell_other w p k v (fun e => hk (by simp [e]))⟩
theorem own_store {w : World} {B E size n : Nat} {v : Value} {xs : List Value} (h : w.ownsRow B E size v n xs) {p : Addr} (hp : p.block < B) (y : Value) : (w.setCell p y).ownsRow B E size v n xs :=
  h.kept (setCell_grown w p y) (by
    by_cases hx : v.ownBlock = none
    · exact .inl hx
    · obtain ⟨b, hb⟩ := Option.ne_none_iff_exists'.1 hx
      exact .inr (by rw [hb]; intro e; injection e with e; have := (h.lt b hb).1; omega))
theorem RowsIn.store {E1 : TypeId} {w : World} {B : Nat} {us : List Value} {R : List (List Int)} (h : RowsIn E1 w B us R) {p : Addr} (hp : p.block < B) (y : Value) : RowsIn E1 (w.setCell p y) B us R :=
  ⟨h.len, fun i u hu => own_store (h.row i u hu) hp y, h.apart⟩
theorem NewI.store {EI EL E1 : TypeId} {w : World} {B : Nat} {iv fv : Value} {xs : List Ic} {fs : List Value} {L : Lx} (h : NewI EI EL E1 w B iv fv xs fs L) {p : Addr} (hp : p.block < B) (y : Value) : NewI EI EL E1 (w.setCell p y) B iv fv xs fs L :=
  ⟨h.ne1, h.ne2, h.ne3, own_store h.items hp y, h.len, h.kc, own_store h.fol hp y, h.rows.store hp y⟩
theorem own_kept_ne {w w' : World} {B E size n : Nat} {v : Value} {xs : List Value} {row : Option Nat} (h : w.ownsRow B E size v n xs) (hg : w.grownBy w' row) (hne : ∀ b, v.ownBlock = some b → row ≠ some b) : w'.ownsRow B E size v n xs :=
  h.kept hg (by
    by_cases hx : v.ownBlock = none
    · exact .inl hx
    · obtain ⟨b, hb⟩ := Option.ne_none_iff_exists'.1 hx
      exact .inr (by rw [hb]; exact fun e => hne b hb e.symm))
/-- a new row of the lists, behind the others -/
theorem NewI.push {EI EL E1 : TypeId} {w w1 w2 : World} {B : Nat} {iv fv fv' u : Value} {xs : List Ic} {fs : List Value} {I : List It} {F : List (List Int)} {r : List Int} (h : NewI EI EL E1 w B iv fv xs fs ⟨I, F⟩) (hB : B ≤ w.heap.size)
    (hb1 : Below w.heap.size w w1) (hu : w1.ownsRow w.heap.size E1 1 u r.length (r.map (Value.int .i64))) {o : Obj} (hf : w2.ownsRow B EL 1 fv' (F.length + 1) (fs ++ [u])) (hg : (w1.alloc o).grownBy w2 fv.ownBlock) :
    NewI EI EL E1 w2 B iv fv' xs (fs ++ [u]) ⟨I, F ++ [r]⟩ := by
  have hb2 : Below w.heap.size w (w1.alloc o) := hb1.alloc hb1.size o
  have h2 := h.below hb2 (Nat.le_refl _)
  have hu2 : (w1.alloc o).ownsRow w.heap.size E1 1 u r.length (r.map (Value.int .i64)) := hu.alloc _
  have hR := h.rows.push hb2 hu2 hB
  have hI : w2.ownsRow B EI 3 iv I.length (xs.flatMap encI) := own_kept_ne h2.items hg (fun b hb => own_apart h2.items h2.fol h.ne3 b hb)
  refine ⟨h.ne1, h.ne2, h.ne3, hI, h.len, h.kc, by simpa using hf, ?_⟩
  have := hR.other h2.fol h.ne2 hg
  simpa [List.append_assoc] using this
section
variable {P : Program}
theorem wpList_appendN {ops : Array Oper} {rest : List Oper} {o : Oper} {a : Act} {Q : Exit → Act → World → Prop} (w : World) (hgd : o.guard = none) (s x : Operand) (t : TypeId)
    (ho : o.op = .call { callee := .builtin .append, args := #[s, x], argTypes := #[t, t] })
    (base : Nat) (e : TypeId) (i : TypeInfo) {z : Value} (size by_ : Nat) (ht : P.underlying t = some (.slice e)) (hi : P.info? e = some i) (hz : i.zero = some z) (hzc : z.cells.size = size) (hsize : i.size = size) (hs0 : 0 < size) (hby : i.bytes = by_) (hb0 : by_ ≤ 48)
    (v : Value) (n : Nat) (xs : List Value) (hs : a.eval s = v) (hown : w.ownsRow base e size v n xs)
    (A : Addr) (m c : Nat) (news : List Value) (hx : a.eval x = .slice (some A) m c) (hl : news.length = m * size) (hc : ∀ j u, news[j]? = some u → w.cell? (A.add j) = some u) (h1 : ∀ u ∈ news, u.oneCell' = true) (hsm : n + m ≤ 1000000) (hbase : base ≤ w.heap.size)
    (h : ∀ v' w', w'.ownsRow base e size v' (n + m) (xs ++ news) → w.grownBy w' v.ownBlock → (v'.ownBlock = v.ownBlock ∨ v'.ownBlock = some w.heap.size) → wpList P ops Q rest (a.put o.dst v') w') :
    wpList P ops Q (o :: rest) a w := by
  have hm : (n + m) * by_ ≤ 1000000 * 48 := Nat.mul_le_mul hsm hb0
  refine wpList_plain hgd fun K hK => ?_
  obtain ⟨v', w', hrun, h2, h3, _, h5⟩ := run_append_own_at (P := P) w base t o.type e i z size by_ ht hi hz hsize hby hzc hs0 v n xs hown A m c news hl hc h1 (by unfold maxLen; omega) (by omega) hbase
  unfold Oper.wp execOp
  simp only [ho, resolve, invoke, builtin, Sem.run_bind, Sem.run_pure, Result.andThen_ok, List.map_toArray, List.map_cons, List.map_nil, hs, hx, hrun]
  exact hK _ _ (h v' w' h2 h3 h5)
theorem step_appendN {ops : Array Oper} {o : Oper} {a : Act} {w : World} {K : Act → World → Prop} {Q : Exit → Act → World → Prop} {E0 : Prop} (hgd : o.guard = none) (s x : Operand) (t : TypeId)
    (ho : o.op = .call { callee := .builtin .append, args := #[s, x], argTypes := #[t, t] })
    (base : Nat) (e : TypeId) (i : TypeInfo) {z : Value} (size by_ : Nat) (ht : P.underlying t = some (.slice e)) (hi : P.info? e = some i) (hz : i.zero = some z) (hzc : z.cells.size = size) (hsize : i.size = size) (hs0 : 0 < size) (hby : i.bytes = by_) (hb0 : by_ ≤ 48)
    (v : Value) (n : Nat) (xs : List Value) (hs : a.eval s = v) (hown : w.ownsRow base e size v n xs)
    (A : Addr) (m c : Nat) (news : List Value) (hx : a.eval x = .slice (some A) m c) (hl : news.length = m * size) (hc : ∀ j u, news[j]? = some u → w.cell? (A.add j) = some u) (h1 : ∀ u ∈ news, u.oneCell' = true) (hsm : n + m ≤ 1000000) (hbase : base ≤ w.heap.size)
    (hK : ∀ v' w', w'.ownsRow base e size v' (n + m) (xs ++ news) → w.grownBy w' v.ownBlock → (v'.ownBlock = v.ownBlock ∨ v'.ownBlock = some w.heap.size) → K (a.put o.dst v') w') :
    if Region.wanted o (yielded ops a.tmps) = true then Oper.wp P o a w K Q else E0 := by
  have hm : (n + m) * by_ ≤ 1000000 * 48 := Nat.mul_le_mul hsm hb0
  have hw : Region.wanted o (yielded ops a.tmps) = true := by simp [Region.wanted, hgd]
  rw [if_pos hw]
  obtain ⟨v', w', hrun, h2, h3, _, h5⟩ := run_append_own_at (P := P) w base t o.type e i z size by_ ht hi hz hsize hby hzc hs0 v n xs hown A m c news hl hc h1 (by unfold maxLen; omega) (by omega) hbase
  unfold Oper.wp
  simp [execOp, ho, resolve, invoke, builtin, hs, hx, hrun, Result.andThen]
  exact hK _ _ h2 h3 h5
end
end Go.Proofs.Kv
namespace Go.Proofs.Kv
open Go.RowKit Go
/-- the cells of an item that lies in old memory -/
structure ItemOld (w : World) (x : Ic) (X : It) : Prop where
  kc : x.2 = (X.kind, X.cost)
  word : ∃ a n c, x.1 = .slice a n c ∧ IntsAt w a n c X.word
theorem encI_of : ∀ (l : List Ic) (j : Nat) (u : Value), (l.flatMap encI)[j]? = some u → ∃ i x, l[i]? = some x ∧ ((j = i * 3 ∧ u = x.1) ∨ (j = i * 3 + 1 ∧ u = .int .i64 x.2.1) ∨ (j = i * 3 + 2 ∧ u = .int .i64 x.2.2))
  | [], j, u, h => by simp at h
  | y :: l, j, u, h => by
    rw [List.flatMap_cons] at h
    have e2 : (encI y).length = 3 := rfl
    by_cases hj : j < 3
    · rw [List.getElem?_append_left (by omega)] at h
      refine ⟨0, y, rfl, ?_⟩
      match j, hj with
      | 0, _ => simp [encI] at h; exact .inl ⟨rfl, h.symm⟩
      | 1, _ => simp [encI] at h; exact .inr (.inl ⟨rfl, h.symm⟩)
      | 2, _ => simp [encI] at h; exact .inr (.inr ⟨rfl, h.symm⟩)
    · rw [List.getElem?_append_right (by omega), e2] at h
      obtain ⟨i, x, h1, h2⟩ := encI_of l (j - 3) u h
      refine ⟨i + 1, x, by simpa using h1, ?_⟩
      rcases h2 with ⟨e, h⟩ | ⟨e, h⟩ | ⟨e, h⟩
      · exact .inl ⟨by omega, h⟩
      · exact .inr (.inl ⟨by omega, h⟩)
      · exact .inr (.inr ⟨by omega, h⟩)
theorem encI_one (l : List Ic) (h : ∀ (i : Nat) (x : Ic), l[i]? = some x → ∃ a n c, x.1 = .slice a n c) : ∀ u ∈ l.flatMap encI, u.oneCell' = true := fun u hu => by
  obtain ⟨j, hj⟩ := List.getElem?_of_mem hu
  obtain ⟨i, x, hx, h2⟩ := encI_of l j u hj
  obtain ⟨a, n, c, e⟩ := h i x hx
  rcases h2 with ⟨_, rfl⟩ | ⟨_, rfl⟩ | ⟨_, rfl⟩
  · rw [e]; rfl
  · rfl
  · rfl
theorem addr_add8 (b off j : Nat) : (⟨b, off, none⟩ : Addr).add j = ⟨b, off + j, none⟩ := by unfold Addr.add; split <;> simp_all
theorem ItemsAt.cellsI {w : World} {b off n c : Nat} {L : List It} (h : ItemsAt w (some ⟨b, off, none⟩) n c L) : ∃ xs : List Ic, xs.length = n ∧ (∀ i x, xs[i]? = some x → ItemOld w x (L.getD i I0)) ∧ ∀ j u, (xs.flatMap encI)[j]? = some u → w.cell? ((⟨b, off, none⟩ : Addr).add j) = some u := by
  have key : ∀ i, ∃ x : Ic, i < n → ItemOld w x (L.getD i I0) ∧ w.cell? ⟨b, off + i * 3, none⟩ = some x.1 ∧ w.cell? ⟨b, off + i * 3 + 1, none⟩ = some (.int .i64 x.2.1) ∧ w.cell? ⟨b, off + i * 3 + 2, none⟩ = some (.int .i64 x.2.2) := fun i => by
    by_cases hi : i < n
    · obtain ⟨b', off', a1, n1, c1, ha, -, h0, h1, h2, hr⟩ := h.cells i hi
      injection ha with ha; injection ha with e1 e2; subst e1; subst e2
      exact ⟨(.slice a1 n1 c1, (L.getD i I0).kind, (L.getD i I0).cost), fun _ => ⟨⟨rfl, a1, n1, c1, rfl, hr⟩, h0, h1, h2⟩⟩
    · exact ⟨(.slice none 0 0, 0, 0), fun e => absurd e hi⟩
  have hat : ∀ (i : Nat) (x : Ic), ((List.range n).map fun i => Classical.choose (key i))[i]? = some x → i < n ∧ x = Classical.choose (key i) := fun i x hx => by
    rw [List.getElem?_map] at hx
    by_cases hi : i < n
    · rw [List.getElem?_range hi] at hx
      exact ⟨hi, by simpa using hx.symm⟩
    · rw [List.getElem?_eq_none (by simp; omega)] at hx; cases hx
  refine ⟨(List.range n).map fun i => Classical.choose (key i), by simp, fun i x hx => ?_, fun j u hu => ?_⟩
  · obtain ⟨hi, rfl⟩ := hat i x hx
    exact (Classical.choose_spec (key i) hi).1
  · obtain ⟨i, x, hx, h2⟩ := encI_of _ j u hu
    obtain ⟨hi, rfl⟩ := hat i x hx
    obtain ⟨-, k0, k1, k2⟩ := Classical.choose_spec (key i) hi
    rw [addr_add8]
    rcases h2 with ⟨rfl, rfl⟩ | ⟨rfl, rfl⟩ | ⟨rfl, rfl⟩
    · exact k0
    · exact k1
    · exact k2
end Go.Proofs.Kv
namespace Go.Proofs.Ytgpenbajhndhiaa
open Go.RowKit Go.Proofs.Kv Go

theorem Try.infoItem : (Try.prog.info? 42).map (fun i => (i.zero, i.size, i.bytes)) = some (some (.agg #[.slice none 0 0, .int .i64 0, .int .i64 0]), 3, 40) := by kernel_rfl
abbrev NewL := NewI 42 26 3
set_option maxRecDepth 100000 in
theorem cloneI_calls (a : Option Addr) (n c : Nat) (L : List It) (w : World) (h : ItemsAt w a n c L) (h1 : 1 ≤ n) (hn : n ≤ 1000) :
    Calls Try.prog 66 #[.slice a n c] w fun e w' => ∃ g c' xs, e = .returned (.slice (some ⟨g, 0, none⟩) n c') ∧ w'.ownsRow w.heap.size 42 3 (.slice (some ⟨g, 0, none⟩) n c') n (List.flatMap encI xs) ∧ xs.length = n ∧ (∀ (i : Nat) (x : Ic), xs[i]? = some x → ItemOld w x (L.getD i I0)) ∧ Below w.heap.size w w' := by
  obtain ⟨i0, hi0, hz0, hz1, hz2⟩ := info_parts Try.infoItem
  obtain ⟨b, off, a1, n1, c1, rfl, -⟩ := h.cells 0 (by omega)
  obtain ⟨xs, hx1, hx2, hx3⟩ := h.cellsI
  have heq : ∀ W, (binOp .eql 22 (.slice (some ⟨b, off, none⟩) n c) (.slice none 0 0)).run Try.prog W = .ok (.bool false) W := fun W => Lib.run_eql_slice_nil W _ _ (some ⟨b, off, none⟩) n c 0 0 Try.underlying22
  have hown : (w.alloc (.cells #[] 42)).ownsRow w.heap.size 42 3 (.slice (some ⟨w.heap.size, 0, none⟩) 0 0) 0 [] := World.ownsRow_made w #[] 0 (Nat.le_refl _) (by omega) rfl
  have bA := below_alloc w (.cells #[] 42)
  have HX2 := hid_ hx2; have HX1 := hid_ hx1
  have HX3 := hid_ (fun j u (hu : (xs.flatMap encI)[j]? = some u) => cell_below (hx3 j u hu) bA)
  have Hone := hid_ (encI_one xs fun i x hx => by obtain ⟨a, n, c, e, -⟩ := (hx2 i x hx).word; exact ⟨a, n, c, e⟩)
  have Hlen : Hid ((xs.flatMap encI).length = n * 3) := hid_ (by rw [encI_len, hx1])
  clear hx1 hx2 hx3 h
  go_enter Try.func66, Try.ntmps66
  go_wp2_with (at_builtin; refine wpList_appendN _ rfl (.tmp 5) (.tmp 6) _ rfl w.heap.size 42 i0 3 40 Try.underlying22 hi0 hz0 rfl hz1 (by omega) hz2 (by omega) _ _ _ rfl hown ⟨b, off, none⟩ n c (xs.flatMap encI) rfl Hlen.out HX3.out Hone.out (by omega) (by simp) ?_; intro v' w1 hown1 hg1 hat1; rw [Nat.zero_add, List.nil_append] at hown1)
  go_ret
  have hv : ∃ g c', v' = .slice (some ⟨g, 0, none⟩) n c' := by
    rcases hown1.2 with ⟨_, h0⟩ | ⟨g, cap, cur, e, _⟩
    · omega
    · exact ⟨g, cap, e⟩
  obtain ⟨g, c', rfl⟩ := hv
  exact ⟨g, c', xs, rfl, hown1, HX1.out, HX2.out, bA.grown hg1 (by simp) fun k hk => by
    have : some w.heap.size = some k := hk
    injection this with this
    omega⟩
end Go.Proofs.Ytgpenbajhndhiaa
namespace Go.Proofs.Kv
open Go.RowKit Go
theorem take_set8 {α : Type} (l : List α) (j : Nat) (y : α) (hj : j < l.length) : (l.set j y).take (j + 1) = l.take j ++ [y] := by
  apply List.ext_getElem?
  intro i
  by_cases h : i < j
  · rw [List.getElem?_take_of_lt (by omega), List.getElem?_set_ne (by omega), List.getElem?_append_left (by simp; omega), List.getElem?_take_of_lt h]
  · by_cases e : i = j
    · subst e
      rw [List.getElem?_take_of_lt (by omega), List.getElem?_set_self hj, List.getElem?_append_right (by simp; omega)]
      simp [Nat.min_eq_left (Nat.le_of_lt hj)]
    · rw [List.getElem?_eq_none (by simp; omega), List.getElem?_eq_none (by simp; omega)]
/-- items whose words behind the first j still lie in old memory -/
structure NewJ (EI E1 : TypeId) (w0 w : World) (B : Nat) (iv : Value) (xs : List Ic) (I : List It) (j : Nat) : Prop where
  ne : EI ≠ E1
  items : w.ownsRow B EI 3 iv I.length (xs.flatMap encI)
  len : xs.length = I.length
  old : ∀ i x, xs[i]? = some x → x.2 = ((I.getD i I0).kind, (I.getD i I0).cost) ∧ (j ≤ i → ∃ a n c, x.1 = .slice a n c ∧ IntsAt w0 a n c (I.getD i I0).word)
  rows : RowsIn E1 w B ((xs.take j).map (·.1)) ((I.take j).map (·.word))
theorem NewJ.below {EI E1 : TypeId} {w0 w w' : World} {B B' j : Nat} {iv : Value} {xs : List Ic} {I : List It} (h : NewJ EI E1 w0 w B iv xs I j) (hb : Below B' w w') (hB : w.heap.size ≤ B') : NewJ EI E1 w0 w' B iv xs I j :=
  ⟨h.ne, own_below h.items hb hB, h.len, h.old, h.rows.below hb hB⟩
theorem NewJ.step {EI E1 : TypeId} {w0 w w1 : World} {B j g n c : Nat} {u : Value} {xs : List Ic} {I : List It} {x : Ic} (h : NewJ EI E1 w0 w B (.slice (some ⟨g, 0, none⟩) n c) xs I j) (hn : n = I.length) (hj : j < I.length) (hx : xs[j]? = some x) (hB : B ≤ w.heap.size)
    (hb : Below w.heap.size w w1) (hu : w1.ownsRow w.heap.size E1 1 u (I.getD j I0).word.length ((I.getD j I0).word.map (Value.int .i64))) :
    NewJ EI E1 w0 (w1.setCell ⟨g, j * 3, none⟩ u) B (.slice (some ⟨g, 0, none⟩) n c) (xs.set j (u, x.2)) I (j + 1) := by
  have h1 := h.below hb (Nat.le_refl _)
  have hl := h.len
  have hi1 := h1.items
  rw [← hn] at hi1
  obtain ⟨s1, s2⟩ := hi1.stored (j * 3) u
  have s2' : w1.grownBy (w1.setCell ⟨g, j * 3, none⟩ u) (Value.slice (some ⟨g, 0, none⟩) n c).ownBlock := s2
  have hR := (h.rows.push hb hu hB).other h1.items h.ne s2'
  refine ⟨h.ne, ?_, by simp [hl], fun i y hy => ?_, ?_⟩
  · rw [← hn, ← encI_word xs j x u hx]; exact s1
  · by_cases e : i = j
    · subst e
      rw [List.getElem?_set_self (by omega)] at hy
      injection hy with hy; subst hy
      exact ⟨(h.old i x hx).1, fun h9 => absurd h9 (by omega)⟩
    · rw [List.getElem?_set_ne (Ne.symm e)] at hy
      exact ⟨(h.old i y hy).1, fun h9 => (h.old i y hy).2 (by omega)⟩
  · rw [take_set8 xs j _ (by omega), List.map_append, Kv.take_snoc I I0 j hj, List.map_append]
    exact hR
theorem NewJ.done {EI EL E1 : TypeId} {w0 w : World} {B : Nat} {iv : Value} {xs : List Ic} {I : List It} (h : NewJ EI E1 w0 w B iv xs I I.length) (h2 : EL ≠ E1) (h3 : EI ≠ EL) : NewI EI EL E1 w B iv (.slice none 0 0) xs [] ⟨I, []⟩ := by
  have hl := h.len
  refine ⟨h.ne, h2, h3, h.items, h.len, fun i x hx => (h.old i x hx).1, World.ownsRow_nil _ _ _ _, ?_⟩
  have := h.rows
  rw [List.take_of_length_le (by omega), List.take_of_length_le (by omega)] at this
  simpa using this
theorem NewI.other {EI EL E1 E n size : Nat} {w w' : World} {B B' : Nat} {iv fv v : Value} {xs : List Ic} {fs vs : List Value} {L : Lx} (h : NewI EI EL E1 w B iv fv xs fs L) (ho : w.ownsRow B' E size v n vs) (h1 : E ≠ EI) (h2 : E ≠ EL) (h3 : E ≠ E1) (hg : w.grownBy w' v.ownBlock) : NewI EI EL E1 w' B iv fv xs fs L :=
  ⟨h.ne1, h.ne2, h.ne3, own_kept_ne h.items hg (fun b hb => own_apart h.items ho (Ne.symm h1) b hb), h.len, h.kc, own_kept_ne h.fol hg (fun b hb => own_apart h.fol ho (Ne.symm h2) b hb), h.rows.other ho h3 hg⟩
end Go.Proofs.Kv
namespace Go.Proofs.Ytgpenbajhndhiaa
open Go.RowKit Go.Proofs.Kv Go

/-! ### copied -/
set_option maxRecDepth 100000 in
set_option maxHeartbeats 8000000 in
theorem copied8_calls (v : Value) (L : Lx) (w : World) (h : LexAt w v L) (g : GoodL L) :
    Calls Try.prog 46 #[v] w fun e w' => ∃ iv fv xs fs, e = .returned (.agg #[iv, fv]) ∧ NewL w' w.heap.size iv fv xs fs L ∧ Below w.heap.size w w' := by
  have HP := hid_ h
  obtain ⟨a1, n1, c1, a2, n2, c2, rfl, h1, h2⟩ := h
  obtain ⟨w1, hw1⟩ : ∃ w1, w.alloc (.cells #[.slice a1 n1 c1, .slice a2 n2 c2] 25) = w1 := ⟨_, rfl⟩
  have cb : Below w.heap.size w w1 := by rw [← hw1]; exact below_alloc _ _
  have q0 : w1.cell? ⟨w.heap.size, 0, none⟩ = some (.slice a1 n1 c1) := by rw [← hw1]; exact cells_alloc _ _ _ 0
  have q1 : w1.cell? ⟨w.heap.size, 1, none⟩ = some (.slice a2 n2 c2) := by rw [← hw1]; exact cells_alloc _ _ _ 1
  have HP1 := hid_ (HP.out.below cb (Nat.le_refl _)); have Hc1 := hid_ cb
  obtain ⟨w2, hw2⟩ : ∃ w2, w1.alloc (.cells #[.slice none 0 0, .slice none 0 0] 25) = w2 := ⟨_, rfl⟩
  have z1 : w1.heap.size = w.heap.size + 1 := by rw [← hw1]; simp
  have z2 : w2.heap.size = w.heap.size + 2 := by rw [← hw2]; simp [z1]
  have b2 : Below w1.heap.size w1 w2 := by rw [← hw2]; exact below_alloc _ _
  have r0 : w2.cell? ⟨w.heap.size + 1, 0, none⟩ = some (.slice none 0 0) := by rw [← z1, ← hw2]; exact cells_alloc _ _ _ 0
  have r1 : w2.cell? ⟨w.heap.size + 1, 1, none⟩ = some (.slice none 0 0) := by rw [← z1, ← hw2]; exact cells_alloc _ _ _ 1
  have f0 : ∀ j, w2.frozen? ⟨w.heap.size + 1, j, none⟩ = false := fun j => by rw [← z1, ← hw2]; exact World.frozen?_alloc_at _ _ _ _ (by simp)
  have q02 := cell_below q0 b2; have q12 := cell_below q1 b2
  have hl1 := h1.len; have hl2 := h2.len
  have hn8 := g.le; have hn1 := g.ge; have hr4 := g.rows
  rw [hl1] at hn8 hn1
  rw [hl2] at hr4
  have hw6 : ∀ j, j < n1 → (L.items.getD j I0).word.length ≤ 6 := fun j hj => (g.word j (by omega)).2.1
  have hf4 : ∀ k, k < n2 → (L.follow.getD k []).length = 4 := fun k hk => (g.row k (by omega)).1
  have H2 := hid_ ((h2.below cb (Nat.le_refl _)).below b2 (Nat.le_refl _))
  have HC := hid_ (cloneI_calls a1 n1 c1 L.items w2 ((h1.below cb (Nat.le_refl _)).below b2 (Nat.le_refl _)) hn1 (by omega))
  have Hb2 : Hid (Below w.heap.size w w2) := hid_ (Hc1.out.trans (b2.mono Hc1.out.size))
  have Hw6 := hid_ hw6; have Hf4 := hid_ hf4
  have Hl1 := hid_ hl1; have Hl2 := hid_ hl2
  obtain ⟨i0, hi0, hz0, hz1, hz2⟩ := info_parts Try.infoInts
  have hr4' : n2 ≤ 4 := by omega
  clear h1 h2 cb b2 q0 q1 g hw6 hf4 hl1 hl2 HP HP1 hr4
  go_enter Try.func46, Try.ntmps46
  go_wp2_with (go_at_call 66; (with_reducible refine HC.out.mono ?_); rintro e w3 ⟨gi, ci, xs, rfl, ho3, hxl3, hx3, hb3⟩; have hglt := ho3.lt gi rfl; have q13 := cell_below q12 hb3; have Ho3 := hid_ ho3; have Hx3 := hid_ hx3; have Hxl3 := hid_ hxl3; have Hb3 := hid_ hb3; clear ho3 hx3 hxl3 hb3)
  clear hw1 hw2
  have E4 : ∀ j, (w3.alloc (.cells #[.slice (some ⟨gi, 0, none⟩) n1 ci, .slice none 0 0] 25)).frozen? ⟨w3.heap.size, j, none⟩ = false := fun j => World.frozen?_alloc_at _ _ _ _ (by simp)
  obtain ⟨w4, hw4⟩ : ∃ w4, w3.alloc (.cells #[.slice (some ⟨gi, 0, none⟩) n1 ci, .slice none 0 0] 25) = w4 := ⟨_, rfl⟩
  rw [hw4] at E4 ⊢
  have b4 : Below w3.heap.size w3 w4 := by rw [← hw4]; exact below_alloc _ _
  have z4 : w4.heap.size = w3.heap.size + 1 := by rw [← hw4]; simp
  have HOc : Hid (w4.ownsRow w3.heap.size 25 2 (.slice (some ⟨w3.heap.size, 0, none⟩) 1 1) 1 [.slice (some ⟨gi, 0, none⟩) n1 ci, .slice none 0 0]) := hid_ (by rw [← hw4]; exact World.ownsRow_lit (base := w3.heap.size) (e := 25) (size := 2) w3 #[.slice (some ⟨gi, 0, none⟩) n1 ci, .slice none 0 0] 1 (Nat.le_refl _) (by unfold maxLen; omega) rfl)
  have e40 : w4.cell? ⟨w3.heap.size, 0, none⟩ = some (.slice (some ⟨gi, 0, none⟩) n1 ci) := HOc.out.cellAt 0 (by omega)
  have hz3 : w2.heap.size ≤ w3.heap.size := Hb3.out.size
  have Hb4 := hid_ (Hb3.out.trans (b4.mono hz3))
  have HJ : Hid (NewJ 42 3 w2 w4 w2.heap.size (.slice (some ⟨gi, 0, none⟩) n1 ci) xs L.items 0) := hid_ ⟨by decide, by rw [Hl1.out]; exact own_below Ho3.out b4 (Nat.le_refl _), by rw [Hxl3.out, Hl1.out], fun i x hx => ⟨(Hx3.out i x hx).kc, fun _ => (Hx3.out i x hx).word⟩, RowsIn.nil _ _ _⟩
  clear E4 hw4 b4
  go_loopw [14] (fun iv wr => ∃ (j : Nat) (xs : List Ic), j ≤ n1 ∧ iv = .int .i64 j ∧ Below w2.heap.size w2 wr ∧ w3.heap.size < wr.heap.size ∧ wr.ownsRow w3.heap.size 25 2 (.slice (some ⟨w3.heap.size, 0, none⟩) 1 1) 1 [.slice (some ⟨gi, 0, none⟩) n1 ci, .slice none 0 0] ∧ NewJ 42 3 w2 wr w2.heap.size (.slice (some ⟨gi, 0, none⟩) n1 ci) xs L.items j) (fun iv _ => n1 - (intOf iv).toNat)
  case atStart => exact ⟨0, xs, Nat.zero_le _, rfl, Hb4.out, by omega, HOc.out, HJ.out⟩
  case round =>
    clear e40 HJ xs Ho3 Hx3 Hxl3 HOc
    obtain ⟨j, xs, hj, rfl, hb, hsz, hoc, hJ⟩ := hrel
    have e40 : wr.cell? ⟨w3.heap.size, 0, none⟩ = some (.slice (some ⟨gi, 0, none⟩) n1 ci) := hoc.cellAt 0 (by omega)
    have HOc := hid_ hoc
    clear hoc
    have hsr := hb.size
    by_cases hlt : j < n1
    · have hxj : j < xs.length := by rw [hJ.len, Hl1.out]; exact hlt
      have hx : xs[j]? = some xs[j] := List.getElem?_eq_getElem hxj
      obtain ⟨a5, n5, c5, hx1, hi5⟩ := (hJ.old j _ hx).2 (Nat.le_refl _)
      have hn5 := Hw6.out j hlt
      rw [hi5.len] at hn5
      obtain ⟨x0, x1⟩ := encI_at xs j _ hx
      rw [hx1] at x0
      have hit := hJ.items
      rw [Hl1.out] at hit
      have hc5 : wr.cell? ⟨gi, j * 3, none⟩ = some (.slice a5 n5 c5) := (hit.cellAt (j * 3) (by omega)).trans x0
      have HCl := hid_ (clone_calls a5 n5 c5 _ wr.drew ((hi5.below hb (Nat.le_refl _)).drewN 1) (by omega))
      have HJ := hid_ hJ
      have Hxj := hid_ hx
      have HS := hid_ (fun W (hW : Below wr.heap.size wr W) => (⟨cell_below e40 hW, cell_below hc5 hW⟩ : W.cell? ⟨w3.heap.size, 0, none⟩ = some (.slice (some ⟨gi, 0, none⟩) n1 ci) ∧ W.cell? ⟨gi, j * 3, none⟩ = some (.slice a5 n5 c5)))
      have bd : Below wr.heap.size wr wr.drew := Below.drew (Below.refl _ _)
      have Hb := hid_ hb
      clear hJ hx hx1 hit x0 x1 hi5 hb hc5
      go_wp2
      refine wp_region_last2 (n := 12) (S := fun W' => W'.cell? ⟨w3.heap.size, 0, none⟩ = some (.slice (some ⟨gi, 0, none⟩) n1 ci) ∧ W'.cell? ⟨gi, j * 3, none⟩ = some (.slice a5 n5 c5)) (by kernel_rfl) (by kernel_rfl) (HS.out _ bd) (fun hHeld => ?_)
      refine wpAnyH_take (i := 0) (oi := ?oi0h1) (v := ?v0h1) ?hi0h1 (by kernel_rfl) ?hf0h1 (by kernel_rfl) ?hQ0h1 ?hy0h1 (by assumption) ?rest0h1
      case hi0h1 => (simp only [List.getElem?_toArray, List.getElem?_cons_zero]; rfl)
      case hf0h1 => kernel_rfl
      case hQ0h1 => exact fun _ _ _ h => h
      case hy0h1 => (refine Or.inl ⟨by rfl, ?_⟩; intro W hSw; (try dsimp only at hSw); go_simp; try with_reducible rfl)
      try simp only [Act.put, List.setIfInBounds_toArray, List.set_cons_zero, List.set_cons_succ]
      refine wpAnyH_take (i := 1) (oi := ?oi1h2) (v := ?v1h2) ?hi1h2 (by kernel_rfl) ?hf1h2 (by kernel_rfl) ?hQ1h2 ?hy1h2 (by assumption) ?rest1h2
      case hi1h2 => (simp only [List.getElem?_toArray, List.getElem?_cons_succ, List.getElem?_cons_zero]; rfl)
      case hf1h2 => kernel_rfl
      case hQ1h2 => exact fun _ _ _ h => h
      case hy1h2 => (refine Or.inl ⟨by rfl, ?_⟩; intro W hSw; (try dsimp only at hSw); obtain ⟨g0, g1⟩ := hSw; go_simp; try with_reducible rfl)
      try simp only [Act.put, List.setIfInBounds_toArray, List.set_cons_zero, List.set_cons_succ]
      refine wpAnyH_take (i := 2) (oi := ?oi2h3) (v := ?v2h3) ?hi2h3 (by kernel_rfl) ?hf2h3 (by kernel_rfl) ?hQ2h3 ?hy2h3 (by assumption) ?rest2h3
      case hi2h3 => (simp only [List.getElem?_toArray, List.getElem?_cons_succ, List.getElem?_cons_zero]; rfl)
      case hf2h3 => kernel_rfl
      case hQ2h3 => exact fun _ _ _ h => h
      case hy2h3 => (refine Or.inl ⟨by rfl, ?_⟩; intro W hSw; (try dsimp only at hSw); go_simp; try with_reducible rfl)
      try simp only [Act.put, List.setIfInBounds_toArray, List.set_cons_zero, List.set_cons_succ]
      refine wpAnyH_take (i := 3) (oi := ?oi3h4) (v := ?v3h4) ?hi3h4 (by kernel_rfl) ?hf3h4 (by kernel_rfl) ?hQ3h4 ?hy3h4 (by assumption) ?rest3h4
      case hi3h4 => (simp only [List.getElem?_toArray, List.getElem?_cons_succ, List.getElem?_cons_zero]; rfl)
      case hf3h4 => kernel_rfl
      case hQ3h4 => exact fun _ _ _ h => h
      case hy3h4 => (refine Or.inl ⟨by rfl, ?_⟩; intro W hSw; (try dsimp only at hSw); go_simp; try with_reducible rfl)
      try simp only [Act.put, List.setIfInBounds_toArray, List.set_cons_zero, List.set_cons_succ]
      refine wpAnyH_take (i := 4) (oi := ?oi4h5) (v := ?v4h5) ?hi4h5 (by kernel_rfl) ?hf4h5 (by kernel_rfl) ?hQ4h5 ?hy4h5 (by assumption) ?rest4h5
      case hi4h5 => (simp only [List.getElem?_toArray, List.getElem?_cons_succ, List.getElem?_cons_zero]; rfl)
      case hf4h5 => kernel_rfl
      case hQ4h5 => exact fun _ _ _ h => h
      case hy4h5 => (refine Or.inl ⟨by rfl, ?_⟩; intro W hSw; (try dsimp only at hSw); obtain ⟨g0, g1⟩ := hSw; go_simp; try with_reducible rfl)
      try simp only [Act.put, List.setIfInBounds_toArray, List.set_cons_zero, List.set_cons_succ]
      refine wpAnyH_take (i := 5) (oi := ?oi5h6) (v := ?v5h6) ?hi5h6 (by kernel_rfl) ?hf5h6 (by kernel_rfl) ?hQ5h6 ?hy5h6 (by assumption) ?rest5h6
      case hi5h6 => (simp only [List.getElem?_toArray, List.getElem?_cons_succ, List.getElem?_cons_zero]; rfl)
      case hf5h6 => kernel_rfl
      case hQ5h6 => exact fun _ _ _ h => h
      case hy5h6 => (refine Or.inl ⟨by rfl, ?_⟩; intro W hSw; (try dsimp only at hSw); go_simp; try with_reducible rfl)
      try simp only [Act.put, List.setIfInBounds_toArray, List.set_cons_zero, List.set_cons_succ]
      refine wpAnyH_take (i := 6) (oi := ?oi6h7) (v := ?v6h7) ?hi6h7 (by kernel_rfl) ?hf6h7 (by kernel_rfl) ?hQ6h7 ?hy6h7 (by assumption) ?rest6h7
      case hi6h7 => (simp only [List.getElem?_toArray, List.getElem?_cons_succ, List.getElem?_cons_zero]; rfl)
      case hf6h7 => kernel_rfl
      case hQ6h7 => exact fun _ _ _ h => h
      case hy6h7 => (refine Or.inl ⟨by rfl, ?_⟩; intro W hSw; (try dsimp only at hSw); go_simp; try with_reducible rfl)
      try simp only [Act.put, List.setIfInBounds_toArray, List.set_cons_zero, List.set_cons_succ]
      refine wpAnyH_take (i := 7) (oi := ?oi7h8) (v := ?v7h8) ?hi7h8 (by kernel_rfl) ?hf7h8 (by kernel_rfl) ?hQ7h8 ?hy7h8 (by assumption) ?rest7h8
      case hi7h8 => (simp only [List.getElem?_toArray, List.getElem?_cons_succ, List.getElem?_cons_zero]; rfl)
      case hf7h8 => kernel_rfl
      case hQ7h8 => exact fun _ _ _ h => h
      case hy7h8 => (refine Or.inl ⟨by rfl, ?_⟩; intro W hSw; (try dsimp only at hSw); go_simp; try with_reducible rfl)
      try simp only [Act.put, List.setIfInBounds_toArray, List.set_cons_zero, List.set_cons_succ]
      refine wpAnyH_take (i := 8) (oi := ?oi8h9) (v := ?v8h9) ?hi8h9 (by kernel_rfl) ?hf8h9 (by kernel_rfl) ?hQ8h9 ?hy8h9 (by assumption) ?rest8h9
      case hi8h9 => (simp only [List.getElem?_toArray, List.getElem?_cons_succ, List.getElem?_cons_zero]; rfl)
      case hf8h9 => kernel_rfl
      case hQ8h9 => exact fun _ _ _ h => h
      case hy8h9 => (refine Or.inl ⟨by rfl, ?_⟩; intro W hSw; (try dsimp only at hSw); obtain ⟨g0, g1⟩ := hSw; go_simp; try with_reducible rfl)
      try simp only [Act.put, List.setIfInBounds_toArray, List.set_cons_zero, List.set_cons_succ]
      refine wpAnyH_ready (rs := [9]) (by kernel_rfl) (by simp) ?_
      refine AllReadyH.cons (o := _) (by (simp only [List.getElem?_toArray, List.getElem?_cons_succ, List.getElem?_cons_zero]; rfl)) (fun K hK => ?_) AllReadyH.nil
      go_simp
      (with_reducible refine HCl.out.mono ?_); rintro e w5 ⟨v5, rfl, hm5⟩; obtain ⟨a6, c6, rfl, -⟩ := hm5.at_; have bw5 : Below wr.heap.size wr w5 := (Below.drew (Below.refl _ _)).trans hm5.bel
      refine hK.out _ _ ?_ (fun hHeld => ?_)
      · exact HS.out _ bw5
      clear hK K
      try simp only [Act.put, List.setIfInBounds_toArray, List.set_cons_zero, List.set_cons_succ]
      refine wpAnyH_take (i := 10) (oi := ?oi10h10) (v := ?v10h10) ?hi10h10 (by kernel_rfl) ?hf10h10 (by kernel_rfl) ?hQ10h10 ?hy10h10 (by assumption) ?rest10h10
      case hi10h10 => (simp only [List.getElem?_toArray, List.getElem?_cons_succ, List.getElem?_cons_zero]; rfl)
      case hf10h10 => kernel_rfl
      case hQ10h10 => exact fun _ _ _ h => h
      case hy10h10 => (refine Or.inl ⟨by rfl, ?_⟩; intro W hSw; (try dsimp only at hSw); go_simp; try with_reducible rfl)
      try simp only [Act.put, List.setIfInBounds_toArray, List.set_cons_zero, List.set_cons_succ]
      refine wpAnyH_take (i := 11) (oi := ?oi11h11) (v := ?v11h11) ?hi11h11 (by kernel_rfl) ?hf11h11 (by kernel_rfl) ?hQ11h11 ?hy11h11 (by assumption) ?rest11h11
      case hi11h11 => (simp only [List.getElem?_toArray, List.getElem?_cons_succ, List.getElem?_cons_zero]; rfl)
      case hf11h11 => kernel_rfl
      case hQ11h11 => exact fun _ _ _ h => h
      case hy11h11 => (refine Or.inl ⟨by rfl, ?_⟩; intro W hSw; (try dsimp only at hSw); go_simp; try with_reducible rfl)
      try simp only [Act.put, List.setIfInBounds_toArray, List.set_cons_zero, List.set_cons_succ]
      have hgi5 : w5.frozen? ⟨gi, j * 3, none⟩ = false := by
        have h9 := (HJ.out.below bw5 (Nat.le_refl _)).items
        rw [Hl1.out] at h9
        exact h9.frozenAt _
      have hcc : w5.cell? ⟨gi, j * 3, none⟩ = some (.slice a5 n5 c5) := (HS.out _ bw5).2
      have HJ' := hid_ (HJ.out.step Hl1.out.symm (by rw [Hl1.out]; exact hlt) Hxj.out hsr bw5 hm5.own)
      have Hb5 := hid_ (Below.setCell (p := ⟨gi, j * 3, none⟩) (Hb.out.trans (bw5.mono hsr)) hglt.1 (.slice a6 (L.items.getD j I0).word.length c6))
      have hne : w3.heap.size ≠ gi := by omega
      have hoc5 := own_below HOc.out bw5 (Nat.le_refl _)
      have hit5 := (HJ.out.below bw5 (Nat.le_refl _)).items
      rw [Hl1.out] at hit5
      have X := hid_ (own_kept_ne hoc5 (hit5.stored (j * 3) (.slice a6 (L.items.getD j I0).word.length c6)).2 (fun b hb => by injection hb with hb; subst hb; intro e; injection e with e; exact hne e.symm))
      have hs5 : w3.heap.size < w5.heap.size := Nat.lt_of_lt_of_le hsz bw5.size
      generalize hwl : (L.items.getD j I0).word.length = wl at *
      clear hwl hm5 bw5 e40 hoc5 hit5
      refine wpAnyH_done (by kernel_rfl) ?_ _
      clear hHeld
      refine last_of ?_
      refine wpOp_step (o := _) (by (simp only [List.getElem?_toArray, List.getElem?_cons_succ, List.getElem?_cons_zero]; rfl)) (fun K hK => ?_)
      go_simp
      refine hK _ _ ?_
      clear hK K
      try simp only [Act.put, List.setIfInBounds_toArray, List.set_cons_zero, List.set_cons_succ]
      go_wp2
      go_roundw
      case rel => exact ⟨j + 1, _, by omega, by go_num, Hb5.out, by simpa using hs5, X.out, HJ'.out⟩
      case measure => simp [intOf]; omega
    · obtain rfl : n1 = j := by omega
      have q1r := cell_below q12 hb
      rw [← Hl1.out] at hJ
      have hN : NewL wr w2.heap.size (.slice (some ⟨gi, 0, none⟩) n1 ci) (.slice none 0 0) xs [] ⟨L.items, []⟩ := by
        have h9 := hJ.done (EL := 26) (by decide) (by decide)
        rw [Hl1.out] at h9; exact h9
      have HN := hid_ hN
      have Hb := hid_ hb
      have Hq1r := hid_ q1r
      clear hJ hN q13
      obtain ⟨wx, rfl⟩ : ∃ wx, wx = wr := ⟨_, rfl⟩
      clear HC e40
      go_wp2
      go_loopw [33] (fun iv wr => ∃ (k : Nat) (fv : Value) (fs : List Value), k ≤ n2 ∧ iv = .int .i64 k ∧ Below w2.heap.size w2 wr ∧ wr.ownsRow w3.heap.size 25 2 (.slice (some ⟨w3.heap.size, 0, none⟩) 1 1) 1 [.slice (some ⟨gi, 0, none⟩) n1 ci, fv] ∧ NewL wr w2.heap.size (.slice (some ⟨gi, 0, none⟩) n1 ci) fv xs fs ⟨L.items, L.follow.take k⟩) (fun iv _ => n2 - (intOf iv).toNat)
      case atStart => exact ⟨0, _, [], Nat.zero_le _, rfl, Hb.out, HOc.out, HN.out⟩
      case round =>
        clear HOc HN
        obtain ⟨k, fv, fs, hk, rfl, hbr, hoc, hN⟩ := hrel
        have HOc := hid_ hoc; have HN := hid_ hN
        have e40 : wr.cell? ⟨w3.heap.size, 0, none⟩ = some (.slice (some ⟨gi, 0, none⟩) n1 ci) := hoc.cellAt 0 (by omega)
        have e41 : wr.cell? ⟨w3.heap.size, 1, none⟩ = some fv := hoc.cellAt 1 (by omega)
        have hszr := hbr.size
        have hcl := (hoc.lt w3.heap.size rfl).2
        clear hoc hN
        by_cases hltk : k < n2
        · obtain ⟨b, off, a7, n7, c7, rfl, -, hcell, hrow⟩ := (H2.out.below hbr (Nat.le_refl _)).cells k hltk
          have hn7 := Hf4.out k hltk
          rw [hrow.len] at hn7
          have Hn7 := hid_ hn7
          have hn7' : n7 ≤ 4 := by omega
          have Htk : Hid (L.follow.take (k + 1) = L.follow.take k ++ [L.follow.getD k []]) := hid_ (Kv.take_snoc _ [] k (by rw [Hl2.out]; exact hltk))
          have Htl : Hid ((L.follow.take k).length = k) := hid_ (by rw [List.length_take, Hl2.out]; omega)
          have HCl := hid_ (clone_calls _ n7 c7 _ wr.drew (hrow.drewN 1) (by omega))
          have Hr := hid_ hrow
          have bd : Below wr.heap.size wr wr.drew := Below.drew (Below.refl _ _)
          generalize L.follow.getD k [] = r at *
          have Hbr := hid_ hbr
          clear hrow hbr hn7
          go_wp2
          refine wp_region_last2 (n := 7) (S := fun W' => W'.cell? ⟨w3.heap.size, 1, none⟩ = some fv) (by kernel_rfl) (by kernel_rfl) (cell_below e41 bd) (fun hHeld => ?_)
          refine wpAnyH_take (i := 0) (oi := ?oi0h12) (v := ?v0h12) ?hi0h12 (by kernel_rfl) ?hf0h12 (by kernel_rfl) ?hQ0h12 ?hy0h12 (by assumption) ?rest0h12
          case hi0h12 => (simp only [List.getElem?_toArray, List.getElem?_cons_zero]; rfl)
          case hf0h12 => kernel_rfl
          case hQ0h12 => exact fun _ _ _ h => h
          case hy0h12 => (refine Or.inl ⟨by rfl, ?_⟩; intro W hSw; (try dsimp only at hSw); go_simp; try with_reducible rfl)
          try simp only [Act.put, List.setIfInBounds_toArray, List.set_cons_zero, List.set_cons_succ]
          refine wpAnyH_take (i := 1) (oi := ?oi1h13) (v := ?v1h13) ?hi1h13 (by kernel_rfl) ?hf1h13 (by kernel_rfl) ?hQ1h13 ?hy1h13 (by assumption) ?rest1h13
          case hi1h13 => (simp only [List.getElem?_toArray, List.getElem?_cons_succ, List.getElem?_cons_zero]; rfl)
          case hf1h13 => kernel_rfl
          case hQ1h13 => exact fun _ _ _ h => h
          case hy1h13 => (refine Or.inl ⟨by rfl, ?_⟩; intro W hSw; (try dsimp only at hSw); go_simp; try with_reducible rfl)
          try simp only [Act.put, List.setIfInBounds_toArray, List.set_cons_zero, List.set_cons_succ]
          refine wpAnyH_take (i := 2) (oi := ?oi2h14) (v := ?v2h14) ?hi2h14 (by kernel_rfl) ?hf2h14 (by kernel_rfl) ?hQ2h14 ?hy2h14 (by assumption) ?rest2h14
          case hi2h14 => (simp only [List.getElem?_toArray, List.getElem?_cons_succ, List.getElem?_cons_zero]; rfl)
          case hf2h14 => kernel_rfl
          case hQ2h14 => exact fun _ _ _ h => h
          case hy2h14 => (refine Or.inl ⟨by rfl, ?_⟩; intro W hSw; (try dsimp only at hSw); go_simp; try with_reducible rfl)
          try simp only [Act.put, List.setIfInBounds_toArray, List.set_cons_zero, List.set_cons_succ]
          refine wpAnyH_ready (rs := [3]) (by kernel_rfl) (by simp) ?_
          refine AllReadyH.cons (o := _) (by (simp only [List.getElem?_toArray, List.getElem?_cons_succ, List.getElem?_cons_zero]; rfl)) (fun K hK => ?_) AllReadyH.nil
          go_simp
          (with_reducible refine HCl.out.mono ?_); rintro e w5 ⟨v5, rfl, hm5⟩; obtain ⟨a6, c6, rfl, -⟩ := hm5.at_; have bw5 : Below wr.heap.size wr w5 := (Below.drew (Below.refl _ _)).trans hm5.bel
          refine hK.out _ _ ?_ (fun hHeld => ?_)
          · exact cell_below e41 bw5
          clear hK K
          try simp only [Act.put, List.setIfInBounds_toArray, List.set_cons_zero, List.set_cons_succ]
          have bw6 : Below wr.heap.size wr (w5.alloc (.cells #[.slice a6 r.length c6] 26)) := bw5.alloc bw5.size _
          refine wpAnyH_ready (rs := [4]) (by kernel_rfl) (by simp) ?_
          refine AllReadyH.cons (o := _) (by (simp only [List.getElem?_toArray, List.getElem?_cons_succ, List.getElem?_cons_zero]; rfl)) (fun K hK => ?_) AllReadyH.nil
          go_simp
          refine hK.out _ _ ?_ (fun hHeld => ?_)
          · exact cell_below e41 bw6
          clear hK K
          try simp only [Act.put, List.setIfInBounds_toArray, List.set_cons_zero, List.set_cons_succ]
          have hf6 := own_below HN.out.fol bw6 (Nat.le_refl _)
          simp only [Htl.out] at hf6
          have hz6 : w2.heap.size ≤ (w5.alloc (.cells #[.slice a6 r.length c6] 26)).heap.size := Nat.le_trans hszr bw6.size
          refine wpAnyH_ready (rs := [5]) (by kernel_rfl) (by simp) ?_
          refine AllReadyH.cons (o := _) (by (simp only [List.getElem?_toArray, List.getElem?_cons_succ, List.getElem?_cons_zero]; rfl)) (fun K hK => ?_) AllReadyH.nil
          refine step_push_val2 rfl (.tmp 38) (.tmp 41) _ rfl w2.heap.size 26 i0 Try.underlying23 hi0 hz0 rfl hz1 hz2 (by omega) fv k fs (by rfl) hf6 (.slice a6 r.length c6) rfl w5.heap.size (by rfl) (cells_alloc _ _ _ 0) (by omega) hz6 ?_; intro v7 w7 hown7 hg7
          refine hK.out _ _ ?_ (fun hHeld => ?_)
          · exact hg7.cell (cell_below e41 bw6) (fun e => own_apart (own_below HOc.out bw6 (Nat.le_refl _)) hf6 (by decide) w3.heap.size rfl e.symm)
          clear hK K
          try simp only [Act.put, List.setIfInBounds_toArray, List.set_cons_zero, List.set_cons_succ]
          refine wpAnyH_take (i := 6) (oi := ?oi6h15) (v := ?v6h15) ?hi6h15 (by kernel_rfl) ?hf6h15 (by kernel_rfl) ?hQ6h15 ?hy6h15 (by assumption) ?rest6h15
          case hi6h15 => (simp only [List.getElem?_toArray, List.getElem?_cons_succ, List.getElem?_cons_zero]; rfl)
          case hf6h15 => kernel_rfl
          case hQ6h15 => exact fun _ _ _ h => h
          case hy6h15 => (refine Or.inl ⟨by rfl, ?_⟩; intro W hSw; (try dsimp only at hSw); go_simp; try with_reducible rfl)
          try simp only [Act.put, List.setIfInBounds_toArray, List.set_cons_zero, List.set_cons_succ]
          have hN7 := NewI.push (r := r) HN.out hszr bw5 (show w5.ownsRow wr.heap.size 3 1 (.slice a6 r.length c6) r.length _ from hm5.own) (by rw [Htl.out]; exact hown7) hg7
          have hoc7 := own_kept_ne (own_below HOc.out bw6 (Nat.le_refl _)) hg7 (fun b hb => own_apart (own_below HOc.out bw6 (Nat.le_refl _)) hf6 (by decide) b hb)
          have h71 : w7.cell? ⟨w3.heap.size, 1, none⟩ = some fv := hoc7.cellAt 1 (by omega)
          have h7f : w7.frozen? ⟨w3.heap.size, 1, none⟩ = false := hoc7.frozenAt 1
          have hst := hoc7.stored 1 v7
          have HN8 := hid_ (hN7.other hoc7 (by decide) (by decide) (by decide) hst.2)
          have HOc8 := hid_ hst.1
          have Hb8 : Hid (Below w2.heap.size w2 (w7.setCell ⟨w3.heap.size, 1, none⟩ v7)) := hid_ (Below.setCell (p := ⟨w3.heap.size, 1, none⟩) ((Hbr.out.trans (bw6.mono hszr)).grown hg7 hz6 (fun q e => (hf6.lt q e).1)) hz3 _)
          obtain ⟨a9, c9, hv9, -⟩ := HN8.out.listsAt
          have e9 : (L.follow.take k ++ [r]).length = k + 1 := by rw [List.length_append, Htl.out]; rfl
          replace hv9 : v7 = .slice a9 (k + 1) c9 := by rw [← e9]; exact hv9
          rw [← Htk.out] at HN8
          clear e9
          clear hN7 hoc7 hst hf6 hg7 hown7 bw5 bw6 hm5 e40 e41
          subst hv9
          refine wpAnyH_done (by kernel_rfl) ?_ _
          clear hHeld
          refine last_of ?_
          refine wpOp_step (o := _) (by (simp only [List.getElem?_toArray, List.getElem?_cons_succ, List.getElem?_cons_zero]; rfl)) (fun K hK => ?_)
          go_simp
          refine hK _ _ ?_
          clear hK K
          try simp only [Act.put, List.setIfInBounds_toArray, List.set_cons_zero, List.set_cons_succ]
          go_wp2
          go_roundw
          case rel => exact ⟨k + 1, _, _, by omega, by go_num, Hb8.out, HOc8.out, HN8.out⟩
          case measure => simp [intOf]; omega
        · obtain rfl : n2 = k := by omega
          rw [← Hl2.out, List.take_length] at HN
          obtain ⟨a9, c9, hv9, -⟩ := HN.out.listsAt
          subst hv9
          have q0r := (hbr.cell (p := ⟨w.heap.size + 1, 0, none⟩) (by show w.heap.size + 1 < w2.heap.size; omega)).trans r0
          have q1r := (hbr.cell (p := ⟨w.heap.size + 1, 1, none⟩) (by show w.heap.size + 1 < w2.heap.size; omega)).trans r1
          have g0 := (hbr.frozen (p := ⟨w.heap.size + 1, 0, none⟩) (by show w.heap.size + 1 < w2.heap.size; omega)).trans (f0 0)
          have g1 := (hbr.frozen (p := ⟨w.heap.size + 1, 1, none⟩) (by show w.heap.size + 1 < w2.heap.size; omega)).trans (f0 1)
          have Hbr := hid_ hbr
          clear hbr
          generalize hfl : L.follow.length = m at *
          obtain ⟨t0, t1⟩ : (((wr.setCell ⟨w.heap.size + 1, 0, none⟩ (.slice (some ⟨gi, 0, none⟩) n1 ci)).setCell ⟨w.heap.size + 1, 1, none⟩ (.slice a9 m c9)).cell? ⟨w.heap.size + 1, 0, none⟩ = some (.slice (some ⟨gi, 0, none⟩) n1 ci)) ∧ (((wr.setCell ⟨w.heap.size + 1, 0, none⟩ (.slice (some ⟨gi, 0, none⟩) n1 ci)).setCell ⟨w.heap.size + 1, 1, none⟩ (.slice a9 m c9)).cell? ⟨w.heap.size + 1, 1, none⟩ = some (.slice a9 m c9)) := by
            refine ⟨?_, ?_⟩
            · rw [World.cell?_setCell_other _ _ _ _ (by simp), World.cell?_setCell_same _ _ _ q0r]
            · rw [World.cell?_setCell_same _ _ _ (by rw [World.cell?_setCell_other _ _ _ _ (by simp)]; exact q1r)]
          go_wp2
          refine bodyPost_ret (v := .agg #[.slice (some ⟨gi, 0, none⟩) n1 ci, .slice a9 m c9]) ?_ rfl ⟨_, _, xs, fs, rfl, ?_, ?_⟩
          · simp [results, Try.results46, go_sem, t0, t1]
          · have hp : w.heap.size + 1 < w2.heap.size := by omega
            exact ((HN.out.store (p := ⟨w.heap.size + 1, 0, none⟩) hp _).store (p := ⟨w.heap.size + 1, 1, none⟩) hp _).base (by omega)
          · have hf := Hb2.out.trans (Hbr.out.mono Hb2.out.size)
            exact (hf.setCell (p := ⟨w.heap.size + 1, 0, none⟩) (by show _ ≤ _ + 1; omega) _).setCell (p := ⟨w.heap.size + 1, 1, none⟩) (by show _ ≤ _ + 1; omega) _
end Go.Proofs.Ytgpenbajhndhiaa
namespace Go.Proofs.Kv
open Go.RowKit Go
/-- a new item, behind the others -/
theorem NewI.pushI {EI EL E1 : TypeId} {w w1 w2 : World} {B : Nat} {iv iv' fv u : Value} {xs : List Ic} {I : List It} {X : It} (h : NewI EI EL E1 w B iv fv xs [] ⟨I, []⟩) (hB : B ≤ w.heap.size)
    (hb1 : Below w.heap.size w w1) (hu : w1.ownsRow w.heap.size E1 1 u X.word.length (X.word.map (Value.int .i64))) {o : Obj} (hi : w2.ownsRow B EI 3 iv' (I.length + 1) ((xs ++ [(u, X.kind, X.cost)]).flatMap encI)) (hg : (w1.alloc o).grownBy w2 iv.ownBlock) :
    NewI EI EL E1 w2 B iv' fv (xs ++ [(u, X.kind, X.cost)]) [] ⟨I ++ [X], []⟩ := by
  have hb2 : Below w.heap.size w (w1.alloc o) := hb1.alloc hb1.size o
  have h2 := h.below hb2 (Nat.le_refl _)
  have hu2 : (w1.alloc o).ownsRow w.heap.size E1 1 u X.word.length (X.word.map (Value.int .i64)) := hu.alloc _
  have hR := h.rows
  rw [List.append_nil, List.append_nil] at hR
  have hR := (hR.push hb2 hu2 hB).other h2.items h.ne1 hg
  have hl := h.len
  refine ⟨h.ne1, h.ne2, h.ne3, by simpa using hi, by simpa using hl, fun i x hx => ?_, own_kept_ne h2.fol hg (fun b hb => own_apart h2.fol h2.items (Ne.symm h.ne3) b hb), by simpa using hR⟩
  rcases snoc_at hx with ⟨h8, h9⟩ | ⟨h8, rfl⟩
  · rw [getD_app7, if_pos (by rw [← hl]; exact h8)]; exact h.kc i x h9
  · rw [getD_app7, if_neg (by rw [← hl]; omega)]
    rw [show i - I.length = 0 by rw [← hl, h8]; omega]; rfl
theorem cells_item (w : World) (u : Value) (k c : Int) (E : TypeId) : ∀ (j : Nat) (v : Value), (encI (u, k, c))[j]? = some v → (w.alloc (.cells #[u, .int .i64 k, .int .i64 c] E)).cell? ((⟨w.heap.size, 0, none⟩ : Addr).add j) = some v := fun j v hv => by
  rw [add_zero8, cells_alloc]
  simpa [encI] using hv
theorem own_kept_at {w w' : World} {B E size n g m c b m' c' : Nat} {xs : List Value} (h : w.ownsRow B E size (.slice (some ⟨g, 0, none⟩) m c) n xs) (hg : w.grownBy w' (Value.slice (some ⟨b, 0, none⟩) m' c').ownBlock) (hne : g ≠ b) : w'.ownsRow B E size (.slice (some ⟨g, 0, none⟩) m c) n xs :=
  h.kept hg (.inr (by intro e; injection e with e; exact hne e))
theorem encI_one1 (a : Option Addr) (n c : Nat) (k d : Int) : ∀ u ∈ encI (.slice a n c, k, d), u.oneCell' = true := fun u hu => by
  simp [encI] at hu
  rcases hu with rfl | rfl | rfl <;> rfl
theorem flatMap_snoc1 (xs : List Ic) (x : Ic) : (xs ++ [x]).flatMap encI = xs.flatMap encI ++ encI x := by simp
end Go.Proofs.Kv
namespace Go.Proofs.Ytgpenbajhndhiaa
open Go.RowKit Go.Proofs.Kv Go

/-! ### Copy of the document -/
end Go.Proofs.Ytgpenbajhndhiaa
namespace Go.Proofs.Ytgpenbajhndhiaa
open Go.RowKit Go.Proofs.Kv Go

/-! ### Same of equal lexicons -/
end Go.Proofs.Ytgpenbajhndhiaa
namespace Go.Proofs.Kv
open Go.RowKit Go
theorem two_stored {W : World} {rb : Nat} {x y u0 u1 : Value} (h0 : W.cell? ⟨rb, 0, none⟩ = some u0) (h1 : W.cell? ⟨rb, 1, none⟩ = some u1) :
    ((W.setCell ⟨rb, 0, none⟩ x).setCell ⟨rb, 1, none⟩ y).cell? ⟨rb, 0, none⟩ = some x ∧ ((W.setCell ⟨rb, 0, none⟩ x).setCell ⟨rb, 1, none⟩ y).cell? ⟨rb, 1, none⟩ = some y := by
  refine ⟨?_, ?_⟩
  · rw [World.cell?_setCell_other _ _ _ _ (by simp), World.cell?_setCell_same _ _ _ h0]
  · rw [World.cell?_setCell_same _ _ _ (by rw [World.cell?_setCell_other _ _ _ _ (by simp)]; exact h1)]
theorem NewI.res {EI EL E1 : TypeId} {w : World} {B rb : Nat} {iv fv : Value} {xs : List Ic} {fs : List Value} {L : Lx} (h : NewI EI EL E1 w B iv fv xs fs L) (hp : rb < B) (x y : Value) : NewI EI EL E1 ((w.setCell ⟨rb, 0, none⟩ x).setCell ⟨rb, 1, none⟩ y) B iv fv xs fs L :=
  (h.store (p := ⟨rb, 0, none⟩) hp x).store (p := ⟨rb, 1, none⟩) hp y
theorem NewI.nil0 (EI EL E1 : TypeId) (w : World) (B : Nat) (h1 : EI ≠ E1) (h2 : EL ≠ E1) (h3 : EI ≠ EL) : NewI EI EL E1 w B (.slice none 0 0) (.slice none 0 0) [] [] ⟨[], []⟩ :=
  ⟨h1, h2, h3, World.ownsRow_nil _ _ _ _, rfl, fun i x h => by simp at h, World.ownsRow_nil _ _ _ _, RowsIn.nil _ _ _⟩
/-- the cost of item i is put anew -/
def setCost (L : Lx) (i : Nat) (k : Int) : Lx := ⟨L.items.set i { L.items.getD i I0 with cost := k }, L.follow⟩
theorem NewI.cost {EI EL E1 : TypeId} {w : World} {B g n c i : Nat} {fv : Value} {xs : List Ic} {fs : List Value} {L : Lx} (h : NewI EI EL E1 w B (.slice (some ⟨g, 0, none⟩) n c) fv xs fs L) (hn : n = L.items.length) (hi : i < n) (k : Int) :
    ∃ xs', NewI EI EL E1 (w.setCell ⟨g, i * 3 + 2, none⟩ (.int .i64 k)) B (.slice (some ⟨g, 0, none⟩) n c) fv xs' fs (setCost L i k) := by
  subst hn
  have hl := h.len
  obtain ⟨x, hx, -⟩ := h.word hi
  obtain ⟨s1, s2⟩ := h.items.stored (i * 3 + 2) (.int .i64 k)
  have s2' : w.grownBy (w.setCell ⟨g, i * 3 + 2, none⟩ (.int .i64 k)) (Value.slice (some ⟨g, 0, none⟩) L.items.length c).ownBlock := s2
  rw [encI_cost xs i x k hx] at s1
  refine ⟨xs.set i (x.1, x.2.1, k), h.ne1, h.ne2, h.ne3, by simpa [setCost] using s1, by simp [setCost, hl], fun j y hy => ?_, own_kept_ne h.fol s2' (fun b hb => own_apart h.fol h.items (Ne.symm h.ne3) b hb), ?_⟩
  · show y.2 = (((L.items.set i _).getD j I0).kind, ((L.items.set i _).getD j I0).cost)
    rw [getD_set8 _ _ _ _ _ hi]
    by_cases e : j = i
    · subst e
      rw [List.getElem?_set_self (by omega)] at hy
      injection hy with hy; subst hy
      rw [if_pos rfl]
      have := h.kc j x hx
      rw [this]
    · rw [List.getElem?_set_ne (Ne.symm e)] at hy
      rw [if_neg e]; exact h.kc j y hy
  · have e1 : (xs.set i (x.1, x.2.1, k)).map (·.1) = xs.map (·.1) := by
      apply List.ext_getElem?
      intro j
      rw [List.getElem?_map, List.getElem?_map]
      by_cases e : j = i
      · subst e; rw [List.getElem?_set_self (by omega), hx]; rfl
      · rw [List.getElem?_set_ne (Ne.symm e)]
    have e2 : (setCost L i k).items.map (·.word) = L.items.map (·.word) := by
      apply List.ext_getElem?
      intro j
      rw [List.getElem?_map, List.getElem?_map]
      show ((L.items.set i _)[j]?).map _ = _
      by_cases e : j = i
      · subst e; rw [List.getElem?_set_self hi, List.getElem?_eq_getElem hi]; simp [List.getD, hi]
      · rw [List.getElem?_set_ne (Ne.symm e)]
    rw [e1, e2]
    exact h.rows.other h.items h.ne1 s2'
theorem NewI.costAt {EI EL E1 : TypeId} {w : World} {B g n c i : Nat} {fv : Value} {xs : List Ic} {fs : List Value} {L : Lx} (h : NewI EI EL E1 w B (.slice (some ⟨g, 0, none⟩) n c) fv xs fs L) (hn : n = L.items.length) (hi : i < n) :
    w.cell? ⟨g, i * 3 + 2, none⟩ = some (.int .i64 (L.items.getD i I0).cost) ∧ w.frozen? ⟨g, i * 3 + 2, none⟩ = false ∧ (∃ a m d, w.cell? ⟨g, i * 3, none⟩ = some (.slice a m d) ∧ IntsAt w a m d (L.items.getD i I0).word) ∧ w.frozen? ⟨g, i * 3, none⟩ = false := by
  subst hn
  obtain ⟨x, hx, ho⟩ := h.word hi
  obtain ⟨e0, -, e2⟩ := encI_at xs i x hx
  have hk := h.kc i x hx
  rw [hk] at e2
  obtain ⟨a, d, hv, hI⟩ := IntsAt.own ho
  rw [hv] at e0
  exact ⟨(h.items.cellAt _ (by omega)).trans e2, h.items.frozenAt _, ⟨a, _, d, (h.items.cellAt _ (by omega)).trans e0, hI⟩, h.items.frozenAt _⟩
theorem NewI.form {EI EL E1 : TypeId} {w : World} {B : Nat} {iv fv : Value} {xs : List Ic} {fs : List Value} {L : Lx} (h : NewI EI EL E1 w B iv fv xs fs L) (h0 : 0 < L.items.length) : ∃ g c, iv = .slice (some ⟨g, 0, none⟩) L.items.length c ∧ B ≤ g ∧ g < w.heap.size := by
  rcases h.items.2 with ⟨_, h1⟩ | ⟨g, cap, cur, rfl, hB, hg, _⟩
  · omega
  · exact ⟨g, cap, rfl, hB, (Array.getElem?_eq_some_iff.1 hg).1⟩
end Go.Proofs.Kv
namespace Go.Proofs.Ytgpenbajhndhiaa
open Go.RowKit Go.Proofs.Kv Go

/-! ### Dearer -/
def drE (L : Lx) (i b : Int) : Int := if viE L [i] = 0 then (if 0 ≤ costI L i + b ∧ costI L i + b ≤ 99 then 0 else 1) else viE L [i]
def drL (L : Lx) (i b : Int) : Lx := if drE L i b = 0 then setCost L i.toNat (costI L i + b) else ⟨[], []⟩
theorem one_item {L : Lx} {i : Int} (h : itemsB L [i] = true) : ∃ j : Nat, i = (j : Int) ∧ j < L.items.length := by
  obtain ⟨j, e, hj⟩ := itemsB_at h (k := 0) (by simp)
  exact ⟨j, e, hj⟩
theorem GoodL.copy {L : Lx} (g : GoodL L) : L.items.length ≤ 1000 ∧ (∀ j, j < L.items.length → (L.items.getD j I0).word.length ≤ 1000) ∧ L.follow.length ≤ 1000 ∧ (∀ k, k < L.follow.length → (L.follow.getD k []).length ≤ 1000) :=
  ⟨by have := g.le; omega, fun j hj => by have := (g.word j hj).2.1; omega, by have := g.rows; omega, fun k hk => by have := (g.row k (by have := g.rows; omega)).1; omega⟩
end Go.Proofs.Ytgpenbajhndhiaa
