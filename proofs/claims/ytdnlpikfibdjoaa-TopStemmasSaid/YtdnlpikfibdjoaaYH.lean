import Derived.Test.YtdnlpikfibdjoaaYG
namespace Go.Proofs.Kv
open Go.RowKit Go
section
variable {P : Program} (w : World)
/-- append of one value of one cell, which lies in a new block; where the row lies then -/
theorem wpList_push_val2 {ops : Array Oper} {rest : List Oper} {o : Oper} {a : Act} {Q : Exit → Act → World → Prop} (hgd : o.guard = none) (s x : Operand) (t : TypeId)
    (ho : o.op = .call { callee := .builtin .append, args := #[s, x], argTypes := #[t, t] })
    (base : Nat) (e : TypeId) (i : TypeInfo) {z : Value} {by_ : Nat} (ht : P.underlying t = some (.slice e)) (hi : P.info? e = some i) (hz : i.zero = some z) (hzc : z.cells.size = 1) (hsize : i.size = 1) (hby : i.bytes = by_) (hb0 : by_ ≤ 24)
    (v : Value) (n : Nat) (xs : List Value) (hs : a.eval s = v) (hown : w.ownsRow base e 1 v n xs)
    (u : Value) (hu : u.oneCell' = true) (E : TypeId) (hx : a.eval x = .slice (some ⟨w.heap.size, 0, none⟩) 1 1) (hsm : n + 1 ≤ 1000000) (hbase : base ≤ w.heap.size)
    (h : ∀ v' w', w'.ownsRow base e 1 v' (n + 1) (xs ++ [u]) → (w.alloc (.cells #[u] E)).grownBy w' v.ownBlock → (v'.ownBlock = v.ownBlock ∨ v'.ownBlock = some (w.heap.size + 1)) → wpList P ops Q rest (a.put o.dst v') w') :
    wpList P ops Q (o :: rest) a (w.alloc (.cells #[u] E)) := by
  have hm : (n + 1) * by_ ≤ 1000000 * 24 := Nat.mul_le_mul hsm hb0
  have hcells : ∀ j u', [u][j]? = some u' → (w.alloc (.cells #[u] E)).cell? ((⟨w.heap.size, 0, none⟩ : Addr).add j) = some u' := by
    intro j u' hu'
    have hj : j = 0 := by
      rcases Nat.eq_zero_or_pos j with h | h
      · exact h
      · rw [List.getElem?_eq_none (by simp; omega)] at hu'; cases hu'
    subst hj
    simp at hu'; subst hu'
    show (w.alloc _).cell? ⟨w.heap.size, 0, none⟩ = _
    rw [World.cell?_alloc_at _ _ _ _ (by rfl)]; rfl
  refine wpList_plain hgd fun K hK => ?_
  obtain ⟨v', w', hrun, h2, h3, _, h5⟩ := run_append_own_at (P := P) (w.alloc (.cells #[u] E)) base t o.type e i z 1 by_ ht hi hz hsize hby hzc (by omega) v n xs (hown.alloc _) ⟨w.heap.size, 0, none⟩ 1 1 [u] (by simp) hcells
    (by intro u' hu'; rw [List.mem_singleton] at hu'; subst hu'; exact hu) (by unfold maxLen; omega) (by omega) (le_alloc hbase)
  unfold Oper.wp execOp
  simp only [ho, resolve, invoke, builtin, Sem.run_bind, Sem.run_pure, Result.andThen_ok, List.map_toArray, List.map_cons, List.map_nil, hs, hx, hrun]
  exact hK _ _ (h v' w' h2 h3 (by simpa using h5))
end
theorem below_new {w w1 : World} {o : Obj} {n c : Nat} (hg : (w.alloc o).grownBy w1 (Value.ownBlock (.slice (some ⟨w.heap.size, 0, none⟩) n c))) : Below w.heap.size w w1 :=
  ((Below.refl _ w).alloc (Nat.le_refl _) o).grown hg (by simp) fun k hk => by
    have : some w.heap.size = some k := hk
    injection this with this
    omega
theorem own_apart {w : World} {B B' E E' s s' n n' : Nat} {v v' : Value} {xs xs' : List Value} (h : w.ownsRow B E s v n xs) (h' : w.ownsRow B' E' s' v' n' xs') (hE : E ≠ E') : ∀ b, v.ownBlock = some b → v'.ownBlock ≠ some b := by
  intro b hb hb'
  rcases h.2 with ⟨rfl, _⟩ | ⟨g, cap, cur, rfl, _, hg, _⟩
  · simp [Value.ownBlock] at hb
  · rcases h'.2 with ⟨rfl, _⟩ | ⟨g', cap', cur', rfl, _, hg', _⟩
    · simp [Value.ownBlock] at hb'
    · have e1 : g = b := by simpa [Value.ownBlock] using hb
      have e2 : g' = b := by simpa [Value.ownBlock] using hb'
      subst e1; subst e2
      rw [hg] at hg'
      injection hg' with hg'
      injection hg' with _ q _
      exact hE q
theorem getD_app7 {α : Type} (L : List α) (r d : α) (i : Nat) : (L ++ [r]).getD i d = if i < L.length then L.getD i d else [r].getD (i - L.length) d := by
  by_cases h : i < L.length
  · simp [List.getD, h, List.getElem?_append_left h]
  · rw [if_neg h]; simp only [List.getD]; rw [List.getElem?_append_right (by omega)]
/-- a list of lists that the call owns, row by row: each row is one of the call's own, in a block of its own -/
structure OwnRw (E E1 : TypeId) (w : World) (B : Nat) (v : Value) (us : List Value) (L : List (List Int)) : Prop where
  ne : E ≠ E1
  top : w.ownsRow B E 1 v L.length us
  row : ∀ i, i < L.length → ∃ u, us[i]? = some u ∧ w.ownsRow B E1 1 u (L.getD i []).length ((L.getD i []).map (Value.int .i64))
  apart : ∀ (i j : Nat) (u u' : Value) (b : Nat), i ≠ j → us[i]? = some u → us[j]? = some u' → u.ownBlock = some b → u'.ownBlock ≠ some b
theorem OwnRw.len {E E1 : TypeId} {w : World} {B : Nat} {v : Value} {us : List Value} {L : List (List Int)} (h : OwnRw E E1 w B v us L) : us.length = L.length := by have := h.top.1; omega
theorem OwnRw.diff {E E1 : TypeId} {w : World} {B : Nat} {v : Value} {us : List Value} {L : List (List Int)} (h : OwnRw E E1 w B v us L) {i : Nat} {u : Value} (hu : us[i]? = some u) : ∀ b, u.ownBlock = some b → v.ownBlock ≠ some b := by
  have hi : i < L.length := by rw [← h.len]; exact (List.getElem?_eq_some_iff.1 hu).1
  obtain ⟨u', e, ho⟩ := h.row i hi
  rw [hu] at e; injection e with e; subst e
  exact own_apart ho h.top (Ne.symm h.ne)
theorem OwnRw.at_ {E E1 : TypeId} {w : World} {B : Nat} {v : Value} {us : List Value} {L : List (List Int)} (h : OwnRw E E1 w B v us L) {i : Nat} {u : Value} (hu : us[i]? = some u) : w.ownsRow B E1 1 u (L.getD i []).length ((L.getD i []).map (Value.int .i64)) := by
  have hi : i < L.length := by rw [← h.len]; exact (List.getElem?_eq_some_iff.1 hu).1
  obtain ⟨u', e, ho⟩ := h.row i hi
  rw [hu] at e; injection e with e; subst e
  exact ho
theorem OwnRw.lt {E E1 : TypeId} {w : World} {B : Nat} {v : Value} {us : List Value} {L : List (List Int)} (h : OwnRw E E1 w B v us L) {i : Nat} {u : Value} (hu : us[i]? = some u) : ∀ b, u.ownBlock = some b → B ≤ b ∧ b < w.heap.size := (h.at_ hu).lt
theorem OwnRw.nil {E E1 : TypeId} (w : World) (B : Nat) (hE : E ≠ E1) : OwnRw E E1 w B (.slice none 0 0) [] [] := ⟨hE, World.ownsRow_nil _ _ _ _, fun i h => absurd h (by simp), fun i j u u' b _ h => by simp at h⟩
theorem OwnRw.below {E E1 : TypeId} {w w' : World} {B B' : Nat} {v : Value} {us : List Value} {L : List (List Int)} (h : OwnRw E E1 w B v us L) (hb : Below B' w w') (hB : w.heap.size ≤ B') : OwnRw E E1 w' B v us L :=
  ⟨h.ne, own_below h.top hb hB, fun i hi => by obtain ⟨u, e, ho⟩ := h.row i hi; exact ⟨u, e, own_below ho hb hB⟩, h.apart⟩
theorem OwnRw.base {E E1 : TypeId} {w : World} {B B' : Nat} {v : Value} {us : List Value} {L : List (List Int)} (h : OwnRw E E1 w B' v us L) (hB : B ≤ B') : OwnRw E E1 w B v us L :=
  ⟨h.ne, own_base h.top hB, fun i hi => by obtain ⟨u, e, ho⟩ := h.row i hi; exact ⟨u, e, own_base ho hB⟩, h.apart⟩
theorem OwnRw.drewN {E E1 : TypeId} {w : World} {B : Nat} {v : Value} {us : List Value} {L : List (List Int)} (h : OwnRw E E1 w B v us L) (q : Nat) : OwnRw E E1 (w.drewN q) B v us L := ⟨h.ne, h.top, h.row, h.apart⟩
theorem OwnRw.lists {E E1 : TypeId} {w : World} {B : Nat} {v : Value} {us : List Value} {L : List (List Int)} (h : OwnRw E E1 w B v us L) : ∃ a c, v = .slice a L.length c ∧ ListsAt w a L.length c L := by
  rcases h.top.2 with ⟨rfl, h0⟩ | ⟨g, cap, cur, rfl, _, hg, hn, hm, hs, ht⟩
  · rw [h0]
    exact ⟨none, 0, rfl, h0, Nat.le_refl _, by omega, fun i hi => absurd hi (by omega)⟩
  · refine ⟨_, cap, rfl, rfl, hn, by unfold maxLen at hm; omega, fun i hi => ?_⟩
    obtain ⟨u, e, ho⟩ := h.row i hi
    obtain ⟨a, c, rfl, hI⟩ := IntsAt.own ho
    have hc := h.top.cells (g := g) rfl i _ e
    have : (⟨g, 0, none⟩ : Addr).add i = ⟨g, 0 + i, none⟩ := by unfold Addr.add; split <;> simp_all
    rw [this] at hc
    exact ⟨g, 0, a, _, c, rfl, (Array.getElem?_eq_some_iff.1 hg).1, hc, hI⟩
/-- a new own row put behind -/
theorem OwnRw.push {E E1 : TypeId} {w w1 w2 : World} {B : Nat} {v v2 u : Value} {L : List (List Int)} {us : List Value} {r : List Int} (hB : B ≤ w.heap.size) (h : OwnRw E E1 w B v us L)
    (hb1 : Below w.heap.size w w1) (hown1 : w1.ownsRow w.heap.size E1 1 u r.length (r.map (Value.int .i64)))
    {o : Obj} (hown2 : w2.ownsRow B E 1 v2 (L.length + 1) (us ++ [u])) (hg2 : (w1.alloc o).grownBy w2 v.ownBlock) :
    OwnRw E E1 w2 B v2 (us ++ [u]) (L ++ [r]) := by
  have hul := h.len
  have hvb : ∀ k, v.ownBlock = some k → k < w.heap.size := fun k hk => (h.top.lt k hk).2
  have hku := hown1.lt
  refine ⟨h.ne, by simpa using hown2, fun i hi => ?_, fun i j x y b hij hx hy hb => ?_⟩
  · rw [List.length_append, List.length_singleton] at hi
    rw [getD_app7]
    by_cases hl : i < L.length
    · obtain ⟨u', e, ho⟩ := h.row i hl
      rw [if_pos hl]
      refine ⟨u', by rw [List.getElem?_append_left (by omega)]; exact e, ?_⟩
      refine ((own_below ho hb1 (Nat.le_refl _)).alloc _).kept hg2 ?_
      by_cases hn : u'.ownBlock = none
      · exact .inl hn
      · obtain ⟨b, hb⟩ := Option.ne_none_iff_exists'.1 hn
        exact .inr (by rw [hb]; exact fun q => h.diff e b hb q.symm)
    · obtain rfl : i = L.length := by omega
      rw [if_neg hl, Nat.sub_self]
      refine ⟨u, by rw [List.getElem?_append_right (by omega), hul, Nat.sub_self]; rfl, ?_⟩
      refine ((own_base hown1 hB).alloc _).kept hg2 ?_
      by_cases hn : u.ownBlock = none
      · exact .inl hn
      · obtain ⟨b, hb⟩ := Option.ne_none_iff_exists'.1 hn
        exact .inr (by rw [hb]; exact fun q => by have := hvb b q.symm; have := hku b hb; omega)
  · have hl : ∀ k z, (us ++ [u])[k]? = some z → (k < L.length ∧ us[k]? = some z) ∨ (k = L.length ∧ z = u) := fun k z hz => by
      by_cases hk : k < L.length
      · rw [List.getElem?_append_left (by omega)] at hz; exact .inl ⟨hk, hz⟩
      · have hk2 := (List.getElem?_eq_some_iff.1 hz).1
        rw [List.length_append, List.length_singleton] at hk2
        obtain rfl : k = L.length := by omega
        rw [List.getElem?_append_right (by omega), hul, Nat.sub_self] at hz
        exact .inr ⟨rfl, by simpa using hz.symm⟩
    intro hyb
    rcases hl i x hx with ⟨h1, h2⟩ | ⟨h1, h2⟩ <;> rcases hl j y hy with ⟨h3, h4⟩ | ⟨h3, h4⟩
    · exact h.apart i j x y b hij h2 h4 hb hyb
    · subst h4; have := (h.lt h2 b hb).2; have := (hku b hyb).1; omega
    · subst h2; have := (h.lt h4 b hyb).2; have := (hku b hb).1; omega
    · omega
/-- row i turns, in its block or into a new one, and its new value is put in its place -/
theorem OwnRw.put {E E1 : TypeId} {w w' : World} {B n cap g i : Nat} {u u' : Value} {us : List Value} {L : List (List Int)} {r : List Int} (h : OwnRw E E1 w B (.slice (some ⟨g, 0, none⟩) n cap) us L) (hn : n = L.length) (hu : us[i]? = some u)
    (hg : w.grownBy w' u.ownBlock) (hu' : w'.ownsRow B E1 1 u' r.length (r.map (Value.int .i64))) (hat : ∀ b, u'.ownBlock = some b → u.ownBlock = some b ∨ w.heap.size ≤ b) :
    OwnRw E E1 (w'.setCell ⟨g, i, none⟩ u') B (.slice (some ⟨g, 0, none⟩) n cap) (us.set i u') (L.set i r) := by
  have hi : i < L.length := by rw [← h.len]; exact (List.getElem?_eq_some_iff.1 hu).1
  have htop : w'.ownsRow B E 1 (.slice (some ⟨g, 0, none⟩) n cap) n us := by
    have h0 := h.top
    rw [← hn] at h0
    refine h0.kept hg ?_
    by_cases hx : u.ownBlock = none
    · exact .inr (by rw [hx]; simp [Value.ownBlock])
    · obtain ⟨b, hb⟩ := Option.ne_none_iff_exists'.1 hx
      exact .inr (by rw [hb]; exact h.diff hu b hb)
  obtain ⟨s1, s2⟩ := htop.stored i u'
  have hset : ∀ j, (L.set i r).getD j [] = if j = i then r else L.getD j [] := fun j => by
    by_cases e : j = i
    · subst e; simp [List.getD, hi]
    · simp [List.getD, e, List.getElem?_set_ne (Ne.symm e)]
  have hset2 : ∀ j z, (us.set i u')[j]? = some z → (j = i ∧ z = u') ∨ (j ≠ i ∧ us[j]? = some z) := fun j z hz => by
    by_cases e : j = i
    · subst e
      rw [List.getElem?_set_self (by rw [h.len]; exact hi)] at hz
      exact .inl ⟨rfl, by injection hz with hz; exact hz.symm⟩
    · rw [List.getElem?_set_ne (Ne.symm e)] at hz; exact .inr ⟨e, hz⟩
  refine ⟨h.ne, by rw [List.length_set, ← hn]; exact s1, fun j hj => ?_, fun j k x y b hjk hx hy hb => ?_⟩
  · rw [List.length_set] at hj
    rw [hset j]
    by_cases e : j = i
    · subst e
      rw [if_pos rfl]
      refine ⟨u', List.getElem?_set_self (by rw [h.len]; exact hi), hu'.kept s2 ?_⟩
      by_cases hx : u'.ownBlock = none
      · exact .inl hx
      · obtain ⟨b, hb⟩ := Option.ne_none_iff_exists'.1 hx
        exact .inr (by rw [hb]; exact fun q => own_apart hu' htop (Ne.symm h.ne) b hb q.symm)
    · rw [if_neg e]
      obtain ⟨x, ex, ho⟩ := h.row j hj
      refine ⟨x, by rw [List.getElem?_set_ne (Ne.symm e)]; exact ex, (ho.kept hg ?_).kept s2 ?_⟩
      · by_cases hx : x.ownBlock = none
        · exact .inl hx
        · obtain ⟨b, hb⟩ := Option.ne_none_iff_exists'.1 hx
          exact .inr (by rw [hb]; exact fun q => h.apart j i x u b e ex hu hb q.symm)
      · by_cases hx : x.ownBlock = none
        · exact .inl hx
        · obtain ⟨b, hb⟩ := Option.ne_none_iff_exists'.1 hx
          exact .inr (by rw [hb]; exact fun q => h.diff ex b hb q.symm)
  · intro hyb
    rcases hset2 j x hx with ⟨h1, h2⟩ | ⟨h1, h2⟩ <;> rcases hset2 k y hy with ⟨h3, h4⟩ | ⟨h3, h4⟩
    · omega
    · subst h1; subst h2
      rcases hat b hb with q | q
      · exact h.apart j k u y b hjk hu h4 q hyb
      · have := (h.lt h4 b hyb).2; omega
    · subst h3; subst h4
      rcases hat b hyb with q | q
      · exact h.apart j k x u b hjk h2 hu hb q
      · have := (h.lt h2 b hb).2; omega
    · exact h.apart j k x y b hjk h2 h4 hb hyb
/-- row i turns in its own block, its value stays -/
theorem OwnRw.turn {E E1 : TypeId} {w w' : World} {B i : Nat} {v u : Value} {us : List Value} {L : List (List Int)} {r : List Int} (h : OwnRw E E1 w B v us L) (hu : us[i]? = some u)
    (hg : w.grownBy w' u.ownBlock) (hu' : w'.ownsRow B E1 1 u r.length (r.map (Value.int .i64))) : OwnRw E E1 w' B v us (L.set i r) := by
  have hi : i < L.length := by rw [← h.len]; exact (List.getElem?_eq_some_iff.1 hu).1
  have hset : ∀ j, (L.set i r).getD j [] = if j = i then r else L.getD j [] := fun j => by
    by_cases e : j = i
    · subst e; simp [List.getD, hi]
    · simp [List.getD, e, List.getElem?_set_ne (Ne.symm e)]
  refine ⟨h.ne, by
    rw [List.length_set]
    refine h.top.kept hg ?_
    by_cases hx : v.ownBlock = none
    · exact .inl hx
    · obtain ⟨b, hb⟩ := Option.ne_none_iff_exists'.1 hx
      exact .inr (by rw [hb]; exact fun q => h.diff hu b q.symm hb), fun j hj => ?_, h.apart⟩
  rw [List.length_set] at hj
  rw [hset j]
  by_cases e : j = i
  · subst e
    rw [if_pos rfl]
    exact ⟨u, hu, hu'⟩
  · rw [if_neg e]
    obtain ⟨x, ex, ho⟩ := h.row j hj
    refine ⟨x, ex, ho.kept hg ?_⟩
    by_cases hx : x.ownBlock = none
    · exact .inl hx
    · obtain ⟨b, hb⟩ := Option.ne_none_iff_exists'.1 hx
      exact .inr (by rw [hb]; exact fun q => h.apart j i x u b e ex hu hb q.symm)
end Go.Proofs.Kv
namespace Go.Proofs.Ytdnlpikfibdjoaa
open Go.RowKit Go.Proofs.Kv Go

/-! ### the document's Copy and Same, the program's copied -/
end Go.Proofs.Ytdnlpikfibdjoaa
