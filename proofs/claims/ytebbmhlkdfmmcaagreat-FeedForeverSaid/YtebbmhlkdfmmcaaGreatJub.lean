import Derived.Test.YtebbmhlkdfmmcaaGreatJua
namespace Go.Proofs.YtebbmhlkdfmmcaaGreat
open Go.RowKit Go.Proofs.Kv

/-! ### the arcs of a word are its moves: mathematics -/
def tgt (y : Web) (a : (Int × Int) × Nat) : Mv := (a.1, y.words.getD a.2 [])
structure Full (L : List Rl) (y : Web) (j : Nat) : Prop where
  eq : (y.arcs.getD j []).map (tgt y) = movesL L (y.words.getD j [])
  lt : ∀ a ∈ y.arcs.getD j [], a.2 < y.words.length
theorem prefix_getDW {W V : List (List Int)} (h : W <+: V) {i : Nat} (hi : i < W.length) : V.getD i [] = W.getD i [] := by
  obtain ⟨t, rfl⟩ := h
  simp only [List.getD]; rw [List.getElem?_append_left hi]
theorem tgt_more {y z : Web} (hp : y.words <+: z.words) {l : List ((Int × Int) × Nat)} (hl : ∀ a ∈ l, a.2 < y.words.length) : l.map (tgt z) = l.map (tgt y) :=
  List.map_congr_left fun a ha => by simp only [tgt]; rw [prefix_getDW hp (hl a ha)]
theorem Full.more {L : List Rl} {y z : Web} {j : Nat} (h : Full L y j) (hp : y.words <+: z.words) (ha : z.arcs.getD j [] = y.arcs.getD j []) (hj : j < y.words.length) : Full L z j :=
  ⟨by rw [ha, tgt_more hp h.lt, h.eq, prefix_getDW hp hj], fun a hm => by
    rw [ha] at hm; exact Nat.lt_of_lt_of_le (h.lt a hm) hp.length_le⟩
theorem visitF_full {L : List Rl} (hL : ∀ R ∈ L, validR R = 0) : ∀ (f : Nat) {x : Web} {l : List Int} {i : Nat} {y : Web}, WebOk x → validW l = 0 → visitF L f x l = some (i, y) → ∀ j, x.words.length ≤ j → j < y.words.length → Full L y j
  | 0, x, l, i, y, _, _, h => by simp [visitF] at h
  | f + 1, x, l, i, y, hx, hl, h => by
    have hok := visitF_ok hL (f + 1) hx hl h
    unfold visitF at h
    cases hf : findW x.words l with
    | some j =>
      rw [hf] at h
      simp only [Option.some.injEq, Prod.mk.injEq] at h
      obtain ⟨rfl, rfl⟩ := h
      exact fun j h1 h2 => absurd h2 (by omega)
    | none =>
      rw [hf] at h
      simp only at h
      by_cases h3 : x.words.length = 300
      · rw [if_pos h3] at h; cases h
      · rw [if_neg h3] at h
        obtain ⟨y', hgo, he⟩ := Option.map_eq_some_iff.1 h
        simp only [Prod.mk.injEq] at he
        obtain ⟨rfl, rfl⟩ := he
        have key : ∀ (ms : List Mv) (z : Web), (∀ m ∈ ms, validW m.2 = 0) → WebOk z → x.words.length < z.words.length → (∀ a ∈ z.arcs.getD x.words.length [], a.2 < z.words.length) → (∀ j, x.words.length < j → j < z.words.length → Full L z j) → goF (visitF L f) x.words.length z ms = some y' →
            (y'.arcs.getD x.words.length []).map (tgt y') = (z.arcs.getD x.words.length []).map (tgt z) ++ ms ∧ (∀ a ∈ y'.arcs.getD x.words.length [], a.2 < y'.words.length) ∧ ∀ j, x.words.length < j → j < y'.words.length → Full L y' j := by
          intro ms
          induction ms with
          | nil => intro z _ _ _ h1 h2 hg; simp only [goF, Option.some.injEq] at hg; subst hg; exact ⟨by simp, h1, h2⟩
          | cons m ms ih =>
            intro z hms hz hlt h1 h2 hg
            simp only [goF] at hg
            obtain ⟨r, hr, hg⟩ := Option.bind_eq_some_iff.1 hg
            have hr' : visitF L f z m.2 = some (r.1, r.2) := hr
            have hv := hms m (by simp)
            obtain ⟨hy, hpp, hi, hw⟩ := visitF_ok hL f hz hv hr'
            have ha := visitF_arcs hL f hz hv hr'
            have hfu := visitF_full hL f hz hv hr'
            have hle := hpp.length_le
            have e1 := hz.same
            have e2 := hy.same
            have ha0 := ha x.words.length (by omega)
            have hself : (r.2.arc x.words.length (m.1, r.1)).arcs.getD x.words.length [] = z.arcs.getD x.words.length [] ++ [(m.1, r.1)] := by
              simp only [Web.arc]
              rw [List.getD, List.getElem?_set_self (by omega), Option.getD_some, ha0]
            obtain ⟨q1, q2, q3⟩ := ih (r.2.arc x.words.length (m.1, r.1)) (fun m' hm => hms m' (by simp [hm])) (hy.arc _ _) (by show x.words.length < r.2.words.length; omega) (fun a hm => by
                rw [hself] at hm
                show a.2 < r.2.words.length
                rcases List.mem_append.1 hm with hm | hm
                · exact Nat.lt_of_lt_of_le (h1 a hm) hle
                · rw [List.mem_singleton] at hm; subst hm; exact hi)
              (fun j j1 j2 => by
                have j2' : j < r.2.words.length := j2
                have hfj : Full L r.2 j := by
                  by_cases q : j < z.words.length
                  · exact (h2 j j1 q).more hpp (ha j (by omega)) q
                  · exact hfu j (by omega) j2'
                exact hfj.more (z := r.2.arc x.words.length (m.1, r.1)) (List.prefix_refl _) (arc_getD (by omega)) j2') hg
            refine ⟨?_, q2, q3⟩
            rw [q1, hself, List.map_append, List.append_assoc]
            have ht : (z.arcs.getD x.words.length []).map (tgt (r.2.arc x.words.length (m.1, r.1))) = (z.arcs.getD x.words.length []).map (tgt z) := tgt_more (y := z) (z := r.2.arc x.words.length (m.1, r.1)) hpp h1
            rw [ht]
            have hm : tgt (r.2.arc x.words.length (m.1, r.1)) (m.1, r.1) = m := by
              show ((m.1, r.2.words.getD r.1 []) : Mv) = m
              rw [hw]
            simp [hm]
        have hp0 := hx.push hl hf h3
        obtain ⟨k1, k2, k3⟩ := key _ _ (moves_valid hL hl) hp0 (by simp [Web.push]) (fun a hm => by
            have : (x.push l).arcs.getD x.words.length [] = [] := by show ((x.arcs ++ [[]]).getD x.words.length []) = []; rw [← hx.same]; simp [List.getD]
            rw [this] at hm; cases hm) (fun j j1 j2 => by simp [Web.push] at j2; omega) hgo
        intro j j1 j2
        by_cases e : j = x.words.length
        · subst e
          refine ⟨?_, k2⟩
          have : (x.push l).arcs.getD x.words.length [] = [] := by show ((x.arcs ++ [[]]).getD x.words.length []) = []; rw [← hx.same]; simp [List.getD]
          rw [k1, this, hok.2.2.2]; rfl
        · exact k3 j (by omega) j2
theorem exploreF_full {L : List Rl} (hL : ∀ R ∈ L, validR R = 0) {l : List Int} (hl : validW l = 0) {y : Web} (h : exploreF L l = some y) : ∀ j, j < y.words.length → Full L y j := by
  obtain ⟨⟨i, y'⟩, hv, rfl⟩ := Option.map_eq_some_iff.1 h
  exact fun j hj => visitF_full hL 301 (x := ⟨[], []⟩) ⟨by simp, rfl, List.nodup_nil, fun l hl => by cases hl⟩ hl hv j (Nat.zero_le _) hj
/-! ### which rules are used -/
def usedA (A : List (List ((Int × Int) × Nat))) (k : Nat) : Bool := A.any fun r => r.any fun a => decide (a.1.1 = (k : Int))
def usedM (M : List Mv) (k : Nat) : Bool := M.any fun m => decide (m.1.1 = (k : Int))
def usedW (L : List Rl) (W : List (List Int)) (k : Nat) : Bool := W.any fun u => usedM (movesL L u) k
theorem usedW_iff {L : List Rl} {W : List (List Int)} {k : Nat} : usedW L W k = true ↔ ∃ u ∈ W, ∃ m ∈ movesL L u, m.1.1 = (k : Int) := by
  simp [usedW, usedM, List.any_eq_true]
theorem usedA_eq {L : List Rl} {y : Web} (hy : WebOk y) (h : ∀ j, j < y.words.length → Full L y j) (k : Nat) : usedA y.arcs k = usedW L y.words k := by
  rw [Bool.eq_iff_iff, usedW_iff]
  simp only [usedA, List.any_eq_true, decide_eq_true_eq]
  constructor
  · rintro ⟨r, hr, a, ha, e⟩
    obtain ⟨j, hj, rfl⟩ := List.mem_iff_getElem.1 hr
    have hj' : j < y.words.length := by rw [← hy.same]; exact hj
    have hf := h j hj'
    have hg : y.arcs.getD j [] = y.arcs[j] := by simp [List.getD, List.getElem?_eq_getElem hj]
    have hm : tgt y a ∈ (y.arcs.getD j []).map (tgt y) := List.mem_map_of_mem (by rw [hg]; exact ha)
    rw [hf.eq] at hm
    exact ⟨_, getD_mem' hj', _, hm, e⟩
  · rintro ⟨u, hu, m, hm, e⟩
    obtain ⟨j, hj, rfl⟩ := List.mem_iff_getElem.1 hu
    have hf := h j hj
    rw [show y.words[j] = y.words.getD j [] by simp [List.getD, List.getElem?_eq_getElem hj], ← hf.eq] at hm
    obtain ⟨a, ha, rfl⟩ := List.mem_map.1 hm
    have hj' : j < y.arcs.length := by rw [hy.same]; exact hj
    rw [show y.arcs.getD j [] = y.arcs[j] by simp [List.getD, List.getElem?_eq_getElem hj']] at ha
    exact ⟨_, List.getElem_mem hj', a, ha, e⟩
def usedR (L : List Rl) (l : List Int) (k : Nat) : Bool := match graphR L l with | some y => usedW L y.words k | none => false
def resUnused (L : List Rl) (l : List Int) : List Int := if errWeb L l = 0 then pl (fun k => !usedR L l k.toNat) L.length else []
theorem usedR_web {L : List Rl} {l : List Int} {y : Web} (h : webR L l = some y) (k : Nat) : usedA y.arcs k = usedR L l k := by
  obtain ⟨h0, he, hx⟩ := webR_some h
  obtain ⟨hs, hl⟩ := errSW_ok' he
  obtain ⟨g1, g2⟩ := exploreF_some (validS_ok hs).2 hl hx
  rw [usedA_eq g1 (exploreF_full (validS_ok hs).2 hl hx)]
  obtain ⟨_, _, z, hz, hzr⟩ := errWeb_parts h0
  have g4 := (reachedF_some hs hl hzr).2
  rw [usedR, hz, Bool.eq_iff_iff, usedW_iff, usedW_iff]
  constructor
  · rintro ⟨u, hu, hm⟩; exact ⟨u, (g4 u).2 ((g2 u).1 hu), hm⟩
  · rintro ⟨u, hu, hm⟩; exact ⟨u, (g2 u).2 ((g4 u).1 hu), hm⟩
theorem unused_same {L : List Rl} {l : List Int} (h : errWeb L l = 0) {k : Nat} (hk : (k : Int) ∈ resUnused L l) : errWithout L (k : Int) = 0 ∧ errWeb (resWithout L (k : Int)) l = 0 ∧ resReach (resWithout L (k : Int)) l = resReach L l := by
  obtain ⟨hs, hl, z, hz, hzr⟩ := errWeb_parts h
  rw [resUnused, if_pos h] at hk
  obtain ⟨h0, h1, h2⟩ := mem_pl.1 hk
  have hkl : k < L.length := by omega
  have he : errWithout L (k : Int) = 0 := by
    rw [errWithout, if_pos hs]
    have : isRl L.length (k : Int) = true := by simp [isRl]; omega
    rw [this]; rfl
  obtain ⟨e, _⟩ := errWithout_ok he
  rw [e]
  have h' := errWeb_less (Int.toNat (k : Int)) h
  refine ⟨he, h', ?_⟩
  simp only [Int.toNat_natCast] at h2 h' ⊢
  have hn : ∀ v, Rch L l v → ∀ m ∈ movesL L v, m.1.1 ≠ (k : Int) := fun v hv m hm q => by
    have : usedR L l k = true := by
      rw [usedR, hz]
      exact usedW_iff.2 ⟨v, ((reachedF_some hs hl hzr).2 v).2 hv, m, hm, q⟩
    rw [this] at h2; cases h2
  rw [resReach_eq, resReach_eq]
  obtain ⟨_, _, z', hz', hzr'⟩ := errWeb_parts h'
  rw [hz, hz']
  obtain ⟨p1, p2⟩ := fold_ins z.words (acc := []) List.Pairwise.nil
  obtain ⟨q1, q2⟩ := fold_ins z'.words (acc := []) List.Pairwise.nil
  refine asc_unique LtL_irr LtL_tr q1 p1 fun u => ?_
  show u ∈ List.foldl insertL [] z'.words ↔ u ∈ List.foldl insertL [] z.words
  rw [p2, q2, (reachedF_some hs hl hzr).2 u, (reachedF_some (validS_less hs k) hl hzr').2 u]
  constructor
  · rintro (g | g)
    · exact .inl g
    · exact .inr g.less
  · rintro (g | g)
    · exact .inl g
    · exact .inr (g.more hkl hn)
end Go.Proofs.YtebbmhlkdfmmcaaGreat
namespace Go.Proofs.YtebbmhlkdfmmcaaGreat
open Go.RowKit Go.Proofs.Kv

/-! ### the arcs in memory -/
abbrev Ac : Type := (Int × Int) × Nat
abbrev Ac0 : Ac := ((0, 0), 0)
theorem encA_at : ∀ (l : List Ac) (i : Nat) (x : Ac), l[i]? = some x → (l.flatMap encA)[i * 3]? = some (.int .i64 x.1.1) ∧ (l.flatMap encA)[i * 3 + 1]? = some (.int .i64 x.1.2) ∧ (l.flatMap encA)[i * 3 + 2]? = some (.int .i64 (x.2 : Int))
  | [], i, x, h => by simp at h
  | y :: l, 0, x, h => by simp at h; subst h; exact ⟨rfl, rfl, rfl⟩
  | y :: l, i + 1, x, h => by
    have ih := encA_at l i x (by simpa using h)
    rw [List.flatMap_cons]
    have e2 : (encA y).length = 3 := rfl
    refine ⟨?_, ?_, ?_⟩
    · rw [List.getElem?_append_right (by rw [e2]; omega), e2, show (i + 1) * 3 - 3 = i * 3 by omega]; exact ih.1
    · rw [List.getElem?_append_right (by rw [e2]; omega), e2, show (i + 1) * 3 + 1 - 3 = i * 3 + 1 by omega]; exact ih.2.1
    · rw [List.getElem?_append_right (by rw [e2]; omega), e2, show (i + 1) * 3 + 2 - 3 = i * 3 + 2 by omega]; exact ih.2.2
theorem getD_is {α : Type} {l : List α} {j : Nat} (h : j < l.length) (d : α) : l[j]? = some (l.getD j d) := by simp [List.getD, List.getElem?_eq_getElem h]
/-- the slice value (a, n, c) reads as the rows of arcs A -/
structure ArcsAt (w : World) (a : Option Addr) (n c : Nat) (A : List (List Ac)) : Prop where
  len : A.length = n
  small : n ≤ 9223372036854775807
  rows : ∀ k, k < n → ∃ g a2 c2, a = some ⟨g, 0, none⟩ ∧ g < w.heap.size ∧ w.cell? ⟨g, k, none⟩ = some (.slice a2 (A.getD k []).length c2) ∧ (A.getD k []).length ≤ 9223372036854775807 ∧
    ∀ j, j < (A.getD k []).length → ∃ g2, a2 = some ⟨g2, 0, none⟩ ∧ g2 < w.heap.size ∧ w.cell? ⟨g2, j * 3, none⟩ = some (.int .i64 ((A.getD k []).getD j Ac0).1.1) ∧ w.cell? ⟨g2, j * 3 + 1, none⟩ = some (.int .i64 ((A.getD k []).getD j Ac0).1.2) ∧ w.cell? ⟨g2, j * 3 + 2, none⟩ = some (.int .i64 (((A.getD k []).getD j Ac0).2 : Int))
theorem WebAt.arcsAt {F : Nat → Prop} {w : World} {Bx Bm B : Nat} {vw : Value} {aa : Option Addr} {ca : Nat} {Wn W : List (List Int)} {A : List (List Ac)} (h : WebAt F w Bx Bm B vw (.slice aa A.length ca) Wn W A) : ArcsAt w aa A.length ca A := by
  obtain ⟨us, u1, u2, u3⟩ := h.arcs
  have hul : us.length = A.length := by have := u1.1; simpa using this
  refine ⟨rfl, ?_, fun k hk => ?_⟩
  · rcases u1.2 with ⟨_, h0⟩ | ⟨g, cap, cur, _, _, _, hn, hm, _⟩
    · omega
    · unfold maxLen at hm; omega
  · obtain ⟨g, kc, e⟩ := own_slice u1 (by omega)
    injection e with e1 _ _
    subst e1
    have hu : us[k]? = some us[k] := List.getElem?_eq_getElem (by omega)
    have hc := u1.cells (g := g) rfl k _ hu
    rw [add_at, Nat.zero_add] at hc
    have ho := (u2 k _ hu).1
    obtain ⟨a2, c2, e4⟩ := own_any ho
    rw [e4] at hc ho
    refine ⟨g, a2, c2, rfl, (u1.lt g rfl).2, hc, ?_, fun j hj => ?_⟩
    · rcases ho.2 with ⟨_, h0⟩ | ⟨g', cap, cur, _, _, _, hn, hm, _⟩
      · omega
      · unfold maxLen at hm; omega
    · obtain ⟨g2, k2, e5⟩ := own_slice ho (by omega)
      injection e5 with e5 _ _
      subst e5
      have hx := getD_is hj Ac0
      obtain ⟨q0, q1, q2⟩ := encA_at _ j _ hx
      have c0 := ho.cells (g := g2) rfl _ _ q0
      have c1 := ho.cells (g := g2) rfl _ _ q1
      have c2 := ho.cells (g := g2) rfl _ _ q2
      rw [add_at, Nat.zero_add] at c0 c1 c2
      exact ⟨g2, rfl, (ho.lt g2 rfl).2, c0, c1, c2⟩
/-- nothing of it is written while only newer blocks are -/
theorem ArcsAt.kept {F : Nat → Prop} {w w' : World} {a : Option Addr} {n c : Nat} {A : List (List Ac)} (h : ArcsAt w a n c A) (hk : Kept F w w') (hF : ∀ b, b < w.heap.size → ¬ F b) : ArcsAt w' a n c A :=
  ⟨h.len, h.small, fun k hk2 => by
    obtain ⟨g, a2, c2, e, hg, hc, hm, hj⟩ := h.rows k hk2
    exact ⟨g, a2, c2, e, Nat.lt_of_lt_of_le hg hk.size, hk.cell hc (hF g hg), hm, fun j hj2 => by
      obtain ⟨g2, e2, hg2, q0, q1, q2⟩ := hj j hj2
      exact ⟨g2, e2, Nat.lt_of_lt_of_le hg2 hk.size, hk.cell q0 (hF g2 hg2), hk.cell q1 (hF g2 hg2), hk.cell q2 (hF g2 hg2)⟩⟩⟩
/-- .. in all worlds that have its blocks as they were -/
theorem ArcsAt.rowsK {w : World} {a : Option Addr} {n c : Nat} {A : List (List Ac)} (h : ArcsAt w a n c A) {P : World → Prop} (hP : ∀ W, P W → ∀ b, b < w.heap.size → W.heap[b]? = w.heap[b]?) {k : Nat} (hk : k < n) :
    ∃ g a2 c2, a = some ⟨g, 0, none⟩ ∧ (∀ W, P W → W.cell? ⟨g, k, none⟩ = some (.slice a2 (A.getD k []).length c2)) ∧ (A.getD k []).length ≤ 9223372036854775807 ∧
    ∀ j, j < (A.getD k []).length → ∃ g2, a2 = some ⟨g2, 0, none⟩ ∧ ∀ W, P W → W.cell? ⟨g2, j * 3, none⟩ = some (.int .i64 ((A.getD k []).getD j Ac0).1.1) ∧ W.cell? ⟨g2, j * 3 + 1, none⟩ = some (.int .i64 ((A.getD k []).getD j Ac0).1.2) ∧ W.cell? ⟨g2, j * 3 + 2, none⟩ = some (.int .i64 (((A.getD k []).getD j Ac0).2 : Int)) := by
  obtain ⟨g, a2, c2, e, hg, hc, hm, hj⟩ := h.rows k hk
  have key : ∀ W, P W → ∀ b i v, b < w.heap.size → w.cell? ⟨b, i, none⟩ = some v → W.cell? ⟨b, i, none⟩ = some v := fun W hW b i v hb hv => (World.cell?_of_block (w := w) (a := ⟨b, i, none⟩) (hP W hW b hb)).trans hv
  exact ⟨g, a2, c2, e, fun W hW => key W hW _ _ _ hg hc, hm, fun j hj2 => by
    obtain ⟨g2, e2, hg2, q0, q1, q2⟩ := hj j hj2
    exact ⟨g2, e2, fun W hW => ⟨key W hW _ _ _ hg2 q0, key W hW _ _ _ hg2 q1, key W hW _ _ _ hg2 q2⟩⟩⟩
/-! ### rows of truth values -/
/-- block b holds the truth values of u below n -/
def BoolsAt (T : TypeId) (w : World) (b n : Nat) (u : Nat → Bool) : Prop := w.heap[b]? = some (.cells ((List.range n).map fun k => Value.bool (u k)).toArray T (0, 0))
theorem BoolsAt.cell {T : TypeId} {w : World} {b n : Nat} {u : Nat → Bool} (h : BoolsAt T w b n u) {k : Nat} (hk : k < n) : w.cell? ⟨b, k, none⟩ = some (.bool (u k)) := by
  rw [Go.Joins.cell_of_block h]; simp [hk]
theorem BoolsAt.free {T : TypeId} {w : World} {b n : Nat} {u : Nat → Bool} (h : BoolsAt T w b n u) (k : Nat) : w.frozen? ⟨b, k, none⟩ = false := Go.Joins.unfrozen_of_block h k
theorem BoolsAt.set {T : TypeId} {w : World} {b n r : Nat} {u : Nat → Bool} (h : BoolsAt T w b n u) : BoolsAt T (w.setCell ⟨b, r, none⟩ (.bool true)) b n (fun k => u k || decide (r = k)) := by
  have := Go.Joins.block_setCell h (i := r) (.bool true)
  rw [BoolsAt, this]
  congr 2
  rw [List.setIfInBounds_toArray]
  congr 1
  refine List.ext_getElem (by simp) fun i h1 h2 => ?_
  simp only [List.length_map, List.length_range] at h2
  rw [List.getElem_set]
  by_cases e : r = i
  · subst e; simp
  · simp [e]
theorem BoolsAt.kept {F : Nat → Prop} {T : TypeId} {w w' : World} {b n : Nat} {u : Nat → Bool} (h : BoolsAt T w b n u) (hk : Kept F w w') (hF : ¬ F b) : BoolsAt T w' b n u := (hk.block b (Go.lt_of_block h) hF).trans h
theorem BoolsAt.congr {T : TypeId} {w : World} {b n : Nat} {u v : Nat → Bool} (h : BoolsAt T w b n u) (e : ∀ k, u k = v k) : BoolsAt T w b n v := by
  have : u = v := funext e
  rw [← this]; exact h
def usedRow (r : List Ac) (k : Nat) : Bool := r.any fun a => decide (a.1.1 = (k : Int))
theorem usedA_snoc {A : List (List Ac)} {i : Nat} (hi : i < A.length) (k : Nat) : usedA (A.take (i + 1)) k = (usedA (A.take i) k || usedRow (A.getD i []) k) := by
  rw [take_snoc A [] i hi]; simp [usedA, usedRow]
theorem usedRow_snoc {r : List Ac} {i : Nat} (hi : i < r.length) (k : Nat) : usedRow (r.take (i + 1)) k = (usedRow (r.take i) k || decide ((r.getD i Ac0).1.1 = (k : Int))) := by
  rw [take_snoc r Ac0 i hi]; simp [usedRow]
theorem arc_rule {L : List Rl} {y : Web} (hN : L.length ≤ 6) (h : ∀ j, j < y.words.length → Full L y j) {k j : Nat} (hk : k < y.words.length) (hj : j < (y.arcs.getD k []).length) : ∃ r : Nat, ((y.arcs.getD k []).getD j Ac0).1.1 = (r : Int) ∧ r < 6 ∧ r < L.length := by
  have hf := h k hk
  have hx : (y.arcs.getD k []).getD j Ac0 ∈ y.arcs.getD k [] := by
    rw [show (y.arcs.getD k []).getD j Ac0 = (y.arcs.getD k [])[j] by simp only [List.getD] at hj ⊢; rw [List.getElem?_eq_getElem hj]; rfl]; exact List.getElem_mem _
  have hm : tgt y ((y.arcs.getD k []).getD j Ac0) ∈ movesL L (y.words.getD k []) := by rw [← hf.eq]; exact List.mem_map_of_mem hx
  obtain ⟨i, hi, p, _, _, e⟩ := mem_mvTo.1 hm
  have e1 : ((y.arcs.getD k []).getD j Ac0).1.1 = (i : Int) := congrArg (fun m : Mv => m.1.1) e
  exact ⟨i, e1, by omega, hi⟩
end Go.Proofs.YtebbmhlkdfmmcaaGreat
namespace Go.Proofs.YtebbmhlkdfmmcaaGreat
open Go.RowKit Go.Proofs.Kv

/-! ### Unused of the document -/
theorem Tryz.infoBool : (Tryz.prog.info? 4).map (fun i => (i.zero, i.size, i.bytes)) = some (some (.bool false), 1, 1) := by kernel_rfl
theorem own_pairs_at {w : World} {B E : Nat} {v : Value} {n : Nat} {P : List (Int × Int)} (h : w.ownsRow B E 2 v n (P.flatMap encN)) {j : Nat} (hj : j < n) :
    ∃ g c, v = .slice (some ⟨g, 0, none⟩) n c ∧ B ≤ g ∧ g < w.heap.size ∧ w.cell? ⟨g, j * 2, none⟩ = some (.int .i64 (P.getD j (0, 0)).1) ∧ w.cell? ⟨g, j * 2 + 1, none⟩ = some (.int .i64 (P.getD j (0, 0)).2) := by
  obtain ⟨g, c, rfl⟩ := own_slice h (by omega)
  have hl : P.length = n := by have := h.1; rw [encN_len] at this; omega
  obtain ⟨e0, e1⟩ := encN_at P j (by omega)
  have c0 := h.cells (g := g) rfl _ _ e0
  have c1 := h.cells (g := g) rfl _ _ e1
  rw [add_at, Nat.zero_add] at c0 c1
  exact ⟨g, c, rfl, (h.lt g rfl).1, (h.lt g rfl).2, c0, c1⟩
theorem usedM_snoc {M : List Mv} {i : Nat} (hi : i < M.length) (k : Nat) : usedM (M.take (i + 1)) k = (usedM (M.take i) k || decide ((M.getD i M0).1.1 = (k : Int))) := by
  rw [take_snoc M M0 i hi]; simp [usedM]
theorem usedW_snoc {L : List Rl} {W : List (List Int)} {i : Nat} (hi : i < W.length) (k : Nat) : usedW L (W.take (i + 1)) k = (usedW L (W.take i) k || usedM (movesL L (W.getD i [])) k) := by
  rw [take_snoc W [] i hi]; simp [usedW]
theorem move_rule {L : List Rl} {u : List Int} {j : Nat} (hj : j < (movesL L u).length) : ∃ r : Nat, ((movesL L u).getD j M0).1.1 = (r : Int) ∧ r < L.length ∧ (((movesL L u).map (·.1)).getD j (0, 0)).1 = (r : Int) := by
  have hx := getD_is hj M0
  have hm : (movesL L u).getD j M0 ∈ movesL L u := List.mem_of_getElem? hx
  obtain ⟨i, hi, p, _, _, e⟩ := mem_mvTo.1 hm
  refine ⟨i, by rw [e], hi, ?_⟩
  rw [List.getD, List.getElem?_map, hx, e]; rfl
end Go.Proofs.YtebbmhlkdfmmcaaGreat
