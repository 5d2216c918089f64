import Derived.Test.YtebbmhlkdfmmcaaGreatJv
namespace Go.Proofs.YtebbmhlkdfmmcaaGreat
open Go.RowKit Go.Proofs.Kv

/-! ### steps, and the words to which they lead -/
abbrev Mv := (Int × Int) × List Int
abbrev M0 : Mv := ((0, 0), [])
/-- what the rule number k does with a word at those of some places at which it has no error -/
def mvR (k : Nat) (R : Rl) (l P : List Int) : List Mv := P.filterMap fun p => if putErr R [p] l = 0 then some (((k : Int), p), putRes R [p] l) else none
def mvTo (L : List Rl) (l : List Int) (k : Nat) : List Mv := (List.range k).flatMap fun i => mvR i (L.getD i R0) l (plP (L.getD i R0) l)
def movesL (L : List Rl) (l : List Int) : List Mv := mvTo L l L.length
theorem mvTo_snoc (L : List Rl) (l : List Int) (k : Nat) : mvTo L l (k + 1) = mvTo L l k ++ mvR k (L.getD k R0) l (plP (L.getD k R0) l) := by
  rw [mvTo, List.range_succ, List.flatMap_append]; simp [mvTo]
theorem mvR_hit {k : Nat} {R : Rl} {l P : List Int} {j : Nat} (hj : j < P.length) (h : putErr R [P.getD j 0] l = 0) : mvR k R l (P.take (j + 1)) = mvR k R l (P.take j) ++ [(((k : Int), P.getD j 0), putRes R [P.getD j 0] l)] := by
  rw [take_snoc P 0 j hj, mvR, List.filterMap_append]; simp only [mvR, List.filterMap_cons, List.filterMap_nil, h, if_pos]
theorem mvR_miss {k : Nat} {R : Rl} {l P : List Int} {j : Nat} (hj : j < P.length) (h : putErr R [P.getD j 0] l ≠ 0) : mvR k R l (P.take (j + 1)) = mvR k R l (P.take j) := by
  rw [take_snoc P 0 j hj, mvR, List.filterMap_append]; simp only [mvR, List.filterMap_cons, List.filterMap_nil, if_neg h, List.append_nil]
theorem mvR_le (k : Nat) (R : Rl) (l P : List Int) : (mvR k R l P).length ≤ P.length := List.length_filterMap_le _ _
theorem mvTo_le (L : List Rl) {l : List Int} (hl : l.length ≤ 8) : ∀ k, (mvTo L l k).length ≤ 9 * k
  | 0 => by simp [mvTo]
  | k + 1 => by
    rw [mvTo_snoc, List.length_append]
    have := mvTo_le L hl k
    have := mvR_le k (L.getD k R0) l (plP (L.getD k R0) l)
    have := plP_len (R := L.getD k R0) (l := l)
    omega
theorem mem_mvTo {L : List Rl} {l : List Int} {k : Nat} {m : Mv} : m ∈ mvTo L l k ↔ ∃ i, i < k ∧ ∃ p ∈ plP (L.getD i R0) l, putErr (L.getD i R0) [p] l = 0 ∧ m = (((i : Int), p), putRes (L.getD i R0) [p] l) := by
  unfold mvTo mvR
  simp only [List.mem_flatMap, List.mem_range, List.mem_filterMap]
  constructor
  · rintro ⟨i, hi, p, hp, h⟩
    by_cases he : putErr (L.getD i R0) [p] l = 0
    · rw [if_pos he] at h; injection h with h; exact ⟨i, hi, p, hp, he, h.symm⟩
    · rw [if_neg he] at h; cases h
  · rintro ⟨i, hi, p, hp, he, rfl⟩
    exact ⟨i, hi, p, hp, by rw [if_pos he]⟩
theorem validW_mk {l : List Int} (h1 : l.length ≤ 8) (h2 : isWord l = true) : validW l = 0 := by
  unfold validW; rw [if_neg (by omega), h2]; rfl
theorem getD_R0_valid {L : List Rl} (h : ∀ R ∈ L, validR R = 0) {k : Nat} (hk : k < L.length) : validR (L.getD k R0) = 0 := by
  refine h _ ?_
  rw [show L.getD k R0 = L[k] by simp [List.getD, List.getElem?_eq_getElem hk]]; exact List.getElem_mem _
theorem putRes_valid {R : Rl} {l : List Int} {p : Int} (hR : validR R = 0) (hl : validW l = 0) (he : putErr R [p] l = 0) : validW (putRes R [p] l) = 0 := by
  obtain ⟨_, _, _, g4, _, _⟩ := validR_ok hR
  obtain ⟨_, g8⟩ := validW_ok hl
  unfold putErr at he
  by_cases h8 : 8 < (putAll R [p] l).length
  · rw [if_pos h8] at he; cases he
  · rw [putRes, if_neg h8]
    refine validW_mk (by omega) ?_
    simp only [putAll, List.foldr_cons, List.foldr_nil]
    exact isWord_put g8 g4
theorem moves_valid {L : List Rl} {l : List Int} (hL : ∀ R ∈ L, validR R = 0) (hl : validW l = 0) : ∀ m ∈ movesL L l, validW m.2 = 0 := by
  intro m hm
  obtain ⟨i, hi, p, _, he, rfl⟩ := mem_mvTo.1 hm
  exact putRes_valid (getD_R0_valid hL hi) hl he
theorem errApply_pl {R : Rl} {l : List Int} {p : Int} (h : err2 R l = 0) (hp : p ∈ plP R l) : errApply R l p = putErr R [p] l ∧ resApply R l p = putRes R [p] l := by
  have hb : plB R.f R.le R.ri l p = true := (mem_pl.1 hp).2.2
  rw [errApply, resApply, if_pos h, if_pos h, apE, apV, hb]
  simp

/-! ### what a word reaches: depth first, as the program goes -/
structure Web where
  words : List (List Int)
  arcs : List (List ((Int × Int) × Nat))
def findW (W : List (List Int)) (l : List Int) : Option Nat := W.findIdx? (· == l)
def Web.push (x : Web) (l : List Int) : Web := ⟨x.words ++ [l], x.arcs ++ [[]]⟩
def Web.arc (x : Web) (i : Nat) (a : (Int × Int) × Nat) : Web := ⟨x.words, x.arcs.set i (x.arcs.getD i [] ++ [a])⟩
def goF (v : Web → List Int → Option (Nat × Web)) (i : Nat) : Web → List Mv → Option Web
  | x, [] => some x
  | x, m :: ms => (v x m.2).bind fun r => goF v i (r.2.arc i (m.1, r.1)) ms
def visitF (L : List Rl) : Nat → Web → List Int → Option (Nat × Web)
  | 0, _, _ => none
  | f + 1, x, l =>
    match findW x.words l with
    | some i => some (i, x)
    | none => if x.words.length = 300 then none else (goF (visitF L f) x.words.length (x.push l) (movesL L l)).map fun y => (x.words.length, y)
def exploreF (L : List Rl) (l : List Int) : Option Web := (visitF L 301 ⟨[], []⟩ l).map (·.2)
theorem findW_some {W : List (List Int)} {l : List Int} {i : Nat} (h : findW W l = some i) : i < W.length ∧ W.getD i [] = l := by
  obtain ⟨hi, h1, _⟩ := List.findIdx?_eq_some_iff_getElem.1 h
  refine ⟨hi, ?_⟩
  simp only [List.getD, List.getElem?_eq_getElem hi, Option.getD_some]
  simpa using h1
theorem findW_none {W : List (List Int)} {l : List Int} : findW W l = none ↔ l ∉ W := by
  unfold findW
  rw [List.findIdx?_eq_none_iff]
  constructor
  · intro h hm; have := h l hm; simp at this
  · intro h x hx; simp; rintro rfl; exact h hx
theorem findW_app {W : List (List Int)} {l m : List Int} (h : findW W m = none) : findW (W ++ [m]) l = if l = m then some W.length else findW W l := by
  unfold findW at h ⊢
  rw [List.findIdx?_append]
  by_cases e : l = m
  · subst e
    rw [h, if_pos rfl]; simp
  · rw [if_neg e]
    have : List.findIdx? (fun x => x == l) [m] = none := by simp [Ne.symm e]
    rw [this]; simp
theorem goF_cons (v : Web → List Int → Option (Nat × Web)) (i : Nat) (x : Web) {ms : List Mv} {k : Nat} (hk : k < ms.length) :
    goF v i x (ms.drop k) = (v x (ms.getD k M0).2).bind fun r => goF v i (r.2.arc i ((ms.getD k M0).1, r.1)) (ms.drop (k + 1)) := by
  have e : ms.getD k M0 = ms[k] := by simp [List.getD, List.getElem?_eq_getElem hk]
  rw [List.drop_eq_getElem_cons hk, goF, e]
/-- words are only put behind, none is there twice, all are valid, and each has its arcs -/
structure WebOk (x : Web) : Prop where
  le : x.words.length ≤ 300
  same : x.arcs.length = x.words.length
  nd : x.words.Nodup
  ok : ∀ l ∈ x.words, validW l = 0
theorem WebOk.push {x : Web} (h : WebOk x) {l : List Int} (hl : validW l = 0) (hn : findW x.words l = none) (h3 : x.words.length ≠ 300) : WebOk (x.push l) where
  le := by have := h.le; simp [Web.push]; omega
  same := by simp [Web.push, h.same]
  nd := by
    simp only [Web.push]
    rw [List.nodup_append]
    exact ⟨h.nd, by simp, fun a ha b hb e => by rw [List.mem_singleton] at hb; subst hb; subst e; exact findW_none.1 hn ha⟩
  ok := fun m hm => by
    simp only [Web.push, List.mem_append, List.mem_singleton] at hm
    rcases hm with hm | rfl
    · exact h.ok m hm
    · exact hl
theorem WebOk.arc {x : Web} (h : WebOk x) (i : Nat) (a : (Int × Int) × Nat) : WebOk (x.arc i a) := ⟨h.le, by simp [Web.arc, h.same], h.nd, h.ok⟩
theorem visitF_ok {L : List Rl} (hL : ∀ R ∈ L, validR R = 0) : ∀ (f : Nat) {x : Web} {l : List Int} {i : Nat} {y : Web}, WebOk x → validW l = 0 → visitF L f x l = some (i, y) →
    WebOk y ∧ x.words <+: y.words ∧ i < y.words.length ∧ y.words.getD i [] = l
  | 0, x, l, i, y, _, _, h => by simp [visitF] at h
  | f + 1, x, l, i, y, hx, hl, h => by
    unfold visitF at h
    cases hf : findW x.words l with
    | some j =>
      rw [hf] at h
      simp only [Option.some.injEq, Prod.mk.injEq] at h
      obtain ⟨rfl, rfl⟩ := h
      exact ⟨hx, List.prefix_refl _, findW_some hf⟩
    | none =>
      rw [hf] at h
      simp only at h
      by_cases h3 : x.words.length = 300
      · rw [if_pos h3] at h; cases h
      · rw [if_neg h3] at h
        obtain ⟨y', hgo, he⟩ := Option.map_eq_some_iff.1 h
        simp only [Prod.mk.injEq] at he
        obtain ⟨rfl, rfl⟩ := he
        have key : ∀ (ms : List Mv) (z : Web), (∀ m ∈ ms, validW m.2 = 0) → WebOk z → (x.push l).words <+: z.words → goF (visitF L f) x.words.length z ms = some y' → WebOk y' ∧ (x.push l).words <+: y'.words := by
          intro ms
          induction ms with
          | nil => intro z _ hz hp hg; simp only [goF, Option.some.injEq] at hg; subst hg; exact ⟨hz, hp⟩
          | cons m ms ih =>
            intro z hms hz hp hg
            simp only [goF] at hg
            obtain ⟨r, hr, hg⟩ := Option.bind_eq_some_iff.1 hg
            obtain ⟨hy, hpp, _, _⟩ := visitF_ok hL f hz (hms m (by simp)) (show visitF L f z m.2 = some (r.1, r.2) from hr)
            exact ih _ (fun m hm => hms m (by simp [hm])) (hy.arc _ _) (hp.trans hpp) hg
        obtain ⟨k1, k2⟩ := key _ _ (moves_valid hL hl) (hx.push hl hf h3) (List.prefix_refl _) hgo
        refine ⟨k1, (List.prefix_append _ _).trans k2, ?_, ?_⟩
        · have := k2.length_le; simp [Web.push] at this; omega
        · obtain ⟨t, ht⟩ := k2
          rw [← ht]
          simp [Web.push, List.getD]
end Go.Proofs.YtebbmhlkdfmmcaaGreat
