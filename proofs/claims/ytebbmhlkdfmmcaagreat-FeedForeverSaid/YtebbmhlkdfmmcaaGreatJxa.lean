import Derived.Test.YtebbmhlkdfmmcaaGreatJz
import Derived.Test.YtebbmhlkdfmmcaaGreatJsb
namespace Go.Proofs.YtebbmhlkdfmmcaaGreat
open Go.RowKit Go.Proofs.Kv Go.Sort

/-! ### Reach: the program -/
set_option maxHeartbeats 1000000 in
theorem sortListsG_calls {B E : Nat} {v : Value} {L : List (List Int)} {w : World} (hown : OwnL E w B v L) (h0 : 0 < L.length) (hs : L.length ≤ 1000000) (hB : B ≤ w.heap.size) :
    Calls Tryz.prog 32 #[v, .func (.func 33) #[] #[]] w fun e w' => e = .returned (.tuple #[]) ∧ OwnL E w' B v (L.mergeSort leL) ∧ Below B w w' ∧ w.grownBy w' v.ownBlock := by
  obtain ⟨vs, hrow, hin⟩ := hown.has
  have hvl : vs.length = L.length := by have := hrow.1; simpa using this
  obtain ⟨g, cap, rfl, hlt, hH, hafter⟩ := own_flat hrow h0 hB
  let enc : Nat → Value := fun i => vs.getD i (.slice none 0 0)
  have henc : ∀ i, ∃ a n c, enc i = .slice a n c ∧ IntsAt w a n c (L.getD i []) ∧ ∀ b off, 0 < n → a = some ⟨b, off, none⟩ → b ≠ g := by
    intro i
    rcases Nat.lt_or_ge i L.length with hi | hi
    · obtain ⟨a, n, c, e, hr, hd⟩ := hin i hi
      exact ⟨a, n, c, by simp [enc, List.getD, e], hr, fun b off hn ha hb => hd b off hn ha (by rw [hb]; rfl)⟩
    · refine ⟨none, 0, 0, by simp [enc, List.getD, List.getElem?_eq_none (show vs.length ≤ i by omega)], ?_, fun b off hn => absurd hn (by omega)⟩
      rw [List.getD, List.getElem?_eq_none hi]
      exact IntsAt.nil _ _ _ (by omega)
  have hd0 : (List.range L.length).toArray.map enc = vs.toArray := by
    apply Array.ext (by simp [hvl])
    intro i h1 h2
    simp at h1 h2
    simp [enc, List.getD, List.getElem?_eq_getElem h2]
  have hone : OneCell enc := fun i => by
    obtain ⟨a, n, c, e, _, _⟩ := henc i
    rw [e]; rfl
  have eg : ∀ args w, (callFunc 33 args).run Tryz.prog w = .ok (.enter 33 args) w := enters_of Tryz.func33 (by kernel_rfl) rfl
  have hgrow : ∀ m os (dk : Array Nat), w.grownBy (sortWorld enc w g 0 m dk os) (some g) := fun m os dk => by
    unfold sortWorld
    rw [putRow_map]
    exact grownBy_flat _
  have hcon := Tryz.slices_SortFunc enc hone (cfI L) (swoI L) 33 #[] g 0 cap (List.range L.length).toArray w eg
    (fun m os dk _ x y => by
      obtain ⟨a, n, c, e, hr, hd⟩ := henc x
      obtain ⟨a', n', c', e', hr', hd'⟩ := henc y
      rw [e, e']
      exact (cmpL_calls a n c _ a' n' c' _ _ (ints_grown (hgrow m os dk) hr hd) (ints_grown (hgrow m os dk) hr' hd')).mono fun _ _ h => ⟨h.1, 0, #[], h.2.symm⟩)
    (holds_map (by rw [hd0]; exact hH)) hlt (by simp; omega)
  rw [show (List.range L.length).toArray.size = L.length by simp] at hcon
  refine hcon.mono ?_
  rintro e w' ⟨rfl, d', k, os, hp, hso, rfl⟩
  obtain ⟨hsz, hm, hres⟩ := sorted_places hp hso
  have hlen : (L.mergeSort leL).length = L.length := by simp
  have hw : sortWorld enc w g 0 k d' os = Go.Sort.grow (putRow id (Sort.ahead w k) g 0 (d'.toList.map enc).toArray) os := by
    unfold sortWorld
    rw [putRow_map]
    congr 2
    apply Array.ext (by simp)
    intro i h1 h2
    simp
  obtain ⟨ho, hb⟩ := hafter k os (d'.toList.map enc) (by simp [hsz, hvl])
  rw [← hw] at ho hb
  refine ⟨rfl, ⟨d'.toList.map enc, by rw [hlen]; exact ho, fun i hi => ?_⟩, hb, hgrow k os d'⟩
  rw [hlen] at hi
  obtain ⟨a, n, c, e, hr, hd⟩ := henc d'[i]!
  have hi' : i < d'.size := by omega
  refine ⟨a, n, c, ?_, ?_, fun b off hn ha hbb => hd b off hn ha (by simpa [Value.ownBlock] using hbb.symm)⟩
  · rw [List.getElem?_map, Array.getElem?_toList, Array.getElem?_eq_getElem hi', Option.map_some, ← e, getElem!_pos d' i hi']
  · have : (L.mergeSort leL).getD i [] = L.getD d'[i]! [] := by
      rw [← hres, getElem!_pos d' i hi', List.getD, List.getElem?_map, Array.getElem?_toList, Array.getElem?_eq_getElem hi']; rfl
    rw [this]
    exact ints_grown (hgrow k os d') hr hd
theorem sortAnyG_calls {B E : Nat} {v : Value} {L : List (List Int)} {w : World} (hown : OwnL E w B v L) (hs : L.length ≤ 1000000) (hB : B ≤ w.heap.size) :
    Calls Tryz.prog 32 #[v, .func (.func 33) #[] #[]] w fun e w' => e = .returned (.tuple #[]) ∧ OwnL E w' B v (L.mergeSort leL) ∧ Below B w w' ∧ w.grownBy w' v.ownBlock := by
  rcases Nat.eq_zero_or_pos L.length with h0 | h0
  · have hL : L = [] := List.eq_nil_of_length_eq_zero h0
    subst hL
    obtain ⟨a, c, rfl, _⟩ := hown.at_
    refine (Tryz.sortNone a c _ w).mono ?_
    rintro e w' ⟨rfl, rfl⟩
    exact ⟨rfl, by simpa using hown, Below.refl _ _, World.grownBy.refl _ _⟩
  · exact sortListsG_calls hown h0 hs hB
theorem WebAt.ownL {F : Nat → Prop} {w : World} {Bx Bm B : Nat} {vw va : Value} {Wn W : List (List Int)} {A : List (List ((Int × Int) × Nat))} (h : WebAt F w Bx Bm B vw va Wn W A) : OwnL 23 w B vw W := by
  obtain ⟨vs, h1, h2⟩ := h.words
  have hvl : vs.length = W.length := by have := h1.1; simpa using this
  refine ⟨vs, h1, fun i hi => ?_⟩
  have hv : vs[i]? = some vs[i] := List.getElem?_eq_getElem (by omega)
  obtain ⟨a, n, c, e, hI, hd⟩ := h2 i _ hv
  exact ⟨a, n, c, by rw [hv, e], hI, fun b off hn ha e' => hd b off hn ha (h.fw b e')⟩
def resReach (L : List Rl) (l : List Int) : List (List Int) := match webR L l with | some y => y.words.mergeSort leL | none => []
set_option maxRecDepth 100000 in
set_option maxHeartbeats 4000000 in
theorem feReach_calls (A : Option Addr) (N C : Nat) (L : List Rl) (a : Option Addr) (n c : Nat) (l : List Int) (w : World) (h : RulesAt w A N C L) (hI : IntsAt w a n c l) :
    Calls Tryz.prog 13 #[.slice A N C, .slice a n c] w fun e w' => ∃ v, e = .returned (.tuple #[v, .int .i64 (errWeb L l)]) ∧ OwnL 23 w' w.heap.size v (resReach L l) ∧ Below w.heap.size w w' := by
  cases hy : webR L l with
  | none =>
    have HW := hid_ (webOf_bad h hI hy)
    have hne := webR_none hy
    have Hr : Hid (resReach L l = []) := hid_ (by rw [resReach, hy])
    generalize errWeb L l = x at *
    have hq : (x != 0) = true := by simpa using hne
    clear hy hne
    go_enter Tryz.func13, Tryz.ntmps13
    go_wp2_with (go_at_call 28; (with_reducible refine HW.out.mono ?_); rintro e w3 ⟨rfl, hb3⟩)
    go_ret2
    exact ⟨_, rfl, by rw [Hr.out]; exact OwnL.nil _ _ _, hb3.trans ((below_alloc w3 _).mono hb3.size)⟩
  | some y =>
    have HW := hid_ (webOf_good h hI hy)
    have Hr : Hid (resReach L l = y.words.mergeSort leL) := hid_ (by rw [resReach, hy])
    rw [(webR_some hy).1]
    clear hy
    go_enter Tryz.func13, Tryz.ntmps13
    go_wp2_with (first
      | (go_at_call 28; (with_reducible refine HW.out.mono ?_); rintro e w3 ⟨F, Bx, Bm, aw, cw, aa, ca, rfl, hW3, hY3, hb3⟩; have HOw := hid_ hW3.ownL; have hle := hY3.le; have Hb3 := hid_ hb3; clear hW3 hY3)
      | (go_at_call 32; obtain ⟨w4, hw4⟩ : ∃ w4, w3.alloc (.cells #[.slice aw y.words.length cw, .map (some Bm), .slice aa y.arcs.length ca] 49) = w4 := ⟨_, rfl⟩; rw [hw4]; have hb4 : Below w3.heap.size w3 w4 := (by rw [← hw4]; exact below_alloc _ _); (with_reducible refine (sortAnyG_calls (HOw.out.below hb4 (Nat.le_refl _)) (by omega) (Nat.le_trans Hb3.out.size hb4.size)).mono ?_); rintro e w5 ⟨rfl, hO5, hb5, hg5⟩; have q0 : w5.cell? ⟨w3.heap.size, 0, none⟩ = some (.slice aw y.words.length cw) := ((Kept.refl (fun b => (Value.slice aw y.words.length cw).ownBlock = some b) w4).grown hg5 fun _ _ e => e).cell (p := ⟨w3.heap.size, 0, none⟩) (by rw [← hw4]; exact cells_alloc _ _ _ 0) (fun e => by have := (HOw.out.lt _ e).2; simp at this); have HO5 := hid_ hO5; clear hO5 hg5))
    go_ret2
    exact ⟨_, rfl, by rw [Hr.out]; exact HO5.out, (Hb3.out.trans (hb4.mono Hb3.out.size)).trans hb5⟩
end Go.Proofs.YtebbmhlkdfmmcaaGreat
namespace Go.Proofs.YtebbmhlkdfmmcaaGreat
open Go.RowKit Go.Proofs.Kv

/-! ### what a word reaches: mathematics -/
inductive Rch (L : List Rl) : List Int → List Int → Prop
  | refl (u : List Int) : Rch L u u
  | step {u v : List Int} {m : Mv} : m ∈ movesL L u → Rch L m.2 v → Rch L u v
theorem Rch.trans {L : List Rl} {u v z : List Int} (h : Rch L u v) (k : Rch L v z) : Rch L u z := by
  induction h with
  | refl => exact k
  | step hm _ ih => exact .step hm (ih k)
theorem Rch.tail {L : List Rl} {u v : List Int} {m : Mv} (h : Rch L u v) (hm : m ∈ movesL L v) : Rch L u m.2 := h.trans (.step hm (.refl _))
/-- more than 300 words of which each is one of those or reached from l -/
def Many (L : List Rl) (W : List (List Int)) (l : List Int) : Prop := ∃ S : List (List Int), S.Nodup ∧ 300 < S.length ∧ ∀ u ∈ S, u ∈ W ∨ Rch L l u
structure Found (L : List Rl) (W : List (List Int)) (l : List Int) (y : Web) : Prop where
  from_ : ∀ u ∈ y.words, u ∈ W ∨ Rch L l u
  shut : ∀ u ∈ y.words, u ∉ W → ∀ m ∈ movesL L u, m.2 ∈ y.words
theorem getD_mem' {W : List (List Int)} {i : Nat} (h : i < W.length) : W.getD i [] ∈ W := by
  rw [show W.getD i [] = W[i] by simp [List.getD, List.getElem?_eq_getElem h]]; exact List.getElem_mem _
theorem visitF_more {L : List Rl} (hL : ∀ R ∈ L, validR R = 0) : ∀ (f : Nat) {x : Web} {l : List Int}, WebOk x → validW l = 0 → 301 ≤ x.words.length + f →
    (visitF L f x l = none → Many L x.words l) ∧ ∀ i y, visitF L f x l = some (i, y) → Found L x.words l y
  | 0, x, l, hx, _, h => by have := hx.le; omega
  | f + 1, x, l, hx, hl, h => by
    unfold visitF
    cases hf : findW x.words l with
    | some j =>
      refine ⟨fun e => by simp at e, fun i y e => ?_⟩
      simp only [Option.some.injEq, Prod.mk.injEq] at e
      obtain ⟨rfl, rfl⟩ := e
      exact ⟨fun u hu => .inl hu, fun u hu hn => absurd hu hn⟩
    | none =>
      simp only
      have hnm := findW_none.1 hf
      by_cases h3 : x.words.length = 300
      · rw [if_pos h3]
        refine ⟨fun _ => ⟨x.words ++ [l], ?_, by simp; omega, fun u hu => ?_⟩, fun i y e => by cases e⟩
        · rw [List.nodup_append]
          exact ⟨hx.nd, by simp, fun a ha b hb e => by rw [List.mem_singleton] at hb; subst hb; subst e; exact hnm ha⟩
        · rcases List.mem_append.1 hu with hu | hu
          · exact .inl hu
          · rw [List.mem_singleton] at hu; subst hu; exact .inr (.refl _)
      · rw [if_neg h3]
        have key : ∀ (ms : List Mv) (z : Web), (∀ m ∈ ms, m ∈ movesL L l) → WebOk z → (x.push l).words <+: z.words → (∀ u ∈ z.words, u ∈ x.words ∨ Rch L l u) → (∀ u ∈ z.words, u ∉ (x.push l).words → ∀ m ∈ movesL L u, m.2 ∈ z.words) →
            (goF (visitF L f) x.words.length z ms = none → Many L x.words l) ∧ ∀ y, goF (visitF L f) x.words.length z ms = some y → z.words <+: y.words ∧ (∀ u ∈ y.words, u ∈ x.words ∨ Rch L l u) ∧ (∀ u ∈ y.words, u ∉ (x.push l).words → ∀ m ∈ movesL L u, m.2 ∈ y.words) ∧ ∀ m ∈ ms, m.2 ∈ y.words := by
          intro ms
          induction ms with
          | nil =>
            intro z _ hz hp h1 h2
            refine ⟨fun e => by simp [goF] at e, fun y e => ?_⟩
            simp only [goF, Option.some.injEq] at e; subst e
            exact ⟨List.prefix_refl _, h1, h2, fun m hm => by cases hm⟩
          | cons m ms ih =>
            intro z hms hz hp h1 h2
            simp only [goF]
            have hml : m ∈ movesL L l := hms m (by simp)
            have hle := hp.length_le
            have hpl : (x.push l).words.length = x.words.length + 1 := by simp [Web.push]
            obtain ⟨q1, q2⟩ := visitF_more hL f hz (moves_valid hL hl m hml) (show 301 ≤ z.words.length + f by omega)
            cases hv : visitF L f z m.2 with
            | none =>
              refine ⟨fun _ => ?_, fun y e => by simp at e⟩
              obtain ⟨S, s1, s2, s3⟩ := q1 hv
              exact ⟨S, s1, s2, fun u hu => (s3 u hu).elim (fun h => h1 u h) fun h => .inr (.step hml h)⟩
            | some r =>
              obtain ⟨i, y⟩ := r
              obtain ⟨g1, g2, g3, g4⟩ := visitF_ok hL f hz (moves_valid hL hl m hml) hv
              have F := q2 i y hv
              have hin : m.2 ∈ y.words := by rw [← g4]; exact getD_mem' g3
              obtain ⟨k1, k2⟩ := ih (y.arc x.words.length (m.1, i)) (fun m hm => hms m (by simp [hm])) (g1.arc _ _) (hp.trans g2)
                (fun u hu => (F.from_ u hu).elim (fun h => h1 u h) fun h => .inr (.step hml h))
                (fun u hu hn k hk => by
                  by_cases hz2 : u ∈ z.words
                  · exact g2.subset (h2 u hz2 hn k hk)
                  · exact F.shut u hu hz2 k hk)
              refine ⟨fun e => k1 e, fun y' e => ?_⟩
              obtain ⟨t1, t2, t3, t4⟩ := k2 y' e
              refine ⟨g2.trans t1, t2, t3, fun k hk => ?_⟩
              rcases List.mem_cons.1 hk with rfl | hk
              · exact t1.subset hin
              · exact t4 k hk
        obtain ⟨k1, k2⟩ := key (movesL L l) (x.push l) (fun _ h => h) (hx.push hl hf h3) (List.prefix_refl _)
          (fun u hu => by
            simp only [Web.push, List.mem_append, List.mem_singleton] at hu
            rcases hu with hu | rfl
            · exact .inl hu
            · exact .inr (.refl _))
          (fun u hu hn => absurd hu hn)
        refine ⟨fun e => k1 (by simpa using e), fun i y e => ?_⟩
        obtain ⟨y', hgo, he⟩ := Option.map_eq_some_iff.1 e
        simp only [Prod.mk.injEq] at he
        obtain ⟨rfl, rfl⟩ := he
        obtain ⟨t1, t2, t3, t4⟩ := k2 y' hgo
        refine ⟨t2, fun u hu hn m hm => ?_⟩
        by_cases hul : u = l
        · subst hul; exact t4 m hm
        · exact t3 u hu (by simp only [Web.push, List.mem_append, List.mem_singleton]; exact fun h => h.elim hn hul) m hm
/-- the search finds the words that are reached, or there are more than 300 -/
theorem exploreF_some {L : List Rl} (hL : ∀ R ∈ L, validR R = 0) {l : List Int} (hl : validW l = 0) {y : Web} (h : exploreF L l = some y) : WebOk y ∧ ∀ u, u ∈ y.words ↔ Rch L l u := by
  obtain ⟨⟨i, y'⟩, hv, rfl⟩ := Option.map_eq_some_iff.1 h
  have h0 : WebOk ⟨[], []⟩ := ⟨by simp, rfl, List.nodup_nil, fun _ h => by cases h⟩
  obtain ⟨g1, -, g3, g4⟩ := visitF_ok hL 301 h0 hl hv
  have F := (visitF_more hL 301 h0 hl (by simp)).2 i y' hv
  have hin : l ∈ y'.words := by rw [← g4]; exact getD_mem' g3
  have cl : ∀ a u, Rch L a u → a ∈ y'.words → u ∈ y'.words := fun a u hr => by
    induction hr with
    | refl => exact id
    | step hm _ ih => exact fun hin => ih (F.shut _ hin (by simp) _ hm)
  exact ⟨g1, fun u => ⟨fun hu => (F.from_ u hu).elim (fun h => by cases h) id, fun hr => cl l u hr hin⟩⟩
theorem exploreF_none {L : List Rl} (hL : ∀ R ∈ L, validR R = 0) {l : List Int} (hl : validW l = 0) (h : exploreF L l = none) : ∃ S : List (List Int), S.Nodup ∧ 300 < S.length ∧ ∀ u ∈ S, Rch L l u := by
  have h0 : WebOk ⟨[], []⟩ := ⟨by simp, rfl, List.nodup_nil, fun _ h => by cases h⟩
  obtain ⟨S, s1, s2, s3⟩ := (visitF_more hL 301 h0 hl (by simp)).1 (by simpa [exploreF] using h)
  exact ⟨S, s1, s2, fun u hu => (s3 u hu).elim (fun h => by cases h) id⟩
end Go.Proofs.YtebbmhlkdfmmcaaGreat
namespace Go.Proofs.YtebbmhlkdfmmcaaGreat
open Go.RowKit Go.Proofs.Kv

/-! ### what a word reaches, breadth first: mathematics -/
structure Fd where
  words : List (List Int)
  next : List (List Int)
  far : List Int
/-- the words that come next, put behind: the words, how far they are, and their numbers -/
def inF (d : Int) : List (List Int) → List Int → List Int → List (List Int) → Option (List (List Int) × List Int × List Int)
  | W, D, r, [] => some (W, D, r)
  | W, D, r, v :: vs =>
    match findW W v with
    | some j => inF d W D (r ++ [(j : Int)]) vs
    | none => if W.length = 300 then none else inF d (W ++ [v]) (D ++ [d + 1]) (r ++ [(W.length : Int)]) vs
def outF (L : List Rl) : Nat → Fd → Nat → Option Fd
  | 0, _, _ => none
  | f + 1, x, i => if i < x.words.length then (inF (x.far.getD i 0) x.words x.far [] (resNext L (x.words.getD i []))).bind fun s => outF L f ⟨s.1, x.next ++ [s.2.2], s.2.1⟩ (i + 1) else some x
def reachedF (L : List Rl) (l : List Int) : Option Fd := outF L 301 ⟨[l], [], [0]⟩ 0
theorem errSW_one {L : List Rl} {l : List Int} (hs : validS L = 0) (hl : validW l = 0) : errSW L [l] = 0 := by simp [errSW, hs, firstW, hl]
theorem mem_resNext {L : List Rl} {l v : List Int} (hs : validS L = 0) (hl : validW l = 0) : v ∈ resNext L l ↔ ∃ m ∈ movesL L l, m.2 = v := by
  rw [resNext, if_pos (errSW_one hs hl)]
  have := (fold_ins ((movesL L l).map (·.2)) (acc := []) List.Pairwise.nil).2 v
  unfold foldI
  rw [this]; simp
/-- the words W are all different, valid and reached from l; each has how far it is -/
structure FdOk (L : List Rl) (l : List Int) (W : List (List Int)) (D : List Int) : Prop where
  le : W.length ≤ 300
  same : D.length = W.length
  nd : W.Nodup
  ok : ∀ u ∈ W, validW u = 0
  rch : ∀ u ∈ W, Rch L l u
theorem FdOk.push {L : List Rl} {l : List Int} {W : List (List Int)} {D : List Int} (h : FdOk L l W D) {v : List Int} (hv : validW v = 0) (hr : Rch L l v) (hn : v ∉ W) (h3 : W.length ≠ 300) (d : Int) : FdOk L l (W ++ [v]) (D ++ [d]) where
  le := by have := h.le; simp; omega
  same := by simp [h.same]
  nd := by
    rw [List.nodup_append]
    exact ⟨h.nd, by simp, fun a ha b hb e => by rw [List.mem_singleton] at hb; subst hb; subst e; exact hn ha⟩
  ok := fun m hm => by rcases List.mem_append.1 hm with hm | hm; exact h.ok m hm; rw [List.mem_singleton] at hm; subst hm; exact hv
  rch := fun m hm => by rcases List.mem_append.1 hm with hm | hm; exact h.rch m hm; rw [List.mem_singleton] at hm; subst hm; exact hr
def Much (L : List Rl) (l : List Int) : Prop := ∃ S : List (List Int), S.Nodup ∧ 300 < S.length ∧ ∀ u ∈ S, Rch L l u
theorem inF_ok {L : List Rl} {l : List Int} (d : Int) : ∀ (vs : List (List Int)) {W : List (List Int)} {D r : List Int}, FdOk L l W D → (∀ v ∈ vs, validW v = 0 ∧ Rch L l v) →
    (inF d W D r vs = none → Much L l) ∧ ∀ s, inF d W D r vs = some s → FdOk L l s.1 s.2.1 ∧ W <+: s.1 ∧ ∀ v ∈ vs, v ∈ s.1
  | [], W, D, r, h, _ => ⟨fun e => by simp [inF] at e, fun s e => by
      simp only [inF, Option.some.injEq] at e; subst e; exact ⟨h, List.prefix_refl _, fun v hv => by cases hv⟩⟩
  | v :: vs, W, D, r, h, hv => by
    obtain ⟨v1, v2⟩ := hv v (by simp)
    unfold inF
    cases hf : findW W v with
    | some j =>
      simp only
      obtain ⟨k1, k2⟩ := inF_ok d vs (r := r ++ [(j : Int)]) h (fun u hu => hv u (by simp [hu]))
      refine ⟨k1, fun s e => ?_⟩
      obtain ⟨t1, t2, t3⟩ := k2 s e
      refine ⟨t1, t2, fun u hu => ?_⟩
      rcases List.mem_cons.1 hu with rfl | hu
      · obtain ⟨g1, g2⟩ := findW_some hf
        exact t2.subset (by rw [← g2]; exact getD_mem' g1)
      · exact t3 u hu
    | none =>
      simp only
      have hn := findW_none.1 hf
      by_cases h3 : W.length = 300
      · rw [if_pos h3]
        refine ⟨fun _ => ⟨W ++ [v], ?_, by simp; omega, fun u hu => ?_⟩, fun s e => by cases e⟩
        · rw [List.nodup_append]
          exact ⟨h.nd, by simp, fun a ha b hb e => by rw [List.mem_singleton] at hb; subst hb; subst e; exact hn ha⟩
        · rcases List.mem_append.1 hu with hu | hu
          · exact h.rch u hu
          · rw [List.mem_singleton] at hu; subst hu; exact v2
      · rw [if_neg h3]
        obtain ⟨k1, k2⟩ := inF_ok d vs (r := r ++ [(W.length : Int)]) (h.push v1 v2 hn h3 (d + 1)) (fun u hu => hv u (by simp [hu]))
        refine ⟨k1, fun s e => ?_⟩
        obtain ⟨t1, t2, t3⟩ := k2 s e
        refine ⟨t1, (List.prefix_append _ _).trans t2, fun u hu => ?_⟩
        rcases List.mem_cons.1 hu with rfl | hu
        · exact t2.subset (by simp)
        · exact t3 u hu
theorem outF_ok {L : List Rl} {l : List Int} (hs : validS L = 0) : ∀ (f : Nat) {x : Fd} {i : Nat}, FdOk L l x.words x.far → 301 ≤ i + f → i ≤ x.words.length → (∀ k, k < i → ∀ v ∈ resNext L (x.words.getD k []), v ∈ x.words) →
    (outF L f x i = none → Much L l) ∧ ∀ y, outF L f x i = some y → FdOk L l y.words y.far ∧ x.words <+: y.words ∧ ∀ u ∈ y.words, ∀ v ∈ resNext L u, v ∈ y.words
  | 0, x, i, h, h1, h2, _ => by have := h.le; omega
  | f + 1, x, i, h, h1, h2, hc => by
    unfold outF
    by_cases hi : i < x.words.length
    · rw [if_pos hi]
      have hmem := getD_mem' hi
      have hr := h.rch _ hmem
      have ho := h.ok _ hmem
      obtain ⟨k1, k2⟩ := inF_ok (x.far.getD i 0) (resNext L (x.words.getD i [])) (r := []) h (fun v hv => by
        obtain ⟨m, hm, rfl⟩ := (mem_resNext hs ho).1 hv
        exact ⟨moves_valid (validS_ok hs).2 ho m hm, hr.tail hm⟩)
      cases hin : inF (x.far.getD i 0) x.words x.far [] (resNext L (x.words.getD i [])) with
      | none => exact ⟨fun _ => k1 hin, fun y e => by simp at e⟩
      | some s =>
        obtain ⟨t1, t2, t3⟩ := k2 s hin
        have hpre : ∀ k, k < x.words.length → s.1.getD k [] = x.words.getD k [] := fun k hk => by
          obtain ⟨t, ht⟩ := t2
          rw [← ht]; simp only [List.getD]; rw [List.getElem?_append_left hk]
        obtain ⟨q1, q2⟩ := outF_ok hs f (x := ⟨s.1, x.next ++ [s.2.2], s.2.1⟩) (i := i + 1) t1 (by omega) (by have := t2.length_le; show i + 1 ≤ s.1.length; omega) (fun k hk v hv => by
          show v ∈ s.1
          change v ∈ resNext L (s.1.getD k []) at hv
          rw [hpre k (by omega)] at hv
          by_cases e : k = i
          · subst e; exact t3 v hv
          · exact t2.subset (hc k (by omega) v hv))
        refine ⟨fun e => q1 e, fun y e => ?_⟩
        obtain ⟨p1, p2, p3⟩ := q2 y e
        exact ⟨p1, t2.trans p2, p3⟩
    · rw [if_neg hi]
      refine ⟨fun e => by simp at e, fun y e => ?_⟩
      simp only [Option.some.injEq] at e; subst e
      refine ⟨h, List.prefix_refl _, fun u hu v hv => ?_⟩
      obtain ⟨k, hk, rfl⟩ := List.mem_iff_getElem.1 hu
      exact hc k (by omega) v (by rw [show x.words.getD k [] = x.words[k] by simp [List.getD, List.getElem?_eq_getElem hk]]; exact hv)
theorem reachedF_some {L : List Rl} {l : List Int} (hs : validS L = 0) (hl : validW l = 0) {y : Fd} (h : reachedF L l = some y) : FdOk L l y.words y.far ∧ ∀ u, u ∈ y.words ↔ Rch L l u := by
  have h0 : FdOk L l [l] [0] := ⟨by simp, rfl, by simp, fun u hu => by rw [List.mem_singleton] at hu; subst hu; exact hl, fun u hu => by rw [List.mem_singleton] at hu; subst hu; exact .refl _⟩
  obtain ⟨t1, t2, t3⟩ := (outF_ok hs 301 (x := ⟨[l], [], [0]⟩) (i := 0) h0 (by omega) (by simp) (fun k hk => absurd hk (by omega))).2 y h
  have hin : l ∈ y.words := t2.subset (by simp)
  have cl : ∀ a u, Rch L a u → a ∈ y.words → u ∈ y.words := fun a u hr => by
    induction hr with
    | refl => exact id
    | step hm _ ih => exact fun hin => ih (t3 _ hin _ ((mem_resNext hs (t1.ok _ hin)).2 ⟨_, hm, rfl⟩))
  exact ⟨t1, fun u => ⟨t1.rch u, fun hr => cl l u hr hin⟩⟩
theorem reachedF_none {L : List Rl} {l : List Int} (hs : validS L = 0) (hl : validW l = 0) (h : reachedF L l = none) : Much L l := by
  have h0 : FdOk L l [l] [0] := ⟨by simp, rfl, by simp, fun u hu => by rw [List.mem_singleton] at hu; subst hu; exact hl, fun u hu => by rw [List.mem_singleton] at hu; subst hu; exact .refl _⟩
  exact (outF_ok hs 301 (x := ⟨[l], [], [0]⟩) (i := 0) h0 (by omega) (by simp) (fun k hk => absurd hk (by omega))).1 h
theorem nodup_le {α : Type} [DecidableEq α] : ∀ {S T : List α}, S.Nodup → (∀ x ∈ S, x ∈ T) → S.length ≤ T.length
  | [], _, _, _ => by simp
  | a :: S, T, h, hs => by
    obtain ⟨h1, h2⟩ := List.nodup_cons.1 h
    have ha : a ∈ T := hs a (by simp)
    have := nodup_le (T := T.erase a) h2 (fun x hx => (List.mem_erase_of_ne (fun e => by subst e; exact h1 hx)).2 (hs x (by simp [hx])))
    rw [List.length_erase_of_mem ha] at this
    have := List.length_pos_of_mem ha
    rw [List.length_cons]; omega
/-- both ways to search say the same -/
theorem reach_same {L : List Rl} {l : List Int} (he : errSW L [l] = 0) : (exploreF L l).isSome = (reachedF L l).isSome ∧ ∀ x y, exploreF L l = some x → reachedF L l = some y → x.words.mergeSort leL = foldI y.words := by
  obtain ⟨hs, hl⟩ := errSW_ok' he
  have hL := (validS_ok hs).2
  refine ⟨?_, fun x y hx hy => ?_⟩
  · cases hx : exploreF L l with
    | none =>
      cases hy : reachedF L l with
      | none => rfl
      | some y =>
        obtain ⟨S, s1, s2, s3⟩ := exploreF_none hL hl hx
        obtain ⟨g1, g2⟩ := reachedF_some hs hl hy
        have := nodup_le s1 (T := y.words) (fun u hu => (g2 u).2 (s3 u hu))
        have := g1.le; omega
    | some x =>
      cases hy : reachedF L l with
      | some y => rfl
      | none =>
        obtain ⟨S, s1, s2, s3⟩ := reachedF_none hs hl hy
        obtain ⟨g1, g2⟩ := exploreF_some hL hl hx
        have := nodup_le s1 (T := x.words) (fun u hu => (g2 u).2 (s3 u hu))
        have := g1.le; omega
  · obtain ⟨g1, g2⟩ := exploreF_some hL hl hx
    obtain ⟨k1, k2⟩ := reachedF_some hs hl hy
    rw [sortL_eq g1.nd]
    obtain ⟨p1, p2⟩ := fold_ins x.words (acc := []) List.Pairwise.nil
    obtain ⟨q1, q2⟩ := fold_ins y.words (acc := []) List.Pairwise.nil
    exact asc_unique LtL_irr LtL_tr p1 q1 fun u => by show u ∈ List.foldl insertL [] x.words ↔ u ∈ List.foldl insertL [] y.words; rw [p2, q2, g2, k2]
end Go.Proofs.YtebbmhlkdfmmcaaGreat
