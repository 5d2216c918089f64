import Derived.Test.YtebbmhlkdfmmcaaGreatJuc
import Derived.Test.YtebbmhlkdfmmcaaGreatJxd
import Derived.Test.YtebbmhlkdfmmcaaGreatJz
namespace Go.Proofs.YtebbmhlkdfmmcaaGreat
open Go.RowKit Go.Proofs.Kv Go

/-! ### ends: the rows of the graph, and that there is one -/
theorem inF_len (d : Int) : ∀ (vs : List (List Int)) {W : List (List Int)} {D r : List Int} {s : List (List Int) × List Int × List Int}, inF d W D r vs = some s → s.2.2.length = r.length + vs.length ∧ W <+: s.1
  | [], W, D, r, s, h => by
    simp only [inF, Option.some.injEq] at h; subst h; exact ⟨rfl, List.prefix_refl _⟩
  | v :: vs, W, D, r, s, h => by
    unfold inF at h
    cases hf : findW W v with
    | some j =>
      rw [hf] at h
      obtain ⟨h1, h2⟩ := inF_len d vs h
      exact ⟨by rw [h1]; simp; omega, h2⟩
    | none =>
      rw [hf] at h
      simp only at h
      by_cases h3 : W.length = 300
      · rw [if_pos h3] at h; cases h
      · rw [if_neg h3] at h
        obtain ⟨h1, h2⟩ := inF_len d vs h
        exact ⟨by rw [h1]; simp; omega, (List.prefix_append _ _).trans h2⟩
theorem prefix_getL {W V : List (List Int)} (h : W <+: V) {i : Nat} (hi : i < W.length) : V.getD i [] = W.getD i [] := by
  obtain ⟨t, rfl⟩ := h
  simp only [List.getD]; rw [List.getElem?_append_left hi]
theorem outF_rows {L : List Rl} : ∀ (f : Nat) {x y : Fd} {i : Nat}, x.next.length = i → i ≤ x.words.length → (∀ k, k < i → (x.next.getD k []).length = (resNext L (x.words.getD k [])).length) → outF L f x i = some y →
    y.next.length = y.words.length ∧ x.words <+: y.words ∧ ∀ k, k < y.words.length → (y.next.getD k []).length = (resNext L (y.words.getD k [])).length
  | 0, x, y, i, _, _, _, h => by cases h
  | f + 1, x, y, i, hn, hi, hk, h => by
    unfold outF at h
    by_cases hlt : i < x.words.length
    · rw [if_pos hlt] at h
      cases hs : inF (x.far.getD i 0) x.words x.far [] (resNext L (x.words.getD i [])) with
      | none => rw [hs] at h; cases h
      | some s =>
        rw [hs] at h
        have h : outF L f ⟨s.1, x.next ++ [s.2.2], s.2.1⟩ (i + 1) = some y := h
        obtain ⟨h1, h2⟩ := inF_len _ _ hs
        have hle : x.words.length ≤ s.1.length := h2.length_le
        obtain ⟨t1, t2, t3⟩ := outF_rows f (x := ⟨s.1, x.next ++ [s.2.2], s.2.1⟩) (i := i + 1) (by show (x.next ++ [s.2.2]).length = _; simp [hn]) (by show i + 1 ≤ s.1.length; omega) (fun k hk' => by
          show ((x.next ++ [s.2.2]).getD k []).length = (resNext L (s.1.getD k [])).length
          rw [prefix_getL h2 (by omega)]
          by_cases e : k = i
          · subst e
            rw [List.getD, List.getElem?_append_right (by omega), hn, Nat.sub_self]
            simpa using h1
          · have := hk k (by omega)
            rw [← this, List.getD, List.getD, List.getElem?_append_left (by omega)]) h
        exact ⟨t1, h2.trans t2, t3⟩
    · rw [if_neg hlt] at h
      injection h with h
      subst h
      obtain rfl : i = x.words.length := by omega
      exact ⟨hn, List.prefix_refl _, hk⟩
theorem reached_rows {L : List Rl} {l : List Int} {y : Fd} (h : reachedF L l = some y) : y.next.length = y.words.length ∧ ∀ k, k < y.words.length → (y.next.getD k []).length = (resNext L (y.words.getD k [])).length := by
  obtain ⟨h1, -, h3⟩ := outF_rows 301 (x := ⟨[l], [], [0]⟩) (i := 0) rfl (by simp) (fun k hk => absurd hk (by omega)) h
  exact ⟨h1, h3⟩
/-- the words whose rows are empty -/
def endG (W N : List (List Int)) (k : Nat) : List (List Int) := ((List.range k).filter fun i => decide ((N.getD i []).length = 0)).map fun i => W.getD i []
theorem endG_hit {W N : List (List Int)} {k : Nat} (h : (N.getD k []).length = 0) : endG W N (k + 1) = endG W N k ++ [W.getD k []] := by
  rw [endG, List.range_succ, List.filter_append, List.map_append]; simp only [List.filter_cons, h, decide_true, if_true, List.filter_nil]; rfl
theorem endG_miss {W N : List (List Int)} {k : Nat} (h : (N.getD k []).length ≠ 0) : endG W N (k + 1) = endG W N k := by
  rw [endG, List.range_succ, List.filter_append, List.map_append]; simp only [List.filter_cons, h, decide_false, List.filter_nil]; simp [endG]
theorem endG_le (W N : List (List Int)) (k : Nat) : (endG W N k).length ≤ k := by
  unfold endG; rw [List.length_map]; exact Nat.le_trans (List.length_filter_le _ _) (by simp)
theorem foldI_add (M : List (List Int)) (x : List Int) : foldI (M ++ [x]) = insertL (foldI M) x := by unfold foldI; rw [List.foldl_append]; rfl
theorem mem_getW {W : List (List Int)} {x : List Int} : x ∈ W ↔ ∃ k, k < W.length ∧ W.getD k [] = x :=
  ⟨fun h => by
    obtain ⟨k, hk, e⟩ := List.mem_iff_getElem.1 h
    exact ⟨k, hk, by simp [List.getD, List.getElem?_eq_getElem hk, e]⟩, fun ⟨k, hk, e⟩ => by rw [← e]; simp [List.getD, List.getElem?_eq_getElem hk]⟩
theorem mem_endG {W N : List (List Int)} {x : List Int} : x ∈ endG W N W.length ↔ ∃ k, k < W.length ∧ W.getD k [] = x ∧ (N.getD k []).length = 0 := by
  unfold endG
  rw [List.mem_map]
  constructor
  · rintro ⟨k, hk, e⟩
    obtain ⟨h1, h2⟩ := List.mem_filter.1 hk
    exact ⟨k, List.mem_range.1 h1, e, of_decide_eq_true h2⟩
  · rintro ⟨k, h1, e, h2⟩
    exact ⟨k, List.mem_filter.2 ⟨List.mem_range.2 h1, decide_eq_true h2⟩, e⟩
theorem mem_ends {x : Web} {u : List Int} : u ∈ endsL x ↔ ∃ k, k < x.words.length ∧ x.words.getD k [] = u ∧ (x.arcs.getD k []).length = 0 := by
  unfold endsL
  rw [(List.mergeSort_perm _ _).mem_iff]
  unfold endsTo
  rw [List.mem_map]
  constructor
  · rintro ⟨k, hk, e⟩
    obtain ⟨h1, h2⟩ := List.mem_filter.1 hk
    exact ⟨k, List.mem_range.1 h1, e, of_decide_eq_true h2⟩
  · rintro ⟨k, h1, e, h2⟩
    exact ⟨k, List.mem_filter.2 ⟨List.mem_range.2 h1, decide_eq_true h2⟩, e⟩
theorem rows_mem {L : List Rl} {y : Fd} {l : List Int} (hs : validS L = 0) (hl : validW l = 0) (h : reachedF L l = some y) {u : List Int} : u ∈ endG y.words y.next y.words.length ↔ Rch L l u ∧ movesL L u = [] := by
  obtain ⟨g1, g2⟩ := reachedF_some hs hl h
  obtain ⟨-, r2⟩ := reached_rows h
  rw [mem_endG]
  have key : ∀ v, validW v = 0 → ((resNext L v).length = 0 ↔ movesL L v = []) := fun v hv => by
    constructor
    · intro h0
      cases hm : movesL L v with
      | nil => rfl
      | cons m M =>
        have := (mem_resNext hs hv (v := m.2)).2 ⟨m, by rw [hm]; simp, rfl⟩
        rw [List.eq_nil_of_length_eq_zero h0] at this; cases this
    · intro h0
      cases hn : resNext L v with
      | nil => rfl
      | cons z Z =>
        obtain ⟨m, hm, -⟩ := (mem_resNext hs hv (v := z)).1 (by rw [hn]; simp)
        rw [h0] at hm; cases hm
  constructor
  · rintro ⟨k, hk, rfl, h0⟩
    have hm : y.words.getD k [] ∈ y.words := mem_getW.2 ⟨k, hk, rfl⟩
    exact ⟨(g2 _).1 hm, (key _ (g1.ok _ hm)).1 (by rw [← r2 k hk]; exact h0)⟩
  · rintro ⟨hr, hm⟩
    obtain ⟨k, hk, e⟩ := mem_getW.1 ((g2 u).2 hr)
    exact ⟨k, hk, e, by rw [r2 k hk, e]; exact (key u (g1.ok _ ((g2 u).2 hr))).2 hm⟩
theorem arcs_mem {L : List Rl} {y : Web} {l : List Int} (hs : validS L = 0) (hl : validW l = 0) (h : exploreF L l = some y) {u : List Int} : u ∈ endsL y ↔ Rch L l u ∧ movesL L u = [] := by
  obtain ⟨g1, g2⟩ := exploreF_some (validS_ok hs).2 hl h
  have hf := exploreF_full (validS_ok hs).2 hl h
  rw [mem_ends]
  constructor
  · rintro ⟨k, hk, rfl, h0⟩
    exact ⟨(g2 _).1 (mem_getW.2 ⟨k, hk, rfl⟩), by rw [← (hf k hk).eq, List.eq_nil_of_length_eq_zero h0]; rfl⟩
  · rintro ⟨hr, hm⟩
    obtain ⟨k, hk, e⟩ := mem_getW.1 ((g2 u).2 hr)
    refine ⟨k, hk, e, ?_⟩
    have := (hf k hk).eq
    rw [e, hm] at this
    have := congrArg List.length this
    simpa using this
theorem ends_same {L : List Rl} {l : List Int} {x : Web} {y : Fd} (hs : validS L = 0) (hl : validW l = 0) (hx : exploreF L l = some x) (hy : reachedF L l = some y) : endsL x = foldI (endG y.words y.next y.words.length) := by
  obtain ⟨g1, -⟩ := exploreF_some (validS_ok hs).2 hl hx
  have hnd : (endsTo x.words x.arcs x.words.length).Nodup := by
    unfold endsTo
    have h0 : ((List.range x.words.length).filter fun i => decide ((x.arcs.getD i []).length = 0)).Nodup := List.nodup_range.filter _
    unfold List.Nodup at *
    rw [List.pairwise_map]
    refine (List.Pairwise.and_mem.1 h0).imp fun {a b} hab e => ?_
    obtain ⟨ha, hb, hne⟩ := hab
    have ha' := List.mem_range.1 (List.mem_filter.1 ha).1
    have hb' := List.mem_range.1 (List.mem_filter.1 hb).1
    simp only [List.getD, List.getElem?_eq_getElem ha', List.getElem?_eq_getElem hb', Option.getD_some] at e
    exact hne ((List.getElem_inj g1.nd).1 e)
  obtain ⟨p1, p2⟩ := fold_ins (endG y.words y.next y.words.length) (acc := []) List.Pairwise.nil
  have e1 : endsL x = foldI (endsTo x.words x.arcs x.words.length) := sortL_eq hnd
  obtain ⟨q1, q2⟩ := fold_ins (endsTo x.words x.arcs x.words.length) (acc := []) List.Pairwise.nil
  rw [e1]
  refine asc_unique LtL_irr LtL_tr q1 p1 fun u => ?_
  have ha := arcs_mem hs hl hx (u := u)
  rw [e1] at ha
  show u ∈ foldI _ ↔ _
  rw [ha, ← rows_mem hs hl hy]
  have hp := p2 u
  show _ ↔ u ∈ List.foldl insertL [] _
  rw [hp]
  simp
theorem rowF_first {v : Nat → Ms → Bool × Ms} {i : Nat} {a : Ac} {r : List Ac} {s : Ms} (h : (v a.2 s).1 = false) : (rowF v i (a :: r) s).1 = false := by
  unfold rowF
  cases hv : v a.2 s with
  | mk b s' => rw [hv] at h; simp only at h; subst h; rfl
/-- a search that never comes on an end never comes to an end -/
theorem noleaf {n : Nat} {A : List (List Ac)} (hA : ArcsIn n A) (hne : ∀ i, i < n → A.getD i [] ≠ []) : ∀ (f : Nat) {i : Nat} {s : Ms}, i < n → (∀ k, s.left k = false) → (measF A f i s).1 = false
  | 0, _, _, _, _ => rfl
  | f + 1, i, s, hi, hs => by
    unfold measF
    by_cases he : s.ent i = true
    · rw [if_pos he]; exact hs i
    · rw [if_neg he]
      cases hr : A.getD i [] with
      | nil => exact absurd hr (hne i hi)
      | cons a r =>
        have h1 := rowF_first (v := measF A f) (i := i) (r := r) (noleaf hA hne f (i := a.2) (s := s.enter i) (hA i a (by rw [hr]; simp)) hs)
        cases hv : rowF (measF A f) i (a :: r) (s.enter i) with
        | mk b s' => rw [hv] at h1; simp only at h1; subst h1; rfl
theorem some_end {L : List Rl} {l : List Int} {x : Web} (hs : validS L = 0) (hl : validW l = 0) (hx : exploreF L l = some x) (h : (longR x.arcs).2 = true) : 0 < (endsL x).length := by
  obtain ⟨g1, g2⟩ := exploreF_some (validS_ok hs).2 hl hx
  have hf := exploreF_full (validS_ok hs).2 hl hx
  have hlen := g1.same
  have hpos : 0 < x.words.length := List.length_pos_of_mem ((g2 l).2 (.refl _))
  rcases Nat.eq_zero_or_pos (endsL x).length with h0 | h0
  · exfalso
    have hno : ∀ u, u ∉ endsL x := fun u hu => by rw [List.eq_nil_of_length_eq_zero h0] at hu; cases hu
    have hin : ArcsIn x.words.length x.arcs := fun i a ha => by
      by_cases hi : i < x.words.length
      · exact (hf i hi).lt a ha
      · rw [List.getD, List.getElem?_eq_none (by omega)] at ha; cases ha
    have hne : ∀ i, i < x.words.length → x.arcs.getD i [] ≠ [] := fun i hi e => hno _ (mem_ends.2 ⟨i, hi, rfl, by rw [e]; rfl⟩)
    have := noleaf hin hne (x.arcs.length + 1) (i := 0) (s := ms0) hpos (fun _ => rfl)
    unfold longR at h
    cases hv : measF x.arcs (x.arcs.length + 1) 0 ms0 with
    | mk b s' => rw [hv] at this h; simp only at this; subst this; cases h
  · exact h0
end Go.Proofs.YtebbmhlkdfmmcaaGreat
namespace Go.Proofs.YtebbmhlkdfmmcaaGreat
open Go.RowKit Go.Proofs.Kv Go

/-! ### Forever of the program, Ends of the document -/
set_option maxRecDepth 100000 in
set_option maxHeartbeats 4000000 in
theorem feForever_calls (A : Option Addr) (N C : Nat) (L : List Rl) (a : Option Addr) (n c : Nat) (l : List Int) (w : World) (h : RulesAt w A N C L) (hI : IntsAt w a n c l) :
    Calls Tryz.prog 14 #[.slice A N C, .slice a n c] w fun e w' => e = .returned (.tuple #[.bool (decide (errWeb L l = 0) && !(resLongest L l).2), .int .i64 (errWeb L l)]) ∧ Below w.heap.size w w' := by
  cases hy : webR L l with
  | none =>
    have HW := hid_ (webOf_bad h hI hy)
    have hne := webR_none hy
    rw [decide_eq_false hne]
    generalize errWeb L l = x at *
    have hq : (x != 0) = true := by simpa using hne
    clear hy hne h hI
    go_enter Tryz.func14, Tryz.ntmps14
    go_wp2_with (go_at_call 28; (with_reducible refine HW.out.mono ?_); rintro e w3 ⟨rfl, hb3⟩)
    go_ret2
    exact ⟨rfl, hb3.trans ((below_alloc w3 _).mono hb3.size)⟩
  | some y =>
    obtain ⟨h0, he, hx⟩ := webR_some hy
    obtain ⟨hs, hl⟩ := errSW_ok' he
    obtain ⟨hok, hm⟩ := exploreF_some (validS_ok hs).2 hl hx
    have hfu := exploreF_full (validS_ok hs).2 hl hx
    have hlen := hok.same
    have hle := hok.le
    have hpos : 0 < y.arcs.length := by rw [hlen]; exact List.length_pos_of_mem ((hm l).2 (.refl _))
    have hin : ArcsIn y.arcs.length y.arcs := fun i a ha => by
      rw [hlen]
      by_cases hi : i < y.words.length
      · exact (hfu i hi).lt a ha
      · rw [List.getD, List.getElem?_eq_none (by omega)] at ha; cases ha
    have Hr : Hid (resLongest L l = longR y.arcs) := hid_ (by rw [resLongest, hy])
    have HW := hid_ (webOf_good h hI hy)
    have HLo := hid_ (fun aw cw aa ca mm W (h1 : ArcsAt W aa y.arcs.length ca y.arcs) => longest_calls y.arcs aw cw aa ca mm W h1 (by omega) hpos hin)
    rw [h0, Hr.out]
    rw [← hlen] at HW
    clear hy h0 he hx hs hl hok hm hfu hpos hin h hI hlen hle Hr
    go_enter Tryz.func14, Tryz.ntmps14
    go_wp2_with (first
      | (go_at_call 28; (with_reducible refine HW.out.mono ?_); rintro e w3 ⟨F, Bx, Bm, aw, cw, aa, ca, rfl, hW3, hY3, hb3⟩; have hWa := hid_ (fun o => (hW3.next (below_alloc w3 o)).arcsAt); have Hb3 := hid_ hb3; clear hW3 hY3 hb3)
      | (go_at_call 34; (with_reducible refine (HLo.out aw cw aa ca _ _ (hWa.out _)).mono ?_); rintro e w5 ⟨rfl, hb5⟩))
    go_ret2
    exact ⟨by simp, Hb3.out.trans (((below_alloc w3 _).trans (hb5.mono (by simp))).mono Hb3.out.size)⟩
theorem graph_words3 {F : Nat → Prop} {w : World} {Bx B : Nat} {aw an af : Option Addr} {xl nl fl cw cn cf : Nat} {W N : List (List Int)} {D : List Int} (h : GrAt F w Bx B (.slice aw xl cw) (.slice an nl cn) (.slice af fl cf) W N D) : ListsAt w aw xl cw W := by
  obtain ⟨a', c', e, hL⟩ := h.ownL.at_
  injection e with e1 e2 e3
  subst e1; subst e2; subst e3; exact hL
theorem lists_nil3 (w : World) : ListsAt w none 0 0 [] := ⟨rfl, Nat.le_refl _, by omega, fun i hi => absurd hi (by omega)⟩
theorem graph_next {F : Nat → Prop} {w : World} {Bx B : Nat} {aw an af : Option Addr} {xl nl fl cw cn cf : Nat} {W N : List (List Int)} {D : List Int} (h : GrAt F w Bx B (.slice aw xl cw) (.slice an nl cn) (.slice af fl cf) W N D) : ListsAt w an nl cn N := by
  obtain ⟨us, u1, u2⟩ := h.next
  have ho : OwnL 23 w B (.slice an nl cn) N := ⟨us, u1, fun i hi => by
    have hl : us.length = N.length := by have := u1.1; omega
    obtain ⟨a, n, c, e, hr, hd⟩ := u2 i us[i] (List.getElem?_eq_getElem (by omega))
    exact ⟨a, n, c, by rw [List.getElem?_eq_getElem (by omega), e], hr, fun b off hn ha hb => hd b off hn ha (h.fn b hb)⟩⟩
  obtain ⟨a', c', e, hL⟩ := ho.at_
  injection e with e1 e2 e3
  subst e1; subst e2; subst e3; exact hL
set_option maxRecDepth 100000 in
set_option maxHeartbeats 4000000 in
theorem r3ends_calls (aw : Option Addr) (k cw : Nat) (an : Option Addr) (nl cn : Nat) (fv : Value) (W N : List (List Int)) (w : World) (hW : ListsAt w aw k cw W) (hN : ListsAt w an nl cn N) (hkn : k = nl) (hk : k ≤ 10000) (af : Option Addr) (fl cf : Nat) (hf : fv = .slice af fl cf) :
    Calls Tryz.prog 31 #[.agg #[.slice aw k cw, .slice an nl cn, fv]] w fun e w' => ∃ v, e = .returned v ∧ OwnL 23 w' 0 v (foldI (endG W N k)) ∧ Below w.heap.size w w' := by
  subst hf
  subst hkn
  obtain ⟨w1, hw1⟩ : ∃ w1, w.alloc (.cells #[.slice aw k cw, .slice an k cn, .slice af fl cf] 54) = w1 := ⟨_, rfl⟩
  have b1 : Below w.heap.size w w1 := by rw [← hw1]; exact below_alloc _ _
  have q0 : w1.cell? ⟨w.heap.size, 0, none⟩ = some (.slice aw k cw) := by rw [← hw1]; exact cells_alloc _ _ _ 0
  have q1 : w1.cell? ⟨w.heap.size, 1, none⟩ = some (.slice an k cn) := by rw [← hw1]; exact cells_alloc _ _ _ 1
  have HW := hid_ (fun V (hV : Below w1.heap.size w1 V) => (hW.below b1 (Nat.le_refl _)).below hV (Nat.le_refl _))
  have HN := hid_ (fun V (hV : Below w1.heap.size w1 V) => (hN.below b1 (Nat.le_refl _)).below hV (Nat.le_refl _))
  have Hb1 := hid_ b1
  clear hW hN b1
  go_enter Tryz.func31, Tryz.ntmps31
  go_wp2
  go_loopw [3, 4] (fun v iv wr => ∃ j : Nat, j ≤ k ∧ iv = .int .i64 (j : Int) ∧ OwnL 23 wr 0 v (foldI (endG W N j)) ∧ Below w1.heap.size w1 wr) (fun _ iv _ => k - (intOf iv).toNat)
  case atStart => exact ⟨0, Nat.zero_le _, rfl, OwnL.nil _ _ _, Below.refl _ _⟩
  case round =>
    obtain ⟨j, hj, rfl, hO, hb⟩ := hrel
    have q0r := cell_below q0 hb; have q1r := cell_below q1 hb
    by_cases hlt : j < k
    · obtain ⟨bw, ow, a1, n1, c1, rfl, -, hc1, hi1⟩ := (HW.out wr hb).cells j hlt
      obtain ⟨bn, on, a2, n2, c2, rfl, -, hc2, hi2⟩ := (HN.out wr hb).cells j hlt
      have hl2 := hi2.len
      have hwj : IntKind.i64.wrap ((j : Int) + 1) = (j : Int) + 1 := IntWalk.i64_in _ (by omega)
      have hle := endG_le W N j
      have Hb := hid_ hb
      by_cases h0 : n2 = 0
      · have He := hid_ (endG_hit (W := W) (N := N) (k := j) (by rw [hl2]; exact h0))
        have HIn := hid_ (insertL_calls _ _ a1 n1 c1 _ wr hO hi1 (by have := foldI_le (endG W N j); omega))
        subst h0
        clear hO hb hi1 hi2 hl2 hle
        go_wp2_with (go_at_call 51; (with_reducible refine HIn.out.mono ?_); rintro e w5 ⟨v5, rfl, hO5, hb5⟩; have HO5 := hid_ hO5; have Hb5 := hid_ (Hb.out.trans (hb5.mono Hb.out.size)); clear hO5 hb5)
        go_roundw
        case rel => exact ⟨j + 1, by omega, by go_num, by rw [He.out, foldI_add]; exact HO5.out, Hb5.out⟩
        case measure => (simp [intOf]; try omega)
      · have He := hid_ (endG_miss (W := W) (N := N) (k := j) (by rw [hl2]; exact h0))
        have h0q : ((n2 : Int) == 0) = false := by simpa using h0
        have HO := hid_ hO
        clear hO hb hi1 hi2 hl2 hle h0
        go_wp2
        go_roundw
        case rel => exact ⟨j + 1, by omega, by go_num, by rw [He.out]; exact HO.out, Hb.out⟩
        case measure => (simp [intOf]; try omega)
    · obtain rfl : j = k := by omega
      have HO := hid_ hO
      have Hb := hid_ (Hb1.out.trans (hb.mono Hb1.out.size))
      clear hO hb
      go_wp2
      go_ret
      exact ⟨_, rfl, HO.out, Hb.out⟩
def resEndsR (L : List Rl) (l : List Int) : List (List Int) := match graphR L l with | some y => foldI (endG y.words y.next y.words.length) | none => []
set_option maxRecDepth 100000 in
set_option maxHeartbeats 4000000 in
theorem r3Ends_calls (A : Option Addr) (N C : Nat) (L : List Rl) (a : Option Addr) (n c : Nat) (l : List Int) (w : World) (h : RulesAt w A N C L) (hI : IntsAt w a n c l) :
    Calls Tryz.prog 11 #[.slice A N C, .slice a n c] w fun e w' => ∃ v, e = .returned (.tuple #[v, .int .i64 (errWeb L l)]) ∧ OwnL 23 w' 0 v (resEndsR L l) ∧ Below w.heap.size w w' := by
  cases hy : graphR L l with
  | none =>
    have HW := hid_ (graphed_bad h hI hy)
    have Hr : Hid (resEndsR L l = foldI (endG [] [] 0)) := hid_ (by rw [resEndsR, hy]; rfl)
    have HE := hid_ (fun V => r3ends_calls none 0 0 none 0 0 _ [] [] V (lists_nil3 V) (lists_nil3 V) rfl (by omega) none 0 0 rfl)
    generalize errWeb L l = x at *
    clear hy h hI
    go_enter Tryz.func11, Tryz.ntmps11
    go_wp2_with (first
      | (go_at_call 30; (with_reducible refine HW.out.mono ?_); rintro e w3 ⟨rfl, hb3⟩)
      | (go_at_call 31; (with_reducible refine (HE.out _).mono ?_); rintro e w5 ⟨v5, rfl, hO5, hb5⟩))
    go_ret2
    exact ⟨_, rfl, by rw [Hr.out]; exact hO5, hb3.trans (((below_alloc w3 _).trans (hb5.mono (by simp))).mono hb3.size)⟩
  | some y =>
    have h0 := (graphR_some hy).1
    obtain ⟨hs, hl⟩ := errSW_ok' (graphR_some hy).2.1
    have hn := (reached_rows (graphR_some hy).2.2).1
    have hle := (reachedF_some hs hl (graphR_some hy).2.2).1.le
    have HW := hid_ (graphed_good h hI hy)
    have Hr : Hid (resEndsR L l = foldI (endG y.words y.next y.words.length)) := hid_ (by rw [resEndsR, hy])
    rw [h0, Hr.out]
    obtain ⟨xl, hxl⟩ : ∃ xl, y.words.length = xl := ⟨_, rfl⟩
    obtain ⟨fl, hfl⟩ : ∃ fl, y.far.length = fl := ⟨_, rfl⟩
    rw [hxl] at hn hle
    rw [hn, hxl, hfl] at HW
    rw [hxl]
    clear hy h0 hs hl hn h hI Hr hxl hfl
    go_enter Tryz.func11, Tryz.ntmps11
    go_wp2_with (first
      | (go_at_call 30; (with_reducible refine HW.out.mono ?_); rintro e w3 ⟨F, Bx, aw, cw, an, cn, af, cf, rfl, hG3, hb3⟩; have HE3 := hid_ (fun V (hV : Below w3.heap.size w3 V) => r3ends_calls aw xl cw an xl cn _ y.words y.next V ((graph_words3 hG3).below hV (Nat.le_refl _)) ((graph_next hG3).below hV (Nat.le_refl _)) rfl (by omega) af fl cf rfl); have Hb3 := hid_ hb3; clear hG3 hb3)
      | (go_at_call 31; (with_reducible refine (HE3.out _ (below_alloc w3 _)).mono ?_); rintro e w5 ⟨v5, rfl, hO5, hb5⟩))
    go_ret2
    exact ⟨_, rfl, hO5, Hb3.out.trans (((below_alloc w3 _).trans (hb5.mono (by simp))).mono Hb3.out.size)⟩
end Go.Proofs.YtebbmhlkdfmmcaaGreat
