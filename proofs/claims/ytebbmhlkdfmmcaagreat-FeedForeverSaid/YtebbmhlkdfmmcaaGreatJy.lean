import Derived.Test.YtebbmhlkdfmmcaaGreatJx
namespace Go.Proofs.YtebbmhlkdfmmcaaGreat
open Go.RowKit Go.Proofs.Kv

/-! ### ends -/
theorem Tryz.sortNone (p : Option Addr) (cap : Nat) (fv : Value) (w : World) : Calls Tryz.prog 32 #[.slice p 0 cap, fv] w fun e w' => e = .returned (.tuple #[]) ∧ w' = w := Tryz.slices_SortFunc_none (α := Int) p cap fv w
/-- sorting lists, of whatever number -/
theorem sortAny_calls {B E : Nat} {v : Value} {L : List (List Int)} {w : World} (hown : OwnL E w B v L) (hs : L.length ≤ 1000000) (hB : B ≤ w.heap.size) :
    Calls Tryz.prog 32 #[v, .func (.func 33) #[] #[]] w fun e w' => e = .returned (.tuple #[]) ∧ OwnL E w' B v (L.mergeSort leL) ∧ Below B w w' := by
  rcases Nat.eq_zero_or_pos L.length with h0 | h0
  · have hL : L = [] := List.eq_nil_of_length_eq_zero h0
    subst hL
    obtain ⟨a, c, rfl, _⟩ := hown.at_
    refine (Tryz.sortNone a c _ w).mono ?_
    rintro e w' ⟨rfl, rfl⟩
    exact ⟨rfl, by simpa using hown, Below.refl _ _⟩
  · exact sortLists_calls hown h0 hs hB
def endsTo (W : List (List Int)) (A : List (List ((Int × Int) × Nat))) (k : Nat) : List (List Int) := ((List.range k).filter fun i => decide ((A.getD i []).length = 0)).map fun i => W.getD i []
def endsL (x : Web) : List (List Int) := (endsTo x.words x.arcs x.words.length).mergeSort leL
theorem endsTo_hit {W : List (List Int)} {A : List (List ((Int × Int) × Nat))} {k : Nat} (h : (A.getD k []).length = 0) : endsTo W A (k + 1) = endsTo W A k ++ [W.getD k []] := by
  rw [endsTo, List.range_succ, List.filter_append, List.map_append]; simp only [List.filter_cons, h, decide_true, if_true, List.filter_nil]; rfl
theorem endsTo_miss {W : List (List Int)} {A : List (List ((Int × Int) × Nat))} {k : Nat} (h : (A.getD k []).length ≠ 0) : endsTo W A (k + 1) = endsTo W A k := by
  rw [endsTo, List.range_succ, List.filter_append, List.map_append]; simp only [List.filter_cons, h, decide_false, List.filter_nil]; simp [endsTo]
theorem endsTo_le (W : List (List Int)) (A : List (List ((Int × Int) × Nat))) (k : Nat) : (endsTo W A k).length ≤ k := by
  rw [endsTo, List.length_map]; exact Nat.le_trans (List.length_filter_le _ _) (by simp)
set_option maxRecDepth 100000 in
set_option maxHeartbeats 4000000 in
theorem ends_calls (F : Nat → Prop) (w : World) (Bx Bm B : Nat) (aw : Option Addr) (cw : Nat) (aa : Option Addr) (ca : Nat) (mm : Option Nat) (x : Web) (h : WebAt F w Bx Bm B (.slice aw x.words.length cw) (.slice aa x.arcs.length ca) x.words x.words x.arcs) (hx : WebOk x) :
    Calls Tryz.prog 29 #[.agg #[.slice aw x.words.length cw, .map mm, .slice aa x.arcs.length ca]] w fun e w' => ∃ v, e = .returned v ∧ OwnL 23 w' w.heap.size v (endsL x) ∧ Below w.heap.size w w' := by
  obtain ⟨w1, hw1⟩ : ∃ w1, w.alloc (.cells #[.slice aw x.words.length cw, .map mm, .slice aa x.arcs.length ca] 49) = w1 := ⟨_, rfl⟩
  have c01 : Below w.heap.size w w1 := by rw [← hw1]; exact below_alloc _ _
  obtain ⟨x0, x1, x2⟩ := box3 hw1
  have z1 : w1.heap.size = w.heap.size + 1 := by rw [← hw1]; simp
  have HX := hid_ (fun W (hW : Below w1.heap.size w1 W) => show W.cell? ⟨w.heap.size, 0, none⟩ = _ ∧ W.cell? ⟨w.heap.size, 2, none⟩ = _ from ⟨cell_below x0 hW, cell_below x2 hW⟩)
  obtain ⟨vs, v1, v2⟩ := h.words
  obtain ⟨us, u1, u2, u3⟩ := h.arcs
  have hvl : vs.length = x.words.length := by have := v1.1; simpa using this
  have hul : us.length = x.arcs.length := by have := u1.1; simpa using this
  -- the cells of the words and of the rows
  have HC : Hid (∀ k, k < x.words.length → ∃ gw ga a' n' c' a2 c2, aw = some ⟨gw, 0, none⟩ ∧ aa = some ⟨ga, 0, none⟩ ∧ w.cell? ⟨gw, k, none⟩ = some (.slice a' n' c') ∧ w.cell? ⟨ga, k, none⟩ = some (.slice a2 (x.arcs.getD k []).length c2) ∧ IntsAt w a' n' c' (x.words.getD k []) ∧ gw < w.heap.size ∧ ga < w.heap.size) := hid_ (fun k hk => by
    have hk2 : k < x.arcs.length := by rw [hx.same]; exact hk
    obtain ⟨gw, kw, e1⟩ := own_slice v1 (by omega)
    obtain ⟨ga, ka, e2⟩ := own_slice u1 (by omega)
    have hv : vs[k]? = some vs[k] := List.getElem?_eq_getElem (by omega)
    have hu : us[k]? = some us[k] := List.getElem?_eq_getElem (by omega)
    have c1 := v1.cells (g := gw) (by rw [e1]; rfl) k _ hv
    have c2 := u1.cells (g := ga) (by rw [e2]; rfl) k _ hu
    rw [add_at, Nat.zero_add] at c1 c2
    obtain ⟨a', n', c', e3, hi, _⟩ := v2 k _ hv
    obtain ⟨a2, c2', e4⟩ := own_any (u2 k _ hu).1
    rw [e3] at c1; rw [e4] at c2
    injection e1 with e1 _ _; injection e2 with e2 _ _
    exact ⟨gw, ga, a', n', c', a2, c2', e1, e2, c1, c2, hi, World.block_lt_of_cell? w _ c1, World.block_lt_of_cell? w _ c2⟩)
  have H3 := hid_ hx.le
  have Hsame := hid_ hx.same
  have Hhit := hid_ (fun k hk => @endsTo_hit x.words x.arcs k hk)
  have Hmiss := hid_ (fun k hk => @endsTo_miss x.words x.arcs k hk)
  have Hle := hid_ (fun k => endsTo_le x.words x.arcs k)
  have HE : Hid ((endsTo x.words x.arcs x.words.length).mergeSort leL = endsL x) := hid_ rfl
  have H01 := hid_ c01
  obtain ⟨i1, hi1, hz0, hz1, hz2⟩ := info_parts Tryz.infoInts
  have hx3 := hx.le
  obtain ⟨q0, q2⟩ := HX.out w1 (Below.refl _ _)
  clear h hx vs v1 v2 hvl us u1 u2 u3 hul x0 x1 x2 c01
  go_enter Tryz.func29, Tryz.ntmps29
  go_wp2
  go_loopw [3, 9] (fun v i wr => ∃ k : Nat, k ≤ x.words.length ∧ i = .int .i64 k ∧ OwnL 23 wr w1.heap.size v (endsTo x.words x.arcs k) ∧ Below w1.heap.size w1 wr) (fun _ i _ => x.words.length - (intOf i).toNat)
  case atStart => exact ⟨0, Nat.zero_le _, rfl, OwnL.nil _ _ _, Below.refl _ _⟩
  case round =>
    obtain ⟨k, hk, rfl, hO, hb⟩ := hrel
    by_cases hlt : k < x.words.length
    · obtain ⟨gw, ga, a', n', c', a2, c2, rfl, rfl, k1, k2, hi, hgw, hga⟩ := HC.out k hlt
      have hbw : Below w.heap.size w wr := H01.out.trans (hb.mono H01.out.size)
      have k1r := cell_below k1 hbw; have k2r := cell_below k2 hbw
      have hir := hi.below hbw (Nat.le_refl _)
      obtain ⟨p0, p2⟩ := HX.out wr hb
      have hle := Hle.out k
      have hrow : ∀ b off, 0 < n' → a' = some ⟨b, off, none⟩ → u3.ownBlock ≠ some b := fun b off hn ha e => by have := hi.lt hn ha; have := (hO.lt b e).1; omega
      have hka : k < x.arcs.length := by rw [Hsame.out]; exact hlt
      have h1 := Hhit.out k; have h2 := Hmiss.out k
      generalize (x.arcs.getD k []).length = m at *
      have HO := hid_ hO; have Hb := hid_ hb; have Hrow := hid_ hrow
      clear hO hrow k1 k2 q0 q2 hbw
      by_cases hm : m = 0
      · subst hm
        have Hn := hid_ (h1 rfl)
        clear h1 h2
        go_wp2_with (at_builtin; refine wpList_push_list _ rfl (.tmp 21) (.tmp 23) _ rfl w1.heap.size 23 i1 Tryz.underlying27 hi1 hz0 hz1 hz2 u3 (endsTo x.words x.arcs k) rfl HO.out a' n' c' (x.words.getD k []) _ rfl hir Hrow.out (by omega) Hb.out.size ?_; intro v5 w5 hO5 hg5 hat5)
        go_roundw
        case rel => exact ⟨k + 1, by omega, by go_num, by rw [Hn.out]; exact hO5, ((Hb.out.trans ((below_alloc wr _).mono Hb.out.size)).grown hg5 (by have := Hb.out.size; simp; omega) fun i hi => (HO.out.lt i hi).1)⟩
        case measure => simp [intOf]; omega
      · have Hn := hid_ (h2 hm)
        have hmi : ¬ (m : Int) = 0 := by omega
        clear h1 h2
        go_wp2
        go_roundw
        case rel => exact ⟨k + 1, by omega, by go_num, by rw [Hn.out]; exact HO.out, Hb.out⟩
        case measure => simp [intOf]; omega
    · obtain rfl : x.words.length = k := by omega
      have HSo := hid_ (sortAny_calls hO (by have := Hle.out x.words.length; omega) hb.size)
      have Hb := hid_ hb
      rw [HE.out] at HSo
      clear hO hb
      go_wp2_with (go_at_call 32; (with_reducible refine HSo.out.mono ?_); rintro e w6 ⟨rfl, hO6, hb6⟩)
      go_ret
      exact ⟨_, rfl, hO6.base H01.out.size, H01.out.trans ((Hb.out.trans hb6).mono H01.out.size)⟩
end Go.Proofs.YtebbmhlkdfmmcaaGreat
