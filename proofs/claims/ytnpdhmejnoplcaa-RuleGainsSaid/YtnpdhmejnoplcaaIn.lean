import Derived.Test.YtnpdhmejnoplcaaRw
import Derived.Test.YtnpdhmejnoplcaaKc
namespace Go.Proofs.Ytnpdhmejnoplcaa
open Go.RowKit Go.Proofs.Kv

/-! ### slices.Insert into an own row -/
theorem Try.sizeInt : ∀ w, (Go.sizeOf 3).run Try.prog w = .ok 1 w := fun w => by kernel_rfl
theorem Try.oneInt : (Try.prog.info? 3).map (·.size) = some 1 := by kernel_rfl
theorem ints_one (l : List Int) : ∀ v ∈ l.map (Value.int .i64), v.oneCell' = true := by
  intro v hv
  obtain ⟨x, _, rfl⟩ := List.mem_map.1 hv
  rfl
theorem overlaps_own {w : World} {a b : Addr} {la ca lb cb kA kB : Nat} {tA tB : TypeId} (hne : a.block ≠ b.block)
    (hsa : w.shape? a.block = some (tA, kA)) (hsb : w.shape? b.block = some (tB, kB)) (hkA : kA ≠ 0) (hkB : kB ≠ 0)
    (hf : (w.frozen? a = false ∧ w.frozen? { block := a.block, off := kA } = false) ∨ (w.frozen? b = false ∧ w.frozen? { block := b.block, off := kB } = false)) :
    (callFunc 200 #[.slice (some a) la ca, .slice (some b) lb cb]).run Try.prog w = .ok (.value (.bool false)) w := by
  rw [run_callFunc_extern Try.func200 (by kernel_rfl) (by kernel_rfl) (by kernel_rfl) (e := Extern.SlicesOverlaps.overlaps #[22, 22] #[4]) (by kernel_rfl),
    run_overlaps_own w 22 4 3 Try.underlying22 1 Try.sizeInt a b la ca lb cb hne tA tB kA kB hsa hsb hkA hkB hf]
  rfl
/-- what is returned is a row of the call's own (from block B on) that holds the numbers l; of all that was there, but the block row, nothing has turned -/
def OwnPost (B n : Nat) (l : List Int) (row : Option Nat) (w : World) (e : Ending) (w' : World) : Prop := ∃ v', e = .returned v' ∧ w'.ownsRow B 3 1 v' n (l.map (Value.int .i64)) ∧ w.grownBy w' row ∧ (v'.ownBlock = row ∨ ∃ g, v'.ownBlock = some g ∧ w.heap.size ≤ g)
/-- l with vs in the place of what stood from i to j -/
def putL (l : List Int) (i j : Nat) (vs : List Int) : List Int := l.take i ++ vs ++ l.drop j
theorem ints_shape {w : World} {b off n c : Nat} {l : List Int} (h : IntsAt w (some ⟨b, off, none⟩) n c l) (h0 : 0 < n) : ∃ T k, w.shape? b = some (T, k) ∧ k ≠ 0 := by
  obtain ⟨b', off', e, hb, hc⟩ := h.cells 0 h0
  injection e with e; injection e with e1 e2; subst e1; subst e2
  unfold World.cell? at hc
  unfold World.shape?
  split at hc
  · rename_i cs T fr hg
    simp only [hg]
    simp at hc
    refine ⟨T, cs.size, rfl, ?_⟩
    intro e
    rw [Array.getElem?_eq_none (by omega)] at hc
    cases hc
  · cases hc
set_option maxRecDepth 100000 in
set_option maxHeartbeats 2000000 in
theorem insert_calls {B n i m c : Nat} {v : Value} {l : List Int} {w : World} {A : Option Addr} {vs : List Int} (hown : w.ownsRow B 3 1 v n (l.map (Value.int .i64))) (hB : B ≤ w.heap.size) (hi : i ≤ n)
    (hv : IntsAt w A m c vs) (hne : 0 < m → ∀ b off, A = some ⟨b, off, none⟩ → b < B) (hs : n + m ≤ 100000) :
    Calls Try.prog 199 #[v, .int .i64 i, .slice A m c] w fun e w' => OwnPost B (n + m) (putL l i i vs) v.ownBlock w e w' := by
  obtain ⟨i0, hi0, hz0, hz1, hz2⟩ := info_parts Try.infoInt
  have hl : l.length = n := by simpa using hown.1
  by_cases hm : m = 0
  · subst hm
    have Hf : Hid (putL l i i vs = l) := hid_ (by rw [putL, List.eq_nil_of_length_eq_zero hv.len, List.append_nil, List.take_append_drop])
    have Hown : Hid (w.ownsRow B 3 1 v (n + 0) ((putL l i i vs).map (Value.int .i64))) := hid_ (by rw [Hf.out]; exact hown)
    rcases own_open hown with ⟨rfl, rfl, h0⟩ | ⟨g, cap, cur, rfl, hg1, hg2, hg3, hcl, hnc, hcm, hct⟩
    · obtain rfl : i = 0 := by omega
      clear hown
      go_enter Try.func199, Try.ntmps199
      go_wp2
      go_ret
      exact ⟨_, rfl, Hown.out, grown_refl _ _, .inl rfl⟩
    · clear hown hg3 hct
      by_cases hci : cap = i
      all_goals
        try subst hci
        go_enter Try.func199, Try.ntmps199
        go_wp2
        go_ret
        exact ⟨_, rfl, Hown.out, grown_refl _ _, .inl rfl⟩
  · have hmz : ((m : Int) == 0) = false := by simp; omega
    have hm0 : 0 < m := by omega
    clear hm
    by_cases hin : i = n
    · subst hin
      have Hf : Hid (putL l i i vs = l ++ vs) := hid_ (by rw [putL, List.take_of_length_le (by omega), List.drop_of_length_le (by omega), List.append_nil])
      have Hown := hid_ hown
      have hin' : ((i : Int) == (i : Int)) = true := by simp
      rcases own_open hown with ⟨rfl, rfl, h0⟩ | ⟨g, cap, cur, rfl, hg1, hg2, hg3, hcl, hnc, hcm, hct⟩
      · clear hown
        go_enter Try.func199, Try.ntmps199
        go_wp2_with (at_builtin; refine wpList_append_ints _ rfl (.tmp 23) (.tmp 24) _ rfl B 3 i0 Try.underlying22 hi0 hz0 hz1 hz2 _ _ _ rfl Hown.out _ _ _ _ rfl hv (by omega) hB ?_; intro v' w1 hown1 hg1 hat1)
        go_ret
        exact ⟨_, rfl, by rw [← Hf.out] at hown1; exact hown1, hg1, hat1.imp id fun h => ⟨_, h, Nat.le_refl _⟩⟩
      · clear hown hg3 hct
        go_enter Try.func199, Try.ntmps199
        go_wp2_with (at_builtin; refine wpList_append_ints _ rfl (.tmp 23) (.tmp 24) _ rfl B 3 i0 Try.underlying22 hi0 hz0 hz1 hz2 _ _ _ rfl Hown.out _ _ _ _ rfl hv (by omega) hB ?_; intro v' w1 hown1 hg1 hat1)
        all_goals
          go_ret
          exact ⟨_, rfl, by rw [← Hf.out] at hown1; exact hown1, hg1, hat1.imp id fun h => ⟨_, h, Nat.le_refl _⟩⟩
    · have hin2 : ((i : Int) == (n : Int)) = false := by simp; omega
      have hilt : i < n := by omega
      clear hin
      rcases own_open hown with ⟨rfl, rfl, h0⟩ | ⟨g, cap, cur, rfl, hg1, hg2, hg3, hcl, hnc, hcm, hct⟩
      · omega
      · have Hx := hid_ hct
        have hX : ((l.drop i).map (Value.int .i64)).length = n - i := by rw [List.length_map, List.length_drop]; omega
        obtain ⟨X, hXe⟩ : ∃ X, X = (l.drop i).map (Value.int .i64) := ⟨_, rfl⟩
        obtain ⟨V, hVe⟩ : ∃ V, V = vs.map (Value.int .i64) := ⟨_, rfl⟩
        have hV : V.length = m := by rw [hVe, List.length_map, hv.len]
        have hVc : ∀ w', Below B w w' → ∃ ad, A = some ad ∧ ∀ j u, V[j]? = some u → w'.cell? (ad.add j) = some u := fun w' hw' => by
          obtain ⟨b, off, rfl, hb, _⟩ := hv.cells 0 hm0
          refine ⟨_, rfl, ?_⟩
          rw [hVe]
          have hlt := hne hm0 b off rfl
          exact (hv.keep fun b' off' e => by injection e with e; injection e with e1 _; subst e1; exact hw'.block _ hlt).cellsIn
        have hcurX : ∀ w' : World, w'.heap[g]? = some (.cells cur.toArray 3 (0, 0)) → ∀ j u, X[j]? = some u → w'.cell? ((⟨g, i, none⟩ : Addr).add j) = some u := fun w' hw' j u hj => by
          rw [add_at, row_cell hw', ← hj, hXe, List.map_drop, ← Hx.out, List.getElem?_drop, List.getElem?_take, if_pos]
          have : j < X.length := by
            rcases Nat.lt_or_ge j X.length with h | h
            · exact h
            · rw [List.getElem?_eq_none h] at hj; cases hj
          rw [hXe, hX] at this; omega
        have hX' : X.length = n - i := by rw [hXe]; exact hX
        have hX1 : ∀ v ∈ X, v.oneCell' = true := by rw [hXe]; exact ints_one _
        have hV1 : ∀ v ∈ V, v.oneCell' = true := by rw [hVe]; exact ints_one _
        have HR : Hid (cur.take i ++ V ++ X = (putL l i i vs).map (Value.int .i64)) := hid_ (by
          rw [putL, List.map_append, List.map_append, ← hVe, ← hXe]
          congr 2
          rw [List.map_take, ← Hx.out, List.take_take, Nat.min_eq_left hi])
        have HXe := hid_ hXe; have HVe := hid_ hVe
        clear hXe hVe hX hct
        have hw1 : IntKind.i64.wrap ((n : Int) + (m : Int)) = (n : Int) + m := IntWalk.i64_in _ (by omega)
        have hw2 : IntKind.i64.wrap ((i : Int) + (m : Int)) = (i : Int) + m := IntWalk.i64_in _ (by omega)
        have hw3 : ((i : Int) + (m : Int)).toNat = i + m := by omega
        have hw4 : ((n : Int) + (m : Int)).toNat = n + m := by omega
        have hw5 : (0 : Int) ≤ (i : Int) + m := by omega
        by_cases hcap : cap < n + m
        · obtain ⟨k, hk⟩ : ∃ k, n + m = i + k := ⟨n + m - i, by omega⟩
          have hold : (Builtin.firstCells i0.size i (.slice (some ⟨g, 0, none⟩) i cap)).run Try.prog w.drew = .ok (cur.take i).toArray w.drew := by
            rw [hz1]
            refine run_firstCells_some w.drew 1 i ⟨g, 0, none⟩ i cap (cur.take i) (by rw [List.length_take]; omega) (fun j v hj => ?_)
            rw [add_at, Nat.zero_add]
            have := row_cell (w := w) hg3 j
            rw [List.getElem?_take] at hj
            split at hj
            · exact this.trans hj
            · cases hj
          have hrz : ∀ ty, (Builtin.append_ #[22, 3] ty #[.slice (some ⟨g, 0, none⟩) i cap, .int .i64 ((n : Int) + (m : Int) - (i : Int))]).run Try.prog w =
              .ok (.slice (some ⟨w.heap.size, 0, none⟩) (n + m) (grownCap w (n + m) cap 3)) (w.drew.alloc (.cells ((cur.take i).toArray ++ Builtin.zeroCells (Value.int .i64 0).cells k ++ Builtin.zeroCells (Value.int .i64 0).cells (grownCap w (n + m) cap 3 - (n + m))) 3)) := fun ty => by
            have h := Lib.run_append_grow_zeros w 22 3 ty 3 i0 _ .i64 .i64 Try.underlying22 Try.underlying3 hi0 hz0 (some ⟨g, 0, none⟩) i cap (cur.take i) hold k (by omega) (by omega) (by omega) (by omega) (by rw [hz2]; omega) (by rw [hz2, ← hk]; exact growslice_fits hcap (by omega))
            rw [← hk] at h
            rw [show (n : Int) + (m : Int) - (i : Int) = (k : Int) by omega]
            exact h
          have hGn : n + m ≤ grownCap w (n + m) cap 3 := grownCap_ge w _ _ _
          have hG63 : grownCap w (n + m) cap 3 ≤ 9223372036854775807 := by
            have := grownCap_le_maxLen w (n + m) cap 3 (by unfold maxLen; omega)
            unfold maxLen at this
            omega
          generalize grownCap w (n + m) cap 3 = G at hrz hGn hG63
          obtain ⟨ROW, hROW⟩ : ∃ ROW : List Value, ROW.toArray = (cur.take i).toArray ++ Builtin.zeroCells (Value.int .i64 0).cells k ++ Builtin.zeroCells (Value.int .i64 0).cells (G - (n + m)) := ⟨_, Array.toArray_toList⟩
          have HRl : Hid (ROW.length = G ∧ ROW.take i = cur.take i) := hid_ (by
            have h1 : ROW = cur.take i ++ ((Builtin.zeroCells (Value.int .i64 0).cells k).toList ++ (Builtin.zeroCells (Value.int .i64 0).cells (G - (n + m))).toList) := by
              have := congrArg Array.toList hROW
              simpa using this
            have h2 : (cur.take i).length = i := by rw [List.length_take]; omega
            refine ⟨?_, by rw [h1, List.take_left' h2]⟩
            rw [h1, List.length_append, h2, List.length_append]
            simp [Builtin.zeroCells, Value.cells]
            omega)
          rw [← hROW] at hrz
          obtain ⟨W1, hW1⟩ : ∃ W1, W1 = w.drew.alloc (.cells ROW.toArray 3) := ⟨_, rfl⟩
          rw [← hW1] at hrz
          have HW1 : Hid (W1.heap[w.heap.size]? = some (.cells ROW.toArray 3 (0, 0)) ∧ Below w.heap.size w W1) := hid_ (by
            rw [hW1]
            refine ⟨?_, ?_⟩
            · show (w.heap.push _)[w.heap.size]? = _
              simp
            · exact (Below.drew (Below.refl _ w)).alloc (Nat.le_refl _) _)
          have hXw : ∀ w', Below w.heap.size w w' → ∀ j u, X[j]? = some u → w'.cell? ((⟨g, i, none⟩ : Addr).add j) = some u := fun w' hw' => hcurX w' (by rw [hw'.block g hg2]; exact hg3)
          have hVw : ∀ w', Below w.heap.size w w' → ∃ ad, A = some ad ∧ ∀ j u, V[j]? = some u → w'.cell? (ad.add j) = some u := fun w' hw' => hVc w' (hw'.mono hB)
          have hc1 : ¬ cap = i := by omega
          have hc2 : ¬ G = i + m := by omega
          have hc3 : decide ((cap : Int) < (n : Int) + m) = true := by simp; omega
          have hc4 : ¬ G = i := by omega
          have hc5 : (i : Int) + m ≤ (n : Int) + m := by omega
          have hc6 : (i : Int) ≤ (n : Int) + m := by omega
          have hc7 : (i : Int) ≤ (n : Int) := by omega
          have hw6 : IntKind.i64.wrap ((n : Int) + (m : Int) - i) = (n : Int) + m - i := IntWalk.i64_in _ (by omega)
          have HX := hid_ hX'
          have HV := hid_ hV
          have Hmin2 : Hid (V.length = Nat.min m (n + m - i)) := hid_ (by rw [HV.out]; simp only [Nat.min_def]; split <;> omega)
          have Hfit2 : Hid (i + V.length ≤ ROW.length) := hid_ (by rw [HRl.out.1, HV.out]; omega)
          have Hl2 : Hid ((splice ROW i V).length = G) := hid_ (by rw [length_splice _ _ _ Hfit2.out, HRl.out.1])
          have Hmin : Hid (X.length = Nat.min (n - i) (n + m - (i + m))) := hid_ (by rw [HX.out]; simp only [Nat.min_def]; split <;> omega)
          have Hfit : Hid (i + m + X.length ≤ (splice ROW i V).length) := hid_ (by rw [HX.out, Hl2.out]; omega)
          have hVw1 := hVw W1 HW1.out.2
          have HXw := hid_ hXw
          have Hk := hid_ hk
          have HW := hid_ hW1
          clear hVw hXw hold hROW hcurX hVc hX' hV hcap hin2 hk hW1
          go_enter Try.func199, Try.ntmps199
          go_wp2_with (first
            | (at_builtin; refine Lib.wpList_append_run _ rfl (.tmp 34) (.tmp 39) _ _ rfl _ _ rfl rfl _ _ (hrz _) ?_)
            | (refine wpList_copy_splice rfl (.tmp 43) (.tmp 44) 22 22 rfl 3 Try.underlying22 Try.oneInt _ _ _ _ _ _ rfl rfl w.heap.size i ROW 3 HW1.out.1 V Hmin2.out (fun _ => ⟨rfl, hVw1⟩) Hfit2.out hV1 w.heap.size w HW1.out.2 (Nat.le_refl _) ?_; intro w2 hh2 hb2))
          have hXd := HXw.out w2.drew (Below.drew hb2)
          have Hd : Hid (Below w.heap.size w w2.drew) := hid_ (Below.drew hb2)
          go_region_law (refine step_copy_splice rfl (.tmp 50) (.tmp 53) 22 22 rfl 3 Try.underlying22 Try.oneInt (some ⟨w.heap.size, i + m, none⟩) (some ⟨g, i, none⟩) (n + m - (i + m)) (G - (i + m)) (n - i) (cap - i) (by simp [Act.eval, Act.put]) (by simp [Act.eval, Act.put]) w.heap.size (i + m) (splice ROW i V) 3 hh2.out X Hmin.out (fun _ => ⟨rfl, _, rfl, hXd⟩) Hfit.out hX1 w.heap.size w Hd.out (Nat.le_refl _) ?_; intro w3 hh3 hb3)
          go_wp2
          go_ret
          refine ⟨_, rfl, own_close hB hh3.out (by rw [length_splice _ _ _ Hfit.out, Hl2.out]) hGn hG63 ?_, grown_of_below hb3 _, .inr ⟨_, rfl, Nat.le_refl _⟩⟩
          rw [← HR.out, ← HRl.out.2, show n + m = i + m + (n - i) by omega]
          exact splice_in' ROW X V HX.out HV.out (by rw [HRl.out.1]; omega)
        · have hc1 : ¬ cap = i := by omega
          have hc2 : ¬ cap = i + m := by omega
          have hc3 : decide ((cap : Int) < (n : Int) + m) = false := by simp; omega
          have hc4 : ((n : Int) + m) ≤ (cap : Int) := by omega
          have hc5 : (i : Int) + m ≤ (n : Int) + m := by omega
          have hc6 : (i : Int) ≤ (n : Int) + m := by omega
          have hov : ∀ lb cb, (callFunc 200 #[.slice A m c, .slice (some ⟨g, i + m, none⟩) lb cb]).run Try.prog w = .ok (.value (.bool false)) w := fun lb cb => by
            obtain ⟨b, off, rfl, hb, _⟩ := hv.cells 0 hm0
            obtain ⟨T, k, hsh, hk0⟩ := ints_shape hv hm0
            have hlt := hne hm0 b off rfl
            exact overlaps_own (a := ⟨b, off, none⟩) (b := ⟨g, i + m, none⟩) (by show b ≠ g; omega) hsh (row_shape hg3) hk0 (by rw [hcl]; omega) (.inr ⟨row_free hg3 _, row_free hg3 _⟩)
          clear hcap hin2
          go_enter Try.func199, Try.ntmps199
          go_wp2
          have HX := hid_ hX'
          have Hmin : Hid (X.length = Nat.min (n + m - i) (n + m - (i + m))) := hid_ (by rw [HX.out]; simp only [Nat.min_def]; split <;> omega)
          have Hfit : Hid (i + m + X.length ≤ cur.length) := hid_ (by rw [HX.out]; omega)
          have Hd : Hid (w.grownBy w.drew (some g)) := hid_ (grown_drew (grown_refl _ _))
          have HV := hid_ hV
          go_region_law (refine step_copy_row rfl (.tmp 73) (.tmp 76) 22 22 rfl 3 Try.underlying22 Try.oneInt (some ⟨g, i + m, none⟩) (some ⟨g, i, none⟩) (n + m - (i + m)) (cap - (i + m)) (n + m - i) (cap - i) (by simp [Act.eval, Act.put]) (by simp [Act.eval, Act.put]) g (i + m) cur 3 hg3 X Hmin.out (fun _ => ⟨rfl, _, rfl, hcurX _ hg3⟩) Hfit.out hX1 w Hd.out ?_; intro w2 hh2 hb2)
          have Hl2 : Hid ((splice cur (i + m) X).length = cap) := hid_ (by rw [length_splice _ _ _ Hfit.out, hcl])
          have Hmin2 : Hid (V.length = Nat.min m (n + m - i)) := hid_ (by rw [HV.out]; simp only [Nat.min_def]; split <;> omega)
          have Hfit2 : Hid (i + V.length ≤ (splice cur (i + m) X).length) := hid_ (by rw [Hl2.out, HV.out]; omega)
          have hVw := hVc w2 (below_of_grown hb2 hB hg1)
          go_wp2_with (refine wpList_copy_row rfl (.tmp 80) (.tmp 81) 22 22 rfl 3 Try.underlying22 Try.oneInt _ _ _ _ _ _ rfl rfl g i (splice cur (i + m) X) 3 hh2.out V Hmin2.out (fun _ => ⟨rfl, hVw⟩) Hfit2.out hV1 w hb2 ?_; intro w3 hh3 hb3)
          go_ret
          refine ⟨_, rfl, own_close hg1 hh3.out (by rw [length_splice _ _ _ Hfit2.out, Hl2.out]) (by omega) hcm ?_, hb3, .inl rfl⟩
          rw [← HR.out]
          exact splice_in cur X V HX.out HV.out hi (by omega)
end Go.Proofs.Ytnpdhmejnoplcaa
