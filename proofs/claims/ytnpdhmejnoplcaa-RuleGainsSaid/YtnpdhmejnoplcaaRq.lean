import Derived.Test.YtnpdhmejnoplcaaRp
namespace Go.Proofs.Ytnpdhmejnoplcaa
open Go.RowKit Go.Proofs.Kv

set_option maxRecDepth 100000 in
set_option maxHeartbeats 2000000 in
/-- there is room, and what is put in is longer than what goes -/
theorem replaceD_calls {B i j r m c g cap : Nat} {cur X V : List Value} {l vs : List Int} {w : World} {A : Option Addr} (H : RepAt w B g cap i j r m A c cur X V l vs) (hr : 0 < r) (hlong : j < i + m) (htot : i + m + r ≤ cap) :
    Calls Try.prog 180 #[.slice (some ⟨g, 0, none⟩) (j + r) cap, .int .i64 i, .int .i64 j, .slice A m c] w fun e w' => OwnPost B (i + m + r) (putL l i j vs) (some g) w e w' := by
  have HH := hid_ H
  obtain ⟨hg1, hg2, hg3, hcl, hnc, hcm, hij, hs, hB, hX, hV, hX1, hV1, hXc, hVc, hR, hv, hne, hVe⟩ := H
  have hij0 : ((i : Int) == (j : Int)) = false := by simp; omega
  have hij1 : (i : Int) ≤ (j : Int) := by omega
  have hij2 : (j : Int) ≤ (cap : Int) := by omega
  have hij3 : (i : Int) ≤ (cap : Int) := by omega
  have hij4 : (j : Int) ≤ ((j + r : Nat) : Int) := by omega
  have hij5 : (j : Int) ≤ (j : Int) + r := by omega
  have hjn : ((j : Int) == ((j + r : Nat) : Int)) = false := by simp; omega
  have hjn2 : ((j : Int) == (j : Int) + r) = false := by simp; omega
  have hci : ¬ cap = i := by omega
  have hcj : ¬ cap = j := by omega
  have hsub : j + r - j = r := by omega
  have hw1 : IntKind.i64.wrap ((i : Int) + (m : Int)) = (i : Int) + m := IntWalk.i64_in _ (by omega)
  have hw2 : IntKind.i64.wrap ((i : Int) + (m : Int) + (r : Int)) = (i : Int) + m + r := IntWalk.i64_in _ (by omega)
  have hw3 : ((i : Int) + (m : Int)).toNat = i + m := by omega
  have hw4 : ((i : Int) + (m : Int) + r).toNat = i + m + r := by omega
  have hw5 : (0 : Int) ≤ (i : Int) + m := by omega
  have hw6 : (0 : Int) ≤ (i : Int) + m + r := by omega
  have hw7 : (i : Int) + m ≤ (i : Int) + m + r := by omega
  have hw8 : (i : Int) ≤ (i : Int) + m + r := by omega
  have hcc : decide ((cap : Int) < (i : Int) + m + r) = false := by simp; omega
  have hc1 : (i : Int) + m + r ≤ (cap : Int) := by omega
  have hc2 : decide ((i : Int) + m ≤ (j : Int)) = false := by simp; omega
  have hcim : ¬ cap = i + m := by omega
  have hm0 : 0 < m := by omega
  have hov : ∀ la ca, (callFunc 200 #[.slice (some ⟨g, i + m, none⟩) la ca, .slice A m c]).run Try.prog w = .ok (.value (.bool false)) w := fun la ca => by
    obtain ⟨b, off, rfl, hb, _⟩ := hv.cells 0 hm0
    obtain ⟨T, k, hsh, hk0⟩ := ints_shape hv hm0
    have hlt := hne hm0 b off rfl
    exact overlaps_own (a := ⟨g, i + m, none⟩) (b := ⟨b, off, none⟩) (by show g ≠ b; omega) (row_shape hg3) hsh (by rw [hcl]; omega) hk0 (.inl ⟨row_free hg3 _, row_free hg3 _⟩)
  have hovd : ∀ q la ca, (callFunc 200 #[.slice (some ⟨g, i + m, none⟩) la ca, .slice A m c]).run Try.prog (w.drewN q) = .ok (.value (.bool false)) (w.drewN q) := fun q la ca => by
    obtain ⟨b, off, rfl, hb, _⟩ := hv.cells 0 hm0
    obtain ⟨T, k, hsh, hk0⟩ := ints_shape hv hm0
    have hlt := hne hm0 b off rfl
    exact overlaps_own (w := w.drewN q) (a := ⟨g, i + m, none⟩) (b := ⟨b, off, none⟩) (by show g ≠ b; omega) (row_shape (w := w.drewN q) hg3) hsh (by rw [hcl]; omega) hk0 (.inl ⟨row_free (w := w.drewN q) hg3 _, row_free (w := w.drewN q) hg3 _⟩)
  have HX := hid_ hX
  have HV := hid_ hV
  have Hmin : Hid (X.length = Nat.min r (i + m + r - (i + m))) := hid_ (by rw [HX.out]; simp only [Nat.min_def]; split <;> omega)
  have Hfit : Hid (i + m + X.length ≤ cur.length) := hid_ (by rw [HX.out, hcl]; omega)
  have Hl2 : Hid ((splice cur (i + m) X).length = cap) := hid_ (by rw [length_splice _ _ _ Hfit.out, hcl])
  have Hmin2 : Hid (V.length = Nat.min m (i + m + r - i)) := hid_ (by rw [HV.out]; simp only [Nat.min_def]; split <;> omega)
  have Hfit2 : Hid (i + V.length ≤ (splice cur (i + m) X).length) := hid_ (by rw [Hl2.out, HV.out]; omega)
  have Hl3 : Hid ((splice (splice cur (i + m) X) i V).length = cap) := hid_ (by rw [length_splice _ _ _ Hfit2.out, Hl2.out])
  have Hsp : Hid ((splice (splice cur (i + m) X) i V).take (i + m + r) = (putL l i j vs).map (Value.int .i64)) := hid_ (by
    rw [← hR]
    have := splice_in cur X V (i := i) (m := m) (n := i + r) (by rw [HX.out]; omega) HV.out (by omega) (by omega)
    rw [show i + r + m = i + m + r by omega] at this
    exact this)
  have HVc := hid_ hVc
  have HXc := hid_ hXc
  have Hov := hid_ hov
  have Hovd := hid_ hovd
  clear hXc hVc hR hv hVe hX hV HH hne hov hovd
  go_enter Try.func180, Try.ntmps180
  go_wp2
  go_quiet (fail)
  have hov1 := Hovd.out nq
  go_wp2
  have hXd := HXc.out ((w.drewN nq).drew) hg3
  have Hd : Hid (w.grownBy ((w.drewN nq).drew) (some g)) := hid_ (grown_drew (grown_drewN (grown_refl _ _) _))
  go_region_law (refine step_copy_row rfl (.tmp 126) (.tmp 129) 22 22 rfl 3 Try.underlying22 Try.oneInt (some ⟨g, i + m, none⟩) (some ⟨g, j, none⟩) (i + m + r - (i + m)) (cap - (i + m)) r (cap - j) (by simp [Act.eval, Act.put]) (by simp [Act.eval, Act.put]) g (i + m) cur 3 hg3 X Hmin.out (fun _ => ⟨rfl, _, rfl, hXd⟩) Hfit.out hX1 w Hd.out ?_; intro w2 hh2 hb2)
  have hVw := HVc.out w2 (below_of_grown hb2 hB hg1) hm0
  go_wp2_with (refine wpList_copy_row rfl (.tmp 133) (.tmp 134) 22 22 rfl 3 Try.underlying22 Try.oneInt _ _ _ _ _ _ rfl rfl g i (splice cur (i + m) X) 3 hh2.out V Hmin2.out (fun _ => ⟨rfl, hVw⟩) Hfit2.out hV1 w hb2 ?_; intro w3 hh3 hb3)
  go_ret
  exact ⟨_, rfl, own_close hg1 hh3.out Hl3.out htot hcm Hsp.out, hb3, .inl rfl⟩

set_option maxRecDepth 100000 in
set_option maxHeartbeats 2000000 in
/-- there is no room -/
theorem replaceB_calls {B i j r m c g cap : Nat} {cur X V : List Value} {l vs : List Int} {w : World} {A : Option Addr} (H : RepAt w B g cap i j r m A c cur X V l vs) (hr : 0 < r) (htot : cap < i + m + r) :
    Calls Try.prog 180 #[.slice (some ⟨g, 0, none⟩) (j + r) cap, .int .i64 i, .int .i64 j, .slice A m c] w fun e w' => OwnPost B (i + m + r) (putL l i j vs) (some g) w e w' := by
  obtain ⟨i0, hi0, hz0, hz1, hz2⟩ := info_parts Try.infoInt
  have HH := hid_ H
  obtain ⟨hg1, hg2, hg3, hcl, hnc, hcm, hij, hs, hB, hX, hV, hX1, hV1, hXc, hVc, hR, hv, hne, hVe⟩ := H
  have hij0 : ((i : Int) == (j : Int)) = false := by simp; omega
  have hij1 : (i : Int) ≤ (j : Int) := by omega
  have hij2 : (j : Int) ≤ (cap : Int) := by omega
  have hij3 : (i : Int) ≤ (cap : Int) := by omega
  have hij4 : (j : Int) ≤ ((j + r : Nat) : Int) := by omega
  have hij5 : (j : Int) ≤ (j : Int) + r := by omega
  have hjn : ((j : Int) == ((j + r : Nat) : Int)) = false := by simp; omega
  have hjn2 : ((j : Int) == (j : Int) + r) = false := by simp; omega
  have hci : ¬ cap = i := by omega
  have hcj : ¬ cap = j := by omega
  have hsub : j + r - j = r := by omega
  have hw1 : IntKind.i64.wrap ((i : Int) + (m : Int)) = (i : Int) + m := IntWalk.i64_in _ (by omega)
  have hw2 : IntKind.i64.wrap ((i : Int) + (m : Int) + (r : Int)) = (i : Int) + m + r := IntWalk.i64_in _ (by omega)
  have hw3 : ((i : Int) + (m : Int)).toNat = i + m := by omega
  have hw4 : ((i : Int) + (m : Int) + r).toNat = i + m + r := by omega
  have hw5 : (0 : Int) ≤ (i : Int) + m := by omega
  have hw6 : (0 : Int) ≤ (i : Int) + m + r := by omega
  have hw7 : (i : Int) + m ≤ (i : Int) + m + r := by omega
  have hw8 : (i : Int) ≤ (i : Int) + m + r := by omega
  have hcc : decide ((cap : Int) < (i : Int) + m + r) = true := by simp; omega
  have hm0 : 0 < m := by omega
  have hold : ∀ q, (Builtin.firstCells i0.size i (.slice (some ⟨g, 0, none⟩) i cap)).run Try.prog (w.drewN q).drew = .ok (cur.take i).toArray (w.drewN q).drew := fun q => by
    rw [hz1]
    refine run_firstCells_some (w.drewN q).drew 1 i ⟨g, 0, none⟩ i cap (cur.take i) (by rw [List.length_take]; omega) (fun k v hk => ?_)
    rw [add_at, Nat.zero_add]
    have := row_cell (w := (w.drewN q).drew) hg3 k
    rw [List.getElem?_take] at hk
    split at hk
    · exact this.trans hk
    · cases hk
  have hrz : ∀ q ty, ∃ G, ∃ ROW : List Value, (Builtin.append_ #[22, 3] ty #[.slice (some ⟨g, 0, none⟩) i cap, .int .i64 ((i : Int) + (m : Int) + (r : Int) - (i : Int))]).run Try.prog (w.drewN q) =
      .ok (.slice (some ⟨w.heap.size, 0, none⟩) (i + m + r) G) ((w.drewN q).drew.alloc (.cells ROW.toArray 3)) ∧ ROW.length = G ∧ ROW.take i = cur.take i ∧ i + m + r ≤ G ∧ G ≤ 9223372036854775807 := fun q ty => by
    have h := Lib.run_append_grow_zeros (w.drewN q) 22 3 ty 3 i0 _ .i64 .i64 Try.underlying22 Try.underlying3 hi0 hz0 (some ⟨g, 0, none⟩) i cap (cur.take i) (hold q) (m + r) (by omega) (by omega) (by omega) (by omega) (by rw [hz2]; omega) (by rw [hz2]; exact growslice_fits (by omega) (by omega))
    have hGn : i + (m + r) ≤ grownCap (w.drewN q) (i + (m + r)) cap 3 := grownCap_ge _ _ _ _
    have hG63 : grownCap (w.drewN q) (i + (m + r)) cap 3 ≤ 9223372036854775807 := by
      have := grownCap_le_maxLen (w.drewN q) (i + (m + r)) cap 3 (by unfold maxLen; omega)
      unfold maxLen at this
      omega
    rw [← Nat.add_assoc] at h hGn hG63
    rw [show (i : Int) + (m : Int) + (r : Int) - (i : Int) = ((m + r : Nat) : Int) by omega]
    refine ⟨_, ((cur.take i).toArray ++ Builtin.zeroCells (Value.int .i64 0).cells (m + r) ++ Builtin.zeroCells (Value.int .i64 0).cells (grownCap (w.drewN q) (i + m + r) cap 3 - (i + m + r))).toList, ?_, ?_, ?_, hGn, hG63⟩
    · rw [Array.toArray_toList]; exact h
    · simp [Builtin.zeroCells, Value.cells]; omega
    · have h2 : (cur.take i).length = i := by rw [List.length_take]; omega
      simp only [Array.toList_append, List.append_assoc]
      rw [List.take_left' h2]
  have HX := hid_ hX
  have HV := hid_ hV
  have Hmin2 : Hid (V.length = Nat.min m (i + m + r - i)) := hid_ (by rw [HV.out]; simp only [Nat.min_def]; split <;> omega)
  have Hmin : Hid (X.length = Nat.min r (i + m + r - (i + m))) := hid_ (by rw [HX.out]; simp only [Nat.min_def]; split <;> omega)
  have hXw : ∀ w', Below w.heap.size w w' → ∀ k u, X[k]? = some u → w'.cell? ((⟨g, j, none⟩ : Addr).add k) = some u := fun w' hw' => hXc w' (by rw [hw'.block g hg2]; exact hg3)
  have hVw : ∀ w', Below w.heap.size w w' → ∃ ad, A = some ad ∧ ∀ k u, V[k]? = some u → w'.cell? (ad.add k) = some u := fun w' hw' => hVc w' (hw'.mono hB) hm0
  have HXw := hid_ hXw
  have HVw := hid_ hVw
  have HR := hid_ hR
  have Hrz := hid_ hrz
  have hw9 : IntKind.i64.wrap ((i : Int) + (m : Int) + (r : Int) - (i : Int)) = (i : Int) + m + r - i := IntWalk.i64_in _ (by omega)
  clear hXc hVc hR hv hVe hX hV HH hne hXw hVw hold hrz
  go_enter Try.func180, Try.ntmps180
  go_wp2
  go_quiet (fail)
  obtain ⟨G, ROW, hrun, hRl, hRt, hGn, hG63⟩ := Hrz.out nq 3
  obtain ⟨W1, hW1⟩ : ∃ W1, W1 = (w.drewN nq).drew.alloc (.cells ROW.toArray 3) := ⟨_, rfl⟩
  rw [← hW1] at hrun
  have HW1 : Hid (W1.heap[w.heap.size]? = some (.cells ROW.toArray 3 (0, 0)) ∧ Below w.heap.size w W1) := hid_ (by
    rw [hW1]
    refine ⟨?_, ?_⟩
    · show (w.heap.push _)[w.heap.size]? = _
      simp
    · exact (Below.drew (below_drewN (Below.refl _ w) _)).alloc (Nat.le_refl _) _)
  have hc2 : ¬ G = i + m := by omega
  have hc4 : ¬ G = i := by omega
  have HRl := hid_ hRl
  have HRt := hid_ hRt
  have Hfit2 : Hid (i + V.length ≤ ROW.length) := hid_ (by rw [HRl.out, HV.out]; omega)
  have Hl2 : Hid ((splice ROW i V).length = G) := hid_ (by rw [length_splice _ _ _ Hfit2.out, HRl.out])
  have Hfit : Hid (i + m + X.length ≤ (splice ROW i V).length) := hid_ (by rw [HX.out, Hl2.out]; omega)
  have hVw1 := HVw.out W1 HW1.out.2
  have HWe := hid_ hW1
  clear hW1 hRl hRt
  go_wp2_with (first
    | (at_builtin; refine Lib.wpList_append_run _ rfl (.tmp 63) (.tmp 66) _ _ rfl _ _ rfl rfl _ _ hrun ?_)
    | (refine wpList_copy_splice rfl (.tmp 70) (.tmp 71) 22 22 rfl 3 Try.underlying22 Try.oneInt _ _ _ _ _ _ rfl rfl w.heap.size i ROW 3 HW1.out.1 V Hmin2.out (fun _ => ⟨rfl, hVw1⟩) Hfit2.out hV1 w.heap.size w HW1.out.2 (Nat.le_refl _) ?_; intro w2 hh2 hb2))
  have hXd := HXw.out w2.drew (Below.drew hb2)
  have Hd : Hid (Below w.heap.size w w2.drew) := hid_ (Below.drew hb2)
  go_region_law (refine step_copy_splice rfl (.tmp 78) (.tmp 81) 22 22 rfl 3 Try.underlying22 Try.oneInt (some ⟨w.heap.size, i + m, none⟩) (some ⟨g, j, none⟩) (i + m + r - (i + m)) (G - (i + m)) r (cap - j) (by simp [Act.eval, Act.put]) (by simp [Act.eval, Act.put]) w.heap.size (i + m) (splice ROW i V) 3 hh2.out X Hmin.out (fun _ => ⟨rfl, _, rfl, hXd⟩) Hfit.out hX1 w.heap.size w Hd.out (Nat.le_refl _) ?_; intro w3 hh3 hb3)
  go_wp2
  go_ret
  refine ⟨_, rfl, own_close hB hh3.out (by rw [length_splice _ _ _ Hfit.out, Hl2.out]) hGn hG63 ?_, grown_of_below hb3 _, .inr ⟨_, rfl, Nat.le_refl _⟩⟩
  rw [← HR.out, ← HRt.out]
  exact splice_in' ROW X V HX.out HV.out (by rw [HRl.out]; omega)

theorem OwnPost.at_ {B n n' : Nat} {l l' : List Int} {row : Option Nat} {w w' : World} {e : Ending} (h : OwnPost B n l row w e w') (hn : n = n') (hl : l = l') : OwnPost B n' l' row w e w' := by subst hn; subst hl; exact h
set_option maxRecDepth 100000 in
/-- slices.Replace of what stands from i to j in an own row -/
theorem replace_calls {B n i j m c : Nat} {v : Value} {l : List Int} {w : World} {A : Option Addr} {vs : List Int} (hown : w.ownsRow B 3 1 v n (l.map (Value.int .i64))) (hB : B ≤ w.heap.size) (hij : i ≤ j) (hj : j ≤ n)
    (hv : IntsAt w A m c vs) (hne : 0 < m → ∀ b off, A = some ⟨b, off, none⟩ → b < B) (hs : n + m ≤ 100000) :
    Calls Try.prog 180 #[v, .int .i64 i, .int .i64 j, .slice A m c] w fun e w' => OwnPost B (n - (j - i) + m) (putL l i j vs) v.ownBlock w e w' := by
  by_cases he : i = j
  · subst he
    have Hin := hid_ (insert_calls hown hB hj hv hne hs)
    have hii : ((i : Int) == (i : Int)) = true := by simp
    rcases own_open hown with ⟨rfl, rfl, h0⟩ | ⟨g, cap, cur, rfl, hg1, hg2, hg3, hcl, hnc, hcm, hct⟩
    · obtain rfl : i = 0 := by omega
      clear hown
      go_enter Try.func180, Try.ntmps180
      go_wp2_with (go_at_call 199; refine (Hin.out).mono ?_; rintro e w' ⟨v', rfl, hw'⟩)
      go_ret
      exact OwnPost.at_ ⟨_, rfl, hw'⟩ (by omega) rfl
    · have hic : (i : Int) ≤ (cap : Int) := by omega
      clear hown hg3 hct
      by_cases hci : cap = i
      all_goals
        try subst hci
        go_enter Try.func180, Try.ntmps180
        go_wp2_with (go_at_call 199; refine (Hin.out).mono ?_; rintro e w' ⟨v', rfl, hw'⟩)
        go_ret
        exact OwnPost.at_ ⟨_, rfl, hw'⟩ (by omega) rfl
  · rcases own_open hown with ⟨rfl, rfl, h0⟩ | ⟨g, cap, cur, rfl, hg1, hg2, hg3, hcl, hnc, hcm, hct⟩
    · omega
    · obtain ⟨r, rfl⟩ : ∃ r, n = j + r := ⟨n - j, by omega⟩
      obtain ⟨X, V, H⟩ := repAt (i := i) hg1 hg2 hg3 hcl hnc hcm hct hB (by omega) hv hne (by omega)
      by_cases hr : r = 0
      · subst hr
        exact (replaceA_calls H).mono fun e w' h => h.at_ (by omega) rfl
      · by_cases htot : cap < i + m + r
        · exact (replaceB_calls H (by omega) htot).mono fun e w' h => h.at_ (by omega) rfl
        · by_cases hle : i + m ≤ j
          · exact (replaceC_calls H (by omega) hle).mono fun e w' h => h.at_ (by omega) rfl
          · exact (replaceD_calls H (by omega) (by omega) (by omega)).mono fun e w' h => h.at_ (by omega) rfl
end Go.Proofs.Ytnpdhmejnoplcaa
