import Derived.Test.YtnpdhmejnoplcaaIn
import Derived.Test.YtnpdhmejnoplcaaRx
namespace Go.Proofs.Ytnpdhmejnoplcaa
open Go.RowKit Go.Proofs.Kv

/-! ### slices.Replace in an own row -/
theorem Try.zeroInt : ∀ w, (zeroValue 3).run Try.prog w = .ok (.int .i64 0) w := fun w => by kernel_rfl
/-- what is known of an own row, of what is put in and of what stands behind -/
structure RepAt (w : World) (B g cap i j r m : Nat) (A : Option Addr) (c : Nat) (cur X V : List Value) (l vs : List Int) : Prop where
  hg1 : B ≤ g
  hg2 : g < w.heap.size
  hg3 : w.heap[g]? = some (.cells cur.toArray 3 (0, 0))
  hcl : cur.length = cap
  hnc : j + r ≤ cap
  hcm : cap ≤ 9223372036854775807
  hij : i < j
  hs : j + r + m ≤ 100000
  hB : B ≤ w.heap.size
  hX : X.length = r
  hV : V.length = m
  hX1 : ∀ v ∈ X, v.oneCell' = true
  hV1 : ∀ v ∈ V, v.oneCell' = true
  hXc : ∀ w' : World, w'.heap[g]? = some (.cells cur.toArray 3 (0, 0)) → ∀ k u, X[k]? = some u → w'.cell? ((⟨g, j, none⟩ : Addr).add k) = some u
  hVc : ∀ w', Below B w w' → 0 < m → ∃ ad, A = some ad ∧ ∀ k u, V[k]? = some u → w'.cell? (ad.add k) = some u
  hR : cur.take i ++ V ++ X = (putL l i j vs).map (Value.int .i64)
  hv : IntsAt w A m c vs
  hne : 0 < m → ∀ b off, A = some ⟨b, off, none⟩ → b < B
  hVe : V = vs.map (Value.int .i64)
theorem repAt {B i j r m c g cap : Nat} {cur : List Value} {l : List Int} {w : World} {A : Option Addr} {vs : List Int}
    (hg1 : B ≤ g) (hg2 : g < w.heap.size) (hg3 : w.heap[g]? = some (.cells cur.toArray 3 (0, 0))) (hcl : cur.length = cap) (hnc : j + r ≤ cap) (hcm : cap ≤ 9223372036854775807) (hct : cur.take (j + r) = l.map (Value.int .i64))
    (hB : B ≤ w.heap.size) (hij : i < j) (hv : IntsAt w A m c vs) (hne : 0 < m → ∀ b off, A = some ⟨b, off, none⟩ → b < B) (hs : j + r + m ≤ 100000) :
    ∃ X V, RepAt w B g cap i j r m A c cur X V l vs := by
  have hl : l.length = j + r := by have := congrArg List.length hct; simp at this; omega
  have hX : ((l.drop j).map (Value.int .i64)).length = r := by rw [List.length_map, List.length_drop]; omega
  have hV : (vs.map (Value.int .i64)).length = m := by rw [List.length_map, hv.len]
  refine ⟨(l.drop j).map (Value.int .i64), vs.map (Value.int .i64), ⟨hg1, hg2, hg3, hcl, hnc, hcm, hij, hs, hB, hX, hV, ints_one _, ints_one _, ?_, ?_, ?_, hv, hne, rfl⟩⟩
  · intro w' hw' k u hk
    have hkl : k < r := by
      rcases Nat.lt_or_ge k r with h | h
      · exact h
      · rw [List.getElem?_eq_none (by omega)] at hk; cases hk
    rw [add_at, row_cell hw', ← hk, List.map_drop, ← hct, List.getElem?_drop, List.getElem?_take, if_pos (by omega)]
  · intro w' hw' hm0
    obtain ⟨b, off, rfl, hb, _⟩ := hv.cells 0 hm0
    have hlt := hne hm0 b off rfl
    exact ⟨_, rfl, (hv.keep fun b' off' e => by injection e with e; injection e with e1 _; subst e1; exact hw'.block _ hlt).cellsIn⟩
  · rw [putL, List.map_append, List.map_append]
    congr 2
    rw [List.map_take, ← hct, List.take_take, Nat.min_eq_left (by omega)]

set_option maxRecDepth 100000 in
set_option maxHeartbeats 2000000 in
/-- what is put in comes to the end -/
theorem replaceA_calls {B i j m c g cap : Nat} {cur X V : List Value} {l vs : List Int} {w : World} {A : Option Addr} (H : RepAt w B g cap i j 0 m A c cur X V l vs) :
    Calls Try.prog 180 #[.slice (some ⟨g, 0, none⟩) j cap, .int .i64 i, .int .i64 j, .slice A m c] w fun e w' => OwnPost B (i + m) (putL l i j vs) (some g) w e w' := by
  obtain ⟨i0, hi0, hz0, hz1, hz2⟩ := info_parts Try.infoInt
  have HH := hid_ H
  obtain ⟨hg1, hg2, hg3, hcl, hnc, hcm, hij, hs, hB, hX, hV, hX1, hV1, hXc, hVc, hR, hv, hne, hVe⟩ := H
  have hij0 : ((i : Int) == (j : Int)) = false := by simp; omega
  have hij1 : (i : Int) ≤ (j : Int) := by omega
  have hij2 : (j : Int) ≤ (cap : Int) := by omega
  have hij3 : (i : Int) ≤ (cap : Int) := by omega
  have hci : ¬ cap = i := by omega
  have hR' : Hid (cur.take i ++ V = (putL l i j vs).map (Value.int .i64)) := hid_ (by
    have := hR
    rwa [List.eq_nil_of_length_eq_zero hX, List.append_nil] at this)
  by_cases hlt : i + m < j
  · have hroom : ∀ ty, (Builtin.append_ #[22, 22] ty #[.slice (some ⟨g, 0, none⟩) i cap, .slice A m c]).run Try.prog w = .ok (.slice (some ⟨g, 0, none⟩) (i + m) cap) (w.setCells g i V) := fun ty => by
      have h := run_append_room_src (P := Try.prog) (w := w) 22 22 ty 3 i0 Try.underlying22 hi0 g 0 i cap (.slice A m c) m (vs.map (Value.int .i64)) (by rw [hz1]; exact src_ints Try.underlying22 hv) (by omega)
        (fun k hk => by rw [hz1, Nat.zero_add, Nat.mul_one, row_cell hg3, List.getElem?_eq_getElem (by rw [← hVe, hV] at hk; omega)]; rfl) (fun k hk => row_free hg3 _)
      rw [hz1, Nat.zero_add, Nat.mul_one, ← hVe] at h
      exact h
    have hownN := own_close (n := j) (xs := cur.take j) hg1 hg3 hcl (by omega) hcm rfl
    obtain ⟨hown1, -⟩ := own_setCells_at V i hownN (by rw [List.length_take, hV]; omega)
    obtain ⟨W1, hW1⟩ : ∃ W1, W1 = w.setCells g i V := ⟨_, rfl⟩
    have hbel1 : w.grownBy W1 (some g) := by rw [hW1]; exact grown_setCells _ _ (grown_refl _ _)
    rw [← hW1] at hroom hown1
    have hclear : ∀ ty, (Builtin.clear_ #[22] ty #[.slice (some ⟨g, i + m, none⟩) (j - (i + m)) (cap - (i + m))]).run Try.prog W1 = .ok (.tuple #[]) (W1.setCells g (i + m) (List.replicate (j - (i + m)) (.int .i64 0))) := fun ty =>
      Lib.run_clear_slice W1 _ _ ty _ Try.underlying22 Try.zeroInt rfl rfl g (i + m) (j - (i + m)) (cap - (i + m)) (by omega)
        (fun k hk => by
          rw [hown1.cellAt (i + m + k) (by omega), List.getElem?_eq_getElem (by have := hown1.1; omega)]; rfl) (fun k _ => hown1.frozenAt _)
    have Hfin : Hid ((W1.setCells g (i + m) (List.replicate (j - (i + m)) (.int .i64 0))).ownsRow B 3 1 (.slice (some ⟨g, 0, none⟩) (i + m) cap) (i + m) ((putL l i j vs).map (Value.int .i64)) ∧ w.grownBy (W1.setCells g (i + m) (List.replicate (j - (i + m)) (.int .i64 0))) (some g)) := hid_ (by
      refine ⟨?_, grown_setCells _ _ hbel1⟩
      have hlen := hown1.1
      obtain ⟨h1, -⟩ := own_setCells_at (List.replicate (j - (i + m)) (.int .i64 0)) (i + m) hown1 (by rw [List.length_replicate]; omega)
      have h2 := own_cut h1 (show i + m ≤ j by omega)
      have e : ∀ (Q Z : List Value), Q.length = j → (Q.take (i + m) ++ Z ++ Q.drop (i + m + Z.length)).take ((i + m) * 1) = Q.take (i + m) := fun Q Z hQ => by
        rw [List.append_assoc, Nat.mul_one, List.take_left' (by rw [List.length_take]; omega)]
      rw [e _ _ (by rw [hlen, Nat.mul_one])] at h2
      rw [← hR'.out]
      have e2 : ((cur.take j).take i ++ V ++ (cur.take j).drop (i + V.length)).take (i + m) = cur.take i ++ V := by
        rw [List.take_left' (by rw [List.length_append, List.length_take, List.length_take]; omega), List.take_take, Nat.min_eq_left (by omega)]
      rw [e2] at h2
      exact h2)
    have hlt1 : decide (((i + m : Nat) : Int) < (j : Int)) = true := by simp; omega
    have hlt2 : decide ((i : Int) + m < (j : Int)) = true := by simp; omega
    have hlt3 : (i : Int) + m ≤ (j : Int) := by omega
    have hlt4 : i + m < j := hlt
    have hcim : ¬ cap = i + m := by omega
    have hw0 : (0 : Int) ≤ (i : Int) + m := by omega
    have hw1 : ((i : Int) + m).toNat = i + m := by omega
    have hroom := hroom
    have Hown1 := hid_ hown1
    have HW := hid_ hW1
    clear hown1 hownN hW1 hbel1 hR hXc hVc hv hVe hX hV hg3 HH
    go_enter Try.func180, Try.ntmps180
    go_wp2_with (at_builtin; refine Lib.wpList_append_run _ rfl (.tmp 32) (.tmp 33) _ _ rfl _ _ rfl rfl _ _ (hroom _) ?_)
    go_ret
    exact ⟨_, rfl, Hfin.out.1, Hfin.out.2, .inl rfl⟩
  · have hownN := own_close (n := i) (xs := (l.take i).map (Value.int .i64)) hg1 hg3 hcl (by omega) hcm (by
      have h := congrArg (List.take i) hR'.out
      rw [List.take_left' (by rw [List.length_take]; omega)] at h
      rw [h, ← List.map_take, putL, List.append_assoc, List.take_append_of_le_length]
      · rw [List.take_take, Nat.min_self]
      · rw [List.length_take]
        have h1 := congrArg List.length hR'.out
        rw [List.length_append, List.length_take, List.length_map, putL, List.length_append, List.length_append, List.length_take, List.length_drop, hV, hv.len] at h1
        omega)
    have Hown := hid_ hownN
    have Hput : Hid (l.take i ++ vs = putL l i j vs) := hid_ (by
      have h1 := congrArg List.length hR'.out
      rw [List.length_append, List.length_take, List.length_map, putL, List.length_append, List.length_append, List.length_take, List.length_drop, hV, hv.len] at h1
      rw [putL, List.drop_of_length_le (by omega), List.append_nil])
    have hlt1 : decide (((i + m : Nat) : Int) < (j : Int)) = false := by simp; omega
    have hlt2 : decide ((i : Int) + m < (j : Int)) = false := by simp; omega
    have hlt4 : ¬ i + m < j := hlt
    clear hownN hR hXc hVc hVe hX hV hg3 HH
    go_enter Try.func180, Try.ntmps180
    go_wp2_with (at_builtin; refine wpList_append_ints _ rfl (.tmp 32) (.tmp 33) _ rfl B 3 i0 Try.underlying22 hi0 hz0 hz1 hz2 _ _ _ rfl Hown.out _ _ _ _ rfl hv (by omega) hB ?_; intro v' w1 hown1 hg1' hat1; obtain ⟨a9, c9, rfl, -⟩ := IntsAt.own hown1)
    go_ret
    rw [Hput.out] at hown1
    exact ⟨_, rfl, hown1, hg1', hat1.imp id fun h => ⟨_, h, Nat.le_refl _⟩⟩

set_option maxRecDepth 100000 in
set_option maxHeartbeats 2000000 in
/-- there is room, and what is put in is no longer than what goes -/
theorem replaceC_calls {B i j r m c g cap : Nat} {cur X V : List Value} {l vs : List Int} {w : World} {A : Option Addr} (H : RepAt w B g cap i j r m A c cur X V l vs) (hr : 0 < r) (hroom : i + m ≤ j) :
    Calls Try.prog 180 #[.slice (some ⟨g, 0, none⟩) (j + r) cap, .int .i64 i, .int .i64 j, .slice A m c] w fun e w' => OwnPost B (i + m + r) (putL l i j vs) (some g) w e w' := by
  have HH := hid_ H
  obtain ⟨hg1, hg2, hg3, hcl, hnc, hcm, hij, hs, hB, hX, hV, hX1, hV1, hXc, hVc, hR, hv, hne, hVe⟩ := H
  have hij0 : ((i : Int) == (j : Int)) = false := by simp; omega
  have hij1 : (i : Int) ≤ (j : Int) := by omega
  have hij2 : (j : Int) ≤ (cap : Int) := by omega
  have hij3 : (i : Int) ≤ (cap : Int) := by omega
  have hij4 : (j : Int) ≤ ((j + r : Nat) : Int) := by omega
  have hij5 : (j : Int) ≤ (j : Int) + r := by omega
  have hjn : ((j : Int) == ((j + r : Nat) : Int)) = false := by simp; omega
  have hjn2 : ((j : Int) == (j : Int) + r) = false := by simp; omega
  have hci : ¬ cap = i := by omega
  have hcj : ¬ cap = j := by omega
  have hsub : j + r - j = r := by omega
  have hw1 : IntKind.i64.wrap ((i : Int) + (m : Int)) = (i : Int) + m := IntWalk.i64_in _ (by omega)
  have hw2 : IntKind.i64.wrap ((i : Int) + (m : Int) + (r : Int)) = (i : Int) + m + r := IntWalk.i64_in _ (by omega)
  have hw3 : ((i : Int) + (m : Int)).toNat = i + m := by omega
  have hw4 : ((i : Int) + (m : Int) + r).toNat = i + m + r := by omega
  have hw5 : (0 : Int) ≤ (i : Int) + m := by omega
  have hw6 : (0 : Int) ≤ (i : Int) + m + r := by omega
  have hw7 : (i : Int) + m ≤ (i : Int) + m + r := by omega
  have hw8 : (i : Int) ≤ (i : Int) + m + r := by omega
  have hcc : decide ((cap : Int) < (i : Int) + m + r) = false := by simp; omega
  have hc1 : (i : Int) + m + r ≤ (cap : Int) := by omega
  have hc2 : (i : Int) + m ≤ (j : Int) := by omega
  have hcim : ¬ cap = i + m := by omega
  have HX := hid_ hX
  have HV := hid_ hV
  have Hmin2 : Hid (V.length = Nat.min m (i + m + r - i)) := hid_ (by rw [HV.out]; simp only [Nat.min_def]; split <;> omega)
  have Hfit2 : Hid (i + V.length ≤ cur.length) := hid_ (by rw [hcl, HV.out]; omega)
  have Hl2 : Hid ((splice cur i V).length = cap) := hid_ (by rw [length_splice _ _ _ Hfit2.out, hcl])
  have Hmin : Hid (X.length = Nat.min r (i + m + r - (i + m))) := hid_ (by rw [HX.out]; simp only [Nat.min_def]; split <;> omega)
  have Hfit : Hid (i + m + X.length ≤ (splice cur i V).length) := hid_ (by rw [HX.out, Hl2.out]; omega)
  have Hl3 : Hid ((splice (splice cur i V) (i + m) X).length = cap) := hid_ (by rw [length_splice _ _ _ Hfit.out, Hl2.out])
  have Hsp : Hid ((splice (splice cur i V) (i + m) X).take (i + m + r) = (putL l i j vs).map (Value.int .i64)) := hid_ (by
    rw [← hR]
    exact splice_in' cur X V HX.out HV.out (by omega))
  have HVc := hid_ (fun h0 => hVc w (Below.refl _ _) h0)
  have HXs : Hid (∀ w' : World, w'.heap[g]? = some (.cells (splice cur i V).toArray 3 (0, 0)) → ∀ k u, X[k]? = some u → w'.cell? ((⟨g, j, none⟩ : Addr).add k) = some u) := hid_ (by
    intro w' hw' k u hk
    have h1 := hXc w hg3 k u hk
    rw [add_at, row_cell hg3] at h1
    rw [add_at, row_cell hw', ← h1, splice]
    rw [← List.append_assoc, List.getElem?_append_right (by rw [List.length_append, List.length_take]; omega), List.getElem?_drop]
    congr 1
    rw [List.length_append, List.length_take, HV.out]
    omega)
  clear hXc hVc hR hv hVe hX hV HH hne
  by_cases htot : i + m = j
  · subst htot
    have hlt0 : i + m + r - (i + m + r) = 0 := by omega
    have hce : ∀ W a c', (Builtin.clear_ #[22] 0 #[.slice (some a) 0 c']).run Try.prog W = .ok (.tuple #[]) W := fun W a c' => by simp [Builtin.clear_, run_underlying Try.underlying22]
    by_cases hct : cap = i + m + r
    · subst hct
      have hr0 : ¬ r = 0 := by omega
      go_enter Try.func180, Try.ntmps180
      go_wp2
      go_quiet (fail)
      go_wp2_with (refine wpList_copy_row rfl (.tmp 95) (.tmp 96) 22 22 rfl 3 Try.underlying22 Try.oneInt _ _ _ _ _ _ rfl rfl g i cur 3 hg3 V Hmin2.out (fun h0 => ⟨rfl, HVc.out (by rw [← HV.out]; exact h0)⟩) Hfit2.out hV1 w (grown_drewN (grown_refl _ _) _) ?_; intro w2 hh2 hb2)
      have hXd := HXs.out w2.drew hh2.out
      have Hd : Hid (w.grownBy w2.drew (some g)) := hid_ (grown_drew hb2)
      go_region_law (refine step_copy_row rfl (.tmp 103) (.tmp 106) 22 22 rfl 3 Try.underlying22 Try.oneInt (some ⟨g, i + m, none⟩) (some ⟨g, i + m, none⟩) (i + m + r - (i + m)) ((i + m + r) - (i + m)) r ((i + m + r) - (i + m)) (by simp [Act.eval, Act.put]) (by simp [Act.eval, Act.put]) g (i + m) (splice cur i V) 3 hh2.out X Hmin.out (fun _ => ⟨rfl, _, rfl, hXd⟩) Hfit.out hX1 w Hd.out ?_; intro w3 hh3 hb3)
      go_wp2
      go_ret
      exact ⟨_, rfl, own_close hg1 hh3.out Hl3.out hnc hcm Hsp.out, hb3, .inl rfl⟩
    ·
      go_enter Try.func180, Try.ntmps180
      go_wp2
      go_quiet (fail)
      go_wp2_with (refine wpList_copy_row rfl (.tmp 95) (.tmp 96) 22 22 rfl 3 Try.underlying22 Try.oneInt _ _ _ _ _ _ rfl rfl g i cur 3 hg3 V Hmin2.out (fun h0 => ⟨rfl, HVc.out (by rw [← HV.out]; exact h0)⟩) Hfit2.out hV1 w (grown_drewN (grown_refl _ _) _) ?_; intro w2 hh2 hb2)
      have hXd := HXs.out w2.drew hh2.out
      have Hd : Hid (w.grownBy w2.drew (some g)) := hid_ (grown_drew hb2)
      go_region_law (refine step_copy_row rfl (.tmp 103) (.tmp 106) 22 22 rfl 3 Try.underlying22 Try.oneInt (some ⟨g, i + m, none⟩) (some ⟨g, i + m, none⟩) (i + m + r - (i + m)) (cap - (i + m)) r (cap - (i + m)) (by simp [Act.eval, Act.put]) (by simp [Act.eval, Act.put]) g (i + m) (splice cur i V) 3 hh2.out X Hmin.out (fun _ => ⟨rfl, _, rfl, hXd⟩) Hfit.out hX1 w Hd.out ?_; intro w3 hh3 hb3)
      go_wp2
      go_ret
      exact ⟨_, rfl, own_close hg1 hh3.out Hl3.out hnc hcm Hsp.out, hb3, .inl rfl⟩
  · have hct : ¬ cap = i + m + r := by omega
    have hk1 : i + m + r ≤ j + r := by omega
    have hk2 : (i : Int) + m + r ≤ ((j + r : Nat) : Int) := by omega
    have hk3 : (i : Int) + m + r ≤ (j : Int) + r := by omega
    have hk4 : 0 < j + r - (i + m + r) := by omega
    have hk5 : (i : Int) + m ≤ (j : Int) := by omega
    go_enter Try.func180, Try.ntmps180
    go_wp2
    go_quiet (fail)
    go_wp2_with (refine wpList_copy_row rfl (.tmp 95) (.tmp 96) 22 22 rfl 3 Try.underlying22 Try.oneInt _ _ _ _ _ _ rfl rfl g i cur 3 hg3 V Hmin2.out (fun h0 => ⟨rfl, HVc.out (by rw [← HV.out]; exact h0)⟩) Hfit2.out hV1 w (grown_drewN (grown_refl _ _) _) ?_; intro w2 hh2 hb2)
    have hXd := HXs.out w2.drew hh2.out
    have Hd : Hid (w.grownBy w2.drew (some g)) := hid_ (grown_drew hb2)
    go_region_law (refine step_copy_row rfl (.tmp 103) (.tmp 106) 22 22 rfl 3 Try.underlying22 Try.oneInt (some ⟨g, i + m, none⟩) (some ⟨g, j, none⟩) (i + m + r - (i + m)) (cap - (i + m)) r (cap - (j)) (by simp [Act.eval, Act.put]) (by simp [Act.eval, Act.put]) g (i + m) (splice cur i V) 3 hh2.out X Hmin.out (fun _ => ⟨rfl, _, rfl, hXd⟩) Hfit.out hX1 w Hd.out ?_; intro w3 hh3 hb3)
    have hownN := own_close (n := j + r) hg1 hh3.out Hl3.out hnc hcm rfl
    have hclear : ∀ ty, (Builtin.clear_ #[22] ty #[.slice (some ⟨g, i + m + r, none⟩) (j + r - (i + m + r)) (cap - (i + m + r))]).run Try.prog w3 = .ok (.tuple #[]) (w3.setCells g (i + m + r) (List.replicate (j + r - (i + m + r)) (.int .i64 0))) := fun ty =>
      Lib.run_clear_slice w3 _ _ ty _ Try.underlying22 Try.zeroInt rfl rfl g (i + m + r) (j + r - (i + m + r)) (cap - (i + m + r)) hk4
        (fun k hk => by
          rw [hownN.cellAt (i + m + r + k) (by omega), List.getElem?_eq_getElem (by have := hownN.1; omega)]; rfl) (fun k _ => hownN.frozenAt _)
    have Hfin : Hid ((w3.setCells g (i + m + r) (List.replicate (j + r - (i + m + r)) (.int .i64 0))).ownsRow B 3 1 (.slice (some ⟨g, 0, none⟩) (i + m + r) cap) (i + m + r) ((putL l i j vs).map (Value.int .i64)) ∧ w.grownBy (w3.setCells g (i + m + r) (List.replicate (j + r - (i + m + r)) (.int .i64 0))) (some g)) := hid_ (by
      refine ⟨?_, grown_setCells _ _ hb3⟩
      have hlen := hownN.1
      obtain ⟨h1, -⟩ := own_setCells_at (List.replicate (j + r - (i + m + r)) (.int .i64 0)) (i + m + r) hownN (by rw [List.length_replicate]; omega)
      have h2 := own_cut h1 (show i + m + r ≤ j + r by omega)
      have e : ∀ (Q Z : List Value), Q.length = j + r → (Q.take (i + m + r) ++ Z ++ Q.drop (i + m + r + Z.length)).take ((i + m + r) * 1) = Q.take (i + m + r) := fun Q Z hQ => by
        rw [List.append_assoc, Nat.mul_one, List.take_left' (by rw [List.length_take]; omega)]
      rw [e _ _ (by rw [hlen, Nat.mul_one]), List.take_take, Nat.min_eq_left (by omega), Hsp.out] at h2
      exact h2)
    have HownN := hid_ hownN; clear hownN
    go_wp2
    go_ret
    exact ⟨_, rfl, Hfin.out.1, Hfin.out.2, .inl rfl⟩
end Go.Proofs.Ytnpdhmejnoplcaa
