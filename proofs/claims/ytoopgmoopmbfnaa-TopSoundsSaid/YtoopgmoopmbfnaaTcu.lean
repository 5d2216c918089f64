import Derived.Test.YtoopgmoopmbfnaaTcm
namespace Go.Proofs.Kv
open Go.RowKit
/-- a list of lists that the call owns, all of whose memory lies from block B on -/
def OwnLN (E : TypeId) (w : World) (B : Nat) (v : Value) (L : List (List Int)) : Prop :=
  ∃ vs, w.ownsRow B E 1 v L.length vs ∧ ∀ i, i < L.length → ∃ a n c, vs[i]? = some (.slice a n c) ∧ IntsAt w a n c (L.getD i []) ∧ ∀ b off, 0 < n → a = some ⟨b, off, none⟩ → v.ownBlock ≠ some b ∧ B ≤ b
theorem OwnLN.ownL {E : TypeId} {w : World} {B : Nat} {v : Value} {L : List (List Int)} (h : OwnLN E w B v L) : OwnL E w B v L := by
  obtain ⟨vs, h1, h2⟩ := h
  exact ⟨vs, h1, fun i hi => by obtain ⟨a, n, c, e, hI, hd⟩ := h2 i hi; exact ⟨a, n, c, e, hI, fun b off hn ha => (hd b off hn ha).1⟩⟩
theorem OwnLN.nil (E : TypeId) (w : World) (B : Nat) : OwnLN E w B (.slice none 0 0) [] := ⟨[], World.ownsRow_nil _ _ _ _, fun i h => absurd h (by simp)⟩
/-- a change of a block before B changes nothing of it -/
theorem OwnLN.grown {E : TypeId} {w w' : World} {B b0 : Nat} {v : Value} {L : List (List Int)} (h : OwnLN E w B v L) (hg : w.grownBy w' (some b0)) (hb : b0 < B) : OwnLN E w' B v L := by
  obtain ⟨vs, h1, h2⟩ := h
  refine ⟨vs, h1.kept hg ?_, fun i hi => ?_⟩
  · rcases hv : v.ownBlock with _ | k
    · exact .inl rfl
    · exact .inr fun e => by injection e with e; have := (h1.lt k hv).1; omega
  · obtain ⟨a, n, c, e, hI, hd⟩ := h2 i hi
    refine ⟨a, n, c, e, ?_, hd⟩
    rcases Nat.eq_zero_or_pos n with hz | hn
    · subst hz
      exact ⟨hI.len, hI.le, hI.small, fun j hj => absurd hj (by omega)⟩
    · refine hI.keep fun b off ha => ?_
      obtain ⟨b', off', ha', hlt, _⟩ := hI.cells 0 hn
      rw [ha] at ha'; injection ha' with ha'; injection ha' with ha' _
      subst ha'
      have := (hd _ _ hn ha).2
      exact hg.block _ hlt (by simp; omega)
theorem ownLN_push {E E1 : TypeId} {w w2 : World} {B : Nat} {v v2 : Value} {L : List (List Int)} {vs : List Value} {r : List Int} {g m cap Bq : Nat}
    (hvl : vs.length = L.length) (hel : ∀ i, i < L.length → ∃ a n c, vs[i]? = some (.slice a n c) ∧ IntsAt w a n c (L.getD i []) ∧ ∀ b off, 0 < n → a = some ⟨b, off, none⟩ → v.ownBlock ≠ some b ∧ B ≤ b)
    (hvb : ∀ k, v.ownBlock = some k → k < Bq) (hrow : w.ownsRow Bq E1 1 (.slice (some ⟨g, 0, none⟩) m cap) m (r.map (Value.int .i64))) (hBq : B ≤ Bq)
    {E' : TypeId} (hown2 : w2.ownsRow B E 1 v2 (L.length + 1) (vs ++ [.slice (some ⟨g, 0, none⟩) m cap])) (hg2 : (w.alloc (.cells #[.slice (some ⟨g, 0, none⟩) m cap] E')).grownBy w2 v.ownBlock) (hat : v2.ownBlock = v.ownBlock ∨ v2.ownBlock = some (w.heap.size + 1)) :
    OwnLN E w2 B v2 (L ++ [r]) := by
  obtain ⟨k1, k2⟩ := hrow.lt g rfl
  have hvg : v.ownBlock ≠ some g := fun e => by have := hvb g e; omega
  refine ⟨_, by simpa using hown2, fun i hi => ?_⟩
  rw [List.length_append, List.length_singleton] at hi
  rw [getD_app]
  by_cases hl : i < L.length
  · obtain ⟨a, n, c, e, hI, hd⟩ := hel i hl
    have hI1 := hI.below ((Below.refl w.heap.size w).alloc (Nat.le_refl _) (.cells #[.slice (some ⟨g, 0, none⟩) m cap] E')) (Nat.le_refl _)
    refine ⟨a, n, c, by rw [List.getElem?_append_left (by omega)]; exact e, ?_, fun b off hn ha => ?_⟩
    · rw [if_pos hl]
      rcases Nat.eq_zero_or_pos n with hz | hn
      · subst hz
        exact ⟨hI.len, hI.le, hI.small, fun j hj => absurd hj (by omega)⟩
      · refine hI1.keep fun b off ha => ?_
        obtain ⟨b', off', ha', hlt, _⟩ := hI1.cells 0 hn
        rw [ha] at ha'; injection ha' with ha'; injection ha' with ha' _
        subst ha'
        exact hg2.block _ hlt fun e => (hd _ _ hn ha).1 e.symm
    · obtain ⟨d1, d2⟩ := hd b off hn ha
      refine ⟨fun e => ?_, d2⟩
      rcases hat with q | q
      · exact d1 (by rw [← q]; exact e)
      · rw [e] at q; injection q with q
        obtain ⟨b', off', ha', hlt, _⟩ := hI.cells 0 hn
        rw [ha] at ha'; injection ha' with ha'; injection ha' with ha' _
        omega
  · obtain rfl : i = L.length := by omega
    have hr2 := (hrow.alloc (.cells #[.slice (some ⟨g, 0, none⟩) m cap] E')).kept hg2 (.inr fun e => hvg (by rw [← e]; rfl))
    obtain ⟨a, c', e, hI⟩ := IntsAt.own hr2
    injection e with e1 e2 e3
    subst e1; subst e3
    refine ⟨_, m, cap, by rw [List.getElem?_append_right (by omega), hvl, Nat.sub_self]; rfl, by rw [if_neg hl, Nat.sub_self]; exact hI, fun b off _ ha => ?_⟩
    injection ha with ha; injection ha with ha _
    subst ha
    refine ⟨fun e => ?_, by omega⟩
    rcases hat with q | q
    · exact hvg (by rw [← q]; exact e)
    · rw [e] at q; injection q with q; omega
theorem grown_then {w w1 w2 : World} {b0 : Nat} {row : Option Nat} (h : w.grownBy w1 (some b0)) (k : w1.grownBy w2 row) (hr : ∀ r, row = some r → r = b0 ∨ w.heap.size ≤ r) : w.grownBy w2 (some b0) :=
  ⟨k.os.trans h.os, k.tape.trans h.tape, k.output.trans h.output, Nat.le_trans h.size k.size, fun j hj hne => by
    rw [k.block j (Nat.lt_of_lt_of_le hj h.size) (fun e => (hr j e.symm).elim (fun q => hne (by rw [q])) (fun q => absurd hj (by omega))), h.block j hj hne]⟩
end Go.Proofs.Kv
namespace Go.Proofs.Ytoopgmoopmbfnaa
open Go.RowKit Go.Proofs.Kv Go.Proofs.Snd
theorem rowL_keep {w w' : World} {B : Nat} {l : List Int} (h : RowL w B l) (e : w'.heap[B]? = w.heap[B]?) : RowL w' B l := World.rowIs.of_block h e
/-- what the statement's cut holds behind i sounds -/
def TAt (w0 : World) (bl : Nat) (F : List (List Int)) (o : List Int) (i : Nat) (v r : Value) (left : List Int) (wr : World) : Prop :=
  ∃ wq : World, OwnLN 23 wq (bl + 1) v (tcutL F o i) ∧ wq.grownBy wr (some bl) ∧ bl + 1 ≤ wq.heap.size ∧ wr.ownsRow wq.heap.size 3 1 r (trowL F o i).length ((trowL F o i).map (Value.int .i64)) ∧ RowL wr bl left ∧ Below w0.heap.size w0 wr
set_option maxRecDepth 100000 in
set_option maxHeartbeats 4000000 in
theorem topCut_calls (a' : Option Addr) (n' c' : Nat) (o : List Int) (a : Option Addr) (n c : Nat) (F : List (List Int)) (w : World) (h' : IntsAt w a' n' c' o) (h : ListsAt w a n c F) (hn : n ≤ 6) (hn' : n' ≤ 6) (hs : ∀ s ∈ F, s.length ≤ 6) :
    Calls Try.prog 46 #[.slice a' n' c', .slice a n c] w fun e w' => ∃ v, e = .returned v ∧ MadeL 23 w w' v (tcutL F o o.length) := by
  obtain ⟨i0, hi0, hz0, hz1, hz2⟩ := info_parts Try.infoInt
  obtain ⟨i1, hi1, hz0', hz1', hz2'⟩ := info_parts Try.infoInts
  have hmk : ∀ W' : World, (Instr.makeSlice 23 (.int .i64 (n : Int)) (.int .i64 (n : Int))).run Try.prog W' = .ok (.slice (some ⟨W'.heap.size, 0, none⟩) n n) (W'.alloc (.cells (madeCells #[.int .i64 0] n) 3)) := fun W' => by
    have := run_make (P := Try.prog) W' 23 3 i0 (.int .i64 0) Try.underlying23 hi0 hz0 .i64 .i64 n n (by omega) (by omega) (by rw [hz2]; omega) (by omega)
    simpa [hz1, Value.cells] using this
  have HL := hid_ (fun W (hW : Below w.heap.size w W) => h.below hW (Nat.le_refl _))
  have HO := hid_ (fun W (hW : Below w.heap.size w W) => h'.below hW (Nat.le_refl _))
  have Hlen := hid_ h.len
  have Hol := hid_ h'.len
  have Hs6 := hid_ hs
  have HR0 : Hid (RowL (w.alloc (.cells (madeCells #[.int .i64 0] n) 3)) w.heap.size (List.replicate n 0)) := hid_ (by
    have h := World.rowIs_made w (.int .i64 0) n 3
    unfold RowL
    rw [List.length_replicate]
    refine h.congr fun i hi => ?_
    simp [List.getD, hi])
  clear h h' hs
  go_enter Try.func46, Try.ntmps46
  go_wp2
  go_loopw [8] (fun i wr => ∃ k : Nat, k ≤ n ∧ i = .int .i64 k ∧ RowL wr w.heap.size ((F.take k).map (fun s : List Int => (s.length : Int)) ++ List.replicate (n - k) 0) ∧ Below w.heap.size w wr ∧ w.heap.size + 1 ≤ wr.heap.size) (fun i _ => n - (intOf i).toNat)
  case atStart => exact ⟨0, Nat.zero_le _, rfl, by simpa using HR0.out, (Below.refl _ w).alloc (Nat.le_refl _) _, by simp⟩
  case round =>
    obtain ⟨k, hk, rfl, hR, hbel, hsz1⟩ := hrel
    by_cases hlt : k < n
    · obtain ⟨b, off, a1, n1, c1, rfl, hb, hcell, hrow⟩ := (HL.out wr hbel).cells k hlt
      have hkF : k < F.length := by rw [Hlen.out]; exact hlt
      have hll : ((F.take k).map (fun s : List Int => (s.length : Int))).length = k := by rw [List.length_map, List.length_take]; omega
      have hXl : ((F.take k).map (fun s : List Int => (s.length : Int)) ++ List.replicate (n - k) 0).length = n := by rw [List.length_append, hll, List.length_replicate]; omega
      have hc2 : wr.cell? ⟨w.heap.size, k, none⟩ = some (.int .i64 (((F.take k).map (fun s : List Int => (s.length : Int)) ++ List.replicate (n - k) 0).getD k 0)) := World.rowIs.cell hR (by rw [hXl]; exact hlt)
      have hf2 : wr.frozen? ⟨w.heap.size, k, none⟩ = false := World.rowIs.frozen hR k
      have HP : Hid (RowL (wr.setCell ⟨w.heap.size, k, none⟩ (.int .i64 n1)) w.heap.size ((F.take (k + 1)).map (fun s : List Int => (s.length : Int)) ++ List.replicate (n - (k + 1)) 0)) := hid_ (by
        have := hR.put k (n1 : Int)
        have e : ((F.take k).map (fun s : List Int => (s.length : Int)) ++ List.replicate (n - k) 0).set k (n1 : Int) = (F.take (k + 1)).map (fun s : List Int => (s.length : Int)) ++ List.replicate (n - (k + 1)) 0 := by
          rw [List.set_append_right _ _ (by omega), hll, Nat.sub_self, show n - k = (n - (k + 1)) + 1 by omega, List.replicate_succ, List.set_cons_zero, Kv.take_snoc F [] k hkF, List.map_append, List.append_assoc, List.map_singleton, hrow.len, List.singleton_append]
        rwa [e] at this)
      generalize ((F.take k).map (fun s : List Int => (s.length : Int)) ++ List.replicate (n - k) 0).getD k 0 = z at hc2
      have HB := hid_ (hbel.setCell (p := ⟨w.heap.size, k, none⟩) (Nat.le_refl _) (.int .i64 n1))
      clear hR hbel hrow hll hXl
      go_wp2
      go_roundw
      case rel => exact ⟨k + 1, by omega, by go_num, HP.out, HB.out, by simpa using hsz1⟩
      case measure => simp [intOf]; omega
    · obtain rfl : n = k := by omega
      have HT0 : Hid (TAt w w.heap.size F o 0 (.slice none 0 0) (.slice none 0 0) (leftL F o 0 0) wr) := hid_ ⟨wr, OwnLN.nil _ _ _, World.grownBy.refl wr _, hsz1, World.ownsRow_nil _ _ _ _, by
        rw [Nat.sub_self, List.take_of_length_le (by rw [Hlen.out]; exact Nat.le_refl _), List.replicate_zero, List.append_nil] at hR
        have : leftL F o 0 0 = F.map fun s : List Int => (s.length : Int) := by unfold leftL cntL; simp
        rw [this]; exact hR, hbel⟩
      clear hR hbel hsz1 HR0
      go_wp2
      go_loopw [5, 6, 9] (fun v r i wr => ∃ j : Nat, j ≤ n' ∧ i = .int .i64 j ∧ TAt w w.heap.size F o j v r (leftL F o j 0) wr) (fun _ _ i _ => n' - (intOf i).toNat)
      case atStart => exact ⟨0, Nat.zero_le _, rfl, HT0.out⟩
      case round =>
        obtain ⟨j, hj, rfl, wq, hLN, hgr, hbq, hrow, hleft, hbel⟩ := hrel
        have hsq := hgr.size
        by_cases hlt : j < n'
        · obtain ⟨b, off, rfl, hb, hcx⟩ := (HO.out wr hbel).cells j hlt
          have hjo : j < o.length := by rw [Hol.out]; exact hlt
          have Hrl := hid_ (trow_len F o j)
          have Htl := hid_ (tcut_len F o j)
          have Hend := hid_ (fun h => @tcut_end F o j hjo h)
          have Hon := hid_ (fun h => @tcut_on F o j hjo h)
          have HLN := hid_ hLN
          have Hgr := hid_ hgr
          have Hbel := hid_ hbel
          have Hleft := hid_ hleft
          have Hf0 : Hid (flagL F o j 0 = ((j : Int) == (n' : Int) - 1)) := hid_ (by rw [flag_zero, Hol.out])
          have HX : Hid (o.getD j 0 = o.getD j 0) := hid_ rfl
          generalize hx : o.getD j 0 = x at *
          have Hx := hid_ hx
          clear hx hLN hgr hbel hleft HX
          have hr7 : (trowL F o j).length + 1 ≤ 1000000 := by have := Hrl.out; omega
          go_wp2_with (at_builtin; refine wpList_append_ints _ rfl (.tmp 35) (.tmp 40) _ rfl wq.heap.size 3 i0 Try.underlying23 hi0 hz0 hz1 hz2 _ _ _ rfl (hrow.alloc _) _ 1 1 [x] rfl (IntsAt.one wr x 3) hr7 (le_alloc hsq) ?_; intro v' w1 hown1 hg1 hat1)
          have hgq : wq.grownBy w1 (some w.heap.size) := grown_then (grown_then Hgr.out (World.grownBy_alloc wr _ none) (fun r e => by cases e)) hg1 (fun r e => .inr (hrow.lt r e).1)
          have hl1 : RowL w1 w.heap.size (leftL F o j 0) := rowL_keep Hleft.out (by
            rw [hg1.block _ (by simp; have := Hbel.out.size; omega) (fun e => by have := (hrow.lt _ e.symm).1; omega)]
            exact Below.heap_alloc _ _ _ (by omega))
          have hb1 : Below w.heap.size w w1 := (Hbel.out.alloc Hbel.out.size _).grown hg1 (le_alloc Hbel.out.size) (fun r e => by have := (hrow.lt r e).1; omega)
          have Hown1 := hid_ hown1
          have Hgq := hid_ hgq
          have Hl1 := hid_ hl1
          have Hb1 := hid_ hb1
          clear hown1 hgq hl1 hb1 hg1 hat1 hrow
          go_loopw [10, 11] (fun f i wr => ∃ k : Nat, k ≤ n ∧ i = .int .i64 k ∧ f = .bool (flagL F o j k) ∧ (wq.grownBy wr (some w.heap.size) ∧ wr.ownsRow wq.heap.size 3 1 v' ((trowL F o j).length + 1) ((trowL F o j ++ [x]).map (Value.int .i64)) ∧ RowL wr w.heap.size (leftL F o j k) ∧ Below w.heap.size w wr)) (fun _ i _ => n - (intOf i).toNat)
          case atStart => exact ⟨0, Nat.zero_le _, rfl, by rw [Hf0.out], Hgq.out, Hown1.out, Hl1.out, Hb1.out⟩
          case round =>
            obtain ⟨k, hk, rfl, rfl, hgk, hok, hlk, hbk⟩ := hrel
            obtain ⟨wrk, rfl⟩ : ∃ wrk : World, wrk = wr := ⟨_, rfl⟩
            by_cases hlt2 : k < n
            · obtain ⟨b2, off2, a2, n2, c2, rfl, hb2, hcell2, hrow2⟩ := (HL.out _ hbk).cells k hlt2
              obtain ⟨b3, off3, e3, hb3, hcx3⟩ := (HO.out _ hbk).cells j hlt
              injection e3 with e3; injection e3 with e3 e4
              subst e3; subst e4
              rw [Hx.out] at hcx3
              have hkF : k < F.length := by rw [Hlen.out]; exact hlt2
              have hmem : F.getD k [] ∈ F := by rw [List.getD, List.getElem?_eq_getElem hkF, Option.getD_some]; exact List.getElem_mem _
              have hs6 := Hs6.out _ hmem
              have Hfs := hid_ (flag_snoc (o := o) (i := j) hkF)
              rw [Hx.out] at Hfs
              have hlen2 := left_len (F := F) (o := o) (i := j) (Nat.le_of_lt hkF)
              have hc4 : _ := World.rowIs.cell hlk (i := k) (by rw [hlen2]; exact hkF)
              have hf4 := World.rowIs.frozen hlk k
              rw [left_at hkF] at hc4
              have hcb := cnt_bd (F.getD k []) o j
              rw [Hol.out] at hcb
              have Hhit := hid_ (fun h => @cnt_hit (F.getD k []) o j hjo h)
              have Hset := hid_ (left_set (o := o) (i := j) hkF)
              have Hsame := hid_ (fun h => @left_same F o j k hkF hjo h)
              rw [Hx.out] at Hhit Hsame
              have Hgk := hid_ hgk
              have Hok := hid_ hok
              have Hlk := hid_ hlk
              have Hbk := hid_ hbk
              clear hgk hok hlk hbk hlen2 hmem
              generalize F.getD k [] = s at *
              generalize hz : cntL s o j = z at *
              have hz1 : -6 ≤ z := by omega
              have hz2 : z ≤ 6 := by omega
              clear hcb hz
              cases hh : Has s x with
              | true =>
                have Hc1 := hid_ (Hhit.out hh)
                rw [Hc1.out, hh] at Hfs
                rw [Hc1.out] at Hset
                have Hh := hid_ hh
                clear hh
                have hzw : IntKind.i64.wrap (z - 1) = z - 1 := IntWalk.i64_in _ (by omega)
                have HW : Hid (∀ q, (wq.grownBy ((wrk.drewN q).setCell ⟨w.heap.size, k, none⟩ (.int .i64 (z - 1))) (some w.heap.size) ∧ ((wrk.drewN q).setCell ⟨w.heap.size, k, none⟩ (.int .i64 (z - 1))).ownsRow wq.heap.size 3 1 v' ((trowL F o j).length + 1) ((trowL F o j ++ [x]).map (Value.int .i64)) ∧ RowL ((wrk.drewN q).setCell ⟨w.heap.size, k, none⟩ (.int .i64 (z - 1))) w.heap.size (leftL F o j (k + 1)) ∧ Below w.heap.size w ((wrk.drewN q).setCell ⟨w.heap.size, k, none⟩ (.int .i64 (z - 1))))) := hid_ (fun q => by
                  refine ⟨grown_set (show wq.grownBy (wrk.drewN q) (some w.heap.size) from ⟨Hgk.out.os, Hgk.out.tape, Hgk.out.output, Hgk.out.size, Hgk.out.block⟩) _ _, ?_, ?_, (below_drewN Hbk.out q).setCell (p := ⟨w.heap.size, k, none⟩) (Nat.le_refl _) _⟩
                  · exact ownsRow_setCell_below (own_drewN Hok.out q) (by show w.heap.size < _; omega) _
                  · have := RowL.put (w := wrk.drewN q) (rowL_keep Hlk.out rfl) k (z - 1)
                    rwa [Hset.out] at this)
                have hbk0 := Hbk.out.size
                cases hfl : flagL F o j k with
                | true =>
                  have Hff : Hid (flagL F o j (k + 1) = true) := hid_ (by rw [Hfs.out, hfl]; rfl)
                  clear hfl
                  go_wp2
                  go_quiet ((go_at_call 92; exact quiet_left (has_as (hrow2.drewN _) Hh.out)))
                  go_wp2
                  go_roundw
                  case rel => exact ⟨k + 1, by omega, by go_num, by rw [Hff.out], HW.out _⟩
                  case measure => simp [intOf]; omega
                | false =>
                  cases hz0' : (z - 1 == 0) with
                  | true =>
                    have Hff : Hid (flagL F o j (k + 1) = true) := hid_ (by rw [Hfs.out, hz0']; simp)
                    have Hz0 : Hid (z - 1 = 0) := hid_ (by simpa using hz0')
                    clear hfl
                    go_wp2
                    go_quiet ((go_at_call 92; exact quiet_left (has_as (hrow2.drewN _) Hh.out)))
                    go_wp2
                    go_roundw
                    case rel => exact ⟨k + 1, by omega, by go_num, by rw [Hff.out], HW.out _⟩
                    case measure => simp [intOf]; omega
                  | false =>
                    have Hff : Hid (flagL F o j (k + 1) = false) := hid_ (by rw [Hfs.out, hz0', hfl]; rfl)
                    clear hfl
                    go_wp2
                    go_quiet ((go_at_call 92; exact quiet_left (has_as (hrow2.drewN _) Hh.out)))
                    go_wp2
                    go_roundw
                    case rel => exact ⟨k + 1, by omega, by go_num, by rw [Hff.out], HW.out _⟩
                    case measure => simp [intOf]; omega
              | false =>
                rw [hh] at Hfs
                have Hl2 := hid_ (Hsame.out hh)
                have Hh := hid_ hh
                clear hh
                have Hff : Hid (flagL F o j (k + 1) = flagL F o j k) := hid_ (by rw [Hfs.out]; simp)
                go_wp2
                go_quiet ((go_at_call 92; exact quiet_left (has_as (hrow2.drewN _) Hh.out)))
                go_wp2
                go_roundw
                case rel => exact ⟨k + 1, by omega, by go_num, by rw [Hff.out], ⟨Hgk.out.os, Hgk.out.tape, Hgk.out.output, Hgk.out.size, Hgk.out.block⟩, own_drewN Hok.out _, by rw [Hl2.out]; exact rowL_keep Hlk.out rfl, below_drewN Hbk.out _⟩
                case measure => simp [intOf]; omega
            · obtain rfl : n = k := by omega
              have Hnx : Hid (leftL F o j n = leftL F o (j + 1) 0) := hid_ (by rw [← Hlen.out]; exact left_next F o j)
              cases hfl : flagL F o j n with
              | true =>
                obtain ⟨e1, e2⟩ := Hend.out (by rw [Hlen.out]; exact hfl)
                have He1 := hid_ e1
                have He2 := hid_ e2
                obtain ⟨g, cap, rfl, -, -, hgb, hgl⟩ := own_form hok (by omega)
                obtain ⟨vs, o1, o2⟩ := HLN.out.grown hgk (Nat.lt_succ_self _)
                have hvb := (fun k hk => by obtain ⟨vs', q1, -⟩ := HLN.out; exact (q1.lt k hk).2 : ∀ k, _ = some k → k < wq.heap.size)
                have hvl : vs.length = (tcutL F o j).length := by simpa using o1.1
                have Hok := hid_ hok
                have Hlk := hid_ hlk
                have Hbk := hid_ hbk
                have Ho2 := hid_ o2
                have Hvb := hid_ hvb
                have Hvl := hid_ hvl
                have Hhk := hid_ hgk
                have hk1 : w.heap.size + 1 ≤ wrk.heap.size := Nat.le_trans hbq hgk.size
                have ht1 : (tcutL F o j).length + 1 ≤ 1000000 := by have := Htl.out; omega
                clear hfl e1 e2 hok hlk hbk o2 hvb hvl hgk
                go_wp2_with (at_builtin; refine wpList_push_val2 _ rfl (.tmp 77) (.tmp 79) _ rfl (w.heap.size + 1) 23 i1 Try.underlying22 hi1 hz0' rfl hz1' hz2' (by omega) u5 _ _ rfl o1 (.slice (some ⟨g, 0, none⟩) ((trowL F o j).length + 1) cap) rfl 23 rfl ht1 hk1 ?_; intro v3 w3 hown3 hg3 hat3)
                have HLN3 := ownLN_push (r := trowL F o j ++ [x]) (Bq := wq.heap.size) Hvl.out Ho2.out Hvb.out Hok.out hbq hown3 hg3 hat3
                have hsz3 := hg3.size
                have HT : Hid (TAt w w.heap.size F o (j + 1) v3 (.slice none 0 0) (leftL F o (j + 1) 0) w3) := hid_ ⟨w3, by rw [He1.out]; exact HLN3, World.grownBy.refl w3 _, by simp at hsz3; omega, by rw [He2.out]; exact World.ownsRow_nil _ _ _ _, by
                    rw [← Hnx.out]
                    refine rowL_keep Hlk.out ?_
                    rw [hg3.block _ (by simp; omega) (fun e => by have := (o1.lt _ e.symm).1; omega)]
                    exact Below.heap_alloc _ _ _ (by omega), (Hbk.out.alloc Hbk.out.size _).grown hg3 (le_alloc Hbk.out.size) (fun r e => by have := (o1.lt r e).1; omega)⟩
                clear HLN3 hown3 hg3 hat3
                go_wp2
                go_roundw
                case rel => exact ⟨j + 1, by omega, by go_num, HT.out⟩
                case measure => simp [intOf]; omega
              | false =>
                obtain ⟨e1, e2⟩ := Hon.out (by rw [Hlen.out]; exact hfl)
                have HT : Hid (TAt w w.heap.size F o (j + 1) u5 v' (leftL F o (j + 1) 0) wrk) := hid_ ⟨wq, by rw [e1]; exact HLN.out, hgk, hbq, by rw [e2, List.length_append]; exact hok, by rw [← Hnx.out]; exact hlk, hbk⟩
                clear hfl e1 e2 hgk hok hlk hbk
                go_wp2
                go_roundw
                case rel => exact ⟨j + 1, by omega, by go_num, HT.out⟩
                case measure => simp [intOf]; omega
        · obtain rfl : n' = j := by omega
          have HLN := hid_ (hLN.grown hgr (Nat.lt_succ_self _)).ownL
          have HB := hid_ hbel
          rw [← Hol.out] at HLN
          clear hLN hgr hrow hleft hbel
          go_wp2
          go_ret
          exact ⟨_, rfl, ⟨HLN.out.base (by omega), HB.out⟩⟩
end Go.Proofs.Ytoopgmoopmbfnaa
