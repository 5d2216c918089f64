import Derived.Test.YtcpaehogcicgjaaMathB
namespace Go.Proofs.Ytcpaehogcicgjaa
open Go.RowKit Go.Proofs.Kv Go.Proofs.Snd

theorem foldI_snoc (M : List (List Int)) (x : List Int) : foldI (M ++ [x]) = insertL (foldI M) x := by simp [foldI, List.foldl_append]
theorem foldI_le (M : List (List Int)) : (foldI M).length ≤ M.length := by
  have key : ∀ (M acc : List (List Int)), (M.foldl insertL acc).length ≤ acc.length + M.length := by
    intro M
    induction M with
    | nil => intro acc; simp
    | cons x M ih =>
      intro acc
      have h1 := ih (insertL acc x)
      have h2 := insertL_le acc x
      rw [List.foldl_cons, List.length_cons]; omega
  have := key M []
  simpa [foldI] using this
theorem namesR_len {L : List (List Int)} (h : Good L) : (namesR L).length ≤ 3600 := by
  rw [← namesS_eq h]
  have := names_len h
  simpa [namesS] using this
theorem namesR_at {L : List (List Int)} (h : Good L) {k : Nat} (hk : k < (namesR L).length) : ∃ (x : Int) (y : Nat), (namesR L).getD k (0, 0) = (x, (y : Int)) ∧ y < L.length := by
  have hm : (namesR L).getD k (0, 0) ∈ namesR L := by simp [List.getD, List.getElem?_eq_getElem hk]
  obtain ⟨y, h1, h2, _⟩ := names_in hm h
  exact ⟨((namesR L).getD k (0, 0)).1, y, by rw [← h1], h2⟩

/-! ### the document's Classes -/
def classesRR (L : List (List Int)) : List (List Int) := if validT L = 0 then classesR L else []
set_option maxRecDepth 100000 in
set_option maxHeartbeats 1000000 in
theorem refClasses_calls (a : Option Addr) (n c : Nat) (L : List (List Int)) (w : World) (h : ListsAt w a n c L) (hs : L.flatten.length ≤ 100000) :
    Calls Try.prog 32 #[.slice a n c] w fun e w' => ∃ v, e = .returned (.tuple #[v, .int .i64 (validT L)]) ∧ OwnL 25 w' 0 v (classesRR L) ∧ Below w.heap.size w w' := by
  have hval := refValidate_calls a n c L w h hs
  by_cases he : validT L = 0
  · have Hf : Hid (classesRR L = classesR L) := hid_ (if_pos he)
    have hg := good_of he
    have hlen : L.length = n := h.len
    have hn6 := hg.n6
    rw [hlen] at hn6
    rw [he] at hval ⊢
    have Hv := hid_ hval; clear hval he
    have HS : Hid (classesR L = foldI ((namesR L).map fun p => standL L p.1 p.2)) := hid_ rfl
    have Hat : Hid (∀ k, k < (namesR L).length → ∃ (x : Int) (y : Nat), (namesR L).getD k (0, 0) = (x, (y : Int)) ∧ y < n) := hid_ fun k hk => by
      obtain ⟨x, y, h1, h2⟩ := namesR_at hg hk
      exact ⟨x, y, h1, by omega⟩
    have hN1 := namesR_len hg
    go_enter Try.func32, Try.ntmps32
    go_wp2_with fail
    refine Hv.out.mono ?_
    rintro e w0 ⟨rfl, hb0⟩
    have Hnm := hid_ (names_calls a n c L w0 (h.below hb0 (Nat.le_refl _)) (by omega))
    go_wp2_with fail
    refine Hnm.out.mono ?_
    rintro e w1 ⟨v1, rfl, hm1⟩
    obtain ⟨a1, c1, rfl, hP1⟩ := hm1.at_
    have Hb1 : Hid (Below w.heap.size w w1) := hid_ (below_then hb0 hm1.bel)
    clear hm1 Hnm hb0 Hv
    generalize hNS : namesR L = NS at hP1 Hat HS hN1
    clear hNS
    generalize hNl : NS.length = N at hP1 Hat hN1
    have Hnl := hid_ hNl
    clear hNl hlen
    go_wp2
    go_loopw [5, 7] (fun v i wr => ∃ k : Nat, k ≤ N ∧ i = .int .i64 k ∧ OwnL 25 wr 0 v (foldI ((NS.take k).map fun p => standL L p.1 p.2)) ∧ Below w1.heap.size w1 wr) (fun _ i _ => N - (intOf i).toNat)
    case atStart => exact ⟨0, by omega, rfl, OwnL.nil _ _ _, Below.refl _ _⟩
    case round =>
      obtain ⟨k, hk, rfl, hown, hbel⟩ := hrel
      have hsz := hbel.size
      by_cases hlt : k < N
      · obtain ⟨b1, off1, rfl, hb1, hc1, hc2⟩ := hP1.cells k hlt
        have hd1 := (hbel.cell (p := ⟨b1, off1 + k * 2, none⟩) hb1).trans hc1
        have hd2 := (hbel.cell (p := ⟨b1, off1 + k * 2 + 1, none⟩) hb1).trans hc2
        obtain ⟨x, y, hxy, hy⟩ := Hat.out k hlt
        rw [hxy] at hd1 hd2
        simp only at hd1 hd2
        have Hsn : Hid (foldI ((NS.take (k + 1)).map (fun p => standL L p.1 p.2)) = insertL (foldI ((NS.take k).map (fun p => standL L p.1 p.2))) (standL L x y)) := hid_ (by
          rw [Kv.take_snoc NS (0, 0) k (by rw [Hnl.out]; exact hlt), List.map_append, hxy, List.map_singleton, foldI_snoc])
        have Hst := hid_ (stand_calls a n c L x y wr (h.below (Hb1.out.trans (hbel.mono Hb1.out.size)) (Nat.le_refl _)) hs (by omega) (by omega))
        clear hc1 hc2
        have Hll : Hid ((foldI ((NS.take k).map fun p => standL L p.1 p.2)).length ≤ 10000) := hid_ (by
          refine Nat.le_trans (foldI_le _) ?_
          rw [List.length_map, List.length_take]; omega)
        generalize foldI ((NS.take k).map (fun p => standL L p.1 p.2)) = cur at hown Hsn Hll
        generalize standL L x y = l at Hst Hsn
        go_wp2_with fail
        refine Hst.out.mono ?_
        rintro e w2 ⟨v2, rfl, hm2⟩
        obtain ⟨a2, c2, hv2, hI2⟩ := hm2.at_
        subst hv2
        have hb2 : Below w1.heap.size w1 w2 := hbel.trans (hm2.bel.mono hsz)
        have Hin := hid_ (insert_calls _ cur a2 l.length c2 l w2 (hown.below hm2.bel (Nat.le_refl _)) hI2 Hll.out)
        clear hm2 hI2
        go_wp2_with fail
        refine Hin.out.mono ?_
        rintro e w3 ⟨v3, rfl, hown3, hb3⟩
        have hb4 : Below w1.heap.size w1 w3 := hb2.trans (hb3.mono hb2.size)
        clear hb3 Hin
        go_wp2
        go_roundw
        case rel => exact ⟨k + 1, by omega, by go_num, by rw [Hsn.out]; exact hown3, hb4⟩
        case measure => simp [intOf]; omega
      · obtain rfl : k = N := by omega
        have hfull : NS.take k = NS := List.take_of_length_le (by rw [Hnl.out]; omega)
        rw [hfull] at hown
        have Hb2 : Hid (Below w.heap.size w wr) := hid_ (below_then Hb1.out hbel)
        go_wp2
        go_ret2
        exact ⟨_, rfl, by rw [Hf.out, HS.out]; exact hown, Hb2.out⟩
  · have Hf : Hid (classesRR L = []) := hid_ (if_neg he)
    generalize validT L = er at hval he ⊢
    have hq : (er != 0) = true := by simpa using he
    have Hv := hid_ hval; clear hval he
    go_enter Try.func32, Try.ntmps32
    go_wp2_with fail
    refine Hv.out.mono ?_
    rintro e w1 ⟨rfl, hb1⟩
    go_wp2
    go_ret2
    exact ⟨_, rfl, by rw [Hf.out]; exact OwnL.nil _ _ _, hb1⟩
theorem classesRR_eq (L : List (List Int)) : classesRes L = classesRR L := by
  unfold classesRes classesRR
  by_cases h : validT L = 0
  · rw [if_pos h, if_pos h, classesS_eq (good_of h)]
  · rw [if_neg h, if_neg h]
end Go.Proofs.Ytcpaehogcicgjaa
