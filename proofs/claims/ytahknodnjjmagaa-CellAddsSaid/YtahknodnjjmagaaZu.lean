import Derived.Test.YtahknodnjjmagaaZt
import Derived.Test.YtahknodnjjmagaaZw
namespace Go.Proofs.Ytahknodnjjmagaa
open Go.RowKit Go.Proofs.Kv

/-! ### IsMore, Cells, Fill of the document -/
def resCells (P : Par) : List (List Int) := if validP P = 0 then cellsL P.sizes else []
set_option maxRecDepth 100000 in
set_option maxHeartbeats 4000000 in
theorem r6Cells_calls (v : Value) (P : Par) (w : World) (h : ParAt w v P) :
    Calls Try.prog 20 #[v] w fun e w' => ∃ v', e = .returned (.tuple #[v', .int .i64 (validP P)]) ∧ MadeL 22 w w' v' (resCells P) := by
  have HP := hid_ h
  obtain ⟨a1, n1, c1, a2, n2, c2, rfl, h1, h2⟩ := h
  obtain ⟨w1, hw1⟩ : ∃ w1, w.alloc (.cells #[.slice a1 n1 c1, .slice a2 n2 c2] 25) = w1 := ⟨_, rfl⟩
  have cb : Below w.heap.size w w1 := by rw [← hw1]; exact below_alloc _ _
  have q0 : w1.cell? ⟨w.heap.size, 0, none⟩ = some (.slice a1 n1 c1) := by rw [← hw1]; exact cells_alloc _ _ _ 0
  have q1 : w1.cell? ⟨w.heap.size, 1, none⟩ = some (.slice a2 n2 c2) := by rw [← hw1]; exact cells_alloc _ _ _ 1
  have HP1 := hid_ (HP.out.below cb (Nat.le_refl _)); have Hc1 := hid_ cb
  have HE := hid_ (r6Validate_calls _ P w1 HP1.out)
  clear h1 h2 cb
  have HR : Hid (resCells P = if validP P = 0 then cellsL P.sizes else []) := hid_ rfl
  generalize hR : resCells P = R at *
  by_cases he : validP P = 0
  · have Hf := hid_ (HR.out.trans (if_pos he))
    have HM := hid_ (fun W (hW : Below w1.heap.size w1 W) => r6cells_calls _ P W (HP1.out.below hW (Nat.le_refl _)) he)
    rw [he] at HE ⊢
    clear he hR HR
    go_enter Try.func20, Try.ntmps20
    go_wp2_with (first
      | (go_at_call 22; (with_reducible refine HE.out.mono ?_); rintro e w2 ⟨rfl, hb3⟩; have q0b := cell_below q0 hb3; have q1b := cell_below q1 hb3)
      | (go_at_call 70; (with_reducible refine (HM.out _ hb3).mono ?_); rintro e w4 ⟨v4, rfl, hm⟩))
    go_ret2
    exact ⟨_, rfl, by rw [Hf.out]; exact hm.after (Hc1.out.trans (hb3.mono Hc1.out.size))⟩
  · have Hf := hid_ (HR.out.trans (if_neg he))
    have hq : (validP P != 0) = true := by simpa using he
    generalize validP P = x at *
    clear he hR HR
    go_enter Try.func20, Try.ntmps20
    go_wp2_with (go_at_call 22; (with_reducible refine HE.out.mono ?_); rintro e w2 ⟨rfl, hb3⟩)
    go_ret2
    exact ⟨_, rfl, by rw [Hf.out]; exact MadeL.none_ _ (Hc1.out.trans (hb3.mono Hc1.out.size))⟩
set_option maxRecDepth 100000 in
set_option maxHeartbeats 4000000 in
theorem r6IsMore_calls (v : Value) (P : Par) (i j : Int) (w : World) (h : ParAt w v P) :
    Calls Try.prog 34 #[v, .int .i64 i, .int .i64 j] w fun e w' => e = .returned (.tuple #[.bool (resMore P i j), .int .i64 (errN P [i, j])]) ∧ Below w.heap.size w w' := by
  have HP := hid_ h
  obtain ⟨a1, n1, c1, a2, n2, c2, rfl, h1, h2⟩ := h
  obtain ⟨w1, hw1⟩ : ∃ w1, w.alloc (.cells #[.slice a1 n1 c1, .slice a2 n2 c2] 25) = w1 := ⟨_, rfl⟩
  have cb : Below w.heap.size w w1 := by rw [← hw1]; exact below_alloc _ _
  have q0 : w1.cell? ⟨w.heap.size, 0, none⟩ = some (.slice a1 n1 c1) := by rw [← hw1]; exact cells_alloc _ _ _ 0
  have q1 : w1.cell? ⟨w.heap.size, 1, none⟩ = some (.slice a2 n2 c2) := by rw [← hw1]; exact cells_alloc _ _ _ 1
  have HP1 := hid_ (HP.out.below cb (Nat.le_refl _)); have Hc1 := hid_ cb
  have HE := hid_ (numbered_calls _ P i j w1 HP1.out)
  clear h1 h2 cb
  by_cases he : errN P [i, j] = 0
  · have Hf : Hid (resMore P i j = moreB (sp P i.toNat) (sp P j.toNat)) := hid_ (if_pos he)
    obtain ⟨hv, hi, hj⟩ := errN_ok he
    obtain ⟨i', rfl, hi'⟩ := isNo_ok hi
    obtain ⟨j', rfl, hj'⟩ := isNo_ok hj
    have HM := hid_ (fun W (hW : Below w1.heap.size w1 W) => r6isMore_calls _ P i' j' W (HP1.out.below hW (Nat.le_refl _)) hv hi' hj')
    rw [he] at HE ⊢
    have Hf2 : Hid (resMore P i' j' = moreB (sp P i') (sp P j')) := hid_ (by rw [Hf.out, Int.toNat_natCast, Int.toNat_natCast])
    rw [Hf2.out]
    generalize moreB (sp P i') (sp P j') = z at *
    clear he hv hi hj Hf
    go_enter Try.func34, Try.ntmps34
    go_wp2_with (first
      | (go_at_call 84; (with_reducible refine HE.out.mono ?_); rintro e w2 ⟨rfl, hb3⟩; have q0b := cell_below q0 hb3; have q1b := cell_below q1 hb3)
      | (go_at_call 85; (with_reducible refine (HM.out _ hb3).mono ?_); rintro e w4 ⟨rfl, hb4⟩))
    go_ret2
    exact ⟨rfl, Hc1.out.trans ((hb3.trans (hb4.mono hb3.size)).mono Hc1.out.size)⟩
  · have Hf : Hid (resMore P i j = false) := hid_ (if_neg he)
    rw [Hf.out]
    have hq : (errN P [i, j] != 0) = true := by simpa using he
    generalize errN P [i, j] = x at *
    clear he
    go_enter Try.func34, Try.ntmps34
    go_wp2_with (go_at_call 84; (with_reducible refine HE.out.mono ?_); rintro e w2 ⟨rfl, hb3⟩)
    go_ret2
    exact ⟨rfl, Hc1.out.trans (hb3.mono Hc1.out.size)⟩
def fillK (P : Par) (k : Nat) : List Int := ((cellsL P.sizes).take k).map (formR P)
def fillL (P : Par) : List Int := (cellsL P.sizes).map (formR P)
theorem fillK_succ {P : Par} {k : Nat} (h : k < (cellsL P.sizes).length) : fillK P (k + 1) = fillK P k ++ [formR P ((cellsL P.sizes).getD k [])] := by
  rw [fillK, take_snoc _ [] k h, List.map_append]; rfl
theorem fillK_all (P : Par) : fillK P (cellsL P.sizes).length = fillL P := by rw [fillK, List.take_length]; rfl
theorem fillK_len {P : Par} {k : Nat} (h : k ≤ (cellsL P.sizes).length) : (fillK P k).length = k := by rw [fillK, List.length_map, List.length_take]; omega
set_option maxRecDepth 100000 in
set_option maxHeartbeats 4000000 in
theorem r6fill_calls (v : Value) (P : Par) (w : World) (h : ParAt w v P) (hv : validP P = 0) :
    Calls Try.prog 88 #[v] w fun e w' => ∃ v', e = .returned v' ∧ Made 3 w w' v' (fillL P) := by
  obtain ⟨i0, hi0, hz0, hz1, hz2⟩ := info_parts Try.infoInt
  have HP := hid_ h
  obtain ⟨a1, n1, c1, a2, n2, c2, rfl, h1, h2⟩ := h
  obtain ⟨w1, hw1⟩ : ∃ w1, w.alloc (.cells #[.slice a1 n1 c1, .slice a2 n2 c2] 25) = w1 := ⟨_, rfl⟩
  have cb : Below w.heap.size w w1 := by rw [← hw1]; exact below_alloc _ _
  have q0 : w1.cell? ⟨w.heap.size, 0, none⟩ = some (.slice a1 n1 c1) := by rw [← hw1]; exact cells_alloc _ _ _ 0
  have q1 : w1.cell? ⟨w.heap.size, 1, none⟩ = some (.slice a2 n2 c2) := by rw [← hw1]; exact cells_alloc _ _ _ 1
  have HP1 := hid_ (HP.out.below cb (Nat.le_refl _)); have Hc1 := hid_ cb
  have HC := hid_ (r6cells_calls _ P w1 HP1.out hv)
  have HLe : Hid (∀ k, k < (cellsL P.sizes).length → P.sizes.length = ((cellsL P.sizes).getD k []).length) := hid_ (fun k hk => (specB_ok (cells_spec hv hk)).1.symm)
  have h27 := (cells_chain hv).2.2.1
  have HKs := hid_ (fun k (hk : k < (cellsL P.sizes).length) => @fillK_succ P k hk)
  have HKa := hid_ (fillK_all P)
  have HKl := hid_ (fun k (hk : k ≤ (cellsL P.sizes).length) => @fillK_len P k hk)
  have Hv := hid_ hv
  clear h1 h2 cb hv
  have HK0 : Hid (fillK P 0 = []) := hid_ rfl
  generalize cellsL P.sizes = L at *
  go_enter Try.func88, Try.ntmps88
  go_wp2_with (go_at_call 70; (with_reducible refine HC.out.mono ?_); rintro e w2 ⟨v2, rfl, hm⟩; obtain ⟨a5, c5, rfl, hL5⟩ := hm.at_; have hb2 := hm.bel; have q02 := cell_below q0 hb2; have q12 := cell_below q1 hb2)
  have HL := hid_ hL5
  have Hb2 := hid_ hb2
  clear hm hL5 q0 q1
  go_loopw [3, 5] (fun v i wr => ∃ k : Nat, k ≤ L.length ∧ i = .int .i64 k ∧ wr.ownsRow w2.heap.size 3 1 v k ((fillK P k).map (Value.int .i64)) ∧ Below w2.heap.size w2 wr) (fun _ i _ => L.length - (intOf i).toNat)
  case atStart => exact ⟨0, Nat.zero_le _, rfl, by rw [HK0.out]; exact World.ownsRow_nil _ _ _ _, Below.refl _ _⟩
  case round =>
    obtain ⟨k, hk, rfl, hown, hb⟩ := hrel
    have Hb := hid_ hb
    have hsz := hb.size
    by_cases hlt : k < L.length
    · obtain ⟨b, off, a6, n6, c6, rfl, hbs, hcell, hrow⟩ := HL.out.cells k hlt
      have hls : P.sizes.length = n6 := by rw [HLe.out k hlt, hrow.len]
      have q0r := cell_below q02 hb; have q1r := cell_below q12 hb; have qcr := cell_below hcell hb
      have HF := hid_ (fun W (hW : Below w2.heap.size wr W) => r6form_calls _ P a6 n6 c6 (L.getD k []) W (HP1.out.below (Hb2.out.trans ((hb.trans hW).mono Hb2.out.size)) (Nat.le_refl _)) (hrow.below (hb.trans hW) (Nat.le_refl _)) Hv.out hls)
      have HQ := hid_ (fun W (hW : Below w2.heap.size wr W) => And.intro (cell_below q02 (hb.trans hW)) (And.intro (cell_below q12 (hb.trans hW)) (And.intro (cell_below hcell (hb.trans hW)) hW)))
      have HOw := hid_ (fun W (hW : Below wr.heap.size wr W) => own_below hown hW (Nat.le_refl _))
      have Hs := hid_ (HKs.out k hlt)
      have Hown := hid_ hown
      clear hrow hls hb hown hcell
      generalize formR P (L.getD k []) = y at *
      have hk6 : k + 1 ≤ 1000000 := by omega
      have hbb : Below wr.heap.size wr wr := Below.refl _ _
      go_wp2_with fail
      go_region_held3 (fun W => W.cell? ⟨w.heap.size, 0, none⟩ = some (.slice a1 n1 c1) ∧ W.cell? ⟨w.heap.size, 1, none⟩ = some (.slice a2 n2 c2) ∧ W.cell? ⟨b, off + k, none⟩ = some (.slice a6 n6 c6) ∧ Below w2.heap.size wr W) ((refine HQ.out _ ?_; (first | assumption | (refine Below.mono ?_ hsz; (repeat (first | assumption | (with_reducible refine Below.alloc ?_ (by first | omega | (simp; done) | (simp; omega)) _) | (with_reducible refine Below.setCell ?_ (by first | omega | (simp; done) | (simp; omega)) _) | (with_reducible refine Below.drew ?_)))))))
        (first
          | (go_at_call 81; (with_reducible refine (HF.out _ ?_).mono ?_); (focus (refine Below.mono ?_ hsz; (repeat (first | assumption | (with_reducible refine Below.alloc ?_ (by first | omega | (simp; done) | (simp; omega)) _) | (with_reducible refine Below.setCell ?_ (by first | omega | (simp; done) | (simp; omega)) _) | (with_reducible refine Below.drew ?_))))); rintro e w5 ⟨rfl, hb5⟩; have hb5 : Below wr.heap.size wr w5 := below_then (by (repeat (first | assumption | (with_reducible refine Below.alloc ?_ (by first | omega | (simp; done) | (simp; omega)) _) | (with_reducible refine Below.setCell ?_ (by first | omega | (simp; done) | (simp; omega)) _) | (with_reducible refine Below.drew ?_)))) hb5; have hs5 := hb5.size)
          | ((refine step_append_row rfl (.tmp 14) (.tmp 21) rfl w2.heap.size _ _ _ (by rfl) (HOw.out _ ?_) _ 1 1 _ (by rfl) (IntsAt.one _ _ _) hk6 (by have := hb5.size; first | omega | (simp; omega)) ?_); (focus (repeat (first | assumption | (with_reducible refine Below.alloc ?_ (by first | omega | (simp; done) | (simp; omega)) _) | (with_reducible refine Below.setCell ?_ (by first | omega | (simp; done) | (simp; omega)) _) | (with_reducible refine Below.drew ?_)))); intro v6 w6 hown6 hg6 hat6; have hb6 : Below w2.heap.size wr w6 := Below.grown (Below.mono (show Below wr.heap.size wr _ by (repeat (first | assumption | (with_reducible refine Below.alloc ?_ (by first | omega | (simp; done) | (simp; omega)) _) | (with_reducible refine Below.setCell ?_ (by first | omega | (simp; done) | (simp; omega)) _) | (with_reducible refine Below.drew ?_)))) hsz) hg6 (by have := hb5.size; first | omega | (simp; omega)) (fun r e => (Hown.out.lt r e).1)))
      all_goals
        go_wp2_with fail
        exact ⟨⟨k + 1, by omega, by go_num, by rw [Hs.out]; exact hown6, Hb.out.trans hb6⟩, by simp [intOf]; omega⟩
    · obtain rfl : L.length = k := by omega
      have Hl := hid_ (HKl.out L.length (Nat.le_refl _))
      go_wp2
      go_ret
      refine ⟨_, rfl, ⟨?_, Hc1.out.trans ((Hb2.out.trans (hb.mono Hb2.out.size)).mono Hc1.out.size)⟩⟩
      rw [← HKa.out, Hl.out]
      exact own_base hown (Nat.le_trans Hc1.out.size Hb2.out.size)
def resFill (P : Par) : List Int := if validP P = 0 then fillL P else []
set_option maxRecDepth 100000 in
set_option maxHeartbeats 4000000 in
theorem r6Fill_calls (v : Value) (P : Par) (w : World) (h : ParAt w v P) :
    Calls Try.prog 38 #[v] w fun e w' => ∃ v', e = .returned (.tuple #[v', .int .i64 (validP P)]) ∧ Made 3 w w' v' (resFill P) := by
  have HP := hid_ h
  obtain ⟨a1, n1, c1, a2, n2, c2, rfl, h1, h2⟩ := h
  obtain ⟨w1, hw1⟩ : ∃ w1, w.alloc (.cells #[.slice a1 n1 c1, .slice a2 n2 c2] 25) = w1 := ⟨_, rfl⟩
  have cb : Below w.heap.size w w1 := by rw [← hw1]; exact below_alloc _ _
  have q0 : w1.cell? ⟨w.heap.size, 0, none⟩ = some (.slice a1 n1 c1) := by rw [← hw1]; exact cells_alloc _ _ _ 0
  have q1 : w1.cell? ⟨w.heap.size, 1, none⟩ = some (.slice a2 n2 c2) := by rw [← hw1]; exact cells_alloc _ _ _ 1
  have HP1 := hid_ (HP.out.below cb (Nat.le_refl _)); have Hc1 := hid_ cb
  have HE := hid_ (r6Validate_calls _ P w1 HP1.out)
  clear h1 h2 cb
  have HR : Hid (resFill P = if validP P = 0 then fillL P else []) := hid_ rfl
  generalize hR : resFill P = R at *
  by_cases he : validP P = 0
  · have Hf := hid_ (HR.out.trans (if_pos he))
    have HM := hid_ (fun W (hW : Below w1.heap.size w1 W) => r6fill_calls _ P W (HP1.out.below hW (Nat.le_refl _)) he)
    rw [he] at HE ⊢
    clear he hR HR
    go_enter Try.func38, Try.ntmps38
    go_wp2_with (first
      | (go_at_call 22; (with_reducible refine HE.out.mono ?_); rintro e w2 ⟨rfl, hb3⟩; have q0b := cell_below q0 hb3; have q1b := cell_below q1 hb3)
      | (go_at_call 88; (with_reducible refine (HM.out _ hb3).mono ?_); rintro e w4 ⟨v4, rfl, hm⟩))
    go_ret2
    exact ⟨_, rfl, by rw [Hf.out]; exact hm.after (Hc1.out.trans (hb3.mono Hc1.out.size))⟩
  · have Hf := hid_ (HR.out.trans (if_neg he))
    have hq : (validP P != 0) = true := by simpa using he
    generalize validP P = x at *
    clear he hR HR
    go_enter Try.func38, Try.ntmps38
    go_wp2_with (go_at_call 22; (with_reducible refine HE.out.mono ?_); rintro e w2 ⟨rfl, hb3⟩)
    go_ret2
    exact ⟨_, rfl, by rw [Hf.out]; exact Made.none_ _ (Hc1.out.trans (hb3.mono Hc1.out.size))⟩
end Go.Proofs.Ytahknodnjjmagaa
