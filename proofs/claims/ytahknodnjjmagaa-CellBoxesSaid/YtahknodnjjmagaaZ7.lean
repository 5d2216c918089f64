import Derived.Test.YtahknodnjjmagaaZ5
import Derived.Test.YtahknodnjjmagaaZw
namespace Go.Proofs.Ytahknodnjjmagaa
open Go.RowKit Go.Proofs.Kv

/-! ### Clashes, Empty, Homes of the document -/
def prF (P : Par) (b : Bool) (l : List Int) : Bool := decide (formR P l < 0) && (decide (0 < (matL P l).length) == b)
theorem form_min {P : Par} (hv : validP P = 0) (l : List Int) : formR P l = -1 ∨ 0 ≤ formR P l := by
  rcases dec_cases P l with ⟨k, hk, -, -, -, -, h⟩ | ⟨-, -, -, h⟩
  · rw [h]; exact .inr (form_ok hv hk).1
  · exact .inl h
theorem form_nine {P : Par} (hv : validP P = 0) (l : List Int) : formR P l ≤ 9 := by
  rcases dec_cases P l with ⟨k, hk, -, -, -, -, h⟩ | ⟨-, -, -, h⟩
  · rw [h]; exact (form_ok hv hk).2
  · rw [h]; decide
theorem prF_clash {P : Par} (hv : validP P = 0) (l : List Int) : prF P true l = clashB P l := by
  rw [prF, clashB]
  rcases form_min hv l with h | h
  · rw [h]; simp
  · rw [decide_eq_false (show ¬ formR P l < 0 by omega), decide_eq_false (show ¬ formR P l = -1 by omega)]; rfl
theorem prF_empty {P : Par} (l : List Int) : prF P false l = emptyB P l := by
  rw [prF, emptyB]
  by_cases h0 : (matL P l).length = 0
  · have hf : formR P l = -1 := by
      rcases dec_cases P l with ⟨k, hk, hm, -, -, -, h⟩ | ⟨-, -, -, h⟩
      · rw [List.eq_nil_of_length_eq_zero h0] at hm; cases hm
      · exact h
    rw [hf, h0]; rfl
  · rw [decide_eq_false h0, decide_eq_true (show 0 < (matL P l).length by omega)]; simp
set_option maxRecDepth 100000 in
set_option maxHeartbeats 8000000 in
theorem r6formless_calls (v : Value) (P : Par) (b : Bool) (w : World) (h : ParAt w v P) (hv : validP P = 0) :
    Calls Try.prog 93 #[v, .bool b] w fun e w' => ∃ v', e = .returned v' ∧ MadeL 22 w w' v' (withL P (prF P b)) := by
  obtain ⟨i0, hi0, hz0, hz1, hz2⟩ := info_parts Try.infoInts
  have HP := hid_ h
  obtain ⟨a1, n1, c1, a2, n2, c2, rfl, h1, h2⟩ := h
  obtain ⟨w1, hw1⟩ : ∃ w1, w.alloc (.cells #[.slice a1 n1 c1, .slice a2 n2 c2] 25) = w1 := ⟨_, rfl⟩
  have cb : Below w.heap.size w w1 := by rw [← hw1]; exact below_alloc _ _
  have q0 : w1.cell? ⟨w.heap.size, 0, none⟩ = some (.slice a1 n1 c1) := by rw [← hw1]; exact cells_alloc _ _ _ 0
  have q1 : w1.cell? ⟨w.heap.size, 1, none⟩ = some (.slice a2 n2 c2) := by rw [← hw1]; exact cells_alloc _ _ _ 1
  have HP1 := hid_ (HP.out.below cb (Nat.le_refl _)); have Hc1 := hid_ cb
  have HC := hid_ (r6cells_calls _ P w1 HP1.out hv)
  have HLe : Hid (∀ k, k < (cellsL P.sizes).length → P.sizes.length = ((cellsL P.sizes).getD k []).length) := hid_ (fun k hk => (specB_ok (cells_spec hv hk)).1.symm)
  have h27 := (cells_chain hv).2.2.1
  have HH := hid_ (fun k (hk : k < (cellsL P.sizes).length) => @withK_hit P (prF P b) k hk); have HMs := hid_ (fun k (hk : k < (cellsL P.sizes).length) => @withK_miss P (prF P b) k hk)
  have HKa := hid_ (withK_all P (prF P b))
  have HKl := hid_ (fun k => @withK_le P (prF P b) k)
  have hme : ∀ l, (matL P l).length ≤ 10 := fun l => Nat.le_trans (matK_le P l _) (validP_ok hv).2.2.1
  have Hme := hid_ hme
  have Hv := hid_ hv
  have HK0 : Hid (withK P (prF P b) 0 = []) := hid_ rfl
  have Hpr : Hid (∀ l, prF P b l = (decide (formR P l < 0) && (decide (0 < (matL P l).length) == b))) := hid_ (fun l => rfl)
  clear h1 h2 cb hv hme
  generalize cellsL P.sizes = L at *
  go_enter Try.func93, Try.ntmps93
  go_wp2_with (go_at_call 70; (with_reducible refine HC.out.mono ?_); rintro e w2 ⟨v2, rfl, hm⟩; obtain ⟨a5, c5, rfl, hL5⟩ := hm.at_; have hb2 := hm.bel; have q02 := cell_below q0 hb2; have q12 := cell_below q1 hb2)
  have HL := hid_ hL5
  have Hb2 := hid_ hb2
  clear hm hL5 q0 q1
  go_loopw [5, 7] (fun v i wr => ∃ k : Nat, k ≤ L.length ∧ i = .int .i64 k ∧ OwnL 22 wr w2.heap.size v (withK P (prF P b) k) ∧ Below w2.heap.size w2 wr) (fun _ i _ => L.length - (intOf i).toNat)
  case atStart => exact ⟨0, Nat.zero_le _, rfl, by rw [HK0.out]; exact OwnL.nil _ _ _, Below.refl _ _⟩
  case round =>
    obtain ⟨k, hk, rfl, hown, hb⟩ := hrel
    have Hb := hid_ hb
    have hsz := hb.size
    by_cases hlt : k < L.length
    · obtain ⟨bl, off, a6, n6, c6, rfl, hbs, hcell, hrow⟩ := HL.out.cells k hlt
      have hls : P.sizes.length = n6 := by rw [HLe.out k hlt, hrow.len]
      have q0r := cell_below q02 hb; have q1r := cell_below q12 hb; have qcr := cell_below hcell hb
      have HF := hid_ (fun W (hW : Below wr.heap.size wr W) => r6form_calls _ P a6 n6 c6 (L.getD k []) W (HP1.out.below (Hb2.out.trans ((hb.trans (hW.mono hsz)).mono Hb2.out.size)) (Nat.le_refl _)) (hrow.below (hb.trans (hW.mono hsz)) (Nat.le_refl _)) Hv.out hls)
      have HM := hid_ (fun W (hW : Below wr.heap.size wr W) => r6matches_calls _ P a6 n6 c6 (L.getD k []) W (HP1.out.below (Hb2.out.trans ((hb.trans (hW.mono hsz)).mono Hb2.out.size)) (Nat.le_refl _)) (hrow.below (hb.trans (hW.mono hsz)) (Nat.le_refl _)) Hv.out hls)
      have HQ := hid_ (fun W (hW : Below wr.heap.size wr W) => And.intro (cell_below q0r hW) (And.intro (cell_below q1r hW) (And.intro (cell_below qcr hW) hW)))
      have HOw := hid_ (fun W (hW : Below wr.heap.size wr W) => hown.below hW (Nat.le_refl _))
      have HRw := hid_ (fun W (hW : Below wr.heap.size wr W) => hrow.below (hb.trans (hW.mono hsz)) (Nat.le_refl _))
      have Hin : Hid (∀ b off, 0 < n6 → a6 = some ⟨b, off, none⟩ → u5.ownBlock ≠ some b) := hid_ (fun b off h0 ha e => by
        obtain ⟨b', off', ha', hb', -⟩ := hrow.cells 0 h0
        rw [ha] at ha'
        injection ha' with ha'; injection ha' with e1 e2
        have := (hown.lt b e).1
        omega)
      have Hlt := hid_ hown.lt
      have hhit := HH.out k hlt; have hmiss := HMs.out k hlt
      have hpr := Hpr.out (L.getD k [])
      have hkl := HKl.out k
      have hm10 := Hme.out (L.getD k [])
      have hfm := form_min Hv.out (L.getD k [])
      have hf9 := form_nine Hv.out (L.getD k [])
      have hbb : Below wr.heap.size wr wr := Below.refl _ _
      clear hls hb hrow hown hcell
      generalize formR P (L.getD k []) = y at *
      generalize matL P (L.getD k []) = M at *
      obtain ⟨m, hm⟩ : ∃ m, M.length = m := ⟨_, rfl⟩
      rw [hm] at hpr hm10
      have Hlm := hid_ hm
      clear hm
      generalize L.getD k [] = cl at *
      rcases hfm with hy | hy
      · subst hy
        by_cases h0 : 0 < m
        · have hpr3 := hid_ (hpr.trans (by rw [decide_eq_true h0]; rfl : _ = (true == b)))
          cases b with
          | true =>
            have Hf := hid_ (hhit (hpr3.out.trans rfl))
            clear hhit hmiss hpr hpr3
            go_wp2_with fail
            go_region_held3 (fun W => W.cell? ⟨w.heap.size, 0, none⟩ = some (.slice a1 n1 c1) ∧ W.cell? ⟨w.heap.size, 1, none⟩ = some (.slice a2 n2 c2) ∧ W.cell? ⟨bl, off + k, none⟩ = some (.slice a6 n6 c6) ∧ Below wr.heap.size wr W) ((refine HQ.out _ ?_; (repeat (first | assumption | (with_reducible refine Below.alloc ?_ (by first | omega | (simp; done) | (simp; omega)) _) | (with_reducible refine Below.setCell ?_ (by first | omega | (simp; done) | (simp; omega)) _) | (with_reducible refine Below.drew ?_)))))
              (first
                | (go_at_call 81; (with_reducible refine (HF.out _ ?_).mono ?_); (focus (repeat (first | assumption | (with_reducible refine Below.alloc ?_ (by first | omega | (simp; done) | (simp; omega)) _) | (with_reducible refine Below.setCell ?_ (by first | omega | (simp; done) | (simp; omega)) _) | (with_reducible refine Below.drew ?_)))); rintro e w5 ⟨rfl, hb5⟩; have hb5 : Below wr.heap.size wr w5 := below_then (by (repeat (first | assumption | (with_reducible refine Below.alloc ?_ (by first | omega | (simp; done) | (simp; omega)) _) | (with_reducible refine Below.setCell ?_ (by first | omega | (simp; done) | (simp; omega)) _) | (with_reducible refine Below.drew ?_)))) hb5; have hs5 := hb5.size; have hbL : Below wr.heap.size wr w5 := hb5)
                | (go_at_call 78; (with_reducible refine (HM.out _ ?_).mono ?_); (focus (repeat (first | assumption | (with_reducible refine Below.alloc ?_ (by first | omega | (simp; done) | (simp; omega)) _) | (with_reducible refine Below.setCell ?_ (by first | omega | (simp; done) | (simp; omega)) _) | (with_reducible refine Below.drew ?_)))); rintro e w7 ⟨v7, rfl, hm7⟩; obtain ⟨a7, c7, rfl, -⟩ := hm7.at_; have hb7 : Below wr.heap.size wr w7 := below_then (by (repeat (first | assumption | (with_reducible refine Below.alloc ?_ (by first | omega | (simp; done) | (simp; omega)) _) | (with_reducible refine Below.setCell ?_ (by first | omega | (simp; done) | (simp; omega)) _) | (with_reducible refine Below.drew ?_)))) hm7.bel; have hbL : Below wr.heap.size wr w7 := hb7; rw [Hlm.out]))
            all_goals
              obtain ⟨qz0, qz1, qz2, -⟩ := HQ.out _ hbL
              have hsL := hbL.size
              go_wp2_with (at_builtin; refine wpList_push_list _ rfl (.tmp 35) (.tmp 40) _ rfl w2.heap.size 22 i0 Try.underlying28 hi0 hz0 hz1 hz2 u5 _ rfl (HOw.out _ hbL) a6 n6 c6 cl 22 rfl (HRw.out _ hbL) Hin.out (by omega) (by omega) ?_; intro v9 w9 hown9 hg9 hat9)
              exact ⟨⟨k + 1, by omega, by go_num, by rw [Hf.out]; exact hown9, belowL_app (Hb.out.trans (hbL.mono hsz)) (Nat.le_trans hsz hsL) (HOw.out _ hbL) hg9⟩, by simp [intOf]; omega⟩
          | false =>
            have Hf := hid_ (hmiss (hpr3.out.trans rfl))
            clear hhit hmiss hpr hpr3
            go_wp2_with fail
            go_region_held3 (fun W => W.cell? ⟨w.heap.size, 0, none⟩ = some (.slice a1 n1 c1) ∧ W.cell? ⟨w.heap.size, 1, none⟩ = some (.slice a2 n2 c2) ∧ W.cell? ⟨bl, off + k, none⟩ = some (.slice a6 n6 c6) ∧ Below wr.heap.size wr W) ((refine HQ.out _ ?_; (repeat (first | assumption | (with_reducible refine Below.alloc ?_ (by first | omega | (simp; done) | (simp; omega)) _) | (with_reducible refine Below.setCell ?_ (by first | omega | (simp; done) | (simp; omega)) _) | (with_reducible refine Below.drew ?_)))))
              (first
                | (go_at_call 81; (with_reducible refine (HF.out _ ?_).mono ?_); (focus (repeat (first | assumption | (with_reducible refine Below.alloc ?_ (by first | omega | (simp; done) | (simp; omega)) _) | (with_reducible refine Below.setCell ?_ (by first | omega | (simp; done) | (simp; omega)) _) | (with_reducible refine Below.drew ?_)))); rintro e w5 ⟨rfl, hb5⟩; have hb5 : Below wr.heap.size wr w5 := below_then (by (repeat (first | assumption | (with_reducible refine Below.alloc ?_ (by first | omega | (simp; done) | (simp; omega)) _) | (with_reducible refine Below.setCell ?_ (by first | omega | (simp; done) | (simp; omega)) _) | (with_reducible refine Below.drew ?_)))) hb5; have hs5 := hb5.size; have hbL : Below wr.heap.size wr w5 := hb5)
                | (go_at_call 78; (with_reducible refine (HM.out _ ?_).mono ?_); (focus (repeat (first | assumption | (with_reducible refine Below.alloc ?_ (by first | omega | (simp; done) | (simp; omega)) _) | (with_reducible refine Below.setCell ?_ (by first | omega | (simp; done) | (simp; omega)) _) | (with_reducible refine Below.drew ?_)))); rintro e w7 ⟨v7, rfl, hm7⟩; obtain ⟨a7, c7, rfl, -⟩ := hm7.at_; have hb7 : Below wr.heap.size wr w7 := below_then (by (repeat (first | assumption | (with_reducible refine Below.alloc ?_ (by first | omega | (simp; done) | (simp; omega)) _) | (with_reducible refine Below.setCell ?_ (by first | omega | (simp; done) | (simp; omega)) _) | (with_reducible refine Below.drew ?_)))) hm7.bel; have hbL : Below wr.heap.size wr w7 := hb7; rw [Hlm.out]))
            all_goals
              go_wp2
              exact ⟨⟨k + 1, by omega, by go_num, by rw [Hf.out]; exact HOw.out _ hbL, Hb.out.trans (hbL.mono hsz)⟩, by simp [intOf]; omega⟩
        · have hpr3 := hid_ (hpr.trans (by rw [decide_eq_false h0]; rfl : _ = (false == b)))
          obtain rfl : m = 0 := by omega
          cases b with
          | true =>
            have Hf := hid_ (hmiss (hpr3.out.trans rfl))
            clear hhit hmiss hpr hpr3
            go_wp2_with fail
            go_region_held3 (fun W => W.cell? ⟨w.heap.size, 0, none⟩ = some (.slice a1 n1 c1) ∧ W.cell? ⟨w.heap.size, 1, none⟩ = some (.slice a2 n2 c2) ∧ W.cell? ⟨bl, off + k, none⟩ = some (.slice a6 n6 c6) ∧ Below wr.heap.size wr W) ((refine HQ.out _ ?_; (repeat (first | assumption | (with_reducible refine Below.alloc ?_ (by first | omega | (simp; done) | (simp; omega)) _) | (with_reducible refine Below.setCell ?_ (by first | omega | (simp; done) | (simp; omega)) _) | (with_reducible refine Below.drew ?_)))))
              (first
                | (go_at_call 81; (with_reducible refine (HF.out _ ?_).mono ?_); (focus (repeat (first | assumption | (with_reducible refine Below.alloc ?_ (by first | omega | (simp; done) | (simp; omega)) _) | (with_reducible refine Below.setCell ?_ (by first | omega | (simp; done) | (simp; omega)) _) | (with_reducible refine Below.drew ?_)))); rintro e w5 ⟨rfl, hb5⟩; have hb5 : Below wr.heap.size wr w5 := below_then (by (repeat (first | assumption | (with_reducible refine Below.alloc ?_ (by first | omega | (simp; done) | (simp; omega)) _) | (with_reducible refine Below.setCell ?_ (by first | omega | (simp; done) | (simp; omega)) _) | (with_reducible refine Below.drew ?_)))) hb5; have hs5 := hb5.size; have hbL : Below wr.heap.size wr w5 := hb5)
                | (go_at_call 78; (with_reducible refine (HM.out _ ?_).mono ?_); (focus (repeat (first | assumption | (with_reducible refine Below.alloc ?_ (by first | omega | (simp; done) | (simp; omega)) _) | (with_reducible refine Below.setCell ?_ (by first | omega | (simp; done) | (simp; omega)) _) | (with_reducible refine Below.drew ?_)))); rintro e w7 ⟨v7, rfl, hm7⟩; obtain ⟨a7, c7, rfl, -⟩ := hm7.at_; have hb7 : Below wr.heap.size wr w7 := below_then (by (repeat (first | assumption | (with_reducible refine Below.alloc ?_ (by first | omega | (simp; done) | (simp; omega)) _) | (with_reducible refine Below.setCell ?_ (by first | omega | (simp; done) | (simp; omega)) _) | (with_reducible refine Below.drew ?_)))) hm7.bel; have hbL : Below wr.heap.size wr w7 := hb7; rw [Hlm.out]))
            all_goals
              go_wp2
              exact ⟨⟨k + 1, by omega, by go_num, by rw [Hf.out]; exact HOw.out _ hbL, Hb.out.trans (hbL.mono hsz)⟩, by simp [intOf]; omega⟩
          | false =>
            have Hf := hid_ (hhit (hpr3.out.trans rfl))
            clear hhit hmiss hpr hpr3
            go_wp2_with fail
            go_region_held3 (fun W => W.cell? ⟨w.heap.size, 0, none⟩ = some (.slice a1 n1 c1) ∧ W.cell? ⟨w.heap.size, 1, none⟩ = some (.slice a2 n2 c2) ∧ W.cell? ⟨bl, off + k, none⟩ = some (.slice a6 n6 c6) ∧ Below wr.heap.size wr W) ((refine HQ.out _ ?_; (repeat (first | assumption | (with_reducible refine Below.alloc ?_ (by first | omega | (simp; done) | (simp; omega)) _) | (with_reducible refine Below.setCell ?_ (by first | omega | (simp; done) | (simp; omega)) _) | (with_reducible refine Below.drew ?_)))))
              (first
                | (go_at_call 81; (with_reducible refine (HF.out _ ?_).mono ?_); (focus (repeat (first | assumption | (with_reducible refine Below.alloc ?_ (by first | omega | (simp; done) | (simp; omega)) _) | (with_reducible refine Below.setCell ?_ (by first | omega | (simp; done) | (simp; omega)) _) | (with_reducible refine Below.drew ?_)))); rintro e w5 ⟨rfl, hb5⟩; have hb5 : Below wr.heap.size wr w5 := below_then (by (repeat (first | assumption | (with_reducible refine Below.alloc ?_ (by first | omega | (simp; done) | (simp; omega)) _) | (with_reducible refine Below.setCell ?_ (by first | omega | (simp; done) | (simp; omega)) _) | (with_reducible refine Below.drew ?_)))) hb5; have hs5 := hb5.size; have hbL : Below wr.heap.size wr w5 := hb5)
                | (go_at_call 78; (with_reducible refine (HM.out _ ?_).mono ?_); (focus (repeat (first | assumption | (with_reducible refine Below.alloc ?_ (by first | omega | (simp; done) | (simp; omega)) _) | (with_reducible refine Below.setCell ?_ (by first | omega | (simp; done) | (simp; omega)) _) | (with_reducible refine Below.drew ?_)))); rintro e w7 ⟨v7, rfl, hm7⟩; obtain ⟨a7, c7, rfl, -⟩ := hm7.at_; have hb7 : Below wr.heap.size wr w7 := below_then (by (repeat (first | assumption | (with_reducible refine Below.alloc ?_ (by first | omega | (simp; done) | (simp; omega)) _) | (with_reducible refine Below.setCell ?_ (by first | omega | (simp; done) | (simp; omega)) _) | (with_reducible refine Below.drew ?_)))) hm7.bel; have hbL : Below wr.heap.size wr w7 := hb7; rw [Hlm.out]))
            all_goals
              obtain ⟨qz0, qz1, qz2, -⟩ := HQ.out _ hbL
              have hsL := hbL.size
              go_wp2_with (at_builtin; refine wpList_push_list _ rfl (.tmp 35) (.tmp 40) _ rfl w2.heap.size 22 i0 Try.underlying28 hi0 hz0 hz1 hz2 u5 _ rfl (HOw.out _ hbL) a6 n6 c6 cl 22 rfl (HRw.out _ hbL) Hin.out (by omega) (by omega) ?_; intro v9 w9 hown9 hg9 hat9)
              exact ⟨⟨k + 1, by omega, by go_num, by rw [Hf.out]; exact hown9, belowL_app (Hb.out.trans (hbL.mono hsz)) (Nat.le_trans hsz hsL) (HOw.out _ hbL) hg9⟩, by simp [intOf]; omega⟩
      · have Hf := hid_ (hmiss (hpr.trans (by rw [decide_eq_false (show ¬ y < 0 by omega)]; rfl)))
        clear hpr hhit hmiss
        have HFq := hid_ (fun d os => HF.out (Go.Sort.grow (redrawn wr d) os) (below_regrown wr d os))
        have g0 := cell_regrown q0r; have g1 := cell_regrown q1r; have g2 := cell_regrown qcr
        rcases (show y = 0 ∨ y = 1 ∨ y = 2 ∨ y = 3 ∨ y = 4 ∨ y = 5 ∨ y = 6 ∨ y = 7 ∨ y = 8 ∨ y = 9 by omega) with rfl | rfl | rfl | rfl | rfl | rfl | rfl | rfl | rfl | rfl
        all_goals
          clear hy hf9
          go_wp2_with fail
          refine wp_region_quiet_below (by kernel_rfl) (by kernel_rfl) ?_
          repeat (first | go_big_quiet_skip | (go_big_quiet_want; go_big_quiet_op; first | go_big_quiet_on | go_big_quiet_call ((go_at_call 81; with_reducible exact Calls.regrown_of (HFq.out _ _)))))
          refine wpQuiet_nil ?_
          rintro wq ⟨pq, hpq⟩
          have hbL := below_wq hpq; clear hpq
          go_wp2
          exact ⟨⟨k + 1, by omega, by go_num, by rw [Hf.out]; exact HOw.out _ hbL, Hb.out.trans (hbL.mono hsz)⟩, by simp [intOf]; omega⟩
    · obtain rfl : L.length = k := by omega
      go_wp2
      go_ret
      refine ⟨_, rfl, ⟨?_, Hc1.out.trans ((Hb2.out.trans (hb.mono Hb2.out.size)).mono Hc1.out.size)⟩⟩
      rw [← HKa.out]
      exact hown.base (Nat.le_trans Hc1.out.size Hb2.out.size)
end Go.Proofs.Ytahknodnjjmagaa
