import Derived.Test.YtahknodnjjmagaaZba
namespace Go.Proofs.Ytahknodnjjmagaa
open Go.RowKit Go.Proofs.Kv

/-! ### the law CellBoxes -/
set_option maxRecDepth 100000 in
set_option maxHeartbeats 8000000 in
theorem cellBoxes_calls (v : Value) (P : Par) (i : Int) (w : World) (h : ParAt w v P) :
    Calls Try.prog 10 #[v, .int .i64 i] w fun e w' => e = .returned (.bool true) ∧ Below w.heap.size w w' := by
  obtain ⟨i0, hi0, hz0, hz1, hz2⟩ := info_parts Try.infoInts
  have HP := hid_ h
  obtain ⟨a1, n1, c1, a2, n2, c2, rfl, h1, h2⟩ := h
  obtain ⟨w1, hw1⟩ : ∃ w1, w.alloc (.cells #[.slice a1 n1 c1, .slice a2 n2 c2] 25) = w1 := ⟨_, rfl⟩
  have cb : Below w.heap.size w w1 := by rw [← hw1]; exact below_alloc _ _
  have q0 : w1.cell? ⟨w.heap.size, 0, none⟩ = some (.slice a1 n1 c1) := by rw [← hw1]; exact cells_alloc _ _ _ 0
  have q1 : w1.cell? ⟨w.heap.size, 1, none⟩ = some (.slice a2 n2 c2) := by rw [← hw1]; exact cells_alloc _ _ _ 1
  have HP1 := hid_ (HP.out.below cb (Nat.le_refl _)); have Hc1 := hid_ cb
  have hn2 : n2 ≤ 9223372036854775807 := Nat.le_trans h2.le h2.small
  have hln := h2.len
  have HK := hid_ known_calls
  have HG := hid_ (long_calls _ P w1 HP1.out)
  have HA := hid_ (fun W (hW : Below w1.heap.size w1 W) => ceCells_calls _ P W (HP1.out.below hW (Nat.le_refl _)))
  have H2 := hid_ (h2.below cb (Nat.le_refl _))
  clear h1 h2 cb
  cases hg : LongP P with
  | true =>
    rw [hg] at HG
    go_enter Try.func10, Try.ntmps10
    go_wp2_with (first
      | (go_at_call 17; (with_reducible refine HG.out.mono ?_); rintro e w2 ⟨rfl, hb2⟩)
      | (go_at_call 18; (with_reducible refine (HK.out _).mono ?_); rintro e w3 ⟨rfl, hb3⟩))
    go_ret
    exact ⟨rfl, Hc1.out.trans ((hb2.trans (hb3.mono hb2.size)).mono Hc1.out.size)⟩
  | false =>
    rw [hg] at HG
    clear hg
    by_cases hv : validP P = 0
    · have hr : resCells P = cellsL P.sizes := if_pos hv
      rw [hr, hv] at HA
      clear hr
      obtain ⟨m, hm⟩ : ∃ m, (cellsL P.sizes).length = m := ⟨_, rfl⟩
      have HLm := hid_ hm
      have h27 := (cells_chain hv).2.2.1
      have hin : i < 0 ∨ (n2 : Int) ≤ i ∨ ∃ x : Nat, i = (x : Int) ∧ x < n2 := by
        by_cases h : i < 0
        · exact .inl h
        · by_cases h2 : (n2 : Int) ≤ i
          · exact .inr (.inl h2)
          · exact .inr (.inr ⟨i.toNat, by omega, by omega⟩)
      rcases hin with hin | hin | ⟨x, rfl, hxn⟩
      · clear hm hln hv
        go_enter Try.func10, Try.ntmps10
        go_wp2_with (first
          | (go_at_call 17; (with_reducible refine HG.out.mono ?_); rintro e w2 ⟨rfl, hb2⟩; have q02 := cell_below q0 hb2; have q12 := cell_below q1 hb2)
          | (go_at_call 19; (with_reducible refine (HA.out w2 hb2).mono ?_); rintro e w3 ⟨v3, rfl, hm3⟩; have hb3 := hb2.trans (hm3.bel.mono hb2.size); have q03 := cell_below q0 hb3; have q13 := cell_below q1 hb3; obtain ⟨a3, c3, rfl, hi3⟩ := hm3.at_; clear hi3 hm3)
          | (go_at_call 18; (with_reducible refine (HK.out _).mono ?_); rintro e wk ⟨rfl, hbk⟩))
        go_ret
        exact ⟨rfl, Hc1.out.trans ((hb3.trans (hbk.mono hb3.size)).mono Hc1.out.size)⟩
      · have h0 : ¬ i < 0 := by omega
        clear hm hln hv
        go_enter Try.func10, Try.ntmps10
        go_wp2_with (first
          | (go_at_call 17; (with_reducible refine HG.out.mono ?_); rintro e w2 ⟨rfl, hb2⟩; have q02 := cell_below q0 hb2; have q12 := cell_below q1 hb2)
          | (go_at_call 19; (with_reducible refine (HA.out w2 hb2).mono ?_); rintro e w3 ⟨v3, rfl, hm3⟩; have hb3 := hb2.trans (hm3.bel.mono hb2.size); have q03 := cell_below q0 hb3; have q13 := cell_below q1 hb3; obtain ⟨a3, c3, rfl, hi3⟩ := hm3.at_; clear hi3 hm3)
          | (go_at_call 18; (with_reducible refine (HK.out _).mono ?_); rintro e wk ⟨rfl, hbk⟩))
        go_ret
        exact ⟨rfl, Hc1.out.trans ((hb3.trans (hbk.mono hb3.size)).mono Hc1.out.size)⟩
      · have hsp : specB P.sizes (sp P x) (-1) = true := ((validP_ok hv).2.2.2 x (by omega)).1
        obtain ⟨g1, g2, g3, g4⟩ := box_spec hv hsp
        have HBx := hid_ g1; have HBu := hid_ g2; have HBb := hid_ g3; have HBh := hid_ g4
        clear g1 g2 g3 g4
        obtain ⟨be, bo, a8, n8, c8, rfl, -, ks0, ks1, his⟩ := H2.out.cells x hxn
        have his' : IntsAt w1 a8 n8 c8 (sp P x) := his
        clear his
        have His := hid_ his'
        have Hns := hid_ his'.len
        have HLe : Hid (∀ k, k < (cellsL P.sizes).length → specB P.sizes ((cellsL P.sizes).getD k []) 0 = true) := hid_ (fun k hk => cells_spec hv hk)
        have HH := hid_ (fun k (hk : k < (cellsL P.sizes).length) => @withK_hit P (hB (sp P x)) k hk); have HMs := hid_ (fun k (hk : k < (cellsL P.sizes).length) => @withK_miss P (hB (sp P x)) k hk)
        have HKa := hid_ (withK_all P (hB (sp P x)))
        have HK0 : Hid (withK P (hB (sp P x)) 0 = []) := hid_ rfl
        have HKl := hid_ (fun k => @withK_le P (hB (sp P x)) k)
        have HE := hid_ (fun l (h : specB P.sizes l 0 = true) => errC_cell hv h)
        have HT := hid_ (fun l => @has_mat P l x (by omega))
        have hx9 : (x : Int) < (n2 : Int) := by omega
        rw [hm] at h27
        clear hsp his' hv hln hm
        generalize sp P x = s at *
        generalize cellsL P.sizes = L at *
        go_enter Try.func10, Try.ntmps10
        go_wp2_with (first
          | (go_at_call 17; (with_reducible refine HG.out.mono ?_); rintro e w2 ⟨rfl, hb2⟩; have q02 := cell_below q0 hb2; have q12 := cell_below q1 hb2)
          | (go_at_call 19; (with_reducible refine (HA.out w2 hb2).mono ?_); rintro e w3 ⟨v3, rfl, hm3⟩; have hb3 := hb2.trans (hm3.bel.mono hb2.size); have q03 := cell_below q0 hb3; have q13 := cell_below q1 hb3; obtain ⟨a3, c3, rfl, hi3⟩ := hm3.at_; have Hi3 := hid_ hi3; rw [HLm.out] at Hi3 ⊢; clear hi3 hm3))
        have HL := hid_ Hi3.out
        have Hb3 := hid_ hb3
        have Hxn := hid_ hxn
        have z1 : decide (n2 ≤ x) = false := decide_eq_false (by omega)
        have z2 : decide ((x : Int) < 0) = false := decide_eq_false (by omega)
        simp only [z1, z2, Bool.or_self]
        clear z1 z2
        clear q02 q12 hb2 hb3 Hi3 hxn hx9
        go_loopw [7, 8] (fun v i wr => ∃ k : Nat, k ≤ m ∧ i = .int .i64 k ∧ OwnL 22 wr w3.heap.size v (withK P (hB s) k) ∧ Below w3.heap.size w3 wr) (fun _ i _ => m - (intOf i).toNat)
        case atStart => exact ⟨0, Nat.zero_le _, rfl, by rw [HK0.out]; exact OwnL.nil _ _ _, Below.refl _ _⟩
        case round =>
          obtain ⟨k, hk, rfl, hown, hb⟩ := hrel
          have Hb := hid_ hb
          have hsz := hb.size
          by_cases hlt : k < m
          · have hltL : k < L.length := by rw [HLm.out]; exact hlt
            obtain ⟨bl, off, a6, n6, c6, rfl, hbs, hcell, hrow⟩ := HL.out.cells k hlt
            have q0r := cell_below q03 hb; have q1r := cell_below q13 hb; have qcr := cell_below hcell hb
            have hse := HE.out _ (HLe.out k hltL)
            have hhas := HT.out (L.getD k [])
            have hM := fun W (hW : Below wr.heap.size wr W) => ceMatches_calls _ P a6 n6 c6 (L.getD k []) W (HP1.out.below (Hb3.out.trans ((hb.trans (hW.mono hsz)).mono Hb3.out.size)) (Nat.le_refl _)) (hrow.below (hb.trans (hW.mono hsz)) (Nat.le_refl _))
            have hrm : resMatches P (L.getD k []) = matL P (L.getD k []) := if_pos hse
            rw [hrm, hse] at hM
            have HM := hid_ hM
            have HQ := hid_ (fun W (hW : Below wr.heap.size wr W) => And.intro (cell_below q0r hW) (And.intro (cell_below q1r hW) (And.intro (cell_below qcr hW) hW)))
            have HOw := hid_ (fun W (hW : Below wr.heap.size wr W) => hown.below hW (Nat.le_refl _))
            have HRw := hid_ (fun W (hW : Below wr.heap.size wr W) => hrow.below (hb.trans (hW.mono hsz)) (Nat.le_refl _))
            have Hin : Hid (∀ b off, 0 < n6 → a6 = some ⟨b, off, none⟩ → u7.ownBlock ≠ some b) := hid_ (fun b off h0 ha e => by
              obtain ⟨b', off', ha', hb', -⟩ := hrow.cells 0 h0
              rw [ha] at ha'
              injection ha' with ha'; injection ha' with e1 e2
              have := (hown.lt b e).1
              omega)
            have hhit := HH.out k hltL; have hmiss := HMs.out k hltL
            have hkl := Nat.le_trans (HKl.out k) (Nat.le_of_eq HLm.out)
            have hbb : Below wr.heap.size wr wr := Below.refl _ _
            clear hb hrow hown hcell hse hM hrm
            generalize L.getD k [] = cl at *
            have HTc := hid_ (fun a n c W (h : IntsAt W a n c (matL P cl)) => has_calls a n c (matL P cl) (x : Int) W h)
            rw [hhas] at HTc
            generalize matL P cl = M at *
            obtain ⟨mm, hmm⟩ : ∃ mm, M.length = mm := ⟨_, rfl⟩
            have Hlm := hid_ hmm
            clear hmm hhas
            generalize hB s cl = z at *
            cases z with
            | true =>
              have Hf := hid_ (hhit rfl)
              clear hhit hmiss
              go_wp2_with fail
              go_region_held3 (fun W => W.cell? ⟨w.heap.size, 0, none⟩ = some (.slice a1 n1 c1) ∧ W.cell? ⟨w.heap.size, 1, none⟩ = some (.slice (some ⟨be, bo, none⟩) n2 c2) ∧ W.cell? ⟨bl, off + k, none⟩ = some (.slice a6 n6 c6) ∧ Below wr.heap.size wr W) ((refine HQ.out _ ?_; (repeat (first | assumption | (with_reducible refine Below.alloc ?_ (by first | omega | (simp; done) | (simp; omega)) _) | (with_reducible refine Below.setCell ?_ (by first | omega | (simp; done) | (simp; omega)) _) | (with_reducible refine Below.drew ?_) | (with_reducible refine below_drewN ?_ _)))))
                (first
                  | (go_at_call 25; (with_reducible refine (HM.out _ ?_).mono ?_); (focus (repeat (first | assumption | (with_reducible refine Below.alloc ?_ (by first | omega | (simp; done) | (simp; omega)) _) | (with_reducible refine Below.setCell ?_ (by first | omega | (simp; done) | (simp; omega)) _) | (with_reducible refine Below.drew ?_) | (with_reducible refine below_drewN ?_ _)))); rintro e w7 ⟨v7, rfl, hm7⟩; obtain ⟨a7, c7, rfl, hi7⟩ := hm7.at_; have hb7 : Below wr.heap.size wr w7 := below_then (by (repeat (first | assumption | (with_reducible refine Below.alloc ?_ (by first | omega | (simp; done) | (simp; omega)) _) | (with_reducible refine Below.setCell ?_ (by first | omega | (simp; done) | (simp; omega)) _) | (with_reducible refine Below.drew ?_) | (with_reducible refine below_drewN ?_ _)))) hm7.bel; have hbL : Below wr.heap.size wr w7 := hb7; rw [Hlm.out] at hi7 ⊢; have Hi7 := hid_ hi7; clear hi7 hm7))
              obtain ⟨qz0, qz1, qz2, -⟩ := HQ.out _ hbL
              have hsL := hbL.size
              go_wp2_with (first
                | (go_at_call 32; (with_reducible refine (HTc.out _ _ _ _ Hi7.out).mono ?_); rintro e wh ⟨rfl, rfl⟩)
                | (at_builtin; refine wpList_push_list _ rfl (.tmp 57) (.tmp 62) _ rfl w3.heap.size 22 i0 Try.underlying28 hi0 hz0 hz1 hz2 u7 _ rfl (HOw.out _ hbL) a6 n6 c6 cl 22 rfl (HRw.out _ hbL) Hin.out (by omega) (by omega) ?_; intro v9 w9 hown9 hg9 hat9))
              go_roundw
              case rel => exact ⟨k + 1, by omega, by go_num, by rw [Hf.out]; exact hown9, belowL_app (Hb.out.trans (hbL.mono hsz)) (Nat.le_trans hsz hsL) (HOw.out _ hbL) hg9⟩
              case measure => simp [intOf]; omega
            | false =>
              have Hf := hid_ (hmiss rfl)
              clear hhit hmiss
              go_wp2_with fail
              go_region_held3 (fun W => W.cell? ⟨w.heap.size, 0, none⟩ = some (.slice a1 n1 c1) ∧ W.cell? ⟨w.heap.size, 1, none⟩ = some (.slice (some ⟨be, bo, none⟩) n2 c2) ∧ W.cell? ⟨bl, off + k, none⟩ = some (.slice a6 n6 c6) ∧ Below wr.heap.size wr W) ((refine HQ.out _ ?_; (repeat (first | assumption | (with_reducible refine Below.alloc ?_ (by first | omega | (simp; done) | (simp; omega)) _) | (with_reducible refine Below.setCell ?_ (by first | omega | (simp; done) | (simp; omega)) _) | (with_reducible refine Below.drew ?_) | (with_reducible refine below_drewN ?_ _)))))
                (first
                  | (go_at_call 25; (with_reducible refine (HM.out _ ?_).mono ?_); (focus (repeat (first | assumption | (with_reducible refine Below.alloc ?_ (by first | omega | (simp; done) | (simp; omega)) _) | (with_reducible refine Below.setCell ?_ (by first | omega | (simp; done) | (simp; omega)) _) | (with_reducible refine Below.drew ?_) | (with_reducible refine below_drewN ?_ _)))); rintro e w7 ⟨v7, rfl, hm7⟩; obtain ⟨a7, c7, rfl, hi7⟩ := hm7.at_; have hb7 : Below wr.heap.size wr w7 := below_then (by (repeat (first | assumption | (with_reducible refine Below.alloc ?_ (by first | omega | (simp; done) | (simp; omega)) _) | (with_reducible refine Below.setCell ?_ (by first | omega | (simp; done) | (simp; omega)) _) | (with_reducible refine Below.drew ?_) | (with_reducible refine below_drewN ?_ _)))) hm7.bel; have hbL : Below wr.heap.size wr w7 := hb7; rw [Hlm.out] at hi7 ⊢; have Hi7 := hid_ hi7; clear hi7 hm7))
              go_wp2_with (go_at_call 32; (with_reducible refine (HTc.out _ _ _ _ Hi7.out).mono ?_); rintro e wh ⟨rfl, rfl⟩)
              go_roundw
              case rel => exact ⟨k + 1, by omega, by go_num, by rw [Hf.out]; exact HOw.out _ hbL, Hb.out.trans (hbL.mono hsz)⟩
              case measure => simp [intOf]; omega
          · obtain rfl : m = k := by omega
            have hown2 : OwnL 22 wr w3.heap.size u7 (withL P (hB s)) := by rw [← HKa.out, HLm.out]; exact hown
            obtain ⟨a9, c9, rfl, hl9⟩ := hown2.at_
            obtain ⟨bn, hbn⟩ : ∃ bn, (withL P (hB s)).length = bn := ⟨_, rfl⟩
            have Hbn := hid_ hbn
            rw [hbn] at hl9 ⊢
            have HLb := hid_ hl9
            have Hbr := hid_ (Hb3.out.trans (hb.mono Hb3.out.size))
            have hI := fun W (hW : Below wr.heap.size wr W) => ceIsBox_calls _ P a9 bn c9 (withL P (hB s)) W (HP1.out.below (Hbr.out.trans (hW.mono Hbr.out.size)) (Nat.le_refl _)) (HLb.out.below hW (Nat.le_refl _))
            have hJ := fun W (hW : Below wr.heap.size wr W) => ceHull_calls _ P a9 bn c9 (withL P (hB s)) W (HP1.out.below (Hbr.out.trans (hW.mono Hbr.out.size)) (Nat.le_refl _)) (HLb.out.below hW (Nat.le_refl _))
            rw [HBx.out, HBb.out] at hI
            rw [HBu.out, HBh.out] at hJ
            have HI := hid_ hI; have HJ := hid_ hJ
            have g0 := cell_below q03 hb; have g1 := cell_below q13 hb
            have hxn := Hxn.out
            have ge0 := cell_below ks0 Hbr.out
            have HS8 := hid_ (His.out.below Hbr.out (Nat.le_refl _))
            clear hbn hl9 hI hJ hown hown2 q03 q13 ks0 ks1 hb
            go_wp2_with (first
              | (go_at_call 50; (with_reducible refine (HI.out _ (Below.refl _ _)).mono ?_); rintro e w5 ⟨rfl, hb5⟩; have g05 := cell_below g0 hb5; have g15 := cell_below g1 hb5; have ge5 := cell_below ge0 hb5)
              | (go_at_call 48; (with_reducible refine (HJ.out w5 hb5).mono ?_); rintro e w6 ⟨v6, rfl, hm6⟩; have hb6 := hb5.trans (hm6.bel.mono hb5.size); have g06 := cell_below g0 hb6; have g16 := cell_below g1 hb6; have ge6 := cell_below ge0 hb6; obtain ⟨a6, c6, rfl, hi6⟩ := hm6.at_; rw [Hns.out] at hi6 ⊢; have Hi6 := hid_ hi6; have HS6 := hid_ (HS8.out.below hb6 (Nat.le_refl _)); clear hi6 hm6)
              | (go_at_call 31; (with_reducible refine (same_yes7 _ _ _ s _ _ _ w6 Hi6.out HS6.out).mono ?_); rintro e w7 ⟨rfl, hc7⟩; have hb7 := hb6.trans (hc7.mono hb6.size))
              | (go_at_call 18; (with_reducible refine (HK.out _).mono ?_); rintro e wk ⟨rfl, hbk⟩))
            go_ret
            exact ⟨rfl, Hc1.out.trans ((Hbr.out.trans ((hb7.trans (hbk.mono hb7.size)).mono Hbr.out.size)).mono Hc1.out.size)⟩
    · have hq : (validP P != 0) = true := by simpa using hv
      generalize validP P = y at *
      clear hv hln
      go_enter Try.func10, Try.ntmps10
      go_wp2_with (first
        | (go_at_call 17; (with_reducible refine HG.out.mono ?_); rintro e w2 ⟨rfl, hb2⟩; have q02 := cell_below q0 hb2; have q12 := cell_below q1 hb2)
        | (go_at_call 19; (with_reducible refine (HA.out w2 hb2).mono ?_); rintro e w3 ⟨v3, rfl, hm3⟩; have hb3 := hb2.trans (hm3.bel.mono hb2.size); have q03 := cell_below q0 hb3; have q13 := cell_below q1 hb3; obtain ⟨a3, c3, rfl, hi3⟩ := hm3.at_; clear hi3 hm3)
        | (go_at_call 18; (with_reducible refine (HK.out _).mono ?_); rintro e wk ⟨rfl, hbk⟩))
      go_ret
      exact ⟨rfl, Hc1.out.trans ((hb3.trans (hbk.mono hb3.size)).mono Hc1.out.size)⟩
end Go.Proofs.Ytahknodnjjmagaa
