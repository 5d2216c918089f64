import Derived.Test.YtdnlpikfibdjoaaZea
import Derived.Test.YtdnlpikfibdjoaaZ3
import Derived.Deep.DeepCutAuto
namespace Go.Proofs.Ytdnlpikfibdjoaa
open Go.RowKit Go.Proofs.Kv Go

/-! ### the law TopCells -/
theorem lists2_6 (u : World) (F : TypeId) {a0 a1 : Option Addr} {n0 c0 n1 c1 : Nat} {l0 l1 : List Int} (h0 : IntsAt u a0 n0 c0 l0) (h1 : IntsAt u a1 n1 c1 l1) :
    ListsAt (u.alloc (.cells #[.slice a0 n0 c0, .slice a1 n1 c1] F)) (some ⟨u.heap.size, 0, none⟩) 2 2 [l0, l1] := by
  have hb := below_alloc u (.cells #[.slice a0 n0 c0, .slice a1 n1 c1] F)
  refine ⟨rfl, Nat.le_refl _, by omega, fun i hi => ?_⟩
  rcases (show i = 0 ∨ i = 1 by omega) with rfl | rfl
  · exact ⟨u.heap.size, 0, _, _, _, rfl, by simp, cells_alloc _ _ _ 0, h0.below hb (Nat.le_refl _)⟩
  · exact ⟨u.heap.size, 0, _, _, _, rfl, by simp, cells_alloc _ _ _ 1, h1.below hb (Nat.le_refl _)⟩
set_option maxRecDepth 100000 in
set_option maxHeartbeats 8000000 in
theorem topCells_calls (v : Value) (P : Par) (pi pj : Int) (w : World) (h : ParAt w v P) :
    Calls Try.prog 6 #[v, .int .i64 pi, .int .i64 pj] w fun e w' => e = .returned (.bool true) ∧ Below w.heap.size w w' := by
  have HP := hid_ h
  obtain ⟨a1, n1, c1, a2, n2, c2, rfl, h1, h2⟩ := h
  obtain ⟨w1, hw1⟩ : ∃ w1, w.alloc (.cells #[.slice a1 n1 c1, .slice a2 n2 c2] 25) = w1 := ⟨_, rfl⟩
  have cb : Below w.heap.size w w1 := by rw [← hw1]; exact below_alloc _ _
  have q0 : w1.cell? ⟨w.heap.size, 0, none⟩ = some (.slice a1 n1 c1) := by rw [← hw1]; exact cells_alloc _ _ _ 0
  have q1 : w1.cell? ⟨w.heap.size, 1, none⟩ = some (.slice a2 n2 c2) := by rw [← hw1]; exact cells_alloc _ _ _ 1
  have HP1 := hid_ (HP.out.below cb (Nat.le_refl _)); have Hc1 := hid_ cb
  have HQ := hid_ (fun W (hW : Below w1.heap.size w1 W) => (⟨cell_below q0 hW, cell_below q1 hW⟩ : W.cell? ⟨w.heap.size, 0, none⟩ = some (.slice a1 n1 c1) ∧ W.cell? ⟨w.heap.size, 1, none⟩ = some (.slice a2 n2 c2)))
  have HL := hid_ (fun W (hW : Below w1.heap.size w1 W) => HP1.out.below hW (Nat.le_refl _))
  have HG := hid_ (fun W (hW : Below w1.heap.size w1 W) => long_calls _ P W (HL.out W hW))
  have hen := h2.len
  obtain ⟨u1, hu1⟩ : ∃ u1, w1.alloc (.cells #[.int .i64 2, .int .i64 2] 3) = u1 := ⟨_, rfl⟩
  obtain ⟨u2, hu2⟩ : ∃ u2, u1.alloc (.cells #[.int .i64 0, .int .i64 0] 3) = u2 := ⟨_, rfl⟩
  obtain ⟨u3, hu3⟩ : ∃ u3, u2.alloc (.cells #[.int .i64 1, .int .i64 0] 3) = u3 := ⟨_, rfl⟩
  obtain ⟨u4, hu4⟩ : ∃ u4, u3.alloc (.cells #[.slice (some ⟨u1.heap.size, 0, none⟩) 2 2, .slice (some ⟨u2.heap.size, 0, none⟩) 2 2] 22) = u4 := ⟨_, rfl⟩
  have b1 : Below w1.heap.size w1 u1 := by rw [← hu1]; exact below_alloc _ _
  have b2 : Below u1.heap.size u1 u2 := by rw [← hu2]; exact below_alloc _ _
  have b3 : Below u2.heap.size u2 u3 := by rw [← hu3]; exact below_alloc _ _
  have b4 : Below u3.heap.size u3 u4 := by rw [← hu4]; exact below_alloc _ _
  have i1 : IntsAt u1 (some ⟨w1.heap.size, 0, none⟩) 2 2 [2, 2] := by rw [← hu1]; exact ints_two _ _ _ _
  have i2 : IntsAt u2 (some ⟨u1.heap.size, 0, none⟩) 2 2 [0, 0] := by rw [← hu2]; exact ints_two _ _ _ _
  have i3 : IntsAt u3 (some ⟨u2.heap.size, 0, none⟩) 2 2 [1, 0] := by rw [← hu3]; exact ints_two _ _ _ _
  have i4 : ListsAt u4 (some ⟨u3.heap.size, 0, none⟩) 2 2 [[0, 0], [1, 0]] := by rw [← hu4]; exact lists2_6 _ _ (i2.below b3 (Nat.le_refl _)) i3
  have p4 : ParAt u4 (.agg #[.slice (some ⟨w1.heap.size, 0, none⟩) 2 2, .slice none 0 0]) ⟨[2, 2], []⟩ := ⟨_, _, _, _, _, _, rfl, i1.below (b2.trans ((b3.trans (b4.mono b3.size)).mono b2.size)) (Nat.le_refl _), EntsAt.nil _ _ _ (by omega)⟩
  have b14 : Below w1.heap.size w1 u4 := b1.trans ((b2.trans ((b3.trans (b4.mono b3.size)).mono b2.size)).mono b1.size)
  have HH := hid_ (ceHull_calls _ ⟨[2, 2], []⟩ _ 2 2 [[0, 0], [1, 0]] u4 p4 i4)
  rw [hull_ex.1, hull_ex.2] at HH
  have B4 := hid_ b14
  clear b1 b2 b3 b4 i1 i2 i3 i4 p4 b14
  have HS0 := hid_ (fun (W : World) v (h : Made 3 u4 W v [-1, 0]) => by
    obtain ⟨a5, c5, e5, h5⟩ := h.at_
    exact (⟨a5, c5, e5, (show Same [-1, 0] [-1, 0] = true from decide_eq_true rfl) ▸ same_calls _ _ _ _ _ _ _ _ (W.alloc (.cells #[.int .i64 (-1), .int .i64 0] 3)) (h5.below (below_alloc _ _) (Nat.le_refl _)) (ints_two W (-1) 0 3)⟩ : ∃ a5 c5, v = .slice a5 2 c5 ∧ Calls Try.prog 15 #[.slice a5 2 c5, .slice (some ⟨W.heap.size, 0, none⟩) 2 2] (W.alloc (.cells #[.int .i64 (-1), .int .i64 0] 3)) fun e w' => e = .returned (.bool true) ∧ ∃ q, w' = (W.alloc (.cells #[.int .i64 (-1), .int .i64 0] 3)).drewN q))
  clear h1 h2 cb
  cases hg : LongP P with
  | true =>
    rw [hg] at HG
    go_enter Try.func6, Try.ntmps6
    go_wp2_with (first
      | (go_at_call 28; (with_reducible refine HH.out.mono ?_); rintro e w5 ⟨v5, rfl, hm5⟩; obtain ⟨a5, c5, rfl, hS5⟩ := HS0.out w5 v5 hm5; have hb5 := B4.out.trans (hm5.bel.mono B4.out.size); have hb5' := hb5.trans ((below_alloc w5 (.cells #[.int .i64 (-1), .int .i64 0] 3)).mono hb5.size); have HS5 := hid_ hS5; clear hS5)
      | (go_at_call 15; (with_reducible refine HS5.out.mono ?_); rintro e w6 ⟨rfl, q6, rfl⟩; have hb6 := below_drewN hb5' q6; obtain ⟨q06, q16⟩ := HQ.out _ hb6)
      | (go_at_call 8; (with_reducible refine (HG.out _ hb6).mono ?_); rintro e w7 ⟨rfl, hb7'⟩; have hb7 := hb6.trans (hb7'.mono hb6.size); obtain ⟨q07, q17⟩ := HQ.out _ hb7; clear hb7'))
    go_ret
    exact ⟨rfl, Hc1.out.trans (hb7.mono Hc1.out.size)⟩
  | false =>
    rw [hg] at HG
    clear hg
    have HCe := hid_ (fun W (hW : Below w1.heap.size w1 W) => ceCells_calls _ P W (HL.out W hW))
    by_cases hv : validP P = 0
    · have HF := hid_ (fun W (hW : Below w1.heap.size w1 W) => ceFill_calls _ P W (HL.out W hW))
      have HCl := hid_ (fun W (hW : Below w1.heap.size w1 W) => ceClashes_calls _ P W (HL.out W hW))
      have HEm := hid_ (fun W (hW : Below w1.heap.size w1 W) => ceEmpty_calls _ P W (HL.out W hW))
      have HHo := hid_ (fun W (hW : Below w1.heap.size w1 W) y => ceHomes_calls _ P y W (HL.out W hW))
      have HMa := hid_ (fun W (hW : Below w1.heap.size w1 W) a n c l (hl : IntsAt W a n c l) => ceMatches_calls _ P a n c l W (HL.out W hW) hl)
      have HDe := hid_ (fun W (hW : Below w1.heap.size w1 W) a n c l (hl : IntsAt W a n c l) => ceDecides_calls _ P a n c l W (HL.out W hW) hl)
      have HIs := hid_ (fun W (hW : Below w1.heap.size w1 W) i j => ceIsMore_calls _ P i j W (HL.out W hW))
      have HSw := hid_ (fun W (hW : Below w1.heap.size w1 W) => ceSwap_calls _ P pi pj W (HL.out W hW))
      have HRe := hid_ (fun W (hW : Below w1.heap.size w1 W) => ceReduce_calls _ P W (HL.out W hW))
      have HSm := hid_ (fun W (hW : Below w1.heap.size w1 W) v' (hp : ParAt W v' (resRed P)) => ceSame_calls v' _ (resRed P) P W hp (HL.out W hW))
      have HNe := hid_ (fun W (hW : Below w1.heap.size w1 W) => ceNeedless_calls _ P W (HL.out W hW))
      unfold NeedPost at HNe
      have Hred := hid_ (reduce_ok hv)
      have Hsho := hid_ (short_ok hv)
      have Hswf := hid_ (@swap_fill P pi pj)
      have HswF := hid_ (fun (W : World) v' (h : ParAt W v' (resSwap P pi pj)) => ceFill_calls v' (resSwap P pi pj) W h)
      have Hdec := hid_ (fun k hk => @decides_ok P hv k hk)
      have Hhom := hid_ (homes_len P hv)
      have Hall := homes_all hv
      have hfl : (resFill P).length = (resCells P).length := by unfold resFill resCells fillL; rw [if_pos hv, if_pos hv, List.length_map]
      have h27 : (resCells P).length ≤ 27 := by unfold resCells; rw [if_pos hv]; exact (cells_chain hv).2.2.1
      have Hhle := hid_ (fun k => (show homK P k ≤ (resCells P).length by unfold resCells; rw [if_pos hv]; exact homK_le k))
      rw [hv] at HCe HF HCl HEm
      have Hv := hid_ hv
      have Hen := hid_ hen
      obtain ⟨m, hm⟩ : ∃ m, (resCells P).length = m := ⟨_, rfl⟩
      obtain ⟨cl, hcl⟩ : ∃ cl, (resClash P).length = cl := ⟨_, rfl⟩
      obtain ⟨em, hem⟩ : ∃ em, (resEmpty P).length = em := ⟨_, rfl⟩
      rw [hm] at hfl h27 Hall Hhle Hdec
      rw [hcl, hem] at Hall
      have Hm := hid_ hm; have Hfl := hid_ hfl; have Hcl := hid_ hcl; have Hem := hid_ hem
      have HAll := hid_ Hall
      have h100 : ¬ 100 < (m : Int) := by omega
      have h100' : ¬ 100 < m := by omega
      clear hm hfl hcl hem Hall hv hen
      generalize resCells P = C at *
      generalize resFill P = F at *
      generalize resClash P = CL at *
      generalize resEmpty P = EM at *
      go_enter Try.func6, Try.ntmps6
      go_wp2_with (first
        | (go_at_call 28; (with_reducible refine HH.out.mono ?_); rintro e w5 ⟨v5, rfl, hm5⟩; obtain ⟨a5, c5, rfl, hS5⟩ := HS0.out w5 v5 hm5; have hb5 := B4.out.trans (hm5.bel.mono B4.out.size); have hb5' := hb5.trans ((below_alloc w5 (.cells #[.int .i64 (-1), .int .i64 0] 3)).mono hb5.size); have HS5 := hid_ hS5; clear hS5)
        | (go_at_call 15; (with_reducible refine HS5.out.mono ?_); rintro e w6 ⟨rfl, q6, rfl⟩; have hb6 := below_drewN hb5' q6; obtain ⟨q06, q16⟩ := HQ.out _ hb6)
        | (go_at_call 8; (with_reducible refine (HG.out _ hb6).mono ?_); rintro e w7 ⟨rfl, hb7'⟩; have hb7 := hb6.trans (hb7'.mono hb6.size); obtain ⟨q07, q17⟩ := HQ.out _ hb7; clear hb7')
        | (go_at_call 29; (with_reducible refine (HCe.out w7 hb7).mono ?_); rintro e w8 ⟨v8, rfl, hm8⟩; have hb8 := hb7.trans (hm8.bel.mono hb7.size); obtain ⟨q08, q18⟩ := HQ.out _ hb8; obtain ⟨a8, c8, rfl, hi8⟩ := hm8.at_; rw [Hm.out] at hi8 ⊢; have Hi8 := hid_ hi8; clear hi8 hm8)
        | (go_at_call 30; (with_reducible refine (HF.out w8 hb8).mono ?_); rintro e w9 ⟨v9, rfl, hm9⟩; have hb9 := hb8.trans (hm9.bel.mono hb8.size); obtain ⟨q09, q19⟩ := HQ.out _ hb9; obtain ⟨a9, c9, rfl, hi9⟩ := hm9.at_; rw [Hfl.out] at hi9 ⊢; have Hi9 := hid_ hi9; have Hi89 := hid_ (Hi8.out.below hm9.bel (Nat.le_refl _)); clear hi9 hm9)
        | (go_at_call 31; (with_reducible refine (HCl.out w9 hb9).mono ?_); rintro e w10 ⟨v10, rfl, hm10⟩; have hb10 := hb9.trans (hm10.bel.mono hb9.size); obtain ⟨q010, q110⟩ := HQ.out _ hb10; obtain ⟨a10, c10, rfl, hi10⟩ := hm10.at_; rw [Hcl.out] at hi10 ⊢; have Hi9a := hid_ (Hi9.out.below hm10.bel (Nat.le_refl _)); have Hi8a := hid_ (Hi89.out.below hm10.bel (Nat.le_refl _)); clear hi10 hm10)
        | (go_at_call 32; (with_reducible refine (HEm.out w10 hb10).mono ?_); rintro e w11 ⟨v11, rfl, hm11⟩; have hb11 := hb10.trans (hm11.bel.mono hb10.size); obtain ⟨q011, q111⟩ := HQ.out _ hb11; obtain ⟨a11, c11, rfl, hi11⟩ := hm11.at_; rw [Hem.out] at hi11 ⊢; have Hi9b := hid_ (Hi9a.out.below hm11.bel (Nat.le_refl _)); have Hi8b := hid_ (Hi8a.out.below hm11.bel (Nat.le_refl _)); clear hi11 hm11))
      have Hb11 := hid_ hb11
      go_loopw [16, 17] (fun hv fv wr => ∃ k : Nat, k ≤ 10 ∧ hv = .int .i64 (homK P k : Nat) ∧ fv = .int .i64 (k : Int) ∧ Below w11.heap.size w11 wr) (fun _ fv _ => 10 - (intOf fv).toNat)
      case atStart => exact ⟨0, Nat.zero_le _, rfl, rfl, Below.refl _ _⟩
      case round =>
        obtain ⟨k, hk, rfl, rfl, hb⟩ := hrel
        have hb1 := Hb11.out.trans (hb.mono Hb11.out.size)
        have Hb := hid_ hb
        have Hb1 := hid_ hb1
        obtain ⟨q3, r3⟩ := HQ.out wr hb1
        by_cases hlt : k ≤ 9
        · have hle : (k : Int) ≤ 9 := by omega
          have hwk : IntKind.i64.wrap ((k : Int) + 1) = (k : Int) + 1 := IntWalk.i64_in _ (by omega)
          obtain ⟨e1, e2⟩ := Hhom.out k hlt
          have e3 := Hhle.out (k + 1)
          have HHk := hid_ (HHo.out wr hb1 (k : Int))
          rw [e1] at HHk
          obtain ⟨rl, hrl⟩ : ∃ rl, (resHomes P (k : Int)).length = rl := ⟨_, rfl⟩
          rw [hrl] at e2
          have Hrl := hid_ hrl
          have He2 := hid_ e2
          rw [e2] at e3
          have hwh : IntKind.i64.wrap ((homK P k : Int) + (rl : Int)) = ((homK P k + rl : Nat) : Int) := by rw [IntWalk.i64_in _ (by omega)]; omega
          generalize homK P k = hk0 at *
          clear e1 e2 hrl hb hb1
          go_wp2_with (go_at_call 33; (with_reducible refine HHk.out.mono ?_); rintro e w12 ⟨v12, rfl, hm12⟩; have Hb12 := hid_ (Hb.out.trans (hm12.bel.mono Hb.out.size)); obtain ⟨a12, c12, rfl, hi12⟩ := hm12.at_; rw [Hrl.out]; clear hi12 hm12)
          go_roundw
          case rel => exact ⟨k + 1, by omega, by rw [He2.out]; first | rfl | simp, by go_num, Hb12.out⟩
          case measure => (simp [intOf]; try omega)
        · have hle : ¬ (k : Int) ≤ 9 := by omega
          have hAll : homK P k + cl + em = m := by rw [show k = 10 by omega]; exact HAll.out
          obtain ⟨x1, hx1⟩ : ∃ x1, homK P k + cl = x1 := ⟨_, rfl⟩
          have hwa : IntKind.i64.wrap ((homK P k : Int) + (cl : Int)) = (x1 : Int) := by rw [IntWalk.i64_in _ (by omega)]; omega
          have hwb : IntKind.i64.wrap ((x1 : Int) + (em : Int)) = (m : Int) := by rw [IntWalk.i64_in _ (by omega)]; omega
          generalize homK P k = h10 at *
          clear hAll hx1 hb hb1 hlt hk
          go_wp2
          obtain ⟨wb, hwb'⟩ : ∃ wb, wb = wr := ⟨_, rfl⟩
          rw [← hwb'] at q3 r3 Hb Hb1 ⊢
          clear hwb'
          have Hi8c := hid_ (Hi8b.out.below Hb.out (Nat.le_refl _)); have Hi9c := hid_ (Hi9b.out.below Hb.out (Nat.le_refl _))
          clear hwa hwb
          go_loopw [20] (fun iv wr => ∃ k : Nat, k ≤ m ∧ iv = .int .i64 (k : Int) ∧ Below wb.heap.size wb wr) (fun iv _ => m - (intOf iv).toNat)
          case atStart => exact ⟨0, Nat.zero_le _, rfl, Below.refl _ _⟩
          case round =>
            obtain ⟨k, hk, rfl, hb⟩ := hrel
            have hb1 := Hb1.out.trans (hb.mono Hb1.out.size)
            have Hbk := hid_ hb
            have Hbk1 := hid_ hb1
            obtain ⟨q4, r4⟩ := HQ.out wr hb1
            by_cases hlt : k < m
            · obtain ⟨bl, ofl, a3, n3, c3, rfl, hbs, hcell, hrow⟩ := (Hi8c.out.below hb (Nat.le_refl _)).cells k hlt
              obtain ⟨bf, off, rfl, hbf, hcf⟩ := (Hi9c.out.below hb (Nat.le_refl _)).cells k hlt
              obtain ⟨d1, d2, d3, d4⟩ := Hdec.out k hlt
              have Hrow := hid_ hrow
              have hwk : IntKind.i64.wrap ((k : Int) + 1) = (k : Int) + 1 := IntWalk.i64_in _ (by omega)
              have bd : Below wr.heap.size wr wr.drew := Below.drew (Below.refl _ _)
              have HM3 := hid_ (HMa.out wr.drew (Below.drew hb1) _ _ _ _ (hrow.below bd (Nat.le_refl _)))
              have HD3 := hid_ (fun W (hW : Below wr.heap.size wr W) => HDe.out W (hb1.trans (hW.mono hb1.size)) _ _ _ _ (Hrow.out.below hW (Nat.le_refl _)))
              rw [d1, d2] at HM3
              rw [d1] at HD3
              have HC3 := hid_ (fun W (hW : Below wr.heap.size wr W) => (⟨cell_below q4 hW, cell_below r4 hW, cell_below hcell hW, cell_below hcf hW⟩ : W.cell? ⟨w.heap.size, 0, none⟩ = some (.slice a1 n1 c1) ∧ W.cell? ⟨w.heap.size, 1, none⟩ = some (.slice a2 n2 c2) ∧ W.cell? ⟨bl, ofl + k, none⟩ = some (.slice a3 n3 c3) ∧ W.cell? ⟨bf, off + k, none⟩ = some (.int .i64 (F.getD k 0))))
              clear d1 d2 hrow hbs hbf hb hb1 hcell hcf
              generalize F.getD k 0 = ff at *
              generalize matL P (C.getD k []) = M at *
              generalize (resDec P (C.getD k [])).1 = dn at *
              generalize (resDec P (C.getD k [])).2 = dis at *
              have Hd4 := hid_ d4
              obtain ⟨mm, hmm⟩ : ∃ mm, M.length = mm := ⟨_, rfl⟩
              have Hmm := hid_ hmm
              clear hmm d4
              go_wp2
              refine wp_region_held_drew (S := fun W' => W'.cell? ⟨w.heap.size, 0, none⟩ = some (.slice a1 n1 c1) ∧ W'.cell? ⟨w.heap.size, 1, none⟩ = some (.slice a2 n2 c2) ∧ W'.cell? ⟨bl, ofl + k, none⟩ = some (.slice a3 n3 c3) ∧ W'.cell? ⟨bf, off + k, none⟩ = some (.int .i64 ff)) (by kernel_rfl) (HC3.out _ bd) (fun hHeld => ?_)
              refine wpAnyH_take (i := 0) (oi := ?oi0h1) (v := ?v0h1) ?hi0h1 (by kernel_rfl) ?hf0h1 (by kernel_rfl) ?hQ0h1 ?hy0h1 (by assumption) ?rest0h1
              case hi0h1 => (simp only [List.getElem?_toArray, List.getElem?_cons_zero]; rfl)
              case hf0h1 => kernel_rfl
              case hQ0h1 => exact fun _ _ _ h => h
              case hy0h1 => (refine Or.inl ⟨by rfl, ?_⟩; intro W hSw; (try dsimp only at hSw); obtain ⟨g0, g1, g2, g3⟩ := hSw; go_simp; try with_reducible rfl)
              try simp only [Act.put, List.setIfInBounds_toArray, List.set_cons_zero, List.set_cons_succ]
              refine wpAnyH_take (i := 1) (oi := ?oi1h2) (v := ?v1h2) ?hi1h2 (by kernel_rfl) ?hf1h2 (by kernel_rfl) ?hQ1h2 ?hy1h2 (by assumption) ?rest1h2
              case hi1h2 => (simp only [List.getElem?_toArray, List.getElem?_cons_succ, List.getElem?_cons_zero]; rfl)
              case hf1h2 => kernel_rfl
              case hQ1h2 => exact fun _ _ _ h => h
              case hy1h2 => (refine Or.inl ⟨by rfl, ?_⟩; intro W hSw; (try dsimp only at hSw); go_simp; try with_reducible rfl)
              try simp only [Act.put, List.setIfInBounds_toArray, List.set_cons_zero, List.set_cons_succ]
              refine wpAnyH_take (i := 2) (oi := ?oi2h3) (v := ?v2h3) ?hi2h3 (by kernel_rfl) ?hf2h3 (by kernel_rfl) ?hQ2h3 ?hy2h3 (by assumption) ?rest2h3
              case hi2h3 => (simp only [List.getElem?_toArray, List.getElem?_cons_succ, List.getElem?_cons_zero]; rfl)
              case hf2h3 => kernel_rfl
              case hQ2h3 => exact fun _ _ _ h => h
              case hy2h3 => (refine Or.inl ⟨by rfl, ?_⟩; intro W hSw; (try dsimp only at hSw); go_simp; try with_reducible rfl)
              try simp only [Act.put, List.setIfInBounds_toArray, List.set_cons_zero, List.set_cons_succ]
              refine wpAnyH_take (i := 3) (oi := ?oi3h4) (v := ?v3h4) ?hi3h4 (by kernel_rfl) ?hf3h4 (by kernel_rfl) ?hQ3h4 ?hy3h4 (by assumption) ?rest3h4
              case hi3h4 => (simp only [List.getElem?_toArray, List.getElem?_cons_succ, List.getElem?_cons_zero]; rfl)
              case hf3h4 => kernel_rfl
              case hQ3h4 => exact fun _ _ _ h => h
              case hy3h4 => (refine Or.inl ⟨by rfl, ?_⟩; intro W hSw; (try dsimp only at hSw); go_simp; try with_reducible rfl)
              try simp only [Act.put, List.setIfInBounds_toArray, List.set_cons_zero, List.set_cons_succ]
              refine wpAnyH_take (i := 4) (oi := ?oi4h5) (v := ?v4h5) ?hi4h5 (by kernel_rfl) ?hf4h5 (by kernel_rfl) ?hQ4h5 ?hy4h5 (by assumption) ?rest4h5
              case hi4h5 => (simp only [List.getElem?_toArray, List.getElem?_cons_succ, List.getElem?_cons_zero]; rfl)
              case hf4h5 => kernel_rfl
              case hQ4h5 => exact fun _ _ _ h => h
              case hy4h5 => (refine Or.inl ⟨by rfl, ?_⟩; intro W hSw; (try dsimp only at hSw); obtain ⟨g0, g1, g2, g3⟩ := hSw; go_simp; try with_reducible rfl)
              try simp only [Act.put, List.setIfInBounds_toArray, List.set_cons_zero, List.set_cons_succ]
              refine wpAnyH_ready (rs := [5]) (by kernel_rfl) (by simp) ?_
              refine AllReadyH.cons (o := _) (by (simp only [List.getElem?_toArray, List.getElem?_cons_succ, List.getElem?_cons_zero]; rfl)) (fun K hK => ?_) AllReadyH.nil
              go_simp
              (with_reducible refine HM3.out.mono ?_); rintro e w13 ⟨v13, rfl, hm13⟩; have bb13 := bd.trans (hm13.bel.mono bd.size); obtain ⟨a13, c13, rfl, hi13⟩ := hm13.at_; rw [Hmm.out] at hi13 ⊢; have Hi13 := hid_ hi13; clear hi13 hm13
              refine hK.out _ _ ?_ (fun hHeld => ?_)
              · exact HC3.out _ bb13
              clear hK K
              try simp only [Act.put, List.setIfInBounds_toArray, List.set_cons_zero, List.set_cons_succ]
              refine wpAnyH_take (i := 6) (oi := ?oi6h6) (v := ?v6h6) ?hi6h6 (by kernel_rfl) ?hf6h6 (by kernel_rfl) ?hQ6h6 ?hy6h6 (by assumption) ?rest6h6
              case hi6h6 => (simp only [List.getElem?_toArray, List.getElem?_cons_succ, List.getElem?_cons_zero]; rfl)
              case hf6h6 => kernel_rfl
              case hQ6h6 => exact fun _ _ _ h => h
              case hy6h6 => (refine Or.inl ⟨by rfl, ?_⟩; intro W hSw; (try dsimp only at hSw); go_simp; try with_reducible rfl)
              try simp only [Act.put, List.setIfInBounds_toArray, List.set_cons_zero, List.set_cons_succ]
              refine wpAnyH_take (i := 7) (oi := ?oi7h7) (v := ?v7h7) ?hi7h7 (by kernel_rfl) ?hf7h7 (by kernel_rfl) ?hQ7h7 ?hy7h7 (by assumption) ?rest7h7
              case hi7h7 => (simp only [List.getElem?_toArray, List.getElem?_cons_succ, List.getElem?_cons_zero]; rfl)
              case hf7h7 => kernel_rfl
              case hQ7h7 => exact fun _ _ _ h => h
              case hy7h7 => (refine Or.inl ⟨by rfl, ?_⟩; intro W hSw; (try dsimp only at hSw); go_simp; try with_reducible rfl)
              try simp only [Act.put, List.setIfInBounds_toArray, List.set_cons_zero, List.set_cons_succ]
              refine wpAnyH_take (i := 8) (oi := ?oi8h8) (v := ?v8h8) ?hi8h8 (by kernel_rfl) ?hf8h8 (by kernel_rfl) ?hQ8h8 ?hy8h8 (by assumption) ?rest8h8
              case hi8h8 => (simp only [List.getElem?_toArray, List.getElem?_cons_succ, List.getElem?_cons_zero]; rfl)
              case hf8h8 => kernel_rfl
              case hQ8h8 => exact fun _ _ _ h => h
              case hy8h8 => (refine Or.inl ⟨by rfl, ?_⟩; intro W hSw; (try dsimp only at hSw); go_simp; try with_reducible rfl)
              try simp only [Act.put, List.setIfInBounds_toArray, List.set_cons_zero, List.set_cons_succ]
              refine wpAnyH_take (i := 9) (oi := ?oi9h9) (v := ?v9h9) ?hi9h9 (by kernel_rfl) ?hf9h9 (by kernel_rfl) ?hQ9h9 ?hy9h9 (by assumption) ?rest9h9
              case hi9h9 => (simp only [List.getElem?_toArray, List.getElem?_cons_succ, List.getElem?_cons_zero]; rfl)
              case hf9h9 => kernel_rfl
              case hQ9h9 => exact fun _ _ _ h => h
              case hy9h9 => (refine Or.inl ⟨by rfl, ?_⟩; intro W hSw; (try dsimp only at hSw); go_simp; try with_reducible rfl)
              try simp only [Act.put, List.setIfInBounds_toArray, List.set_cons_zero, List.set_cons_succ]
              refine wpAnyH_take (i := 10) (oi := ?oi10h10) (v := ?v10h10) ?hi10h10 (by kernel_rfl) ?hf10h10 (by kernel_rfl) ?hQ10h10 ?hy10h10 (by assumption) ?rest10h10
              case hi10h10 => (simp only [List.getElem?_toArray, List.getElem?_cons_succ, List.getElem?_cons_zero]; rfl)
              case hf10h10 => kernel_rfl
              case hQ10h10 => exact fun _ _ _ h => h
              case hy10h10 => (refine Or.inl ⟨by rfl, ?_⟩; intro W hSw; (try dsimp only at hSw); go_simp; try with_reducible rfl)
              try simp only [Act.put, List.setIfInBounds_toArray, List.set_cons_zero, List.set_cons_succ]
              refine wpAnyH_done (by kernel_rfl) ?_ _
              clear hHeld
              obtain ⟨q5, r5, s5, t5⟩ := HC3.out _ bb13
              have bd13 : Below wr.heap.size wr w13.drew := Below.drew bb13
              go_wp2_with fail
              have HD13 := hid_ (HD3.out _ bd13)
              clear bd
              refine wp_region_held_drew (S := fun W' => W'.cell? ⟨w.heap.size, 0, none⟩ = some (.slice a1 n1 c1) ∧ W'.cell? ⟨w.heap.size, 1, none⟩ = some (.slice a2 n2 c2) ∧ W'.cell? ⟨bl, ofl + k, none⟩ = some (.slice a3 n3 c3) ∧ W'.cell? ⟨bf, off + k, none⟩ = some (.int .i64 ff)) (by kernel_rfl) (HC3.out _ bd13) (fun hHeld => ?_)
              refine wpAnyH_take (i := 0) (oi := ?oi0h11) (v := ?v0h11) ?hi0h11 (by kernel_rfl) ?hf0h11 (by kernel_rfl) ?hQ0h11 ?hy0h11 (by assumption) ?rest0h11
              case hi0h11 => (simp only [List.getElem?_toArray, List.getElem?_cons_zero]; rfl)
              case hf0h11 => kernel_rfl
              case hQ0h11 => exact fun _ _ _ h => h
              case hy0h11 => (refine Or.inl ⟨by rfl, ?_⟩; intro W hSw; (try dsimp only at hSw); obtain ⟨g0, g1, g2, g3⟩ := hSw; go_simp; try with_reducible rfl)
              try simp only [Act.put, List.setIfInBounds_toArray, List.set_cons_zero, List.set_cons_succ]
              refine wpAnyH_take (i := 1) (oi := ?oi1h12) (v := ?v1h12) ?hi1h12 (by kernel_rfl) ?hf1h12 (by kernel_rfl) ?hQ1h12 ?hy1h12 (by assumption) ?rest1h12
              case hi1h12 => (simp only [List.getElem?_toArray, List.getElem?_cons_succ, List.getElem?_cons_zero]; rfl)
              case hf1h12 => kernel_rfl
              case hQ1h12 => exact fun _ _ _ h => h
              case hy1h12 => (refine Or.inl ⟨by rfl, ?_⟩; intro W hSw; (try dsimp only at hSw); go_simp; try with_reducible rfl)
              try simp only [Act.put, List.setIfInBounds_toArray, List.set_cons_zero, List.set_cons_succ]
              refine wpAnyH_take (i := 2) (oi := ?oi2h13) (v := ?v2h13) ?hi2h13 (by kernel_rfl) ?hf2h13 (by kernel_rfl) ?hQ2h13 ?hy2h13 (by assumption) ?rest2h13
              case hi2h13 => (simp only [List.getElem?_toArray, List.getElem?_cons_succ, List.getElem?_cons_zero]; rfl)
              case hf2h13 => kernel_rfl
              case hQ2h13 => exact fun _ _ _ h => h
              case hy2h13 => (refine Or.inl ⟨by rfl, ?_⟩; intro W hSw; (try dsimp only at hSw); go_simp; try with_reducible rfl)
              try simp only [Act.put, List.setIfInBounds_toArray, List.set_cons_zero, List.set_cons_succ]
              refine wpAnyH_take (i := 3) (oi := ?oi3h14) (v := ?v3h14) ?hi3h14 (by kernel_rfl) ?hf3h14 (by kernel_rfl) ?hQ3h14 ?hy3h14 (by assumption) ?rest3h14
              case hi3h14 => (simp only [List.getElem?_toArray, List.getElem?_cons_succ, List.getElem?_cons_zero]; rfl)
              case hf3h14 => kernel_rfl
              case hQ3h14 => exact fun _ _ _ h => h
              case hy3h14 => (refine Or.inl ⟨by rfl, ?_⟩; intro W hSw; (try dsimp only at hSw); go_simp; try with_reducible rfl)
              try simp only [Act.put, List.setIfInBounds_toArray, List.set_cons_zero, List.set_cons_succ]
              refine wpAnyH_take (i := 4) (oi := ?oi4h15) (v := ?v4h15) ?hi4h15 (by kernel_rfl) ?hf4h15 (by kernel_rfl) ?hQ4h15 ?hy4h15 (by assumption) ?rest4h15
              case hi4h15 => (simp only [List.getElem?_toArray, List.getElem?_cons_succ, List.getElem?_cons_zero]; rfl)
              case hf4h15 => kernel_rfl
              case hQ4h15 => exact fun _ _ _ h => h
              case hy4h15 => (refine Or.inl ⟨by rfl, ?_⟩; intro W hSw; (try dsimp only at hSw); obtain ⟨g0, g1, g2, g3⟩ := hSw; go_simp; try with_reducible rfl)
              try simp only [Act.put, List.setIfInBounds_toArray, List.set_cons_zero, List.set_cons_succ]
              refine wpAnyH_ready (rs := [5]) (by kernel_rfl) (by simp) ?_
              refine AllReadyH.cons (o := _) (by (simp only [List.getElem?_toArray, List.getElem?_cons_succ, List.getElem?_cons_zero]; rfl)) (fun K hK => ?_) AllReadyH.nil
              go_simp
              (with_reducible refine HD13.out.mono ?_); rintro e w14 ⟨rfl, hb14⟩; have bb14 := bd13.trans (hb14.mono bd13.size)
              refine hK.out _ _ ?_ (fun hHeld => ?_)
              · exact HC3.out _ bb14
              clear hK K
              try simp only [Act.put, List.setIfInBounds_toArray, List.set_cons_zero, List.set_cons_succ]
              refine wpAnyH_take (i := 6) (oi := ?oi6h16) (v := ?v6h16) ?hi6h16 (by kernel_rfl) ?hf6h16 (by kernel_rfl) ?hQ6h16 ?hy6h16 (by assumption) ?rest6h16
              case hi6h16 => (simp only [List.getElem?_toArray, List.getElem?_cons_succ, List.getElem?_cons_zero]; rfl)
              case hf6h16 => kernel_rfl
              case hQ6h16 => exact fun _ _ _ h => h
              case hy6h16 => (refine Or.inl ⟨by rfl, ?_⟩; intro W hSw; (try dsimp only at hSw); go_simp; try with_reducible rfl)
              try simp only [Act.put, List.setIfInBounds_toArray, List.set_cons_zero, List.set_cons_succ]
              refine wpAnyH_take (i := 7) (oi := ?oi7h17) (v := ?v7h17) ?hi7h17 (by kernel_rfl) ?hf7h17 (by kernel_rfl) ?hQ7h17 ?hy7h17 (by assumption) ?rest7h17
              case hi7h17 => (simp only [List.getElem?_toArray, List.getElem?_cons_succ, List.getElem?_cons_zero]; rfl)
              case hf7h17 => kernel_rfl
              case hQ7h17 => exact fun _ _ _ h => h
              case hy7h17 => (refine Or.inl ⟨by rfl, ?_⟩; intro W hSw; (try dsimp only at hSw); go_simp; try with_reducible rfl)
              try simp only [Act.put, List.setIfInBounds_toArray, List.set_cons_zero, List.set_cons_succ]
              refine wpAnyH_take (i := 8) (oi := ?oi8h18) (v := ?v8h18) ?hi8h18 (by kernel_rfl) ?hf8h18 (by kernel_rfl) ?hQ8h18 ?hy8h18 (by assumption) ?rest8h18
              case hi8h18 => (simp only [List.getElem?_toArray, List.getElem?_cons_succ, List.getElem?_cons_zero]; rfl)
              case hf8h18 => kernel_rfl
              case hQ8h18 => exact fun _ _ _ h => h
              case hy8h18 => (refine Or.inl ⟨by rfl, ?_⟩; intro W hSw; (try dsimp only at hSw); go_simp; try with_reducible rfl)
              try simp only [Act.put, List.setIfInBounds_toArray, List.set_cons_zero, List.set_cons_succ]
              refine wpAnyH_take (i := 9) (oi := ?oi9h19) (v := ?v9h19) ?hi9h19 (by kernel_rfl) ?hf9h19 (by kernel_rfl) ?hQ9h19 ?hy9h19 (by assumption) ?rest9h19
              case hi9h19 => (simp only [List.getElem?_toArray, List.getElem?_cons_succ, List.getElem?_cons_zero]; rfl)
              case hf9h19 => kernel_rfl
              case hQ9h19 => exact fun _ _ _ h => h
              case hy9h19 => (refine Or.inl ⟨by rfl, ?_⟩; intro W hSw; (try dsimp only at hSw); go_simp; try with_reducible rfl)
              try simp only [Act.put, List.setIfInBounds_toArray, List.set_cons_zero, List.set_cons_succ]
              refine wpAnyH_take (i := 10) (oi := ?oi10h20) (v := ?v10h20) ?hi10h20 (by kernel_rfl) ?hf10h20 (by kernel_rfl) ?hQ10h20 ?hy10h20 (by assumption) ?rest10h20
              case hi10h20 => (simp only [List.getElem?_toArray, List.getElem?_cons_succ, List.getElem?_cons_zero]; rfl)
              case hf10h20 => kernel_rfl
              case hQ10h20 => exact fun _ _ _ h => h
              case hy10h20 => (refine Or.inl ⟨by rfl, ?_⟩; intro W hSw; (try dsimp only at hSw); go_simp; try with_reducible rfl)
              try simp only [Act.put, List.setIfInBounds_toArray, List.set_cons_zero, List.set_cons_succ]
              refine wpAnyH_take (i := 11) (oi := ?oi11h21) (v := ?v11h21) ?hi11h21 (by kernel_rfl) ?hf11h21 (by kernel_rfl) ?hQ11h21 ?hy11h21 (by assumption) ?rest11h21
              case hi11h21 => (simp only [List.getElem?_toArray, List.getElem?_cons_succ, List.getElem?_cons_zero]; rfl)
              case hf11h21 => kernel_rfl
              case hQ11h21 => exact fun _ _ _ h => h
              case hy11h21 => (refine Or.inl ⟨by rfl, ?_⟩; intro W hSw; (try dsimp only at hSw); go_simp; try with_reducible rfl)
              try simp only [Act.put, List.setIfInBounds_toArray, List.set_cons_zero, List.set_cons_succ]
              refine wpAnyH_take (i := 12) (oi := ?oi12h22) (v := ?v12h22) ?hi12h22 (by kernel_rfl) ?hf12h22 (by kernel_rfl) ?hQ12h22 ?hy12h22 (by assumption) ?rest12h22
              case hi12h22 => (simp only [List.getElem?_toArray, List.getElem?_cons_succ, List.getElem?_cons_zero]; rfl)
              case hf12h22 => kernel_rfl
              case hQ12h22 => exact fun _ _ _ h => h
              case hy12h22 => (refine Or.inl ⟨by rfl, ?_⟩; intro W hSw; (try dsimp only at hSw); go_simp; try with_reducible rfl)
              try simp only [Act.put, List.setIfInBounds_toArray, List.set_cons_zero, List.set_cons_succ]
              refine wpAnyH_done (by kernel_rfl) ?_ _
              clear hHeld
              obtain ⟨q6, r6, s6, t6⟩ := HC3.out _ bb14
              have Hi14 := hid_ (Hi13.out.below ((Below.drew (Below.refl _ _)).trans (hb14.mono (Nat.le_refl _))) (Nat.le_refl _))
              have Hb14 := hid_ (Hbk.out.trans (bb14.mono Hbk.out.size))
              have Hb141 := hid_ (Hbk1.out.trans (bb14.mono Hbk1.out.size))
              have HHas := hid_ (has_calls _ _ _ M dn _ Hi14.out)
              clear hb14 bd13 bb13 HD13 HM3 HD3 q5 r5 s5 t5 q4 r4
              cases dis with
              | true =>
                obtain ⟨h1, h2⟩ := Hd4.out rfl
                have hge : 0 ≤ ff := of_decide_eq_true d3.symm
                have hge' : decide (ff ≥ 0) = true := d3.symm
                rw [h1] at HHas
                have H2 := hid_ h2
                clear h1 h2 d3
                go_wp2_with (go_at_call 20; (with_reducible refine HHas.out.mono ?_); rintro e w15 ⟨rfl, rfl⟩)
                have HcF := hid_ (fun W (hW : Below w14.heap.size w14 W) => (⟨cell_below q6 hW, cell_below r6 hW⟩ : W.cell? ⟨w.heap.size, 0, none⟩ = some (.slice a1 n1 c1) ∧ W.cell? ⟨w.heap.size, 1, none⟩ = some (.slice a2 n2 c2)))
                clear hge hge' q6 r6 s6 t6
                go_loopw [26] (fun iv wr => ∃ a : Nat, a ≤ mm ∧ iv = .int .i64 (a : Int) ∧ Below w14.heap.size w14 wr) (fun iv _ => mm - (intOf iv).toNat)
                case atStart => exact ⟨0, Nat.zero_le _, rfl, Below.refl _ _⟩
                case round =>
                  obtain ⟨a, ha, rfl, hba⟩ := hrel
                  obtain ⟨q7, r7⟩ := HcF.out wr hba
                  have Hba := hid_ hba
                  by_cases hla : a < mm
                  · obtain ⟨bm, om, rfl, hbm, hcm⟩ := (Hi14.out.below hba (Nat.le_refl _)).cells a hla
                    have hy : M.getD a 0 ∈ M := getD_mem (by rw [Hmm.out]; exact hla)
                    obtain ⟨e1, e2⟩ := H2.out _ hy
                    have hwa : IntKind.i64.wrap ((a : Int) + 1) = (a : Int) + 1 := IntWalk.i64_in _ (by have := Hi14.out.le; have := Hi14.out.small; omega)
                    have bd : Below w14.heap.size w14 wr.drew := Below.drew hba
                    have HIk := hid_ (HIs.out wr.drew (Hb141.out.trans (bd.mono Hb141.out.size)) dn (M.getD a 0))
                    rw [e1, e2] at HIk
                    have HC7 := hid_ (fun W (hW : Below wr.heap.size wr W) => (⟨cell_below q7 hW, cell_below r7 hW, cell_below hcm hW⟩ : W.cell? ⟨w.heap.size, 0, none⟩ = some (.slice a1 n1 c1) ∧ W.cell? ⟨w.heap.size, 1, none⟩ = some (.slice a2 n2 c2) ∧ W.cell? ⟨bm, om + a, none⟩ = some (.int .i64 (M.getD a 0))))
                    generalize M.getD a 0 = my at *
                    obtain ⟨zz, hzz⟩ : ∃ zz, (my != dn) = zz := ⟨_, rfl⟩
                    rw [hzz] at HIk
                    clear e1 e2 hy hba hbm
                    have bdr : Below wr.heap.size wr wr.drew := Below.drew (Below.refl _ _)
                    go_wp2
                    refine wp_region_held_drew (S := fun W' => W'.cell? ⟨w.heap.size, 0, none⟩ = some (.slice a1 n1 c1) ∧ W'.cell? ⟨w.heap.size, 1, none⟩ = some (.slice a2 n2 c2) ∧ W'.cell? ⟨bm, om + a, none⟩ = some (.int .i64 my)) (by kernel_rfl) (HC7.out _ bdr) (fun hHeld => ?_)
                    refine wpAnyH_take (i := 0) (oi := ?oi0h23) (v := ?v0h23) ?hi0h23 (by kernel_rfl) ?hf0h23 (by kernel_rfl) ?hQ0h23 ?hy0h23 (by assumption) ?rest0h23
                    case hi0h23 => (simp only [List.getElem?_toArray, List.getElem?_cons_zero]; rfl)
                    case hf0h23 => kernel_rfl
                    case hQ0h23 => exact fun _ _ _ h => h
                    case hy0h23 => (refine Or.inl ⟨by rfl, ?_⟩; intro W hSw; (try dsimp only at hSw); obtain ⟨g0, g1, g2⟩ := hSw; go_simp; try with_reducible rfl)
                    try simp only [Act.put, List.setIfInBounds_toArray, List.set_cons_zero, List.set_cons_succ]
                    refine wpAnyH_take (i := 1) (oi := ?oi1h24) (v := ?v1h24) ?hi1h24 (by kernel_rfl) ?hf1h24 (by kernel_rfl) ?hQ1h24 ?hy1h24 (by assumption) ?rest1h24
                    case hi1h24 => (simp only [List.getElem?_toArray, List.getElem?_cons_succ, List.getElem?_cons_zero]; rfl)
                    case hf1h24 => kernel_rfl
                    case hQ1h24 => exact fun _ _ _ h => h
                    case hy1h24 => (refine Or.inl ⟨by rfl, ?_⟩; intro W hSw; (try dsimp only at hSw); go_simp; try with_reducible rfl)
                    try simp only [Act.put, List.setIfInBounds_toArray, List.set_cons_zero, List.set_cons_succ]
                    refine wpAnyH_take (i := 2) (oi := ?oi2h25) (v := ?v2h25) ?hi2h25 (by kernel_rfl) ?hf2h25 (by kernel_rfl) ?hQ2h25 ?hy2h25 (by assumption) ?rest2h25
                    case hi2h25 => (simp only [List.getElem?_toArray, List.getElem?_cons_succ, List.getElem?_cons_zero]; rfl)
                    case hf2h25 => kernel_rfl
                    case hQ2h25 => exact fun _ _ _ h => h
                    case hy2h25 => (refine Or.inl ⟨by rfl, ?_⟩; intro W hSw; (try dsimp only at hSw); go_simp; try with_reducible rfl)
                    try simp only [Act.put, List.setIfInBounds_toArray, List.set_cons_zero, List.set_cons_succ]
                    refine wpAnyH_take (i := 3) (oi := ?oi3h26) (v := ?v3h26) ?hi3h26 (by kernel_rfl) ?hf3h26 (by kernel_rfl) ?hQ3h26 ?hy3h26 (by assumption) ?rest3h26
                    case hi3h26 => (simp only [List.getElem?_toArray, List.getElem?_cons_succ, List.getElem?_cons_zero]; rfl)
                    case hf3h26 => kernel_rfl
                    case hQ3h26 => exact fun _ _ _ h => h
                    case hy3h26 => (refine Or.inl ⟨by rfl, ?_⟩; intro W hSw; (try dsimp only at hSw); go_simp; try with_reducible rfl)
                    try simp only [Act.put, List.setIfInBounds_toArray, List.set_cons_zero, List.set_cons_succ]
                    refine wpAnyH_take (i := 4) (oi := ?oi4h27) (v := ?v4h27) ?hi4h27 (by kernel_rfl) ?hf4h27 (by kernel_rfl) ?hQ4h27 ?hy4h27 (by assumption) ?rest4h27
                    case hi4h27 => (simp only [List.getElem?_toArray, List.getElem?_cons_succ, List.getElem?_cons_zero]; rfl)
                    case hf4h27 => kernel_rfl
                    case hQ4h27 => exact fun _ _ _ h => h
                    case hy4h27 => (refine Or.inl ⟨by rfl, ?_⟩; intro W hSw; (try dsimp only at hSw); go_simp; try with_reducible rfl)
                    try simp only [Act.put, List.setIfInBounds_toArray, List.set_cons_zero, List.set_cons_succ]
                    refine wpAnyH_take (i := 5) (oi := ?oi5h28) (v := ?v5h28) ?hi5h28 (by kernel_rfl) ?hf5h28 (by kernel_rfl) ?hQ5h28 ?hy5h28 (by assumption) ?rest5h28
                    case hi5h28 => (simp only [List.getElem?_toArray, List.getElem?_cons_succ, List.getElem?_cons_zero]; rfl)
                    case hf5h28 => kernel_rfl
                    case hQ5h28 => exact fun _ _ _ h => h
                    case hy5h28 => (refine Or.inl ⟨by rfl, ?_⟩; intro W hSw; (try dsimp only at hSw); obtain ⟨g0, g1, g2⟩ := hSw; go_simp; try with_reducible rfl)
                    try simp only [Act.put, List.setIfInBounds_toArray, List.set_cons_zero, List.set_cons_succ]
                    refine wpAnyH_ready (rs := [6]) (by kernel_rfl) (by simp) ?_
                    refine AllReadyH.cons (o := _) (by (simp only [List.getElem?_toArray, List.getElem?_cons_succ, List.getElem?_cons_zero]; rfl)) (fun K hK => ?_) AllReadyH.nil
                    go_simp
                    (with_reducible refine HIk.out.mono ?_); rintro e w16 ⟨rfl, hb16⟩; have bb16 := bdr.trans (hb16.mono bdr.size)
                    refine hK.out _ _ ?_ (fun hHeld => ?_)
                    · exact HC7.out _ bb16
                    clear hK K
                    try simp only [Act.put, List.setIfInBounds_toArray, List.set_cons_zero, List.set_cons_succ]
                    refine wpAnyH_take (i := 7) (oi := ?oi7h29) (v := ?v7h29) ?hi7h29 (by kernel_rfl) ?hf7h29 (by kernel_rfl) ?hQ7h29 ?hy7h29 (by assumption) ?rest7h29
                    case hi7h29 => (simp only [List.getElem?_toArray, List.getElem?_cons_succ, List.getElem?_cons_zero]; rfl)
                    case hf7h29 => kernel_rfl
                    case hQ7h29 => exact fun _ _ _ h => h
                    case hy7h29 => (refine Or.inl ⟨by rfl, ?_⟩; intro W hSw; (try dsimp only at hSw); go_simp; try with_reducible rfl)
                    try simp only [Act.put, List.setIfInBounds_toArray, List.set_cons_zero, List.set_cons_succ]
                    refine wpAnyH_take (i := 8) (oi := ?oi8h30) (v := ?v8h30) ?hi8h30 (by kernel_rfl) ?hf8h30 (by kernel_rfl) ?hQ8h30 ?hy8h30 (by assumption) ?rest8h30
                    case hi8h30 => (simp only [List.getElem?_toArray, List.getElem?_cons_succ, List.getElem?_cons_zero]; rfl)
                    case hf8h30 => kernel_rfl
                    case hQ8h30 => exact fun _ _ _ h => h
                    case hy8h30 => (refine Or.inl ⟨by rfl, ?_⟩; intro W hSw; (try dsimp only at hSw); go_simp; try with_reducible rfl)
                    try simp only [Act.put, List.setIfInBounds_toArray, List.set_cons_zero, List.set_cons_succ]
                    refine wpAnyH_take (i := 9) (oi := ?oi9h31) (v := ?v9h31) ?hi9h31 (by kernel_rfl) ?hf9h31 (by kernel_rfl) ?hQ9h31 ?hy9h31 (by assumption) ?rest9h31
                    case hi9h31 => (simp only [List.getElem?_toArray, List.getElem?_cons_succ, List.getElem?_cons_zero]; rfl)
                    case hf9h31 => kernel_rfl
                    case hQ9h31 => exact fun _ _ _ h => h
                    case hy9h31 => (refine Or.inl ⟨by rfl, ?_⟩; intro W hSw; (try dsimp only at hSw); go_simp; try with_reducible rfl)
                    try simp only [Act.put, List.setIfInBounds_toArray, List.set_cons_zero, List.set_cons_succ]
                    refine wpAnyH_take (i := 10) (oi := ?oi10h32) (v := ?v10h32) ?hi10h32 (by kernel_rfl) ?hf10h32 (by kernel_rfl) ?hQ10h32 ?hy10h32 (by assumption) ?rest10h32
                    case hi10h32 => (simp only [List.getElem?_toArray, List.getElem?_cons_succ, List.getElem?_cons_zero]; rfl)
                    case hf10h32 => kernel_rfl
                    case hQ10h32 => exact fun _ _ _ h => h
                    case hy10h32 => (refine Or.inl ⟨by rfl, ?_⟩; intro W hSw; (try dsimp only at hSw); go_simp; try with_reducible rfl)
                    try simp only [Act.put, List.setIfInBounds_toArray, List.set_cons_zero, List.set_cons_succ]
                    refine wpAnyH_take (i := 11) (oi := ?oi11h33) (v := ?v11h33) ?hi11h33 (by kernel_rfl) ?hf11h33 (by kernel_rfl) ?hQ11h33 ?hy11h33 (by assumption) ?rest11h33
                    case hi11h33 => (simp only [List.getElem?_toArray, List.getElem?_cons_succ, List.getElem?_cons_zero]; rfl)
                    case hf11h33 => kernel_rfl
                    case hQ11h33 => exact fun _ _ _ h => h
                    case hy11h33 => (refine Or.inl ⟨by rfl, ?_⟩; intro W hSw; (try dsimp only at hSw); go_simp; try with_reducible rfl)
                    try simp only [Act.put, List.setIfInBounds_toArray, List.set_cons_zero, List.set_cons_succ]
                    refine wpAnyH_done (by kernel_rfl) ?_ _
                    clear hHeld
                    obtain ⟨q8, r8, s8⟩ := HC7.out _ bb16
                    have Hb16 := hid_ (Hba.out.trans (bb16.mono Hba.out.size))
                    clear bb16 hb16 bdr bd hcm q7 r7
                    go_wp2
                    go_roundw
                    case rel => exact ⟨a + 1, by omega, by go_num, Hb16.out⟩
                    case measure => (simp [intOf]; try omega)
                  · obtain rfl : a = mm := by omega
                    have Hba2 := hid_ (Hb14.out.trans (hba.mono Hb14.out.size))
                    clear hba
                    go_wp2
                    go_roundw
                    case rel => exact ⟨k + 1, by omega, by go_num, Hba2.out⟩
                    case measure => (simp [intOf]; try omega)
              | false =>
                have hge : ¬ 0 ≤ ff := of_decide_eq_false d3.symm
                have hge' : decide (ff ≥ 0) = false := d3.symm
                clear d3
                go_wp2
                clear hge hge' q6 r6 s6 t6
                go_loopw [26] (fun iv wr => iv = .int .i64 0 ∧ wr = w14) (fun _ _ => 0)
                case atStart => exact ⟨rfl, rfl⟩
                case round =>
                  obtain ⟨rfl, rfl⟩ := hrel
                  by_cases h0 : 0 < mm
                  · go_wp2
                    go_roundw
                    case rel => exact ⟨k + 1, by omega, by go_num, Hb14.out⟩
                    case measure => (simp [intOf]; try omega)
                  · obtain rfl : mm = 0 := by omega
                    go_wp2
                    go_roundw
                    case rel => exact ⟨k + 1, by omega, by go_num, Hb14.out⟩
                    case measure => (simp [intOf]; try omega)
            · obtain rfl : k = m := by omega
              have HBk := hid_ (fun W (hW : Below wr.heap.size wr W) => (⟨Hbk1.out.trans (hW.mono Hbk1.out.size), Hbk.out.trans (hW.mono Hbk.out.size)⟩ : Below w1.heap.size w1 W ∧ Below wb.heap.size wb W))
              have HSw3 := hid_ (HSw.out wr Hbk1.out)
              obtain ⟨sl, hsl⟩ : ∃ sl, (resRed P).ents.length = sl := ⟨_, rfl⟩
              have hs1 := Hsho.out.1
              have hs2 := Hsho.out.2
              rw [hsl, Hen.out] at hs1 hs2
              have Hsl := hid_ hsl
              have hngt : ¬ n2 < sl := by omega
              clear hsl hb hb1
              by_cases he : errN P [pi, pj] = 0
              · rw [he] at HSw3
                have Hsw := hid_ (Hswf.out he).2
                clear he
                by_cases hls : sl = n2
                · have Heq := hid_ (hs2 hls)
                  have hls' : ((sl : Int) == (n2 : Int)) = true := by simp [hls]
                  clear hs1 hs2 hls
                  go_wp2_with (first
                    | (go_at_call 37; (with_reducible refine HSw3.out.mono ?_); rintro e w20 ⟨v20, rfl, hm20⟩; have bb20 := hm20.bel; have hp20 := hm20.par; obtain ⟨a20, n20, c20, b20, m20, d20, ev20, hs20, he20⟩ := hp20; subst ev20; have Hp20 : Hid (ParAt w20 (.agg #[.slice a20 n20 c20, .slice b20 m20 d20]) (resSwap P pi pj)) := hid_ ⟨_, _, _, _, _, _, rfl, hs20, he20⟩; obtain ⟨W20, hW20⟩ : ∃ W20, w20.alloc (.cells #[.slice a20 n20 c20, .slice b20 m20 d20] 25) = W20 := ⟨_, rfl⟩; have bW20 : Below w20.heap.size w20 W20 := (by rw [← hW20]; exact below_alloc _ _); have bB20 := bb20.trans (bW20.mono bb20.size); have s0 : W20.cell? ⟨w20.heap.size, 0, none⟩ = some (.slice a20 n20 c20) := (by rw [← hW20]; exact cells_alloc _ _ _ 0); have s1 : W20.cell? ⟨w20.heap.size, 1, none⟩ = some (.slice b20 m20 d20) := (by rw [← hW20]; exact cells_alloc _ _ _ 1); obtain ⟨q20, r20⟩ := HQ.out _ (HBk.out _ bB20).1; have HF20 := hid_ (HswF.out W20 _ (Hp20.out.below bW20 (Nat.le_refl _))); clear hm20 hs20 he20)
                    | (go_at_call 30; (with_reducible refine HF20.out.mono ?_); rw [Hsw.out.1, Hsw.out.2]; rintro e w21 ⟨v21, rfl, hm21⟩; have bb21 := bB20.trans (hm21.bel.mono bB20.size); obtain ⟨a21, c21, rfl, hi21⟩ := hm21.at_; rw [Hfl.out] at hi21 ⊢; have Hi21 := hid_ hi21; have Hi9d := hid_ (Hi9c.out.below (HBk.out _ bb21).2 (Nat.le_refl _)); have HE21 := hid_ ((show Same F F = true from decide_eq_true rfl) ▸ same_calls _ _ _ F _ _ _ F _ Hi21.out Hi9d.out); clear hi21 hm21)
                    | (go_at_call 15; (with_reducible refine HE21.out.mono ?_); rintro e w22 ⟨rfl, q22, rfl⟩; have bb22 := below_drewN bb21 q22; obtain ⟨q22c, r22c⟩ := HQ.out _ (HBk.out _ bb22).1)
                    | (go_at_call 13; (with_reducible refine (HRe.out _ (HBk.out _ bb22).1).mono ?_); rw [Hv.out]; rintro e w23 ⟨v23, rfl, hm23⟩; have bb23 := bb22.trans (hm23.bel.mono bb22.size); have hp23 := hm23.par; obtain ⟨a23, n23, c23, b23, m23, d23, ev23, hs23, he23⟩ := hp23; subst ev23; have Hp23 : Hid (ParAt w23 (.agg #[.slice a23 n23 c23, .slice b23 m23 d23]) (resRed P)) := hid_ ⟨_, _, _, _, _, _, rfl, hs23, he23⟩; obtain rfl : m23 = sl := he23.len.symm.trans Hsl.out; obtain ⟨W23, hW23⟩ : ∃ W23, w23.alloc (.cells #[.slice a23 n23 c23, .slice b23 m23 d23] 25) = W23 := ⟨_, rfl⟩; have bW23 : Below w23.heap.size w23 W23 := (by rw [← hW23]; exact below_alloc _ _); have bB23 := bb23.trans (bW23.mono bb23.size); have t0 : W23.cell? ⟨w23.heap.size, 0, none⟩ = some (.slice a23 n23 c23) := (by rw [← hW23]; exact cells_alloc _ _ _ 0); have t1 : W23.cell? ⟨w23.heap.size, 1, none⟩ = some (.slice b23 m23 d23) := (by rw [← hW23]; exact cells_alloc _ _ _ 1); obtain ⟨q23, r23⟩ := HQ.out _ (HBk.out _ bB23).1; have HS23 := hid_ (HSm.out _ (HBk.out _ bB23).1 _ (Hp23.out.below bW23 (Nat.le_refl _))); rw [Hred.out.2.1, Hred.out.2.2] at HS23; clear hm23 hs23 he23)
                    | (go_at_call 17; (with_reducible refine HS23.out.mono ?_); rintro e w24 ⟨rfl, hb24⟩; have bb24 := bB23.trans (hb24.mono bB23.size); obtain ⟨q24, r24⟩ := HQ.out _ (HBk.out _ bb24).1; have t024 := cell_below t0 hb24; have t124 := cell_below t1 hb24; have HNe24 := hid_ (HNe.out _ (HBk.out _ bb24).1))
                    | (go_at_call 10; (with_reducible refine HNe24.out.mono ?_); rw [Heq.out.2, Hv.out]; rintro e w25 ⟨a25, n25, c25, rfl, hi25, hb25⟩; obtain rfl : n25 = 0 := hi25.len.symm; have bb25 := bb24.trans (hb25.mono bb24.size); obtain ⟨q25, r25⟩ := HQ.out _ (HBk.out _ bb25).1; have t025 := cell_below t024 hb25; have t125 := cell_below t124 hb25; have HE25 := hid_ (r6Equal_yes _ _ P w25 (Heq.out.1 ▸ (Hp23.out.below (bW23.trans ((hb24.trans (hb25.mono hb24.size)).mono bW23.size)) (Nat.le_refl _))) (HL.out _ (HBk.out _ bb25).1)))
                    | (go_at_call 16; (with_reducible refine HE25.out.mono ?_); rintro e w26 ⟨rfl, hb26⟩; have bb26 := bb25.trans (hb26.mono bb25.size)))
                  go_ret
                  exact ⟨rfl, Hc1.out.trans ((HBk.out _ bb26).1.mono Hc1.out.size)⟩
                · have hls' : ((sl : Int) == (n2 : Int)) = false := by simp; omega
                  clear hs1 hs2
                  go_wp2_with (first
                    | (go_at_call 37; (with_reducible refine HSw3.out.mono ?_); rintro e w20 ⟨v20, rfl, hm20⟩; have bb20 := hm20.bel; have hp20 := hm20.par; obtain ⟨a20, n20, c20, b20, m20, d20, ev20, hs20, he20⟩ := hp20; subst ev20; have Hp20 : Hid (ParAt w20 (.agg #[.slice a20 n20 c20, .slice b20 m20 d20]) (resSwap P pi pj)) := hid_ ⟨_, _, _, _, _, _, rfl, hs20, he20⟩; obtain ⟨W20, hW20⟩ : ∃ W20, w20.alloc (.cells #[.slice a20 n20 c20, .slice b20 m20 d20] 25) = W20 := ⟨_, rfl⟩; have bW20 : Below w20.heap.size w20 W20 := (by rw [← hW20]; exact below_alloc _ _); have bB20 := bb20.trans (bW20.mono bb20.size); have s0 : W20.cell? ⟨w20.heap.size, 0, none⟩ = some (.slice a20 n20 c20) := (by rw [← hW20]; exact cells_alloc _ _ _ 0); have s1 : W20.cell? ⟨w20.heap.size, 1, none⟩ = some (.slice b20 m20 d20) := (by rw [← hW20]; exact cells_alloc _ _ _ 1); obtain ⟨q20, r20⟩ := HQ.out _ (HBk.out _ bB20).1; have HF20 := hid_ (HswF.out W20 _ (Hp20.out.below bW20 (Nat.le_refl _))); clear hm20 hs20 he20)
                    | (go_at_call 30; (with_reducible refine HF20.out.mono ?_); rw [Hsw.out.1, Hsw.out.2]; rintro e w21 ⟨v21, rfl, hm21⟩; have bb21 := bB20.trans (hm21.bel.mono bB20.size); obtain ⟨a21, c21, rfl, hi21⟩ := hm21.at_; rw [Hfl.out] at hi21 ⊢; have Hi21 := hid_ hi21; have Hi9d := hid_ (Hi9c.out.below (HBk.out _ bb21).2 (Nat.le_refl _)); have HE21 := hid_ ((show Same F F = true from decide_eq_true rfl) ▸ same_calls _ _ _ F _ _ _ F _ Hi21.out Hi9d.out); clear hi21 hm21)
                    | (go_at_call 15; (with_reducible refine HE21.out.mono ?_); rintro e w22 ⟨rfl, q22, rfl⟩; have bb22 := below_drewN bb21 q22; obtain ⟨q22c, r22c⟩ := HQ.out _ (HBk.out _ bb22).1)
                    | (go_at_call 13; (with_reducible refine (HRe.out _ (HBk.out _ bb22).1).mono ?_); rw [Hv.out]; rintro e w23 ⟨v23, rfl, hm23⟩; have bb23 := bb22.trans (hm23.bel.mono bb22.size); have hp23 := hm23.par; obtain ⟨a23, n23, c23, b23, m23, d23, ev23, hs23, he23⟩ := hp23; subst ev23; have Hp23 : Hid (ParAt w23 (.agg #[.slice a23 n23 c23, .slice b23 m23 d23]) (resRed P)) := hid_ ⟨_, _, _, _, _, _, rfl, hs23, he23⟩; obtain rfl : m23 = sl := he23.len.symm.trans Hsl.out; obtain ⟨W23, hW23⟩ : ∃ W23, w23.alloc (.cells #[.slice a23 n23 c23, .slice b23 m23 d23] 25) = W23 := ⟨_, rfl⟩; have bW23 : Below w23.heap.size w23 W23 := (by rw [← hW23]; exact below_alloc _ _); have bB23 := bb23.trans (bW23.mono bb23.size); have t0 : W23.cell? ⟨w23.heap.size, 0, none⟩ = some (.slice a23 n23 c23) := (by rw [← hW23]; exact cells_alloc _ _ _ 0); have t1 : W23.cell? ⟨w23.heap.size, 1, none⟩ = some (.slice b23 m23 d23) := (by rw [← hW23]; exact cells_alloc _ _ _ 1); obtain ⟨q23, r23⟩ := HQ.out _ (HBk.out _ bB23).1; have HS23 := hid_ (HSm.out _ (HBk.out _ bB23).1 _ (Hp23.out.below bW23 (Nat.le_refl _))); rw [Hred.out.2.1, Hred.out.2.2] at HS23; clear hm23 hs23 he23)
                    | (go_at_call 17; (with_reducible refine HS23.out.mono ?_); rintro e w24 ⟨rfl, hb24⟩; have bb24 := bB23.trans (hb24.mono bB23.size); obtain ⟨q24, r24⟩ := HQ.out _ (HBk.out _ bb24).1; have t024 := cell_below t0 hb24; have t124 := cell_below t1 hb24; have HNe24 := hid_ (HNe.out _ (HBk.out _ bb24).1)))
                  go_ret
                  exact ⟨rfl, Hc1.out.trans ((HBk.out _ bb24).1.mono Hc1.out.size)⟩
              · have hq : (errN P [pi, pj] == 0) = false := by simpa using he
                generalize errN P [pi, pj] = ex at *
                clear he
                by_cases hls : sl = n2
                · have Heq := hid_ (hs2 hls)
                  have hls' : ((sl : Int) == (n2 : Int)) = true := by simp [hls]
                  clear hs1 hs2 hls
                  go_wp2_with (first
                    | (go_at_call 37; (with_reducible refine HSw3.out.mono ?_); rintro e w20 ⟨v20, rfl, hm20⟩; have bb20 := hm20.bel; have hp20 := hm20.par; obtain ⟨a20, n20, c20, b20, m20, d20, ev20, hs20, he20⟩ := hp20; subst ev20; have Hp20 : Hid (ParAt w20 (.agg #[.slice a20 n20 c20, .slice b20 m20 d20]) (resSwap P pi pj)) := hid_ ⟨_, _, _, _, _, _, rfl, hs20, he20⟩; obtain ⟨W20, hW20⟩ : ∃ W20, w20.alloc (.cells #[.slice a20 n20 c20, .slice b20 m20 d20] 25) = W20 := ⟨_, rfl⟩; have bW20 : Below w20.heap.size w20 W20 := (by rw [← hW20]; exact below_alloc _ _); have bB20 := bb20.trans (bW20.mono bb20.size); have s0 : W20.cell? ⟨w20.heap.size, 0, none⟩ = some (.slice a20 n20 c20) := (by rw [← hW20]; exact cells_alloc _ _ _ 0); have s1 : W20.cell? ⟨w20.heap.size, 1, none⟩ = some (.slice b20 m20 d20) := (by rw [← hW20]; exact cells_alloc _ _ _ 1); obtain ⟨q20, r20⟩ := HQ.out _ (HBk.out _ bB20).1; have HF20 := hid_ (HswF.out W20 _ (Hp20.out.below bW20 (Nat.le_refl _))); clear hm20 hs20 he20)
                    | (go_at_call 13; (with_reducible refine (HRe.out _ (HBk.out _ bB20).1).mono ?_); rw [Hv.out]; rintro e w23 ⟨v23, rfl, hm23⟩; have bb23 := bB20.trans (hm23.bel.mono bB20.size); have hp23 := hm23.par; obtain ⟨a23, n23, c23, b23, m23, d23, ev23, hs23, he23⟩ := hp23; subst ev23; have Hp23 : Hid (ParAt w23 (.agg #[.slice a23 n23 c23, .slice b23 m23 d23]) (resRed P)) := hid_ ⟨_, _, _, _, _, _, rfl, hs23, he23⟩; obtain rfl : m23 = sl := he23.len.symm.trans Hsl.out; obtain ⟨W23, hW23⟩ : ∃ W23, w23.alloc (.cells #[.slice a23 n23 c23, .slice b23 m23 d23] 25) = W23 := ⟨_, rfl⟩; have bW23 : Below w23.heap.size w23 W23 := (by rw [← hW23]; exact below_alloc _ _); have bB23 := bb23.trans (bW23.mono bb23.size); have t0 : W23.cell? ⟨w23.heap.size, 0, none⟩ = some (.slice a23 n23 c23) := (by rw [← hW23]; exact cells_alloc _ _ _ 0); have t1 : W23.cell? ⟨w23.heap.size, 1, none⟩ = some (.slice b23 m23 d23) := (by rw [← hW23]; exact cells_alloc _ _ _ 1); obtain ⟨q23, r23⟩ := HQ.out _ (HBk.out _ bB23).1; have HS23 := hid_ (HSm.out _ (HBk.out _ bB23).1 _ (Hp23.out.below bW23 (Nat.le_refl _))); rw [Hred.out.2.1, Hred.out.2.2] at HS23; clear hm23 hs23 he23)
                    | (go_at_call 17; (with_reducible refine HS23.out.mono ?_); rintro e w24 ⟨rfl, hb24⟩; have bb24 := bB23.trans (hb24.mono bB23.size); obtain ⟨q24, r24⟩ := HQ.out _ (HBk.out _ bb24).1; have t024 := cell_below t0 hb24; have t124 := cell_below t1 hb24; have HNe24 := hid_ (HNe.out _ (HBk.out _ bb24).1))
                    | (go_at_call 10; (with_reducible refine HNe24.out.mono ?_); rw [Heq.out.2, Hv.out]; rintro e w25 ⟨a25, n25, c25, rfl, hi25, hb25⟩; obtain rfl : n25 = 0 := hi25.len.symm; have bb25 := bb24.trans (hb25.mono bb24.size); obtain ⟨q25, r25⟩ := HQ.out _ (HBk.out _ bb25).1; have t025 := cell_below t024 hb25; have t125 := cell_below t124 hb25; have HE25 := hid_ (r6Equal_yes _ _ P w25 (Heq.out.1 ▸ (Hp23.out.below (bW23.trans ((hb24.trans (hb25.mono hb24.size)).mono bW23.size)) (Nat.le_refl _))) (HL.out _ (HBk.out _ bb25).1)))
                    | (go_at_call 16; (with_reducible refine HE25.out.mono ?_); rintro e w26 ⟨rfl, hb26⟩; have bb26 := bb25.trans (hb26.mono bb25.size)))
                  go_ret
                  exact ⟨rfl, Hc1.out.trans ((HBk.out _ bb26).1.mono Hc1.out.size)⟩
                · have hls' : ((sl : Int) == (n2 : Int)) = false := by simp; omega
                  clear hs1 hs2
                  go_wp2_with (first
                    | (go_at_call 37; (with_reducible refine HSw3.out.mono ?_); rintro e w20 ⟨v20, rfl, hm20⟩; have bb20 := hm20.bel; have hp20 := hm20.par; obtain ⟨a20, n20, c20, b20, m20, d20, ev20, hs20, he20⟩ := hp20; subst ev20; have Hp20 : Hid (ParAt w20 (.agg #[.slice a20 n20 c20, .slice b20 m20 d20]) (resSwap P pi pj)) := hid_ ⟨_, _, _, _, _, _, rfl, hs20, he20⟩; obtain ⟨W20, hW20⟩ : ∃ W20, w20.alloc (.cells #[.slice a20 n20 c20, .slice b20 m20 d20] 25) = W20 := ⟨_, rfl⟩; have bW20 : Below w20.heap.size w20 W20 := (by rw [← hW20]; exact below_alloc _ _); have bB20 := bb20.trans (bW20.mono bb20.size); have s0 : W20.cell? ⟨w20.heap.size, 0, none⟩ = some (.slice a20 n20 c20) := (by rw [← hW20]; exact cells_alloc _ _ _ 0); have s1 : W20.cell? ⟨w20.heap.size, 1, none⟩ = some (.slice b20 m20 d20) := (by rw [← hW20]; exact cells_alloc _ _ _ 1); obtain ⟨q20, r20⟩ := HQ.out _ (HBk.out _ bB20).1; have HF20 := hid_ (HswF.out W20 _ (Hp20.out.below bW20 (Nat.le_refl _))); clear hm20 hs20 he20)
                    | (go_at_call 13; (with_reducible refine (HRe.out _ (HBk.out _ bB20).1).mono ?_); rw [Hv.out]; rintro e w23 ⟨v23, rfl, hm23⟩; have bb23 := bB20.trans (hm23.bel.mono bB20.size); have hp23 := hm23.par; obtain ⟨a23, n23, c23, b23, m23, d23, ev23, hs23, he23⟩ := hp23; subst ev23; have Hp23 : Hid (ParAt w23 (.agg #[.slice a23 n23 c23, .slice b23 m23 d23]) (resRed P)) := hid_ ⟨_, _, _, _, _, _, rfl, hs23, he23⟩; obtain rfl : m23 = sl := he23.len.symm.trans Hsl.out; obtain ⟨W23, hW23⟩ : ∃ W23, w23.alloc (.cells #[.slice a23 n23 c23, .slice b23 m23 d23] 25) = W23 := ⟨_, rfl⟩; have bW23 : Below w23.heap.size w23 W23 := (by rw [← hW23]; exact below_alloc _ _); have bB23 := bb23.trans (bW23.mono bb23.size); have t0 : W23.cell? ⟨w23.heap.size, 0, none⟩ = some (.slice a23 n23 c23) := (by rw [← hW23]; exact cells_alloc _ _ _ 0); have t1 : W23.cell? ⟨w23.heap.size, 1, none⟩ = some (.slice b23 m23 d23) := (by rw [← hW23]; exact cells_alloc _ _ _ 1); obtain ⟨q23, r23⟩ := HQ.out _ (HBk.out _ bB23).1; have HS23 := hid_ (HSm.out _ (HBk.out _ bB23).1 _ (Hp23.out.below bW23 (Nat.le_refl _))); rw [Hred.out.2.1, Hred.out.2.2] at HS23; clear hm23 hs23 he23)
                    | (go_at_call 17; (with_reducible refine HS23.out.mono ?_); rintro e w24 ⟨rfl, hb24⟩; have bb24 := bB23.trans (hb24.mono bB23.size); obtain ⟨q24, r24⟩ := HQ.out _ (HBk.out _ bb24).1; have t024 := cell_below t0 hb24; have t124 := cell_below t1 hb24; have HNe24 := hid_ (HNe.out _ (HBk.out _ bb24).1)))
                  go_ret
                  exact ⟨rfl, Hc1.out.trans ((HBk.out _ bb24).1.mono Hc1.out.size)⟩
    · have hq : (validP P != 0) = true := by simpa using hv
      generalize validP P = x at *
      clear hv
      generalize resCells P = C at *
      go_enter Try.func6, Try.ntmps6
      go_wp2_with (first
        | (go_at_call 28; (with_reducible refine HH.out.mono ?_); rintro e w5 ⟨v5, rfl, hm5⟩; obtain ⟨a5, c5, rfl, hS5⟩ := HS0.out w5 v5 hm5; have hb5 := B4.out.trans (hm5.bel.mono B4.out.size); have hb5' := hb5.trans ((below_alloc w5 (.cells #[.int .i64 (-1), .int .i64 0] 3)).mono hb5.size); have HS5 := hid_ hS5; clear hS5)
        | (go_at_call 15; (with_reducible refine HS5.out.mono ?_); rintro e w6 ⟨rfl, q6, rfl⟩; have hb6 := below_drewN hb5' q6; obtain ⟨q06, q16⟩ := HQ.out _ hb6)
        | (go_at_call 8; (with_reducible refine (HG.out _ hb6).mono ?_); rintro e w7 ⟨rfl, hb7'⟩; have hb7 := hb6.trans (hb7'.mono hb6.size); obtain ⟨q07, q17⟩ := HQ.out _ hb7; clear hb7')
        | (go_at_call 29; (with_reducible refine (HCe.out w7 hb7).mono ?_); rintro e w8 ⟨v8, rfl, hm8⟩; have hb8 := hb7.trans (hm8.bel.mono hb7.size)))
      go_ret
      exact ⟨rfl, Hc1.out.trans (hb8.mono Hc1.out.size)⟩
end Go.Proofs.Ytdnlpikfibdjoaa
