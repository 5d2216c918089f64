import Derived.Test.YtdnlpikfibdjoaaYh4
import Derived.Test.YtdnlpikfibdjoaaYg6
import Derived.Deep.DeepCutAuto
namespace Go.Proofs.Ytdnlpikfibdjoaa
open Go.RowKit Go.Proofs.Kv Go

/-! ### the law TopStemmas -/
theorem lists2_7 (u : World) (F : TypeId) {a0 a1 : Option Addr} {n0 c0 n1 c1 : Nat} {l0 l1 : List Int} (h0 : IntsAt u a0 n0 c0 l0) (h1 : IntsAt u a1 n1 c1 l1) :
    ListsAt (u.alloc (.cells #[.slice a0 n0 c0, .slice a1 n1 c1] F)) (some ⟨u.heap.size, 0, none⟩) 2 2 [l0, l1] := by
  have hb := below_alloc u (.cells #[.slice a0 n0 c0, .slice a1 n1 c1] F)
  refine ⟨rfl, Nat.le_refl _, by omega, fun i hi => ?_⟩
  rcases (show i = 0 ∨ i = 1 by omega) with rfl | rfl
  · exact ⟨u.heap.size, 0, _, _, _, rfl, by simp, cells_alloc _ _ _ 0, h0.below hb (Nat.le_refl _)⟩
  · exact ⟨u.heap.size, 0, _, _, _, rfl, by simp, cells_alloc _ _ _ 1, h1.below hb (Nat.le_refl _)⟩
set_option maxRecDepth 100000 in
set_option maxHeartbeats 16000000 in
theorem topStemmas_calls (a : Option Addr) (n c : Nat) (T : List (List Int)) (v : Value) (X : Tr) (w : World) (hT : ListsAt w a n c T) (h : TreeAt w v X) :
    Calls Try.prog 7 #[.slice a n c, v] w fun e w' => e = .returned (.bool true) ∧ Below w.heap.size w w' := by
  have HP := hid_ h
  obtain ⟨a1, n1, c1, a2, n2, c2, rfl, h1, h2⟩ := h
  obtain ⟨w1, hw1⟩ : ∃ w1, w.alloc (.cells #[.slice a1 n1 c1, .slice a2 n2 c2] 46) = w1 := ⟨_, rfl⟩
  have cb : Below w.heap.size w w1 := by rw [← hw1]; exact below_alloc _ _
  have q0 : w1.cell? ⟨w.heap.size, 0, none⟩ = some (.slice a1 n1 c1) := by rw [← hw1]; exact cells_alloc _ _ _ 0
  have q1 : w1.cell? ⟨w.heap.size, 1, none⟩ = some (.slice a2 n2 c2) := by rw [← hw1]; exact cells_alloc _ _ _ 1
  have HP1 := hid_ (HP.out.below cb (Nat.le_refl _)); have Hc1 := hid_ cb
  have HQ := hid_ (fun W (hW : Below w1.heap.size w1 W) => (⟨cell_below q0 hW, cell_below q1 hW⟩ : W.cell? ⟨w.heap.size, 0, none⟩ = some (.slice a1 n1 c1) ∧ W.cell? ⟨w.heap.size, 1, none⟩ = some (.slice a2 n2 c2)))
  have HX := hid_ (fun W (hW : Below w1.heap.size w1 W) => HP1.out.below hW (Nat.le_refl _))
  have HL := hid_ (fun W (hW : Below w1.heap.size w1 W) => (hT.below cb (Nat.le_refl _)).below hW (Nat.le_refl _))
  have HG := hid_ (fun W (hW : Below w1.heap.size w1 W) => long_calls a n c T W (HL.out W hW))
  have HLa := hid_ (fun W (hW : Below w1.heap.size w1 W) => large_calls _ X W (HX.out W hW))
  have HCan := hid_ (fun W (hW : Below w1.heap.size w1 W) => stCanTree_calls a n c T W (HL.out W hW))
  have hlen := hT.len
  obtain ⟨u1, hu1⟩ : ∃ u1, w1.alloc (.cells #[.int .i64 0, .int .i64 0] 3) = u1 := ⟨_, rfl⟩
  obtain ⟨u2, hu2⟩ : ∃ u2, u1.alloc (.cells #[.int .i64 1, .int .i64 1] 3) = u2 := ⟨_, rfl⟩
  obtain ⟨u3, hu3⟩ : ∃ u3, u2.alloc (.cells #[.slice (some ⟨w1.heap.size, 0, none⟩) 2 2, .slice (some ⟨u1.heap.size, 0, none⟩) 2 2] 22) = u3 := ⟨_, rfl⟩
  obtain ⟨u4, hu4⟩ : ∃ u4, u3.alloc (.cells #[.int .i64 (-1), .int .i64 0] 3) = u4 := ⟨_, rfl⟩
  obtain ⟨u5, hu5⟩ : ∃ u5, u4.alloc (.cells #[.int .i64 0, .int .i64 1] 3) = u5 := ⟨_, rfl⟩
  have b1 : Below w1.heap.size w1 u1 := by rw [← hu1]; exact below_alloc _ _
  have b2 : Below u1.heap.size u1 u2 := by rw [← hu2]; exact below_alloc _ _
  have b3 : Below u2.heap.size u2 u3 := by rw [← hu3]; exact below_alloc _ _
  have b4 : Below u3.heap.size u3 u4 := by rw [← hu4]; exact below_alloc _ _
  have b5 : Below u4.heap.size u4 u5 := by rw [← hu5]; exact below_alloc _ _
  have i1 : IntsAt u1 (some ⟨w1.heap.size, 0, none⟩) 2 2 [0, 0] := by rw [← hu1]; exact ints2_7 _ _ _ _
  have i2 : IntsAt u2 (some ⟨u1.heap.size, 0, none⟩) 2 2 [1, 1] := by rw [← hu2]; exact ints2_7 _ _ _ _
  have i3 : ListsAt u3 (some ⟨u2.heap.size, 0, none⟩) 2 2 exT7 := by rw [← hu3]; exact lists2_7 _ _ (i1.below b2 (Nat.le_refl _)) i2
  have i4 : IntsAt u4 (some ⟨u3.heap.size, 0, none⟩) 2 2 [-1, 0] := by rw [← hu4]; exact ints2_7 _ _ _ _
  have i5 : IntsAt u5 (some ⟨u4.heap.size, 0, none⟩) 2 2 [0, 1] := by rw [← hu5]; exact ints2_7 _ _ _ _
  have HTot := hid_ (stTotal_calls _ 2 2 exT7 _ exX7 u5 (i3.below (b4.trans (b5.mono b4.size)) (Nat.le_refl _)) ⟨_, _, _, _, _, _, rfl, i4.below b5 (Nat.le_refl _), i5⟩)
  rw [tot_ex.1, tot_ex.2.1, tot_ex.2.2] at HTot
  have B5 := hid_ (b1.trans ((b2.trans ((b3.trans ((b4.trans (b5.mono b4.size)).mono b3.size)).mono b2.size)).mono b1.size))
  clear h1 h2 cb b1 b2 b3 b4 b5 i1 i2 i3 i4 i5 hT
  cases hg : longT T with
  | true =>
    rw [hg] at HG
    go_enter Try.func7, Try.ntmps7
    go_wp2_with (first
      | (go_at_call 38; (with_reducible refine HTot.out.mono ?_); rintro e w3 ⟨rfl, hb3'⟩; have hb3 := B5.out.trans (hb3'.mono B5.out.size); obtain ⟨q03, q13⟩ := HQ.out _ hb3; clear hb3')
      | (go_at_call 21; (with_reducible refine (HG.out w3 hb3).mono ?_); rintro e w4 ⟨rfl, h34⟩; subst h34))
    go_ret
    exact ⟨rfl, Hc1.out.trans (hb3.mono Hc1.out.size)⟩
  | false =>
    rw [hg] at HG
    clear hg
    cases hla : largeX X with
    | true =>
      rw [hla] at HLa
      go_enter Try.func7, Try.ntmps7
      go_wp2_with (first
        | (go_at_call 38; (with_reducible refine HTot.out.mono ?_); rintro e w3 ⟨rfl, hb3'⟩; have hb3 := B5.out.trans (hb3'.mono B5.out.size); obtain ⟨q03, q13⟩ := HQ.out _ hb3; clear hb3')
        | (go_at_call 21; (with_reducible refine (HG.out w3 hb3).mono ?_); rintro e w4 ⟨rfl, h34⟩; subst h34)
        | (go_at_call 39; (with_reducible refine (HLa.out _ hb3).mono ?_); rintro e w5 ⟨rfl, hb5'⟩; have hb5 := hb3.trans (hb5'.mono hb3.size); obtain ⟨q05, q15⟩ := HQ.out _ hb5; clear hb5'))
      go_ret
      exact ⟨rfl, Hc1.out.trans (hb5.mono Hc1.out.size)⟩
    | false =>
      rw [hla] at HLa
      clear hla
      by_cases hv : validT T = 0
      · have g := validT_ok hv
        have hw6 := g.w6
        have hge := g.ge
        have hnle := g.le
        have HBu := hid_ (fun W (hW : Below w1.heap.size w1 W) => stBuild_calls a n c T W (HL.out W hW))
        have HGr := hid_ (fun W (hW : Below w1.heap.size w1 W) => stGreatest_calls a n c T W (HL.out W hW))
        have HCo := hid_ (fun W (hW : Below w1.heap.size w1 W) => stConflicts_calls a n c T W (HL.out W hW))
        have HSi := hid_ (fun W (hW : Below w1.heap.size w1 W) p => stSide_calls a n c T p W (HL.out W hW))
        have HFe := hid_ (fun W (hW : Below w1.heap.size w1 W) v Y p (h : TreeAt W v Y) => stFewest_calls a n c T v Y p W (HL.out W hW) h)
        have HRd := hid_ (fun W (hW : Below w1.heap.size w1 W) v Y p (h : TreeAt W v Y) => stReadings_calls a n c T v Y p W (HL.out W hW) h)
        have HCk := hid_ (fun W (hW : Below w1.heap.size w1 W) v Y p ar m cr R (h : TreeAt W v Y) (hR : IntsAt W ar m cr R) => stCheck_calls a n c T v Y p ar m cr R W (HL.out W hW) h hR)
        have HTo := hid_ (fun W (hW : Below w1.heap.size w1 W) => stTotal_calls a n c T _ X W (HL.out W hW) (HX.out W hW))
        have HDi := hid_ (fun W (hW : Below w1.heap.size w1 W) p => stDifferent_calls a n c T p W (HL.out W hW))
        obtain ⟨hcf, hmlt, hgc⟩ := great_facts hv
        have Hok := hid_ (@builds_ok T)
        have hcc : resCan T = decide ((resConfs T).length = 0) := by unfold resCan resConfs; rw [if_pos hv, decide_eq_true hv]; rfl
        obtain ⟨ml, hml⟩ : ∃ ml, (resGreat T).length = ml := ⟨_, rfl⟩
        obtain ⟨pl, hpl⟩ : ∃ pl, (resConfs T).length = pl := ⟨_, rfl⟩
        rw [hml] at hgc
        rw [hpl] at hcc
        have Hml := hid_ hml; have Hpl := hid_ hpl
        have Hcf := hid_ hcf
        have Hmlt := hid_ hmlt
        have Hg := hid_ g
        have Hv := hid_ hv
        have Hlen := hid_ hlen
        have Hstep := hid_ (fun p (hp : p < n0 T) => sumD_step hv hp)
        have Hsle := hid_ (sumD_le g)
        have Htot := hid_ (fun ho => @total_ge T X hv ho)
        obtain ⟨b, off, ar, mr, cr, rfl, hbt, hcell, hrow⟩ := (HL.out w1 (Below.refl _ _)).cells 0 (by omega)
        rw [Nat.add_zero] at hcell
        have hm : mr = n0 T := by rw [← hrow.len]; rfl
        subst hm
        have hml6 : ml ≤ n0 T := by
          have := len_le_sub (l := resGreat T) (m := (List.range (n0 T)).map fun i : Nat => (i : Int)) (great_nodup T) (fun x hx => by
            obtain ⟨p, rfl, hp⟩ := hmlt x hx
            exact List.mem_map.2 ⟨p, List.mem_range.2 hp, rfl⟩)
          rw [List.length_map, List.length_range, hml] at this
          exact this
        rw [hv] at HCan HBu HGr HCo
        have Hspl := hid_ (fun p (hp : p < n0 T) => show placesE T [(p : Int)] = 0 ∧ okSide T (p : Int) = splR T p ∧ (splR T p = true → resDiff T (p : Int) = 2) from by
          obtain ⟨hpl, -, -, -⟩ := sumD_step hv hp
          refine ⟨hpl, by unfold okSide; rw [decide_eq_true hpl, Int.toNat_natCast]; rfl, fun hs => ?_⟩
          have : diffR T p = 2 := of_decide_eq_true hs
          unfold resDiff; rw [if_pos hpl, Int.toNat_natCast, this]; rfl)
        have hsn6 := splN_le T (n0 T)
        have Hsn := hid_ (fun k => splN_le T k)
        obtain ⟨m, hmm⟩ : ∃ m, n0 T = m := ⟨_, rfl⟩
        have Hm := hid_ hmm
        rw [hmm] at hw6 hgc hcell hml6 Hmlt Hspl hsn6 Hstep Htot
        have hn6 : n ≤ 6 := by omega
        have hn0 : 0 < n := by omega
        clear hv g hml hpl hcf hmlt hrow hbt hmm hlen hge hnle
        cases hc : resCan T with
        | true =>
          rw [hc] at HCan HBu
          have hpl0 : pl = 0 := of_decide_eq_true (hcc ▸ hc)
          have hms : ml = splN T m := of_decide_eq_true (hgc ▸ hc)
          have Hbuild := hid_ (fun p hp hd => ((Hok.out hc).2.2.2.2 p (by rw [Hm.out]; exact hp)).2 hd)
          subst hpl0
          have Hms := hid_ hms
          clear hc hcc hgc hms Hok
          go_enter Try.func7, Try.ntmps7
          go_wp2_with (first
            | (go_at_call 38; (with_reducible refine HTot.out.mono ?_); rintro e w3 ⟨rfl, hb3'⟩; have hb3 := B5.out.trans (hb3'.mono B5.out.size); obtain ⟨q03, q13⟩ := HQ.out _ hb3; clear hb3')
            | (go_at_call 21; (with_reducible refine (HG.out w3 hb3).mono ?_); rintro e w4 ⟨rfl, h34⟩; subst h34)
            | (go_at_call 39; (with_reducible refine (HLa.out _ hb3).mono ?_); rintro e w5 ⟨rfl, hb5'⟩; have hb5 := hb3.trans (hb5'.mono hb3.size); obtain ⟨q05, q15⟩ := HQ.out _ hb5; clear hb5')
            | (go_at_call 40; (with_reducible refine (HCan.out w5 hb5).mono ?_); rintro e w6 ⟨rfl, hb6'⟩; have hb6 := hb5.trans (hb6'.mono hb5.size); obtain ⟨q06, q16⟩ := HQ.out _ hb6; clear hb6')
            | (go_at_call 23; (with_reducible refine (HBu.out w6 hb6).mono ?_); rintro e w7 ⟨v7, rfl, hT7, hb7'⟩; have hb7 := hb6.trans (hb7'.mono hb6.size); obtain ⟨a7, n7, c7, b7, m7, d7, ev7, hi7, hj7⟩ := hT7; subst ev7; have HT7 := hid_ (show TreeAt w7 (.agg #[.slice a7 n7 c7, .slice b7 m7 d7]) (resBuild T) from ⟨_, _, _, _, _, _, rfl, hi7, hj7⟩); obtain ⟨W7, hW7⟩ : ∃ W7, w7.alloc (.cells #[.slice a7 n7 c7, .slice b7 m7 d7] 46) = W7 := ⟨_, rfl⟩; have bW7 : Below w7.heap.size w7 W7 := (by rw [← hW7]; exact below_alloc _ _); have bB7 := hb7.trans (bW7.mono hb7.size); have o07 : W7.cell? ⟨w7.heap.size, 0, none⟩ = some (.slice a7 n7 c7) := (by rw [← hW7]; exact cells_alloc _ _ _ 0); have o17 : W7.cell? ⟨w7.heap.size, 1, none⟩ = some (.slice b7 m7 d7) := (by rw [← hW7]; exact cells_alloc _ _ _ 1); have HT7w := hid_ (HT7.out.below bW7 (Nat.le_refl _)); obtain ⟨q07, q17⟩ := HQ.out _ bB7; clear hi7 hj7 hb7')
            | (go_at_call 42; (with_reducible refine (HGr.out W7 bB7).mono ?_); rintro e w8 ⟨a8, c8, rfl, hi8, hb8'⟩; have hb8 := bB7.trans (hb8'.mono bB7.size); obtain ⟨q08, q18⟩ := HQ.out _ hb8; have o08 := cell_below o07 hb8'; have o18 := cell_below o17 hb8'; have HT8 := hid_ (HT7w.out.below hb8' (Nat.le_refl _)); rw [Hml.out] at hi8 ⊢; have Hi8 := hid_ hi8; clear hi8 hb8')
            | (go_at_call 43; (with_reducible refine (HCo.out w8 hb8).mono ?_); rintro e w9 ⟨v9, rfl, hm9⟩; have hb9 := hb8.trans (hm9.bel.mono hb8.size); obtain ⟨q09, q19⟩ := HQ.out _ hb9; have o09 := cell_below o08 hm9.bel; have o19 := cell_below o18 hm9.bel; have HT9 := hid_ (HT8.out.below hm9.bel (Nat.le_refl _)); have Hi9 := hid_ (Hi8.out.below hm9.bel (Nat.le_refl _)); obtain ⟨a9, c9, rfl, -⟩ := hm9.at_; rw [Hpl.out]; clear hm9))
          have Hb9 := hid_ hb9
          go_loopw [16, 17] (fun sv pv wr => ∃ k : Nat, k ≤ m ∧ sv = .int .i64 (splN T k : Nat) ∧ pv = .int .i64 (k : Int) ∧ Below w9.heap.size w9 wr) (fun _ pv _ => m - (intOf pv).toNat)
          case atStart => exact ⟨0, Nat.zero_le _, rfl, rfl, Below.refl _ _⟩
          case round =>
            obtain ⟨k, hk, rfl, rfl, hb⟩ := hrel
            have hbw := Hb9.out.trans (hb.mono Hb9.out.size)
            have Hb := hid_ hb; have Hbw := hid_ hbw
            obtain ⟨q3, r3⟩ := HQ.out wr hbw
            have p0 := cell_below o09 hb; have p1 := cell_below o19 hb; have hc0 := cell_below hcell hbw
            by_cases hlt : k < m
            · obtain ⟨e1, e2, e3⟩ := Hspl.out k hlt
              have hsk := Hsn.out k
              have HSk := hid_ (HSi.out wr hbw (k : Int))
              rw [e1, e2] at HSk
              have hws : IntKind.i64.wrap ((splN T k : Int) + 1) = ((splN T k + 1 : Nat) : Int) := by rw [IntWalk.i64_in _ (by omega)]; omega
              have Hsucc := hid_ (splN_succ T k)
              obtain ⟨sk, hsk'⟩ : ∃ sk, splN T k = sk := ⟨_, rfl⟩
              rw [hsk'] at hws Hsucc ⊢
              cases hs : splR T k with
              | true =>
                rw [hs] at HSk
                have HK : Hid (splN T (k + 1) = sk + 1) := hid_ (by rw [Hsucc.out, hs]; rfl)
                obtain ⟨x1, x2, x3⟩ := (Hbuild.out k hlt (e3 hs))
                obtain ⟨y1, y2, -, -⟩ := read_check x2
                have HFk := hid_ (fun W (hW : Below wr.heap.size wr W) => HFe.out W (hbw.trans (hW.mono hbw.size)) _ _ (k : Int) (HT9.out.below (hb.trans (hW.mono hb.size)) (Nat.le_refl _)))
                have HRk := hid_ (fun W (hW : Below wr.heap.size wr W) => HRd.out W (hbw.trans (hW.mono hbw.size)) _ _ (k : Int) (HT9.out.below (hb.trans (hW.mono hb.size)) (Nat.le_refl _)))
                have HCkk := hid_ (fun W (hW : Below wr.heap.size wr W) ar m cr (hR : IntsAt W ar m cr (readL T (resBuild T) (k : Int))) => HCk.out W (hbw.trans (hW.mono hbw.size)) _ _ (k : Int) ar m cr _ (HT9.out.below (hb.trans (hW.mono hb.size)) (Nat.le_refl _)) hR)
                rw [y1, y2, x1] at HCkk
                rw [x1, x2, x3] at HFk
                rw [x2, x3] at HRk
                obtain ⟨rl, hrl⟩ : ∃ rl, (readL T (resBuild T) (k : Int)).length = rl := ⟨_, rfl⟩
                have Hrl := hid_ hrl
                generalize readL T (resBuild T) (k : Int) = RL at *
                clear hs hb hbw e1 e2 e3 hsk hsk' x1 x2 x3 y1 y2 hrl
                go_wp2_with (first
                  | (go_at_call 44; (with_reducible refine HSk.out.mono ?_); rintro e w10 ⟨v10, rfl, hm10⟩; have bb10 := hm10.bel; obtain ⟨a10, c10, rfl, -⟩ := hm10.at_; have p0a := cell_below p0 bb10; have p1a := cell_below p1 bb10; have HF10 := hid_ (HFk.out w10 bb10); clear hm10)
                  | (go_at_call 45; (with_reducible refine HF10.out.mono ?_); rintro e w11 ⟨rfl, hb11⟩; have bb11 := bb10.trans (hb11.mono bb10.size); have p0b := cell_below p0a hb11; have p1b := cell_below p1a hb11; have HR11 := hid_ (HRk.out w11 bb11))
                  | (go_at_call 46; (with_reducible refine HR11.out.mono ?_); rintro e w12 ⟨v12, rfl, hm12⟩; have bb12 := bb11.trans (hm12.bel.mono bb11.size); have p0c := cell_below p0b hm12.bel; have p1c := cell_below p1b hm12.bel; obtain ⟨a12, c12, rfl, hi12⟩ := hm12.at_; have HC12 := hid_ (HCkk.out w12 bb12 _ _ _ hi12); rw [Hrl.out] at HC12 ⊢; clear hi12 hm12)
                  | (go_at_call 47; (with_reducible refine HC12.out.mono ?_); rintro e w13 ⟨rfl, hb13⟩; have HbE := hid_ (Hb.out.trans ((bb12.trans (hb13.mono bb12.size)).mono Hb.out.size)); clear hb13))
                go_roundw
                case rel => exact ⟨k + 1, by omega, by rw [HK.out]; first | rfl | simp, by go_num, HbE.out⟩
                case measure => (simp [intOf]; try omega)
              | false =>
                rw [hs] at HSk
                have HK : Hid (splN T (k + 1) = sk) := hid_ (by rw [Hsucc.out, hs]; rfl)
                clear hs hb hbw e1 e2 e3 hsk hsk'
                go_wp2_with (go_at_call 44; (with_reducible refine HSk.out.mono ?_); rintro e w10 ⟨v10, rfl, hm10⟩; have HbE := hid_ (Hb.out.trans (hm10.bel.mono Hb.out.size)); obtain ⟨a10, c10, rfl, -⟩ := hm10.at_; clear hm10)
                go_roundw
                case rel => exact ⟨k + 1, by omega, by rw [HK.out], by go_num, HbE.out⟩
                case measure => (simp [intOf]; try omega)
            · have hkm : k = m := by omega
              have hms := Hms.out
              have hmeq : ((ml : Int) == (splN T k : Int)) = true := by rw [hkm, hms]; simp
              have HWo := hid_ (fun W al nl cl U p (hU : ListsAt W al nl cl U) => stWithout_calls al nl cl U p W hU)
              have HCl := hid_ (fun W al nl cl U (hU : ListsAt W al nl cl U) => stCanTree_calls al nl cl U W hU)
              have Hne := hid_ (show 0 < T.length by rw [Hlen.out]; exact hn0)
              clear hkm hms hb hbw
              go_wp2
              obtain ⟨wl, hwl⟩ : ∃ wl, wl = wr := ⟨_, rfl⟩
              rw [← hwl] at q3 r3 hc0 Hb Hbw ⊢
              clear hwl
              have Hil := hid_ (Hi9.out.below Hb.out (Nat.le_refl _))
              have HT0 : ListsAt wl (some ⟨b, off, none⟩) n c (selT T (List.range m)) := by
                have e := selT_all Hg.out
                rw [Hm.out] at e
                rw [e]; exact HL.out wl Hbw.out
              have HT0 := hid_ HT0
              have Hst := hid_ (Hm.out ▸ left_start Hg.out (resGreat T))
              have hwm : IntKind.i64.wrap ((m : Int) - 1) = (m : Int) - 1 := IntWalk.i64_in _ (by omega)
              obtain ⟨M, hM⟩ : ∃ M, resGreat T = M := ⟨_, rfl⟩
              rw [hM] at Hil Hst Hml Hmlt Hcf
              have HMd := hid_ hM
              clear hM hmeq q3 r3 p0 p1
              go_loopw [29, 30] (fun lv pv wr => ∃ (k : Nat) (L : List Nat) (al : Option Addr) (cl : Nat), k ≤ m ∧ lv = .slice al n cl ∧ pv = .int .i64 ((k : Int) - 1) ∧ LeftK T M k L ∧ ListsAt wr al n cl (selT T L) ∧ Below wl.heap.size wl wr) (fun _ pv _ => (intOf pv + 1).toNat)
              case atStart => exact ⟨m, List.range m, _, _, Nat.le_refl _, rfl, rfl, Hst.out, HT0.out, Below.refl _ _⟩
              case round =>
                clear HT0 Hst hc0
                obtain ⟨k, L, al, cl, hk, rfl, rfl, hLk, hLt, hb⟩ := hrel
                have hbw := Hbw.out.trans (hb.mono Hbw.out.size)
                have Hb2 := hid_ hb; have Hbw2 := hid_ hbw
                have hc0 := cell_below hcell hbw
                obtain ⟨q3, r3⟩ := HQ.out wr hbw
                have HLk := hid_ hLk
                have HLt := hid_ hLt
                cases k with
                | succ k =>
                  rw [show (((k + 1 : Nat) : Int) - 1) = (k : Int) by omega]
                  have hwk : IntKind.i64.wrap ((k : Int) - 1) = (k : Int) - 1 := IntWalk.i64_in _ (by omega)
                  have hge : decide ((k : Int) ≥ 0) = true := by simp
                  have Hil2 := hid_ (Hil.out.below hb (Nat.le_refl _))
                  obtain ⟨bs, os, as1, ms, cs, rfl, -, hls, hrs⟩ := hLt.cells 0 hn0
                  rw [Nat.add_zero] at hls
                  have hms : ms = L.length := by rw [← hrs.len, selT_at Hne.out, List.length_map]
                  subst hms
                  obtain ⟨ll, hll⟩ : ∃ ll, L.length = ll := ⟨_, rfl⟩
                  rw [hll] at hls
                  have Hll := hid_ hll
                  clear hLk hLt hrs hb hbw hll
                  go_wp2
                  obtain ⟨wq, hwq⟩ : ∃ wq, wq = wr := ⟨_, rfl⟩
                  rw [← hwq] at hls hc0 q3 r3 Hil2 HLt Hb2 Hbw2 ⊢
                  clear hwq
                  go_loopw [31, 32] (fun kv iv wr => ∃ j : Nat, j ≤ ml ∧ iv = .int .i64 (j : Int) ∧ kv = .bool (decide ((k : Int) ∈ M.take j)) ∧ wr = wq) (fun _ iv _ => ml - (intOf iv).toNat)
                  case atStart => exact ⟨0, Nat.zero_le _, rfl, by simp, rfl⟩
                  case round =>
                    obtain ⟨j, hj, rfl, rfl, rfl⟩ := hrel
                    by_cases hjl : j < ml
                    · obtain ⟨bm, om, rfl, -, hcm⟩ := Hil2.out.cells j hjl
                      have hwj : IntKind.i64.wrap ((j : Int) + 1) = (j : Int) + 1 := IntWalk.i64_in _ (by omega)
                      have htk : M.take (j + 1) = M.take j ++ [M.getD j 0] := Kv.take_snoc M 0 j (by rw [Hml.out]; exact hjl)
                      have hdec : decide ((k : Int) ∈ M.take (j + 1)) = (decide ((k : Int) ∈ M.take j) || decide (M.getD j 0 = (k : Int))) := by
                        rw [htk]
                        simp only [List.mem_append, List.mem_singleton]
                        rw [Bool.decide_or]
                        congr 1
                        exact decide_eq_decide.2 ⟨fun e => e.symm, fun e => e.symm⟩
                      have Hdec := hid_ hdec
                      clear hdec htk
                      generalize M.getD j 0 = mj at *
                      generalize decide ((k : Int) ∈ M.take j) = bj at *
                      cases bj with
                      | true =>
                        have He : Hid (decide ((k : Int) ∈ M.take (j + 1)) = true) := hid_ (by rw [Hdec.out]; rfl)
                        go_wp2
                        go_roundw
                        case rel => exact ⟨j + 1, by omega, by go_num, by rw [He.out], trivial⟩
                        case measure => (simp [intOf]; try omega)
                      | false =>
                        by_cases hmj : mj = (k : Int)
                        · have He : Hid (decide ((k : Int) ∈ M.take (j + 1)) = true) := hid_ (by rw [Hdec.out, decide_eq_true hmj]; rfl)
                          have hmq : (mj == (k : Int)) = true := by simp [hmj]
                          clear hmj
                          go_wp2
                          go_roundw
                          case rel => exact ⟨j + 1, by omega, by go_num, by rw [He.out], trivial⟩
                          case measure => (simp [intOf]; try omega)
                        · have He : Hid (decide ((k : Int) ∈ M.take (j + 1)) = false) := hid_ (by rw [Hdec.out, decide_eq_false hmj]; rfl)
                          have hmq : (mj == (k : Int)) = false := by simp [hmj]
                          clear hmj
                          go_wp2
                          go_roundw
                          case rel => exact ⟨j + 1, by omega, by go_num, by rw [He.out], trivial⟩
                          case measure => (simp [intOf]; try omega)
                    · have hjm : j = ml := by omega
                      have hall : M.take j = M := List.take_of_length_le (by rw [Hml.out, hjm]; exact Nat.le_refl _)
                      rw [hall]
                      clear hjm hall hj
                      by_cases hmem : (k : Int) ∈ M
                      · rw [decide_eq_true hmem]
                        have HLn := hid_ (left_keep HLk.out hmem)
                        clear hmem
                        go_wp2
                        go_roundw
                        case rel => exact ⟨k, L, _, _, by omega, rfl, by go_num, HLn.out, HLt.out, Hb2.out⟩
                        case measure => (simp [intOf]; try omega)
                      · rw [decide_eq_false hmem]
                        clear hmem
                        by_cases hl1 : ll = 1
                        · have HLn := hid_ (left_one HLk.out (Hll.out.trans hl1))
                          have hlq : ((ll : Int) == 1) = true := by simp [hl1]
                          clear hl1
                          go_wp2
                          go_roundw
                          case rel => exact ⟨k, L, _, _, by omega, rfl, by go_num, HLn.out, HLt.out, Hb2.out⟩
                          case measure => (simp [intOf]; try omega)
                        · have hlq : ((ll : Int) == 1) = false := by simp; omega
                          obtain ⟨hkl, hLd⟩ := left_drop HLk.out
                          obtain ⟨-, -, h6, hLi, -⟩ := HLk.out
                          obtain ⟨hw0, hw1⟩ := selT_wout Hg.out h6 hLi hkl (by rw [Hll.out]; exact hl1)
                          have HLn := hid_ hLd
                          have HWk := hid_ (HWo.out wr _ _ _ _ (k : Int) HLt.out)
                          rw [hw0, hw1] at HWk
                          clear hl1 hkl hLd h6 hLi hw0 hw1
                          go_wp2_with (go_at_call 48; (with_reducible refine HWk.out.mono ?_); rintro e w20 ⟨v20, us20, rfl, hO20, hb20⟩; obtain ⟨a20, c20, e20, hl20⟩ := hO20.lists; rw [selT_len, Hlen.out] at e20 hl20; subst e20; have Hl20 := hid_ hl20; have Hb20 := hid_ (Hb2.out.trans (hb20.mono Hb2.out.size)); clear hO20 hl20 hb20)
                          go_roundw
                          case rel => exact ⟨k, L.eraseIdx k, _, _, by omega, rfl, by go_num, HLn.out, Hl20.out, Hb20.out⟩
                          case measure => (simp [intOf]; try omega)
                | zero =>
                  obtain ⟨i, hi⟩ : ∃ i : Int, i = ((0 : Nat) : Int) - 1 := ⟨_, rfl⟩
                  rw [← hi]
                  have hge : decide (i ≥ 0) = false := by rw [hi]; decide
                  obtain ⟨hv0, hcn⟩ := left_end Hg.out Hcf.out hLk
                  have HCk2 := hid_ (HCl.out wr _ _ _ _ hLt)
                  rw [hv0, hcn] at HCk2
                  have HTw := hid_ (fun W (hW : Below wr.heap.size wr W) => HTo.out W (hbw.trans (hW.mono hbw.size)))
                  have hto := fun ho => Htot.out ho
                  have htn := @total_no T X
                  have hte := @total_err T X
                  obtain ⟨tt, htt⟩ : ∃ tt, resTot T X = tt := ⟨_, rfl⟩
                  obtain ⟨ot, hot⟩ : ∃ ot, okTot T X = ot := ⟨_, rfl⟩
                  obtain ⟨et, het⟩ : ∃ et, errB T X = et := ⟨_, rfl⟩
                  rw [htt, hot] at hto
                  rw [htt, hot] at htn
                  rw [het, hot] at hte
                  rw [htt, hot, het] at HTw
                  clear hi hv0 hcn hLk hLt hb hbw htt hot het
                  by_cases he0 : et = 0
                  · subst he0
                    clear hte
                    cases ot with
                    | true =>
                      have Hto := hid_ (hto rfl)
                      clear hto htn
                      go_wp2_with (first
                        | (go_at_call 40; (with_reducible refine HCk2.out.mono ?_); rintro e w21 ⟨rfl, hb21⟩; have HT21 := hid_ (HTw.out w21 hb21); obtain ⟨q21, r21⟩ := HQ.out _ (Hbw2.out.trans (hb21.mono Hbw2.out.size)))
                        | (go_at_call 38; (with_reducible refine HT21.out.mono ?_); rintro e w22 ⟨rfl, hb22⟩; have bb22 := hb21.trans (hb22.mono hb21.size); have Hb22 := hid_ (Hbw2.out.trans (bb22.mono Hbw2.out.size))))
                      clear hb21 hb22 bb22 q21 r21
                      go_loopw [35, 36] (fun sv pv wr => ∃ k : Nat, k ≤ m ∧ sv = .int .i64 (sumD T k : Nat) ∧ pv = .int .i64 (k : Int) ∧ Below w22.heap.size w22 wr) (fun _ pv _ => m - (intOf pv).toNat)
                      case atStart => exact ⟨0, Nat.zero_le _, rfl, rfl, Below.refl _ _⟩
                      case round =>
                        obtain ⟨k, hk, rfl, rfl, hb⟩ := hrel
                        have hbw := Hb22.out.trans (hb.mono Hb22.out.size)
                        have Hb3 := hid_ hb; have Hbw3 := hid_ hbw
                        have hc0 := cell_below hcell hbw
                        by_cases hlt : k < m
                        · obtain ⟨e1, e2, e3, e4⟩ := Hstep.out k hlt
                          have hsl := Hsle.out k
                          have hsl1 := Hsle.out (k + 1)
                          have HDk := hid_ (HDi.out wr hbw (k : Int))
                          rw [e1] at HDk
                          obtain ⟨sk, hsk⟩ : ∃ sk, sumD T k = sk := ⟨_, rfl⟩
                          obtain ⟨sk1, hsk1⟩ : ∃ sk1, sumD T (k + 1) = sk1 := ⟨_, rfl⟩
                          rw [hsk, hsk1] at e2
                          rw [hsk] at hsl ⊢
                          rw [hsk1] at hsl1
                          have HK := hid_ hsk1
                          generalize resDiff T (k : Int) = dk at *
                          have hw1 : IntKind.i64.wrap (dk - 1) = dk - 1 := IntWalk.i64_in _ (by omega)
                          have hw2 : IntKind.i64.wrap ((sk : Int) + (dk - 1)) = (sk1 : Int) := by rw [IntWalk.i64_in _ (by omega)]; exact e2
                          clear e1 e2 e3 e4 hsl hsl1 hsk hsk1 hb hbw
                          go_wp2_with (go_at_call 49; (with_reducible refine HDk.out.mono ?_); rintro e w23 ⟨rfl, hb23⟩; have HbE := hid_ (Hb3.out.trans (hb23.mono Hb3.out.size)); clear hb23)
                          go_roundw
                          case rel => exact ⟨k + 1, by omega, by rw [HK.out], by go_num, HbE.out⟩
                          case measure => (simp [intOf]; try omega)
                        · have hkm : k = m := by omega
                          have hle : sumD T k ≤ tt := by rw [hkm]; exact Hto.out
                          have hgt : decide ((tt : Int) ≥ (sumD T k : Int)) = true := decide_eq_true (by omega)
                          clear hkm hb hbw
                          go_wp2
                          go_ret
                          exact ⟨by first | rfl | simp [hle], Hc1.out.trans (Hbw3.out.mono Hc1.out.size)⟩
                    | false =>
                      have ht0 := htn rfl
                      subst ht0
                      clear hto htn
                      go_wp2_with (first
                        | (go_at_call 40; (with_reducible refine HCk2.out.mono ?_); rintro e w21 ⟨rfl, hb21⟩; have HT21 := hid_ (HTw.out w21 hb21); obtain ⟨q21, r21⟩ := HQ.out _ (Hbw2.out.trans (hb21.mono Hbw2.out.size)))
                        | (go_at_call 38; (with_reducible refine HT21.out.mono ?_); rintro e w22 ⟨rfl, hb22⟩; have bb22 := hb21.trans (hb22.mono hb21.size); have Hb22 := hid_ (Hbw2.out.trans (bb22.mono Hbw2.out.size))))
                      go_ret
                      exact ⟨rfl, Hc1.out.trans (Hb22.out.mono Hc1.out.size)⟩
                  · have ho0 := hte he0
                    subst ho0
                    have ht0 := htn rfl
                    subst ht0
                    have heq : (et != 0) = true := by simpa using he0
                    clear hto htn hte he0
                    go_wp2_with (first
                      | (go_at_call 40; (with_reducible refine HCk2.out.mono ?_); rintro e w21 ⟨rfl, hb21⟩; have HT21 := hid_ (HTw.out w21 hb21); obtain ⟨q21, r21⟩ := HQ.out _ (Hbw2.out.trans (hb21.mono Hbw2.out.size)))
                      | (go_at_call 38; (with_reducible refine HT21.out.mono ?_); rintro e w22 ⟨rfl, hb22⟩; have bb22 := hb21.trans (hb22.mono hb21.size); have Hb22 := hid_ (Hbw2.out.trans (bb22.mono Hbw2.out.size))))
                    go_ret
                    exact ⟨rfl, Hc1.out.trans (Hb22.out.mono Hc1.out.size)⟩
        | false =>
          rw [hc] at HCan HBu
          have hpl0 : pl ≠ 0 := fun e => by rw [hcc, decide_eq_true e] at hc; cases hc
          have hms : ml ≠ splN T m := fun e => by rw [hgc, decide_eq_true e] at hc; cases hc
          have hpl1 : ((pl : Int) == 0) = false := by simpa using hpl0
          have Hms := hid_ hms
          clear hc hcc hgc hms Hok
          go_enter Try.func7, Try.ntmps7
          go_wp2_with (first
            | (go_at_call 38; (with_reducible refine HTot.out.mono ?_); rintro e w3 ⟨rfl, hb3'⟩; have hb3 := B5.out.trans (hb3'.mono B5.out.size); obtain ⟨q03, q13⟩ := HQ.out _ hb3; clear hb3')
            | (go_at_call 21; (with_reducible refine (HG.out w3 hb3).mono ?_); rintro e w4 ⟨rfl, h34⟩; subst h34)
            | (go_at_call 39; (with_reducible refine (HLa.out _ hb3).mono ?_); rintro e w5 ⟨rfl, hb5'⟩; have hb5 := hb3.trans (hb5'.mono hb3.size); obtain ⟨q05, q15⟩ := HQ.out _ hb5; clear hb5')
            | (go_at_call 40; (with_reducible refine (HCan.out w5 hb5).mono ?_); rintro e w6 ⟨rfl, hb6'⟩; have hb6 := hb5.trans (hb6'.mono hb5.size); obtain ⟨q06, q16⟩ := HQ.out _ hb6; clear hb6')
            | (go_at_call 23; (with_reducible refine (HBu.out w6 hb6).mono ?_); rintro e w7 ⟨v7, rfl, hT7, hb7'⟩; have hb7 := hb6.trans (hb7'.mono hb6.size); obtain ⟨a7, n7, c7, b7, m7, d7, ev7, hi7, hj7⟩ := hT7; subst ev7; have HT7 := hid_ (show TreeAt w7 (.agg #[.slice a7 n7 c7, .slice b7 m7 d7]) (resBuild T) from ⟨_, _, _, _, _, _, rfl, hi7, hj7⟩); obtain ⟨W7, hW7⟩ : ∃ W7, w7.alloc (.cells #[.slice a7 n7 c7, .slice b7 m7 d7] 46) = W7 := ⟨_, rfl⟩; have bW7 : Below w7.heap.size w7 W7 := (by rw [← hW7]; exact below_alloc _ _); have bB7 := hb7.trans (bW7.mono hb7.size); have o07 : W7.cell? ⟨w7.heap.size, 0, none⟩ = some (.slice a7 n7 c7) := (by rw [← hW7]; exact cells_alloc _ _ _ 0); have o17 : W7.cell? ⟨w7.heap.size, 1, none⟩ = some (.slice b7 m7 d7) := (by rw [← hW7]; exact cells_alloc _ _ _ 1); have HT7w := hid_ (HT7.out.below bW7 (Nat.le_refl _)); obtain ⟨q07, q17⟩ := HQ.out _ bB7; clear hi7 hj7 hb7')
            | (go_at_call 42; (with_reducible refine (HGr.out W7 bB7).mono ?_); rintro e w8 ⟨a8, c8, rfl, hi8, hb8'⟩; have hb8 := bB7.trans (hb8'.mono bB7.size); obtain ⟨q08, q18⟩ := HQ.out _ hb8; have o08 := cell_below o07 hb8'; have o18 := cell_below o17 hb8'; have HT8 := hid_ (HT7w.out.below hb8' (Nat.le_refl _)); rw [Hml.out] at hi8 ⊢; have Hi8 := hid_ hi8; clear hi8 hb8')
            | (go_at_call 43; (with_reducible refine (HCo.out w8 hb8).mono ?_); rintro e w9 ⟨v9, rfl, hm9⟩; have hb9 := hb8.trans (hm9.bel.mono hb8.size); obtain ⟨q09, q19⟩ := HQ.out _ hb9; have o09 := cell_below o08 hm9.bel; have o19 := cell_below o18 hm9.bel; have HT9 := hid_ (HT8.out.below hm9.bel (Nat.le_refl _)); have Hi9 := hid_ (Hi8.out.below hm9.bel (Nat.le_refl _)); obtain ⟨a9, c9, rfl, -⟩ := hm9.at_; rw [Hpl.out]; clear hm9))
          have Hb9 := hid_ hb9
          go_loopw [16, 17] (fun sv pv wr => ∃ k : Nat, k ≤ m ∧ sv = .int .i64 (splN T k : Nat) ∧ pv = .int .i64 (k : Int) ∧ Below w9.heap.size w9 wr) (fun _ pv _ => m - (intOf pv).toNat)
          case atStart => exact ⟨0, Nat.zero_le _, rfl, rfl, Below.refl _ _⟩
          case round =>
            obtain ⟨k, hk, rfl, rfl, hb⟩ := hrel
            have hbw := Hb9.out.trans (hb.mono Hb9.out.size)
            have Hb := hid_ hb; have Hbw := hid_ hbw
            obtain ⟨q3, r3⟩ := HQ.out wr hbw
            have p0 := cell_below o09 hb; have p1 := cell_below o19 hb; have hc0 := cell_below hcell hbw
            by_cases hlt : k < m
            · obtain ⟨e1, e2, e3⟩ := Hspl.out k hlt
              have hsk := Hsn.out k
              have HSk := hid_ (HSi.out wr hbw (k : Int))
              rw [e1, e2] at HSk
              have hws : IntKind.i64.wrap ((splN T k : Int) + 1) = ((splN T k + 1 : Nat) : Int) := by rw [IntWalk.i64_in _ (by omega)]; omega
              have Hsucc := hid_ (splN_succ T k)
              obtain ⟨sk, hsk'⟩ : ∃ sk, splN T k = sk := ⟨_, rfl⟩
              rw [hsk'] at hws Hsucc ⊢
              cases hs : splR T k with
              | true =>
                rw [hs] at HSk
                have HK : Hid (splN T (k + 1) = sk + 1) := hid_ (by rw [Hsucc.out, hs]; rfl)
                clear hs hb hbw e1 e2 e3 hsk hsk'
                go_wp2_with (go_at_call 44; (with_reducible refine HSk.out.mono ?_); rintro e w10 ⟨v10, rfl, hm10⟩; have HbE := hid_ (Hb.out.trans (hm10.bel.mono Hb.out.size)); obtain ⟨a10, c10, rfl, -⟩ := hm10.at_; clear hm10)
                go_roundw
                case rel => exact ⟨k + 1, by omega, by rw [HK.out]; first | rfl | simp, by go_num, HbE.out⟩
                case measure => (simp [intOf]; try omega)
              | false =>
                rw [hs] at HSk
                have HK : Hid (splN T (k + 1) = sk) := hid_ (by rw [Hsucc.out, hs]; rfl)
                clear hs hb hbw e1 e2 e3 hsk hsk'
                go_wp2_with (go_at_call 44; (with_reducible refine HSk.out.mono ?_); rintro e w10 ⟨v10, rfl, hm10⟩; have HbE := hid_ (Hb.out.trans (hm10.bel.mono Hb.out.size)); obtain ⟨a10, c10, rfl, -⟩ := hm10.at_; clear hm10)
                go_roundw
                case rel => exact ⟨k + 1, by omega, by rw [HK.out], by go_num, HbE.out⟩
                case measure => (simp [intOf]; try omega)
            · have hkm : k = m := by omega
              have hms := Hms.out
              have hmeq : ((ml : Int) == (splN T k : Int)) = false := by rw [hkm]; simp; omega
              have HWo := hid_ (fun W al nl cl U p (hU : ListsAt W al nl cl U) => stWithout_calls al nl cl U p W hU)
              have HCl := hid_ (fun W al nl cl U (hU : ListsAt W al nl cl U) => stCanTree_calls al nl cl U W hU)
              have Hne := hid_ (show 0 < T.length by rw [Hlen.out]; exact hn0)
              clear hkm hms hb hbw
              go_wp2
              obtain ⟨wl, hwl⟩ : ∃ wl, wl = wr := ⟨_, rfl⟩
              rw [← hwl] at q3 r3 hc0 Hb Hbw ⊢
              clear hwl
              have Hil := hid_ (Hi9.out.below Hb.out (Nat.le_refl _))
              have HT0 : ListsAt wl (some ⟨b, off, none⟩) n c (selT T (List.range m)) := by
                have e := selT_all Hg.out
                rw [Hm.out] at e
                rw [e]; exact HL.out wl Hbw.out
              have HT0 := hid_ HT0
              have Hst := hid_ (Hm.out ▸ left_start Hg.out (resGreat T))
              have hwm : IntKind.i64.wrap ((m : Int) - 1) = (m : Int) - 1 := IntWalk.i64_in _ (by omega)
              obtain ⟨M, hM⟩ : ∃ M, resGreat T = M := ⟨_, rfl⟩
              rw [hM] at Hil Hst Hml Hmlt Hcf
              have HMd := hid_ hM
              clear hM hmeq q3 r3 p0 p1
              go_loopw [29, 30] (fun lv pv wr => ∃ (k : Nat) (L : List Nat) (al : Option Addr) (cl : Nat), k ≤ m ∧ lv = .slice al n cl ∧ pv = .int .i64 ((k : Int) - 1) ∧ LeftK T M k L ∧ ListsAt wr al n cl (selT T L) ∧ Below wl.heap.size wl wr) (fun _ pv _ => (intOf pv + 1).toNat)
              case atStart => exact ⟨m, List.range m, _, _, Nat.le_refl _, rfl, rfl, Hst.out, HT0.out, Below.refl _ _⟩
              case round =>
                clear HT0 Hst hc0
                obtain ⟨k, L, al, cl, hk, rfl, rfl, hLk, hLt, hb⟩ := hrel
                have hbw := Hbw.out.trans (hb.mono Hbw.out.size)
                have Hb2 := hid_ hb; have Hbw2 := hid_ hbw
                have hc0 := cell_below hcell hbw
                obtain ⟨q3, r3⟩ := HQ.out wr hbw
                have HLk := hid_ hLk
                have HLt := hid_ hLt
                cases k with
                | succ k =>
                  rw [show (((k + 1 : Nat) : Int) - 1) = (k : Int) by omega]
                  have hwk : IntKind.i64.wrap ((k : Int) - 1) = (k : Int) - 1 := IntWalk.i64_in _ (by omega)
                  have hge : decide ((k : Int) ≥ 0) = true := by simp
                  have Hil2 := hid_ (Hil.out.below hb (Nat.le_refl _))
                  obtain ⟨bs, os, as1, ms, cs, rfl, -, hls, hrs⟩ := hLt.cells 0 hn0
                  rw [Nat.add_zero] at hls
                  have hms : ms = L.length := by rw [← hrs.len, selT_at Hne.out, List.length_map]
                  subst hms
                  obtain ⟨ll, hll⟩ : ∃ ll, L.length = ll := ⟨_, rfl⟩
                  rw [hll] at hls
                  have Hll := hid_ hll
                  clear hLk hLt hrs hb hbw hll
                  go_wp2
                  obtain ⟨wq, hwq⟩ : ∃ wq, wq = wr := ⟨_, rfl⟩
                  rw [← hwq] at hls hc0 q3 r3 Hil2 HLt Hb2 Hbw2 ⊢
                  clear hwq
                  go_loopw [31, 32] (fun kv iv wr => ∃ j : Nat, j ≤ ml ∧ iv = .int .i64 (j : Int) ∧ kv = .bool (decide ((k : Int) ∈ M.take j)) ∧ wr = wq) (fun _ iv _ => ml - (intOf iv).toNat)
                  case atStart => exact ⟨0, Nat.zero_le _, rfl, by simp, rfl⟩
                  case round =>
                    obtain ⟨j, hj, rfl, rfl, rfl⟩ := hrel
                    by_cases hjl : j < ml
                    · obtain ⟨bm, om, rfl, -, hcm⟩ := Hil2.out.cells j hjl
                      have hwj : IntKind.i64.wrap ((j : Int) + 1) = (j : Int) + 1 := IntWalk.i64_in _ (by omega)
                      have htk : M.take (j + 1) = M.take j ++ [M.getD j 0] := Kv.take_snoc M 0 j (by rw [Hml.out]; exact hjl)
                      have hdec : decide ((k : Int) ∈ M.take (j + 1)) = (decide ((k : Int) ∈ M.take j) || decide (M.getD j 0 = (k : Int))) := by
                        rw [htk]
                        simp only [List.mem_append, List.mem_singleton]
                        rw [Bool.decide_or]
                        congr 1
                        exact decide_eq_decide.2 ⟨fun e => e.symm, fun e => e.symm⟩
                      have Hdec := hid_ hdec
                      clear hdec htk
                      generalize M.getD j 0 = mj at *
                      generalize decide ((k : Int) ∈ M.take j) = bj at *
                      cases bj with
                      | true =>
                        have He : Hid (decide ((k : Int) ∈ M.take (j + 1)) = true) := hid_ (by rw [Hdec.out]; rfl)
                        go_wp2
                        go_roundw
                        case rel => exact ⟨j + 1, by omega, by go_num, by rw [He.out], trivial⟩
                        case measure => (simp [intOf]; try omega)
                      | false =>
                        by_cases hmj : mj = (k : Int)
                        · have He : Hid (decide ((k : Int) ∈ M.take (j + 1)) = true) := hid_ (by rw [Hdec.out, decide_eq_true hmj]; rfl)
                          have hmq : (mj == (k : Int)) = true := by simp [hmj]
                          clear hmj
                          go_wp2
                          go_roundw
                          case rel => exact ⟨j + 1, by omega, by go_num, by rw [He.out], trivial⟩
                          case measure => (simp [intOf]; try omega)
                        · have He : Hid (decide ((k : Int) ∈ M.take (j + 1)) = false) := hid_ (by rw [Hdec.out, decide_eq_false hmj]; rfl)
                          have hmq : (mj == (k : Int)) = false := by simp [hmj]
                          clear hmj
                          go_wp2
                          go_roundw
                          case rel => exact ⟨j + 1, by omega, by go_num, by rw [He.out], trivial⟩
                          case measure => (simp [intOf]; try omega)
                    · have hjm : j = ml := by omega
                      have hall : M.take j = M := List.take_of_length_le (by rw [Hml.out, hjm]; exact Nat.le_refl _)
                      rw [hall]
                      clear hjm hall hj
                      by_cases hmem : (k : Int) ∈ M
                      · rw [decide_eq_true hmem]
                        have HLn := hid_ (left_keep HLk.out hmem)
                        clear hmem
                        go_wp2
                        go_roundw
                        case rel => exact ⟨k, L, _, _, by omega, rfl, by go_num, HLn.out, HLt.out, Hb2.out⟩
                        case measure => (simp [intOf]; try omega)
                      · rw [decide_eq_false hmem]
                        clear hmem
                        by_cases hl1 : ll = 1
                        · have HLn := hid_ (left_one HLk.out (Hll.out.trans hl1))
                          have hlq : ((ll : Int) == 1) = true := by simp [hl1]
                          clear hl1
                          go_wp2
                          go_roundw
                          case rel => exact ⟨k, L, _, _, by omega, rfl, by go_num, HLn.out, HLt.out, Hb2.out⟩
                          case measure => (simp [intOf]; try omega)
                        · have hlq : ((ll : Int) == 1) = false := by simp; omega
                          obtain ⟨hkl, hLd⟩ := left_drop HLk.out
                          obtain ⟨-, -, h6, hLi, -⟩ := HLk.out
                          obtain ⟨hw0, hw1⟩ := selT_wout Hg.out h6 hLi hkl (by rw [Hll.out]; exact hl1)
                          have HLn := hid_ hLd
                          have HWk := hid_ (HWo.out wr _ _ _ _ (k : Int) HLt.out)
                          rw [hw0, hw1] at HWk
                          clear hl1 hkl hLd h6 hLi hw0 hw1
                          go_wp2_with (go_at_call 48; (with_reducible refine HWk.out.mono ?_); rintro e w20 ⟨v20, us20, rfl, hO20, hb20⟩; obtain ⟨a20, c20, e20, hl20⟩ := hO20.lists; rw [selT_len, Hlen.out] at e20 hl20; subst e20; have Hl20 := hid_ hl20; have Hb20 := hid_ (Hb2.out.trans (hb20.mono Hb2.out.size)); clear hO20 hl20 hb20)
                          go_roundw
                          case rel => exact ⟨k, L.eraseIdx k, _, _, by omega, rfl, by go_num, HLn.out, Hl20.out, Hb20.out⟩
                          case measure => (simp [intOf]; try omega)
                | zero =>
                  obtain ⟨i, hi⟩ : ∃ i : Int, i = ((0 : Nat) : Int) - 1 := ⟨_, rfl⟩
                  rw [← hi]
                  have hge : decide (i ≥ 0) = false := by rw [hi]; decide
                  obtain ⟨hv0, hcn⟩ := left_end Hg.out Hcf.out hLk
                  have HCk2 := hid_ (HCl.out wr _ _ _ _ hLt)
                  rw [hv0, hcn] at HCk2
                  have HTw := hid_ (fun W (hW : Below wr.heap.size wr W) => HTo.out W (hbw.trans (hW.mono hbw.size)))
                  have hto := fun ho => Htot.out ho
                  have htn := @total_no T X
                  have hte := @total_err T X
                  obtain ⟨tt, htt⟩ : ∃ tt, resTot T X = tt := ⟨_, rfl⟩
                  obtain ⟨ot, hot⟩ : ∃ ot, okTot T X = ot := ⟨_, rfl⟩
                  obtain ⟨et, het⟩ : ∃ et, errB T X = et := ⟨_, rfl⟩
                  rw [htt, hot] at hto
                  rw [htt, hot] at htn
                  rw [het, hot] at hte
                  rw [htt, hot, het] at HTw
                  clear hi hv0 hcn hLk hLt hb hbw htt hot het
                  by_cases he0 : et = 0
                  · subst he0
                    clear hte
                    cases ot with
                    | true =>
                      have Hto := hid_ (hto rfl)
                      clear hto htn
                      go_wp2_with (first
                        | (go_at_call 40; (with_reducible refine HCk2.out.mono ?_); rintro e w21 ⟨rfl, hb21⟩; have HT21 := hid_ (HTw.out w21 hb21); obtain ⟨q21, r21⟩ := HQ.out _ (Hbw2.out.trans (hb21.mono Hbw2.out.size)))
                        | (go_at_call 38; (with_reducible refine HT21.out.mono ?_); rintro e w22 ⟨rfl, hb22⟩; have bb22 := hb21.trans (hb22.mono hb21.size); have Hb22 := hid_ (Hbw2.out.trans (bb22.mono Hbw2.out.size))))
                      clear hb21 hb22 bb22 q21 r21
                      go_loopw [35, 36] (fun sv pv wr => ∃ k : Nat, k ≤ m ∧ sv = .int .i64 (sumD T k : Nat) ∧ pv = .int .i64 (k : Int) ∧ Below w22.heap.size w22 wr) (fun _ pv _ => m - (intOf pv).toNat)
                      case atStart => exact ⟨0, Nat.zero_le _, rfl, rfl, Below.refl _ _⟩
                      case round =>
                        obtain ⟨k, hk, rfl, rfl, hb⟩ := hrel
                        have hbw := Hb22.out.trans (hb.mono Hb22.out.size)
                        have Hb3 := hid_ hb; have Hbw3 := hid_ hbw
                        have hc0 := cell_below hcell hbw
                        by_cases hlt : k < m
                        · obtain ⟨e1, e2, e3, e4⟩ := Hstep.out k hlt
                          have hsl := Hsle.out k
                          have hsl1 := Hsle.out (k + 1)
                          have HDk := hid_ (HDi.out wr hbw (k : Int))
                          rw [e1] at HDk
                          obtain ⟨sk, hsk⟩ : ∃ sk, sumD T k = sk := ⟨_, rfl⟩
                          obtain ⟨sk1, hsk1⟩ : ∃ sk1, sumD T (k + 1) = sk1 := ⟨_, rfl⟩
                          rw [hsk, hsk1] at e2
                          rw [hsk] at hsl ⊢
                          rw [hsk1] at hsl1
                          have HK := hid_ hsk1
                          generalize resDiff T (k : Int) = dk at *
                          have hw1 : IntKind.i64.wrap (dk - 1) = dk - 1 := IntWalk.i64_in _ (by omega)
                          have hw2 : IntKind.i64.wrap ((sk : Int) + (dk - 1)) = (sk1 : Int) := by rw [IntWalk.i64_in _ (by omega)]; exact e2
                          clear e1 e2 e3 e4 hsl hsl1 hsk hsk1 hb hbw
                          go_wp2_with (go_at_call 49; (with_reducible refine HDk.out.mono ?_); rintro e w23 ⟨rfl, hb23⟩; have HbE := hid_ (Hb3.out.trans (hb23.mono Hb3.out.size)); clear hb23)
                          go_roundw
                          case rel => exact ⟨k + 1, by omega, by rw [HK.out], by go_num, HbE.out⟩
                          case measure => (simp [intOf]; try omega)
                        · have hkm : k = m := by omega
                          have hle : sumD T k ≤ tt := by rw [hkm]; exact Hto.out
                          have hgt : decide ((tt : Int) ≥ (sumD T k : Int)) = true := decide_eq_true (by omega)
                          clear hkm hb hbw
                          go_wp2
                          go_ret
                          exact ⟨by first | rfl | simp [hle], Hc1.out.trans (Hbw3.out.mono Hc1.out.size)⟩
                    | false =>
                      have ht0 := htn rfl
                      subst ht0
                      clear hto htn
                      go_wp2_with (first
                        | (go_at_call 40; (with_reducible refine HCk2.out.mono ?_); rintro e w21 ⟨rfl, hb21⟩; have HT21 := hid_ (HTw.out w21 hb21); obtain ⟨q21, r21⟩ := HQ.out _ (Hbw2.out.trans (hb21.mono Hbw2.out.size)))
                        | (go_at_call 38; (with_reducible refine HT21.out.mono ?_); rintro e w22 ⟨rfl, hb22⟩; have bb22 := hb21.trans (hb22.mono hb21.size); have Hb22 := hid_ (Hbw2.out.trans (bb22.mono Hbw2.out.size))))
                      go_ret
                      exact ⟨rfl, Hc1.out.trans (Hb22.out.mono Hc1.out.size)⟩
                  · have ho0 := hte he0
                    subst ho0
                    have ht0 := htn rfl
                    subst ht0
                    have heq : (et != 0) = true := by simpa using he0
                    clear hto htn hte he0
                    go_wp2_with (first
                      | (go_at_call 40; (with_reducible refine HCk2.out.mono ?_); rintro e w21 ⟨rfl, hb21⟩; have HT21 := hid_ (HTw.out w21 hb21); obtain ⟨q21, r21⟩ := HQ.out _ (Hbw2.out.trans (hb21.mono Hbw2.out.size)))
                      | (go_at_call 38; (with_reducible refine HT21.out.mono ?_); rintro e w22 ⟨rfl, hb22⟩; have bb22 := hb21.trans (hb22.mono hb21.size); have Hb22 := hid_ (Hbw2.out.trans (bb22.mono Hbw2.out.size))))
                    go_ret
                    exact ⟨rfl, Hc1.out.trans (Hb22.out.mono Hc1.out.size)⟩
      · have hq : (validT T != 0) = true := by simpa using hv
        have HVa := hid_ (fun W (hW : Below w1.heap.size w1 W) => stValidate_calls a n c T W (HL.out W hW))
        generalize validT T = x at *
        generalize resCan T = can at *
        clear hv
        go_enter Try.func7, Try.ntmps7
        go_wp2_with (first
          | (go_at_call 38; (with_reducible refine HTot.out.mono ?_); rintro e w3 ⟨rfl, hb3'⟩; have hb3 := B5.out.trans (hb3'.mono B5.out.size); obtain ⟨q03, q13⟩ := HQ.out _ hb3; clear hb3')
          | (go_at_call 21; (with_reducible refine (HG.out w3 hb3).mono ?_); rintro e w4 ⟨rfl, h34⟩; subst h34)
          | (go_at_call 39; (with_reducible refine (HLa.out _ hb3).mono ?_); rintro e w5 ⟨rfl, hb5'⟩; have hb5 := hb3.trans (hb5'.mono hb3.size); obtain ⟨q05, q15⟩ := HQ.out _ hb5; clear hb5')
          | (go_at_call 40; (with_reducible refine (HCan.out w5 hb5).mono ?_); rintro e w6 ⟨rfl, hb6'⟩; have hb6 := hb5.trans (hb6'.mono hb5.size); obtain ⟨q06, q16⟩ := HQ.out _ hb6; clear hb6')
          | (go_at_call 41; (with_reducible refine (HVa.out w6 hb6).mono ?_); rintro e w7 ⟨rfl, rfl⟩))
        go_ret
        exact ⟨by simp, Hc1.out.trans (hb6.mono Hc1.out.size)⟩
end Go.Proofs.Ytdnlpikfibdjoaa
