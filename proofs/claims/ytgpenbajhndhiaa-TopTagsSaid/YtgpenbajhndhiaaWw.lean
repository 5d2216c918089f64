import Derived.Test.YtgpenbajhndhiaaWmb
import Derived.Deep.DeepCutAuto
namespace Go.Proofs.Ytgpenbajhndhiaa
open Go.RowKit Go.Proofs.Kv Go

/-! ### the law TopTags -/
theorem ints_three8 (w : World) (x y z : Int) (E : TypeId) : IntsAt (w.alloc (.cells #[.int .i64 x, .int .i64 y, .int .i64 z] E)) (some ⟨w.heap.size, 0, none⟩) 3 3 [x, y, z] :=
  ⟨rfl, Nat.le_refl _, by omega, fun i hi => ⟨w.heap.size, 0, rfl, by simp, by
    rcases (show i = 0 ∨ i = 1 ∨ i = 2 by omega) with rfl | rfl | rfl
    · exact cells_alloc _ _ _ 0
    · exact cells_alloc _ _ _ 1
    · exact cells_alloc _ _ _ 2⟩⟩
set_option maxRecDepth 100000 in
set_option maxHeartbeats 8000000 in
theorem topTags_calls (v : Value) (L : Lx) (a : Option Addr) (n c : Nat) (t : List Int) (a' : Option Addr) (n' c' : Nat) (s : List Int) (w : World) (h : LexAt w v L) (ht : IntsAt w a n c t) (hs : IntsAt w a' n' c' s) :
    Calls Try.prog 5 #[v, .slice a n c, .slice a' n' c'] w fun e w' => e = .returned (.bool true) ∧ Below w.heap.size w w' := by
  obtain ⟨i1, hi1, hz0', hz1', hz2'⟩ := info_parts Try.infoInts
  have HP := hid_ h
  obtain ⟨a1, n1, c1, a2, n2, c2, rfl, h1, h2⟩ := h
  obtain ⟨w1, hw1⟩ : ∃ w1, w.alloc (.cells #[.slice a1 n1 c1, .slice a2 n2 c2] 25) = w1 := ⟨_, rfl⟩
  have cb : Below w.heap.size w w1 := by rw [← hw1]; exact below_alloc _ _
  have q0 : w1.cell? ⟨w.heap.size, 0, none⟩ = some (.slice a1 n1 c1) := by rw [← hw1]; exact cells_alloc _ _ _ 0
  have q1 : w1.cell? ⟨w.heap.size, 1, none⟩ = some (.slice a2 n2 c2) := by rw [← hw1]; exact cells_alloc _ _ _ 1
  have HP1 := hid_ (HP.out.below cb (Nat.le_refl _)); have Hc1 := hid_ cb
  have ht1 := ht.below cb (Nat.le_refl _)
  have hs1 := hs.below cb (Nat.le_refl _)
  have HG := hid_ (fun W (hW : Below w1.heap.size w1 W) => long8_calls _ L _ 2 2 [t, s] _ ((HP1.out.below hW (Nat.le_refl _)).below (below_alloc W (.cells #[.slice a n c, .slice a' n' c'] 26)) (Nat.le_refl _)) (lists2_8 W 26 (ht1.below hW (Nat.le_refl _)) (hs1.below hW (Nat.le_refl _))))
  have HQ := hid_ (fun W (hW : Below w1.heap.size w1 W) => (⟨cell_below q0 hW, cell_below q1 hW⟩ : _ ∧ _))
  have HL := hid_ (fun W (hW : Below w1.heap.size w1 W) => HP1.out.below hW (Nat.le_refl _))
  have HT := hid_ (fun W (hW : Below w1.heap.size w1 W) => ht1.below hW (Nat.le_refl _))
  have HS := hid_ (fun W (hW : Below w1.heap.size w1 W) => hs1.below hW (Nat.le_refl _))
  have Hhs := hid_ hs.len
  clear h1 h2 HP HP1 cb ht hs ht1 hs1
  obtain ⟨u1, hu1⟩ : ∃ u1, w1.alloc (.cells #[.int .i64 0] 3) = u1 := ⟨_, rfl⟩
  obtain ⟨u2, hu2⟩ : ∃ u2, u1.alloc (.cells #[.slice (some ⟨w1.heap.size, 0, none⟩) 1 1, .int .i64 0, .int .i64 0] 42) = u2 := ⟨_, rfl⟩
  obtain ⟨u3, hu3⟩ : ∃ u3, u2.alloc (.cells #[.slice (some ⟨u1.heap.size, 0, none⟩) 1 1, .slice none 0 0] 25) = u3 := ⟨_, rfl⟩
  have z1 : u1.heap.size = w1.heap.size + 1 := by rw [← hu1]; simp
  have z2 : u2.heap.size = w1.heap.size + 2 := by rw [← hu2]; simp; omega
  have z3 : u3.heap.size = w1.heap.size + 3 := by rw [← hu3]; simp; omega
  have b1 : Below w1.heap.size w1 u1 := by rw [← hu1]; exact below_alloc _ _
  have b2 : Below u1.heap.size u1 u2 := by rw [← hu2]; exact below_alloc _ _
  have b3 : Below u2.heap.size u2 u3 := by rw [← hu3]; exact below_alloc _ _
  have i1' : IntsAt u1 (some ⟨w1.heap.size, 0, none⟩) 1 1 [0] := by rw [← hu1]; exact IntsAt.one _ _ _
  have HI := hid_ (show ItemsAt u2 (some ⟨u1.heap.size, 0, none⟩) 1 1 oneI from ⟨rfl, Nat.le_refl _, by omega, fun i hi => by
    obtain rfl : i = 0 := by omega
    have ce : ∀ i (x : Value), #[Value.slice (some ⟨w1.heap.size, 0, none⟩) 1 1, .int .i64 0, .int .i64 0][i]? = some x → u2.cell? ⟨u1.heap.size, i, none⟩ = some x := fun i x hx => by rw [← hu2, World.cell?_alloc_at _ _ _ _ (by rfl)]; exact hx
    exact ⟨_, 0, _, _, _, rfl, by omega, ce 0 _ rfl, ce 1 _ rfl, ce 2 _ rfl, i1'.below b2 (Nat.le_refl _)⟩⟩)
  have l0 : u3.cell? ⟨u2.heap.size, 0, none⟩ = some (.slice (some ⟨u1.heap.size, 0, none⟩) 1 1) := by rw [← hu3]; exact cells_alloc _ _ _ 0
  have l1 : u3.cell? ⟨u2.heap.size, 1, none⟩ = some (.slice none 0 0) := by rw [← hu3]; exact cells_alloc _ _ _ 1
  have lf : u3.frozen? ⟨u2.heap.size, 1, none⟩ = false := by rw [← hu3]; exact World.frozen?_alloc_at _ _ _ _ (by simp)
  have Hb2 := hid_ (b1.trans (b2.mono b1.size))
  have Hb3 := hid_ b3
  have Hz := hid_ (show w1.heap.size < u2.heap.size ∧ u2.heap.size < u3.heap.size by omega)
  clear z1 z2 z3 b1 b2 b3 i1'
  go_enter Try.func5, Try.ntmps5
  go_wp2
  clear hu1 hu2 hu3
  obtain ⟨lb, hlb⟩ : ∃ lb, u2.heap.size = lb := ⟨_, rfl⟩
  have Hlb := hid_ hlb
  rw [hlb] at l0 l1 lf ⊢
  obtain ⟨bb, hbb⟩ : ∃ bb, u3.heap.size = bb := ⟨_, rfl⟩
  have Hbb := hid_ hbb
  have Hz' : Hid (w1.heap.size < lb ∧ lb < bb) := hid_ (by rw [← hlb, ← hbb]; exact Hz.out)
  clear hlb hbb
  obtain ⟨u6, hu6⟩ : ∃ u6, u3.setCell ⟨lb, 1, none⟩ (.slice none 0 0) = u6 := ⟨_, rfl⟩
  rw [hu6]
  have m1 : u6.cell? ⟨lb, 1, none⟩ = some (.slice none 0 0) := by rw [← hu6]; exact World.cell?_setCell_same _ _ _ l1
  have m0 : u6.cell? ⟨lb, 0, none⟩ = some (.slice (some ⟨u1.heap.size, 0, none⟩) 1 1) := by rw [← hu6, World.cell?_setCell_other _ _ _ _ (by simp)]; exact l0
  have mf : u6.frozen? ⟨lb, 1, none⟩ = false := by rw [← hu6, World.frozen?_setCell]; exact lf
  have Hm := hid_ (show Below lb u2 u6 by rw [← hu6]; exact Below.setCell (p := ⟨lb, 1, none⟩) (by rw [← Hlb.out]; exact Hb3.out) (Nat.le_refl _) _)
  have Hu6 := hid_ (show u6.heap.size = bb by rw [← hu6]; simp [World.setCell]; exact Hbb.out)
  clear hu6 l1 l0 lf
  go_loopw [8] (fun i wr => ∃ (k : Nat) (us : List Value) (v : Value), k ≤ 4 ∧ i = .int .i64 k ∧ wr.cell? ⟨lb, 1, none⟩ = some v ∧ wr.frozen? ⟨lb, 1, none⟩ = false ∧ wr.cell? ⟨lb, 0, none⟩ = some (.slice (some ⟨u1.heap.size, 0, none⟩) 1 1) ∧ OwnRw 26 3 wr bb v us (threeF k) ∧ Below lb u2 wr ∧ bb ≤ wr.heap.size) (fun i _ => 4 - (intOf i).toNat)
  case atStart => exact ⟨0, [], _, by omega, rfl, m1, mf, m0, OwnRw.nil _ _ (by decide), Hm.out, by rw [Hu6.out]; exact Nat.le_refl _⟩
  case round =>
    obtain ⟨k, us, v, hk, rfl, hc1, hf1, hc0, hO, hbr, hzb⟩ := hrel
    by_cases hlt : k < 4
    · have hle : (k : Int) ≤ 3 := by omega
      obtain ⟨av, cv, hv, -⟩ := hO.lists
      have hkl : (threeF k).length = k := List.length_replicate
      rw [hkl] at hv
      subst hv
      obtain ⟨hz1, hz2⟩ := Hz'.out
      have hwk : IntKind.i64.wrap ((k : Int) + 1) = (k : Int) + 1 := IntWalk.i64_in _ (by omega)
      obtain ⟨w4, hw4⟩ : ∃ w4, wr.alloc (.cells #[.int .i64 0, .int .i64 0, .int .i64 0, .int .i64 0] 3) = w4 := ⟨_, rfl⟩
      have c1 : Below wr.heap.size wr w4 := by rw [← hw4]; exact below_alloc _ _
      have z4 : w4.heap.size = wr.heap.size + 1 := by rw [← hw4]; simp
      have o1 : w4.ownsRow wr.heap.size 3 1 (.slice (some ⟨wr.heap.size, 0, none⟩) 4 4) 4 ([0, 0, 0, 0].map (Value.int .i64)) := by
        rw [← hw4]; exact World.ownsRow_lit (base := wr.heap.size) (e := 3) (size := 1) wr #[.int .i64 0, .int .i64 0, .int .i64 0, .int .i64 0] 4 (Nat.le_refl _) (by unfold maxLen; omega) rfl
      have ht2 := (hO.below c1 (Nat.le_refl _)).top
      rw [hkl] at ht2
      have hzx : bb ≤ w4.heap.size := by omega
      have hne : ∀ b, (Value.slice av k cv).ownBlock = some b → lb < b := fun b hb => by have := (hO.top.lt b hb).1; omega
      have c2 := c1.trans ((below_alloc w4 (.cells #[.slice (some ⟨wr.heap.size, 0, none⟩) 4 4] 26)).mono c1.size)
      have HO := hid_ hO; have Hbr := hid_ hbr; have Ho1 := hid_ o1; have Hc1' := hid_ c1; have Hne := hid_ hne
      have Hcc1 := hid_ (cell_below hc1 c2); have Hcc0 := hid_ (cell_below hc0 c2)
      have Hff1 := hid_ ((c2.frozen (p := ⟨lb, 1, none⟩) (show lb < wr.heap.size by omega)).trans hf1)
      have Hlw := hid_ (show lb < (w4.alloc (.cells #[.slice (some ⟨wr.heap.size, 0, none⟩) 4 4] 26)).heap.size by simp; omega)
      have Hc2 := hid_ c2
      have Hzb := hid_ hzb
      clear hO hbr o1 c1 hne z4 hf1 c2 hzb hc0
      go_wp2_with (at_builtin; refine wpList_push_val2 _ rfl (.tmp 47) (.tmp 49) _ rfl bb 26 i1 Try.underlying23 hi1 hz0' rfl hz1' hz2' (by omega) (.slice av k cv) k us rfl ht2 (.slice (some ⟨wr.heap.size, 0, none⟩) 4 4) rfl 26 rfl (by omega) hzx ?_; intro v7 w7 hown7 hg7 hat7; obtain ⟨a7, c7, e7⟩ := own_sliceV hown7; subst e7; have hc7 := hg7.cell Hcc1.out (fun e => by have := Hne.out _ e.symm; have : lb < lb := this; omega); have hf7 : w7.frozen? ⟨lb, 1, none⟩ = false := (World.frozen?_of_block (a := ⟨lb, 1, none⟩) (hg7.block lb Hlw.out (fun e => by have := Hne.out _ e.symm; omega))).trans Hff1.out; have Hc70 := hid_ (hg7.cell Hcc0.out (fun e => by have := Hne.out _ e.symm; have : lb < lb := this; omega)); have Hown7 := hid_ hown7; have Hg7 := hid_ hg7; clear hown7 hg7 hat7 ht2 hw4 hc1)
      have HP7 := hid_ (OwnRw.push (r := [0, 0, 0, 0]) Hzb.out HO.out Hc1'.out Ho1.out (by rw [hkl]; exact Hown7.out) Hg7.out)
      have Hth : Hid (threeF (k + 1) = threeF k ++ [[0, 0, 0, 0]]) := hid_ List.replicate_succ'
      go_roundw
      case rel => exact ⟨k + 1, _, _, by omega, by go_num, World.cell?_setCell_same _ _ _ hc7, by rw [World.frozen?_setCell]; exact hf7, by rw [World.cell?_setCell_other _ _ _ _ (by simp)]; exact Hc70.out, by rw [Hth.out]; exact OwnRw.store HP7.out (p := ⟨lb, 1, none⟩) Hz'.out.2 _, Below.setCell (p := ⟨lb, 1, none⟩) ((Hbr.out.trans (Hc2.out.mono (Nat.le_of_lt (Nat.lt_of_lt_of_le Hz'.out.2 Hzb.out)))).grown Hg7.out (Nat.le_of_lt Hlw.out) (fun b q => Nat.le_of_lt (Hne.out b q))) (Nat.le_refl _) _, by (have h9 := Hg7.out.size; have := Hc2.out.size; have := Hzb.out; simp [World.setCell] at h9 ⊢; omega)⟩
      case measure => simp [intOf]; omega
    · have hle : ¬ (k : Int) ≤ 3 := by omega
      obtain rfl : k = 4 := by omega
      obtain ⟨av, cv, hv, hli⟩ := hO.lists
      have hkl : (threeF 4).length = 4 := rfl
      rw [hkl] at hv hli
      subst hv
      have HLo := hid_ (show LexAt wr (.agg #[.slice (some ⟨u1.heap.size, 0, none⟩) 1 1, .slice av 4 cv]) oneL from ⟨_, _, _, _, _, _, rfl, HI.out.below (by rw [Hlb.out]; exact hbr) (Nat.le_refl _), hli⟩)
      have Hbr := hid_ (show Below w1.heap.size w1 wr from Hb2.out.trans (hbr.mono (Nat.le_of_lt Hz'.out.1)))
      obtain ⟨f1, f2⟩ := one_facts
      have HAo := hid_ (taAll_calls _ oneL _ 3 3 [0, 0, 0] (wr.alloc (.cells #[.int .i64 0, .int .i64 0, .int .i64 0] 3)) (HLo.out.below (below_alloc _ _) (Nat.le_refl _)) (ints_three8 _ _ _ _ _))
      unfold AllPost at HAo
      rw [f1, f2] at HAo
      have Ha3 := hid_ (Hbr.out.trans ((below_alloc wr (.cells #[.int .i64 0, .int .i64 0, .int .i64 0] 3)).mono Hbr.out.size))
      have HK := hid_ (fun (W : World) a5 c5 (hL : ListsAt W a5 1 c5 [[0, 0, 0]]) => sameL8_calls a5 1 c5 [[0, 0, 0]] _ 1 1 [[0, 0, 0]] ((W.alloc (.cells #[.int .i64 0, .int .i64 0, .int .i64 0] 3)).alloc (.cells #[.slice (some ⟨W.heap.size, 0, none⟩) 3 3] 26)) ((hL.below (below_alloc _ _) (Nat.le_refl _)).below (below_alloc _ _) (Nat.le_refl _)) (lists1_8 _ 26 (ints_three8 W 0 0 0 3)))
      rw [decide_eq_true rfl] at HK
      simp only [size_alloc_one] at HK
      have HaK := hid_ (fun W : World => (below_alloc W (.cells #[.int .i64 0, .int .i64 0, .int .i64 0] 3)).trans ((below_alloc (W.alloc (.cells #[.int .i64 0, .int .i64 0, .int .i64 0] 3)) (.cells #[.slice (some ⟨W.heap.size, 0, none⟩) 3 3] 26)).mono (below_alloc W (.cells #[.int .i64 0, .int .i64 0, .int .i64 0] 3)).size))
      clear hli hO hbr f1 f2 hf1
      go_wp2_with (first
        | (go_at_call 14; (with_reducible refine HAo.out.mono ?_); rintro e w5 ⟨a5, n5, c5, rfl, hL5, hb5'⟩; obtain rfl : n5 = 1 := hL5.len.symm; have Hb5 := hid_ (below_then8 Ha3.out hb5'); have HK5 := hid_ (HK.out w5 a5 c5 hL5); clear hL5 hb5')
        | (go_at_call 16; (with_reducible refine HK5.out.mono ?_); rintro e w7 ⟨rfl, hw7⟩; have hb7 : Below w1.heap.size w1 w7 := (by (obtain ⟨q, rfl⟩ := hw7; exact below_drewN (below_then8 Hb5.out (HaK.out w5)) q)); clear hw7; obtain ⟨q7, r7⟩ := HQ.out w7 hb7; have HG7 := hid_ (HG.out w7 hb7); have Ha7 := hid_ (hb7.trans ((below_alloc w7 (.cells #[.slice a n c, .slice a' n' c'] 26)).mono hb7.size)); clear hb7))
      cases hg : longX L [t, s] with
      | true =>
        as_aux_lemma =>
          rw [hg] at HG7; clear hg
          go_wp2_with (go_at_call 6; (with_reducible refine HG7.out.mono ?_); rintro e w8 ⟨rfl, hb8⟩; have Hb8 := hid_ (below_then8 Ha7.out hb8); clear hb8)
          go_ret
          exact ⟨rfl, Hc1.out.trans (Hb8.out.mono Hc1.out.size)⟩
      | false =>
        as_aux_lemma =>
          have hn' := long_no hg (s := s) (by simp)
          rw [Hhs.out] at hn'
          rw [hg] at HG7; clear hg
          go_wp2_with (go_at_call 6; (with_reducible refine HG7.out.mono ?_); rintro e w8 ⟨rfl, hb8'⟩; have hb8 := below_then8 Ha7.out hb8'; obtain ⟨q8, r8⟩ := HQ.out w8 hb8; have Hb8 := hid_ hb8; clear hb8 hb8' q7 r7)
          have H1 := hid_ (fun W hW => taCount_calls _ L a n c t W (HL.out W hW) (HT.out W hW))
          have H2 := hid_ (fun W hW => taLeast_calls _ L a n c t W (HL.out W hW) (HT.out W hW))
          by_cases he : textE L t = 0
          · as_aux_lemma =>
              obtain ⟨g, h12, -⟩ := textE_ok he
              have hval : validL L = 0 := (by
                unfold textE at he
                by_cases h0 : validL L = 0
                · exact h0
                · rw [if_neg h0] at he; exact absurd he h0)
              have hcv : countV L t = cntA L t := by unfold countV; rw [if_pos he]
              have hc0 : 0 ≤ cntA L t := by unfold cntA; omega
              have hlb : leastB L t = decide (0 < cntA L t) := by
                unfold leastB
                rw [decide_eq_true he, Bool.true_and]
                exact decide_eq_decide.2 (by omega)
              have H3 := hid_ (fun W hW => taBest_calls _ L a n c t W (HL.out W hW) (HT.out W hW))
              have H4 := hid_ (fun W hW => taProof_calls _ L a n c t W (HL.out W hW) (HT.out W hW))
              have H5 := hid_ (fun W hW => code_calls _ L W (HL.out W hW))
              have H6 := hid_ (fun W hW a' n' c' s hs => taCheckSplit_calls _ L a n c t a' n' c' s W (HL.out W hW) (HT.out W hW) hs)
              have H7 := hid_ (fun W hW a' n' c' P hP => taCheckProof_calls _ L a n c t a' n' c' P W (HL.out W hW) (HT.out W hW) hP)
              have H8 := hid_ (fun W hW => taAll_calls _ L a n c t W (HL.out W hW) (HT.out W hW))
              have H9 := hid_ (fun W hW => taText_calls _ L a' n' c' s W (HL.out W hW) (HS.out W hW) (by omega))
              have H10 := hid_ (fun W hW a2 n2 c2 own (ho : IntsAt W a2 n2 c2 own) => taCheckSplit_calls _ L a2 n2 c2 own a' n' c' s W (HL.out W hW) ho (HS.out W hW))
              have H11 := hid_ (fun W hW => taFree_calls _ L W (HL.out W hW))
              have H12 := hid_ (fun W v hv a2 n2 c2 own (ho : IntsAt W a2 n2 c2 own) (hs : IntsAt W a' n' c' s) => taCheckSplit_calls v (frL L) a2 n2 c2 own a' n' c' s W hv ho hs)
              have H13 := hid_ (fun W v hv a2 n2 c2 own (ho : IntsAt W a2 n2 c2 own) => taCount_calls v (frL L) a2 n2 c2 own W hv ho)
              have H14 := hid_ (fun W hW a2 n2 c2 x (hx : IntsAt W a2 n2 c2 x) a3 n3 c3 y (hy : IntsAt W a3 n3 c3 y) => taCheckTwo_calls _ L a2 n2 c2 x a3 n3 c3 y W (HL.out W hW) hx hy)
              have Hcd : Hid (codeB L = true → cntA L t ≤ 1) := hid_ fun hc => by rw [← hcv]; exact once_le hc
              have Hex : Hid (prfEr L t = if leastB L t = true then 0 else 4) := hid_ (by unfold prfEr; rw [if_pos he])
              have Hpf : Hid (leastB L t = true → prfV L t = prf0 L t ∧ proofE L t (prf0 L t) = 0 ∧ prfP L t (prf0 L t) = (leastV L t, true)) := hid_ fun hl => ⟨if_pos hl, prf0_is hl⟩
              have Hall : Hid (cntA L t ≤ 50 → allE L t = 0 ∧ ((allR L t).length : Int) = cntA L t) := hid_ fun h9 => all_len he h9
              have Hmore : Hid (50 < cntA L t → allE L t = 3) := hid_ fun h9 => all_more he h9
              have Hlow : Hid (leastB L t = true → allE L t = 0 → ∀ m, LowI L t (allR L t).length m → m = leastV L t) := hid_ fun h1 h2 m h3 => h3.last he h1 h2
              have Hsp : Hid (∀ s, isS L t s → splitE L t s = 0 ∧ splitC L t s = sumC L s) := hid_ fun s hs => isS_split he hs
              have Hcost := hid_ (fun i hi => @allR_cost L t i hi)
              have Htwo := hid_ (@allR_two L t)
              have Hne := hid_ (fun i j hi hj h => @allR_ne L t i j hi hj h)
              have Htx := hid_ (@top_text L s)
              have Htx0 := hid_ (@txV_err L s)
              have Hlb := hid_ hlb
              have Hk0 := hid_ hc0
              obtain ⟨pl, hpl⟩ : ∃ pl, (prfV L t).length = pl := ⟨_, rfl⟩
              have Hpl := hid_ hpl
              clear hpl
              unfold BestPost at H3
              unfold AllPost at H8
              unfold TextPost at H9
              rw [hcv, he] at H1
              rw [he] at H2 H3
              rw [hval] at H5 H11
              generalize leastB L t = lb at *
              generalize leastV L t = m at *
              generalize prfEr L t = hx at *
              generalize codeB L = cb at *
              generalize cntA L t = k at *
              generalize allE L t = E at *
              clear he hval hcv hc0 hlb g h12 hn'
              go_upto_region 19 with (first
                | (go_at_call 10; (with_reducible refine (H1.out _ Hb8.out).mono ?_); rintro e w9 ⟨rfl, hb9'⟩; have hb9 := below_then8 Hb8.out hb9'; obtain ⟨q9, r9⟩ := HQ.out w9 hb9; have Hb9 := hid_ hb9; clear hb9 hb9' q8 r8)
                | (go_at_call 8; (with_reducible refine (H2.out _ Hb9.out).mono ?_); rintro e w10 ⟨rfl, hb10'⟩; have hb10 := below_then8 Hb9.out hb10'; obtain ⟨q10, r10⟩ := HQ.out w10 hb10; have Hb10 := hid_ hb10; clear hb10 hb10' q9 r9)
                | (go_at_call 12; (with_reducible refine (H3.out _ Hb10.out).mono ?_); rintro e w11 ⟨a11, n11, c11, s11, rfl, hI11, hs11, hz11, hb11'⟩; have hb11 := below_then8 Hb10.out hb11'; obtain ⟨q11, r11⟩ := HQ.out w11 hb11; have Hb11 := hid_ hb11; have HI11 := hid_ hI11; have Hs11 := hid_ hs11; clear hI11 hs11 hz11; clear hb11 hb11' q10 r10)
                | (go_at_call 18; (with_reducible refine (H4.out _ Hb11.out).mono ?_); rintro e w12 ⟨v12, us12, rfl, hO12, hb12'⟩; have hb12 := below_then8 Hb11.out hb12'; obtain ⟨q12, r12⟩ := HQ.out w12 hb12; have Hb12 := hid_ hb12; obtain ⟨a12, c12, rfl, hL12⟩ := hO12.lists; rw [Hpl.out] at hL12 ⊢; have HL12 := hid_ hL12; have HI11b := hid_ (HI11.out.below hb12' (Nat.le_refl _)); clear hL12 hO12; clear hb12 hb12' q11 r11)
                | (go_at_call 19; (with_reducible refine (H5.out _ Hb12.out).mono ?_); rintro e w13 ⟨rfl, hb13'⟩; have hb13 := below_then8 Hb12.out hb13'; obtain ⟨q13, r13⟩ := HQ.out w13 hb13; have Hb13 := hid_ hb13; have HI11c := hid_ (HI11b.out.below hb13' (Nat.le_refl _)); have HL13 := hid_ (HL12.out.below hb13' (Nat.le_refl _)); clear hb13 hb13' q12 r12))
              go_cut [152] (fun s152 wx => s152 = .bool false ∧ w13 = wx)
              case first =>
                as_aux_lemma =>
                  have hl2 := Hlb.out
                  have hk2 := Hk0.out
                  have hc2 := Hcd.out
                  have hx2 := Hex.out
                  by_cases hk3 : 0 < k
                  · as_aux_lemma =>
                      obtain rfl : lb = true := by rw [hl2]; exact decide_eq_true hk3
                      obtain rfl : hx = 0 := by rw [hx2]; rfl
                      have hg0 : decide (0 < k) = true := decide_eq_true hk3
                      clear hl2 hx2 hk2
                      cases cb with
                      | true =>
                        have hg1 : decide (1 < k) = false := decide_eq_false (by have := hc2 rfl; omega)
                        clear hc2
                        go_wp2
                        go_meet
                        exact ⟨rfl, rfl⟩
                      | false =>
                        clear hc2
                        go_wp2
                        go_meet
                        exact ⟨rfl, rfl⟩
                  · as_aux_lemma =>
                      obtain rfl : k = 0 := by omega
                      obtain rfl : lb = false := by rw [hl2]; rfl
                      obtain rfl : hx = 4 := by rw [hx2]; rfl
                      clear hl2 hx2 hk2 hc2 hk3
                      cases cb with
                      | true =>
                        go_wp2
                        go_meet
                        exact ⟨rfl, rfl⟩
                      | false =>
                        go_wp2
                        go_meet
                        exact ⟨rfl, rfl⟩
              case rest =>
                obtain ⟨rfl, rfl⟩ := hcut
                go_upto_if 153 with fail
                go_cut [25, 26, 27, 28, 29] from 154 to 188 (fun s25 s26 s27 s28 s29 wx => Below w1.heap.size w1 wx)
                case first =>
                  as_aux_lemma =>
                    cases lb with
                    | false =>
                      go_wp2_with fail
                      go_meet
                      exact Hb13.out
                    | true =>
                      obtain ⟨p1, p2, p3⟩ := Hpf.out rfl
                      obtain ⟨hs1, hs2⟩ := Hs11.out rfl
                      obtain ⟨k1, k2⟩ := Hsp.out s11 hs1
                      have H6' := hid_ (fun W hW => H6.out W hW a11 n11 c11 s11)
                      rw [k1, k2, hs2] at H6'
                      have HP := hid_ (fun W hW => H7.out W hW a12 pl c12 (prf0 L t))
                      rw [p2, p3] at HP
                      have H6a := hid_ (H6'.out w13 Hb13.out HI11c.out)
                      have h9 := HL13.out
                      rw [p1] at h9
                      have HL13 := hid_ h9
                      clear h9
                      clear p1 p2 p3 hs1 hs2 k1 k2
                      go_wp2_with (first
                        | (go_at_call 17; (with_reducible refine H6a.out.mono ?_); rintro e w14 ⟨rfl, hb14'⟩; have hb14 := below_then8 Hb13.out hb14'; obtain ⟨q14, r14⟩ := HQ.out w14 hb14; have HP14 := hid_ (HP.out w14 hb14 (HL13.out.below hb14' (Nat.le_refl _))); have Hb14 := hid_ hb14; clear hb14 hb14')
                        | (go_at_call 20; (with_reducible refine HP14.out.mono ?_); rintro e w15 ⟨rfl, hb15'⟩; have Hb15 := hid_ (below_then8 Hb14.out hb15'); clear hb15'))
                      go_meet
                      exact Hb15.out
                case rest =>
                  as_aux_lemma =>
                    have Hbc := hid_ hcut
                    obtain ⟨q14, r14⟩ := HQ.out wc hcut
                    clear hcut Hb13 q13 r13 HI11 HI11b HI11c Hs11 HL12 HL13 Hpf Hsp Hex Hcd H1 H2 H3 H4 H5 H7
                    go_upto_if 196 with (go_at_call 14; (with_reducible refine (H8.out _ Hbc.out).mono ?_); rintro e w15 ⟨a15, n15, c15, rfl, hL15, hb15'⟩; have hb15 := below_then8 Hbc.out hb15'; obtain ⟨q15, r15⟩ := HQ.out w15 hb15; have Hb15 := hid_ hb15; have HL15 := hid_ hL15; clear hb15 hb15' hL15 q14 r14)
                    go_cut [31, 32, 33, 34] from 197 to 273 (fun s31 s32 s33 s34 wx => Below w1.heap.size w1 wx)
                    case first =>
                      as_aux_lemma =>
                        by_cases hk5 : k ≤ 50
                        · as_aux_lemma =>
                            obtain ⟨rfl, hkR⟩ := Hall.out hk5
                            rw [HL15.out.len] at hkR
                            subst hkR
                            have hn50 : n15 ≤ 50 := by omega
                            clear hk5 Hall Hmore
                            go_wp2_with fail
                            go_loopw [31, 32] (fun lo iv wr => ∃ (i : Nat) (low : Int), lo = .int .i64 low ∧ iv = .int .i64 (i : Int) ∧ i ≤ n15 ∧ LowI L t i low ∧ Below w15.heap.size w15 wr) (fun _ iv _ => n15 - (intOf iv).toNat)
                            case atStart => exact ⟨0, -1, rfl, rfl, Nat.zero_le _, LowI.start L t, Below.refl _ _⟩
                            case round =>
                              as_aux_lemma =>
                                obtain ⟨i, low, rfl, rfl, hi, hLow, hb⟩ := hrel
                                have H1r := hid_ (Hb15.out.trans (hb.mono Hb15.out.size))
                                have Hb := hid_ hb; have HLow := hid_ hLow
                                by_cases hin : i < n15
                                · as_aux_lemma =>
                                    have hwi : IntKind.i64.wrap ((i : Int) + 1) = (i : Int) + 1 := IntWalk.i64_in _ (by omega)
                                    have hiR : i < (allR L t).length := by rw [HL15.out.len]; exact hin
                                    obtain ⟨y1, y2, y3, y4⟩ := Hcost.out i hiR
                                    have HLr := HL15.out.below hb (Nat.le_refl _)
                                    obtain ⟨bm, offm, ai, ni, ci, e7, hbm, hcell, hIr⟩ := HLr.cells i hin
                                    obtain ⟨q0r, q1r⟩ := HQ.out wr H1r.out
                                    have gA := cell_regrown q0r; have gB := cell_regrown q1r; have gC := cell_regrown hcell
                                    have HC := hid_ (fun d os => H6.out (Go.Sort.grow (redrawn wr d) os) (H1r.out.trans ((below_regrown wr d os).mono H1r.out.size)) ai ni ci ((allR L t).getD i []) (hIr.below (below_regrown wr d os) (Nat.le_refl _)))
                                    rw [y1, y2] at HC
                                    have HTk := hid_ (fun hm => hLow.take hm (fun i' hi' => (Hcost.out i' (by omega)).2.2.2))
                                    have HSk := hid_ (fun ha hb => hLow.skip ha hb)
                                    have hyd : decide (sumC L ((allR L t).getD i []) < m) = false := decide_eq_false (by omega)
                                    by_cases h0 : i = 0
                                    · as_aux_lemma =>
                                        obtain rfl : low = -1 := hLow.zero h0
                                        have hgi : ¬ 0 < i := by omega
                                        have hgi2 : decide (0 < i) = false := decide_eq_false hgi
                                        generalize sumC L ((allR L t).getD i []) = y at *
                                        clear hb q0r q1r hcell hIr HLr y1 y2 y3 y4 hLow HLow hiR h0
                                        subst e7
                                        go_wp2
                                        refine wp_region_quiet_below (by kernel_rfl) (by kernel_rfl) ?_
                                        repeat (first | go_big_quiet_skip | (go_big_quiet_want; go_big_quiet_op; first | go_big_quiet_on | go_big_quiet_call ((go_at_call 17; with_reducible exact Calls.regrown_of (HC.out _ _)))))
                                        refine wpQuiet_nil ?_
                                        rintro wq ⟨pq, hpq⟩
                                        have hbq := below_wq hpq
                                        have Hjq := hid_ hbq
                                        clear hpq hbq gA gB gC
                                        go_wp2
                                        go_quiet (fail)
                                        go_wp2
                                        go_roundw
                                        case rel => exact ⟨i + 1, y, by go_num, by go_num, by omega, HTk.out (.inl (by decide)), (Hb.out.trans (Hjq.out.mono Hb.out.size)).trans (below_drewN (Below.refl _ _) _)⟩
                                        case measure => simp [intOf]; omega
                                    · as_aux_lemma =>
                                        have hgi : 0 < i := by omega
                                        have hgi2 : decide (0 < i) = true := decide_eq_true hgi
                                        have hlo : ¬ low < 0 := by
                                          obtain ⟨i', hi', e'⟩ := hLow.mem (by omega)
                                          have := (Hcost.out i' (by omega)).2.2.2
                                          omega
                                        have hld : decide (low < 0) = false := decide_eq_false hlo
                                        obtain ⟨j, hj⟩ : ∃ j, i - 1 = j := ⟨_, rfl⟩
                                        have hwj : IntKind.i64.wrap ((i : Int) - 1) = (j : Int) := by rw [IntWalk.i64_in _ (by omega)]; omega
                                        have hjn : j < n15 := by omega
                                        obtain ⟨bm2, offm2, aj, nj, cj, e8, -, hcelj, hJr⟩ := HLr.cells j hjn
                                        have e9 := e7.symm.trans e8
                                        injection e9 with e9
                                        injection e9 with e9 e10 e11
                                        subst e9; subst e10
                                        have hne := Hne.out i j hiR (by rw [HL15.out.len]; exact hjn) (by omega)
                                        have HSI := hid_ (fun W (hW : Below wr.heap.size wr W) => sameI8_calls ai ni ci ((allR L t).getD i []) aj nj cj ((allR L t).getD j []) W (hIr.below hW (Nat.le_refl _)) (hJr.below hW (Nat.le_refl _)))
                                        rw [decide_eq_false hne] at HSI
                                        have Hcj := hid_ (fun W (hW : Below wr.heap.size wr W) => (⟨cell_below hcell hW, cell_below hcelj hW⟩ : _ ∧ _))
                                        have hjd : (j : Int) < (n15 : Int) := by omega
                                        have hj0 : (0 : Int) ≤ (j : Int) := by omega
                                        generalize sumC L ((allR L t).getD i []) = y at *
                                        clear hb q0r q1r hcell hIr HLr y1 y2 y3 y4 hLow HLow hiR h0 hj hne hcelj hJr e8 hlo
                                        subst e7
                                        go_wp2
                                        refine wp_region_quiet_below (by kernel_rfl) (by kernel_rfl) ?_
                                        repeat (first | go_big_quiet_skip | (go_big_quiet_want; go_big_quiet_op; first | go_big_quiet_on | go_big_quiet_call ((go_at_call 17; with_reducible exact Calls.regrown_of (HC.out _ _)))))
                                        refine wpQuiet_nil ?_
                                        rintro wq ⟨pq, hpq⟩
                                        have hbq := below_wq hpq
                                        have Hjq := hid_ hbq
                                        obtain ⟨gD, gE⟩ := Hcj.out _ hbq
                                        have HSq := hid_ (fun q => HSI.out (wq.drewN q) (below_drewN hbq q))
                                        clear hpq hbq gA gB gC
                                        go_wp2
                                        go_quiet ((go_at_call 21; exact quiet_more (HSq.out _)))
                                        by_cases hyl : y < low
                                        · have hyl2 : decide (y < low) = true := decide_eq_true hyl
                                          go_wp2
                                          go_roundw
                                          case rel => exact ⟨i + 1, y, by go_num, by go_num, by omega, HTk.out (.inr hyl), (Hb.out.trans (Hjq.out.mono Hb.out.size)).trans (below_drewN (Below.refl _ _) _)⟩
                                          case measure => simp [intOf]; omega
                                        · have hyl2 : decide (y < low) = false := decide_eq_false hyl
                                          go_wp2
                                          go_roundw
                                          case rel => exact ⟨i + 1, low, by go_num, by go_num, by omega, HSk.out (by have h9 := of_decide_eq_false hld; omega) (by omega), (Hb.out.trans (Hjq.out.mono Hb.out.size)).trans (below_drewN (Below.refl _ _) _)⟩
                                          case measure => simp [intOf]; omega
                                · as_aux_lemma =>
                                    obtain rfl : n15 = i := by omega
                                    have hl2 := Hlb.out
                                    obtain ⟨q0r, q1r⟩ := HQ.out wr H1r.out
                                    by_cases h1 : 1 < n15
                                    · as_aux_lemma =>
                                        have hg1 : decide (1 < (n15 : Int)) = true := decide_eq_true (by omega)
                                        have hg0 : decide (0 < (n15 : Int)) = true := decide_eq_true (by omega)
                                        have hp0 : 0 < n15 := by omega
                                        have hp1 : decide (0 < n15) = true := decide_eq_true hp0
                                        rw [hg0] at hl2
                                        obtain rfl : low = m := Hlow.out hl2 (by trivial) low (by rw [HL15.out.len]; exact hLow)
                                        have HLr := HL15.out.below hb (Nat.le_refl _)
                                        obtain ⟨bm, offm, ai, ni, ci, e7, hbm, hcell, hIr⟩ := HLr.cells 0 (by omega)
                                        obtain ⟨bm2, offm2, aj, nj, cj, e8, -, hcelj, hJr⟩ := HLr.cells 1 h1
                                        have e9 := e7.symm.trans e8
                                        injection e9 with e9
                                        injection e9 with e9 e10 e11
                                        subst e9; subst e10
                                        rw [Nat.add_zero] at hcell
                                        have h2 := Htwo.out (by rw [HL15.out.len]; exact h1)
                                        have gA := cell_regrown q0r; have gB := cell_regrown q1r; have gC := cell_regrown hcell; have gD := cell_regrown hcelj
                                        have HC := hid_ (fun d os => H14.out (Go.Sort.grow (redrawn wr d) os) (H1r.out.trans ((below_regrown wr d os).mono H1r.out.size)) ai ni ci ((allR L t).getD 0 []) (hIr.below (below_regrown wr d os) (Nat.le_refl _)) aj nj cj ((allR L t).getD 1 []) (hJr.below (below_regrown wr d os) (Nat.le_refl _)))
                                        rw [h2] at HC
                                        have hn1 : (1 : Int) < (n15 : Int) := by omega
                                        have hn0 : (0 : Int) < (n15 : Int) := by omega
                                        clear hb q0r q1r hcell hIr HLr hLow HLow hcelj hJr e8 hl2 h2 h1
                                        subst e7
                                        go_wp2
                                        refine wp_region_quiet_below (by kernel_rfl) (by kernel_rfl) ?_
                                        repeat (first | go_big_quiet_skip | (go_big_quiet_want; go_big_quiet_op; first | go_big_quiet_on | go_big_quiet_call ((go_at_call 22; with_reducible exact Calls.regrown_of (HC.out _ _)))))
                                        refine wpQuiet_nil ?_
                                        rintro wq ⟨pq, hpq⟩
                                        have hbq := below_wq hpq
                                        have Hjq := hid_ (H1r.out.trans (hbq.mono H1r.out.size))
                                        clear hpq hbq gA gB gC gD
                                        go_wp2
                                        go_meet
                                        exact Hjq.out
                                    · as_aux_lemma =>
                                        have hg1 : decide (1 < (n15 : Int)) = false := decide_eq_false (by omega)
                                        by_cases h0 : 0 < n15
                                        · have hg0 : decide (0 < (n15 : Int)) = true := decide_eq_true (by omega)
                                          have hp0 : 0 < n15 := by omega
                                          have hp1 : decide (0 < n15) = true := decide_eq_true hp0
                                          rw [hg0] at hl2
                                          obtain rfl : low = m := Hlow.out hl2 (by trivial) low (by rw [HL15.out.len]; exact hLow)
                                          clear hb hLow HLow hl2 h0 h1
                                          go_wp2
                                          go_quiet (fail)
                                          go_wp2
                                          go_meet
                                          exact below_drewN H1r.out _
                                        · have hg0 : ¬ 0 < n15 := h0
                                          have hp1 : decide (0 < n15) = false := decide_eq_false h0
                                          clear hb hLow HLow hl2 h0 h1
                                          go_wp2
                                          go_quiet (fail)
                                          go_wp2
                                          go_meet
                                          exact below_drewN H1r.out _
                        · as_aux_lemma =>
                            obtain rfl : E = 3 := Hmore.out (by omega)
                            have hk6 : decide (k ≤ 50) = false := decide_eq_false hk5
                            clear hk5 Hall Hmore
                            go_wp2_with fail
                            go_meet
                            exact Hb15.out
                    case rest =>
                      as_aux_lemma =>
                        have Hbd := hid_ hcut
                        obtain ⟨q16, r16⟩ := HQ.out wc hcut
                        clear hcut Hb15 HL15 H6 H8 H14 Hall Hmore Hlow Hcost Htwo Hne Hlb Hk0 Hbc q15 r15
                        by_cases hz : txE L s = 0
                        · as_aux_lemma =>
                            obtain ⟨z1, -, z3, z4, z5⟩ := Htx.out hz
                            rw [hz] at H9
                            obtain ⟨own, how⟩ : ∃ own, txV L s = own := ⟨_, rfl⟩
                            rw [how] at H9 z1 z3 z4 z5
                            obtain ⟨ol, hol⟩ : ∃ ol, own.length = ol := ⟨_, rfl⟩
                            rw [hol] at H9
                            have H10' := hid_ (fun W hW a2 c2 ho => H10.out W hW a2 ol c2 own ho)
                            have H12' := hid_ (fun W v hv a2 c2 ho hs => H12.out W v hv a2 ol c2 own ho hs)
                            have H13' := hid_ (fun W v hv a2 c2 ho => H13.out W v hv a2 ol c2 own ho)
                            rw [z3] at H12'
                            rw [z4] at H13'
                            have hkk : decide (0 < countV (frL L) own) = true := decide_eq_true z5
                            generalize countV (frL L) own = kk at *
                            generalize splitC (frL L) own s = y12 at *
                            generalize splitC L own s = y10 at *
                            generalize splitE L own s = z at *
                            clear H10 H12 H13 Htx Htx0 hz z3 z4 how hol
                            rcases z1 with rfl | rfl
                            all_goals
                              go_wp2_with (first
                                | (go_at_call 23; (with_reducible refine (H9.out _ Hbd.out).mono ?_); rintro e w17 ⟨a17, c17, rfl, hI17, hb17'⟩; have hb17 := below_then8 Hbd.out hb17'; obtain ⟨q17, r17⟩ := HQ.out w17 hb17; have Hb17 := hid_ hb17; have HI17 := hid_ hI17; have HS17 := hid_ (HS.out w17 hb17); have H10a := hid_ (H10'.out w17 hb17 a17 c17 hI17); clear hb17 hb17' hI17 q16 r16)
                                | (go_at_call 17; (with_reducible refine H10a.out.mono ?_); rintro e w18 ⟨rfl, hb18'⟩; have hb18 := below_then8 Hb17.out hb18'; obtain ⟨q18, r18⟩ := HQ.out w18 hb18; have Hb18 := hid_ hb18; have HI18 := hid_ (HI17.out.below hb18' (Nat.le_refl _)); clear hb18 hb18' q17 r17)
                                | (go_at_call 24; (with_reducible refine (H11.out _ Hb18.out).mono ?_); rintro e w4 ⟨iv, fv, xs, fs, rfl, hN, hb4'⟩; have hb4 := below_then8 Hb18.out hb4'; obtain ⟨a4, n4, k4, d4, m4, l4, rfl, rfl, hL4⟩ := hN.lits; clear hN; obtain ⟨w5, hw5⟩ : ∃ W, w4.alloc (.cells #[.slice a4 n4 k4, .slice d4 m4 l4] 25) = W := ⟨_, rfl⟩; have bb5 : Below w4.heap.size w4 w5 := (by rw [← hw5]; exact below_alloc _ _); have HL5 := hid_ (hL4.below bb5 (Nat.le_refl _)); have hb5 := below_then8 hb4 bb5; have Hb5 := hid_ hb5; have HI5 := hid_ ((HI18.out.below hb4' (Nat.le_refl _)).below bb5 (Nat.le_refl _)); have HS5 := hid_ (HS.out w5 hb5); have c50 : w5.cell? ⟨w4.heap.size, 0, none⟩ = some (.slice a4 n4 k4) := (by rw [← hw5]; exact cells_alloc _ _ _ 0); have c51 : w5.cell? ⟨w4.heap.size, 1, none⟩ = some (.slice d4 m4 l4) := (by rw [← hw5]; exact cells_alloc _ _ _ 1); have H12a := hid_ (H12'.out w5 _ HL5.out a17 c17 HI5.out HS5.out); have Hcc := hid_ (fun W (hW : Below w5.heap.size w5 W) => (⟨cell_below c50 hW, cell_below c51 hW⟩ : _ ∧ _)); clear hL4 hb4 hb4' hb5 bb5 q18 r18)
                                | (go_at_call 17; (with_reducible refine H12a.out.mono ?_); rintro e w20 ⟨rfl, hb20'⟩; have Hb20 := hid_ (below_then8 Hb5.out hb20'); obtain ⟨c60, c61⟩ := Hcc.out w20 hb20'; have H13a := hid_ (H13'.out w20 _ (HL5.out.below hb20' (Nat.le_refl _)) a17 c17 (HI5.out.below hb20' (Nat.le_refl _))); clear hb20')
                                | (go_at_call 10; (with_reducible refine H13a.out.mono ?_); rintro e w21 ⟨rfl, hb21'⟩; have Hb21 := hid_ (below_then8 Hb20.out hb21'); clear hb21'))
                              go_ret
                              exact ⟨by simp, Hc1.out.trans (Hb21.out.mono Hc1.out.size)⟩
                        · as_aux_lemma =>
                            have hq : (txE L s != 0) = true := by simpa using hz
                            rw [Htx0.out hz] at H9
                            simp only [List.length_nil] at H9
                            generalize txE L s = x9 at *
                            clear hz Htx Htx0 H10 H12 H13 H11
                            go_wp2_with (go_at_call 23; (with_reducible refine (H9.out _ Hbd.out).mono ?_); rintro e w17 ⟨a17, c17, rfl, hI17, hb17'⟩; have Hb17 := hid_ (below_then8 Hbd.out hb17'); clear hI17 hb17')
                            go_ret
                            exact ⟨by simp, Hc1.out.trans (Hb17.out.mono Hc1.out.size)⟩
          · as_aux_lemma =>
              have hlb : leastB L t = false := by unfold leastB; rw [decide_eq_false he]; rfl
              rw [hlb] at H2
              have hq : (textE L t != 0) = true := by simpa using he
              generalize textE L t = x at *
              clear he hlb HL HT HS hn'
              go_wp2_with (first
                | (go_at_call 10; (with_reducible refine (H1.out _ Hb8.out).mono ?_); rintro e w9 ⟨rfl, hb9'⟩; have hb9 := below_then8 Hb8.out hb9'; obtain ⟨q9, r9⟩ := HQ.out w9 hb9; have Hb9 := hid_ hb9; clear hb9 hb9' q8 r8)
                | (go_at_call 8; (with_reducible refine (H2.out _ Hb9.out).mono ?_); rintro e w10 ⟨rfl, hb10'⟩; have hb10 := below_then8 Hb9.out hb10'; obtain ⟨q10, r10⟩ := HQ.out w10 hb10; have Hb10 := hid_ hb10; clear hb10 hb10' q9 r9))
              go_ret
              exact ⟨by simp, Hc1.out.trans (Hb10.out.mono Hc1.out.size)⟩
end Go.Proofs.Ytgpenbajhndhiaa
