import Derived.Test.YtgpenbajhndhiaaWma
namespace Go.Proofs.Ytgpenbajhndhiaa
open Go.RowKit Go.Proofs.Kv Go

def RestPost (w : World) (R : List (List Int)) (e : Ending) (w' : World) : Prop := ∃ v us, e = .returned v ∧ OwnRw 26 3 w' w.heap.size v us R ∧ Below w.heap.size w w'
theorem restL_in {L : Lx} {t : List Int} {f p : Nat} {b : Int} {j k : Nat} (hg : goB L t p b j = true) (hj : j < k) : (restL L t f (p + ln L j) (j : Int)).length ≤ (preR L t f p b k).length := by
  have := genR_len (L := L) (t := t) (f := f) (p := p) (b := b) hj
  unfold genR at this
  rw [if_pos hg, List.length_map] at this
  omega
theorem preR_go {L : Lx} {t : List Int} {f p : Nat} {b : Int} {j : Nat} (hg : goB L t p b j = true) : preR L t f p b (j + 1) = preR L t f p b j ++ (restL L t f (p + ln L j) (j : Int)).map ((j : Int) :: ·) := by
  rw [preR_succ]; unfold genR; rw [if_pos hg]
theorem preR_no {L : Lx} {t : List Int} {f p : Nat} {b : Int} {j : Nat} (hg : goB L t p b j = false) : preR L t f p b (j + 1) = preR L t f p b j := by
  rw [preR_succ]; unfold genR; rw [hg, if_neg (by decide), List.append_nil]
theorem take_map_succ {M : List (List Int)} {i : Nat} (h : i < M.length) (R : List (List Int)) (j : Int) : R ++ (M.take (i + 1)).map (j :: ·) = (R ++ (M.take i).map (j :: ·)) ++ [j :: M.getD i []] := by
  rw [List.take_add_one, List.getElem?_eq_getElem h, List.map_append, ← List.append_assoc]
  simp [List.getD, List.getElem?_eq_getElem h]
theorem RestI.below {w w' : World} {B : Nat} {v : Value} {us : List Value} {R : List (List Int)} {vm : Value} {um : List Value} {M : List (List Int)} (h : RestI w B v us R vm um M) (hb : Below w.heap.size w w') : RestI w' B v us R vm um M :=
  ⟨h.O.below hb (Nat.le_refl _), h.M.below hb (Nat.le_refl _), h.ne⟩
set_option maxRecDepth 100000 in
set_option maxHeartbeats 4000000 in
theorem rest_calls (L : Lx) (g : GoodL L) (a : Option Addr) (n c : Nat) (t : List Int) (hn : n ≤ 12) : ∀ (f p : Nat) (b : Int) (v : Value) (w : World), LexAt w v L → IntsAt w a n c t → p ≤ n → n - p < f → (b = -1 ∨ ∃ k : Nat, b = (k : Int) ∧ k < L.items.length) → (restL L t f p b).length ≤ 1000 →
    Calls Try.prog 35 #[v, .slice a n c, .int .i64 (p : Int), .int .i64 b] w fun e w' => RestPost w (restL L t f p b) e w'
  | 0, p, b, v, w, h, ht, hp, hf, hb, hl => by omega
  | f + 1, p, b, v, w, h, ht, hp, hf, hb, hl => by
    have IH := fun p b v w h ht hp hf hb hl => rest_calls L g a n c t hn f p b v w h ht hp hf hb hl
    obtain ⟨i0, hi0, hz0, hz1, hz2⟩ := info_parts Try.infoInt
    obtain ⟨i1, hi1, hy0, hy1, hy2⟩ := info_parts Try.infoInts
    have htl := ht.len
    have HP := hid_ h
    obtain ⟨a1, n1, c1, a2, n2, c2, rfl, h1, h2⟩ := h
    obtain ⟨w1, hw1⟩ : ∃ w1, w.alloc (.cells #[.slice a1 n1 c1, .slice a2 n2 c2] 25) = w1 := ⟨_, rfl⟩
    have cb : Below w.heap.size w w1 := by rw [← hw1]; exact below_alloc _ _
    have q0 : w1.cell? ⟨w.heap.size, 0, none⟩ = some (.slice a1 n1 c1) := by rw [← hw1]; exact cells_alloc _ _ _ 0
    have q1 : w1.cell? ⟨w.heap.size, 1, none⟩ = some (.slice a2 n2 c2) := by rw [← hw1]; exact cells_alloc _ _ _ 1
    have HP1 := hid_ (HP.out.below cb (Nat.le_refl _)); have Hc1 := hid_ cb
    have HQ := hid_ (fun W (hW : Below w1.heap.size w1 W) => (⟨cell_below q0 hW, cell_below q1 hW⟩ : _ ∧ _))
    by_cases e : p = n
    · have hR : restL L t (f + 1) p b = [[]] := by
        show (if p = t.length then [[]] else _) = _
        rw [if_pos (by omega)]
      rw [hR]
      subst e
      clear IH h1 h2 HP HP1 cb ht hf hb hl hR htl
      go_enter Try.func35, Try.ntmps35
      go_wp2
      go_ret
      have z1 : (w1.alloc (.cells #[] 3)).heap.size = w1.heap.size + 1 := by simp
      refine ⟨_, [.slice (some ⟨w1.heap.size, 0, none⟩) 0 0], rfl, ⟨by decide, ?_, ?_, ?_⟩, Hc1.out.trans (((below_alloc w1 _).trans ((below_alloc (w1.alloc (.cells #[] 3)) _).mono (by rw [z1]; omega))).mono Hc1.out.size)⟩
      · have h9 := World.ownsRow_lit (base := w.heap.size) (e := 26) (size := 1) (w1.alloc (.cells #[] 3)) #[.slice (some ⟨w1.heap.size, 0, none⟩) 0 0] 1 (by rw [z1]; have := Hc1.out.size; omega) (by unfold maxLen; omega) rfl
        rw [z1] at h9
        exact h9
      · intro i hi
        obtain rfl : i = 0 := by simp at hi; omega
        refine ⟨_, rfl, ?_⟩
        have h9 := World.ownsRow_lit (base := w.heap.size) (e := 3) (size := 1) w1 #[] 0 Hc1.out.size (by unfold maxLen; omega) rfl
        exact own_below h9 (below_alloc _ _) (Nat.le_refl _)
      · intro i j u u' bb hij hx hy
        have hi := (List.getElem?_eq_some_iff.1 hx).1
        have hj := (List.getElem?_eq_some_iff.1 hy).1
        simp at hi hj; omega
    · have hR : restL L t (f + 1) p b = preR L t f p b L.items.length := restL_eq (by omega)
      rw [hR] at hl ⊢
      have hpe : ((p : Int) == (n : Int)) = false := by simp; omega
      have hn1 : n1 = L.items.length := h1.len.symm
      have HLx := hid_ (fun W (hW : Below w1.heap.size w1 W) => HP1.out.below hW (Nat.le_refl _))
      have HI := hid_ (fun W (hW : Below w1.heap.size w1 W) => (h1.below cb (Nat.le_refl _)).below hW (Nat.le_refl _))
      have HT := hid_ (fun W (hW : Below w1.heap.size w1 W) => (ht.below cb (Nat.le_refl _)).below hW (Nat.le_refl _))
      have Hn8 := hid_ (show n1 ≤ 8 by have := g.le; omega)
      have Hl := hid_ hl
      have HIH := hid_ IH
      rw [← hn1] at Hl ⊢
      have Hn1 := hid_ hn1
      have Htl := hid_ htl
      clear IH h1 h2 HP HP1 cb ht hl hR htl hn1
      go_enter Try.func35, Try.ntmps35
      go_wp2_with fail
      go_loopw [9, 10] (fun o jv wr => ∃ (j : Nat) (us : List Value), jv = .int .i64 (j : Int) ∧ j ≤ n1 ∧ OwnRw 26 3 wr w1.heap.size o us (preR L t f p b j) ∧ Below w1.heap.size w1 wr) (fun _ jv _ => n1 - (intOf jv).toNat)
      case atStart => exact ⟨0, [], rfl, Nat.zero_le _, OwnRw.nil _ _ (by decide), Below.refl _ _⟩
      case round =>
        rename World => wo
        obtain ⟨j, us, rfl, hj, hO, hbo⟩ := hrel
        obtain ⟨q0r, q1r⟩ := HQ.out wo hbo
        have hwj : IntKind.i64.wrap ((j : Int) + 1) = (j : Int) + 1 := IntWalk.i64_in _ (by have := Hn8.out; omega)
        have HO := hid_ hO; have Hbo := hid_ hbo
        by_cases hjn : j < n1
        · have hjL : j < L.items.length := by rw [← Hn1.out]; exact hjn
          have HCm := hid_ (comes_calls _ L a n c t p j wo (HLx.out wo hbo) (HT.out wo hbo) g hjL hp (by omega))
          have HGn : Hid (goB L t p b j = false → preR L t f p b (j + 1) = preR L t f p b j) := hid_ preR_no
          cases hcm : begT (wd L j) (t.drop p) with
          | false =>
            have hg0 : goB L t p b j = false := by unfold goB; rw [hcm]; rfl
            have HG := hid_ (HGn.out hg0)
            rw [hcm] at HCm
            clear hcm hg0 HGn hO hbo hb hjL
            go_wp2_with (go_at_call 53; (with_reducible refine HCm.out.mono ?_); rintro e w3 ⟨rfl, hb3⟩; have Hb3 := hid_ hb3; clear hb3)
            go_roundw
            case rel => exact ⟨j + 1, us, by go_num, by omega, by rw [HG.out]; exact HO.out.below Hb3.out (Nat.le_refl _), Hbo.out.trans (Hb3.out.mono Hbo.out.size)⟩
            case measure => simp [intOf]; omega
          | true =>
            rw [hcm] at HCm
            have hle : p + ln L j ≤ n := by
              obtain ⟨r, hr⟩ := begT_iff.1 hcm
              have h9 := congrArg List.length hr
              rw [List.length_drop, List.length_append] at h9
              have : (wd L j).length = ln L j := rfl
              have := Htl.out
              omega
            have hl1 : 1 ≤ ln L j := (g.word j hjL).1
            rcases hb with hb | ⟨k, hb, hk⟩
            · have hbge : decide (b ≥ 0) = false := decide_eq_false (by omega)
              have hg0 : goB L t p b j = true := by unfold goB; rw [hcm, decide_eq_true (show b < 0 by omega)]; rfl
              have HG := hid_ (preR_go (f := f) hg0)
              have hML := restL_in (f := f) (k := n1) hg0 hjn
              have hI3 := (HI.out wo hbo).cells j hjn
              obtain ⟨bi, oi, ai, m0, ci, e1, -, -, -, -, hwd⟩ := hI3
              have hm0 : ln L j = m0 := hwd.len
              rw [hm0] at HG hML hle hl1
              obtain ⟨pn, hpn⟩ : ∃ pn, p + m0 = pn := ⟨_, rfl⟩
              rw [hpn] at HG hML hle
              obtain ⟨M, hM⟩ : ∃ M, restL L t f pn (j : Int) = M := ⟨_, rfl⟩
              rw [hM] at HG hML
              have HW := hid_ (fun W (hW : Below w1.heap.size w1 W) => HIH.out pn (j : Int) _ W (HLx.out W hW) (HT.out W hW) (by omega) (by omega) (.inr ⟨j, rfl, hjL⟩) (by rw [hM]; have := Hl.out; omega))
              rw [hM] at HW
              have HRow := hid_ (show ∀ s ∈ M, s.length ≤ 12 from fun s hs => by
                rw [← hM] at hs
                obtain ⟨k1, k2, -⟩ := (mem_restL g f pn (j : Int) (by rw [Htl.out]; exact hle) (by rw [Htl.out]; omega) s).1 hs
                have k3 := itemsB_len g s.length rfl k1
                rw [k2, List.length_drop, Htl.out] at k3
                omega)
              obtain ⟨m, hm⟩ : ∃ m, M.length = m := ⟨_, rfl⟩
              have Hm := hid_ hm
              have hwp : IntKind.i64.wrap ((p : Int) + (m0 : Int)) = (pn : Int) := by rw [IntWalk.i64_in _ (by omega)]; omega
              have hm1 : m ≤ 1000 := by have := Hl.out; omega
              have HRl := hid_ (show (preR L t f p b j).length + m ≤ 1000 by have := preR_len (L := L) (t := t) (f := f) (p := p) (b := b) (show j + 1 ≤ n1 from hjn); rw [HG.out, List.length_append, List.length_map, hm] at this; have := Hl.out; omega)
              have Hm0 : Hid ((L.items.getD j I0).word.length = m0) := hid_ hm0
              clear e1 hm hM hwd hm0 hpn hML
              clear hcm hg0 HGn hO hbo hb hle hl1 hjL
              go_wp2_with (go_at_call 53; (with_reducible refine HCm.out.mono ?_); rintro e w3 ⟨rfl, hb3⟩; have Hb3 := hid_ hb3; clear hb3)
              have Hbz := hid_ (Hbo.out.trans (Hb3.out.mono Hbo.out.size))
              obtain ⟨q0z, q1z⟩ := HQ.out _ Hbz.out
              obtain ⟨bi2, oi2, ai2, m2, ci2, e2, -, kz, -, -, hwz⟩ := (HI.out _ Hbz.out).cells j hjn
              have hm2 : m2 = m0 := by rw [← Hm0.out]; exact hwz.len.symm
              subst hm2; subst e2
              have gA := cell_regrown q0z; have gB := cell_regrown q1z; have gC := cell_regrown kz
              clear q0z q1z kz hwz q0r q1r
              refine wp_region_tail 12 (by kernel_rfl) (by kernel_rfl) ?_
              simp only [List.take_succ_cons, List.take_zero, List.drop_succ_cons, List.drop_zero]
              repeat (first | go_big_quiet_skip | (go_big_quiet_want; go_big_quiet_op; first | go_big_quiet_on | go_big_quiet_call (fail)))
              refine wpQuiet_nil ?_
              rintro wq ⟨pq, hpq⟩
              have hbq := below_wq hpq
              have Hbq := hid_ (Hb3.out.trans (hbq.mono Hb3.out.size))
              have Hbq1 := hid_ (Hbo.out.trans (Hbq.out.mono Hbo.out.size))
              clear hpq hbq gA gB gC
              go_wp2_with (go_at_call 35; (with_reducible refine (HW.out _ Hbq1.out).mono ?_); rintro e w5 ⟨vm, um, rfl, hM5, hb5⟩; obtain ⟨am, cm, rfl, hL5⟩ := hM5.lists; rw [Hm.out] at hM5 ⊢; have HM5 := hid_ hM5; have Hb5 := hid_ hb5; clear hM5 hL5 hb5)
              have Hb15 := hid_ (Hbq1.out.trans (Hb5.out.mono Hbq1.out.size))
              have HI5 := hid_ (show RestI w5 w1.heap.size u9 us (preR L t f p b j) (.slice am m cm) um M from ⟨HO.out.below (Hbq.out.trans (Hb5.out.mono Hbq.out.size)) (Nat.le_refl _), HM5.out.base Hbq1.out.size, fun g9 e9 => by
                have h9 := (HO.out.top.lt g9 e9).2
                have h8 := Hbq.out.size
                exact ⟨fun e8 => by have := (HM5.out.top.lt g9 e8).1; omega, fun x hx e8 => by have := (own_row_lt HM5.out hx g9 e8).1; omega⟩⟩)
              go_loopw [9, 12] (fun ov iv wr => ∃ (i : Nat) (us : List Value), iv = .int .i64 (i : Int) ∧ i ≤ m ∧ RestI wr w1.heap.size ov us (preR L t f p b j ++ (M.take i).map ((j : Int) :: ·)) (.slice am m cm) um M ∧ Below w1.heap.size w1 wr) (fun _ iv _ => m - (intOf iv).toNat)
              case atStart => exact ⟨0, us, rfl, Nat.zero_le _, by simpa using HI5.out, Hb15.out⟩
              case round =>
                obtain ⟨i, us2, rfl, hi, hI, hbi⟩ := hrel
                have hwi : IntKind.i64.wrap ((i : Int) + 1) = (i : Int) + 1 := IntWalk.i64_in _ (by omega)
                have HIi := hid_ hI; have Hbi := hid_ hbi
                obtain ⟨a9, c9, rfl⟩ := own_sliceV hI.O.top
                by_cases him : i < m
                · obtain ⟨a8, c8, e8, hL8⟩ := hI.M.lists
                  rw [Hm.out] at hL8
                  obtain ⟨bm, offm, ai, ni, ci, e7, -, hcell, hIr⟩ := hL8.cells i him
                  injection e8 with e8 e6 e5
                  rw [e7] at e8
                  subst e8; subst e5
                  have hTk := take_map_succ (M := M) (i := i) (by rw [Hm.out]; exact him) (preR L t f p b j) (j : Int)
                  obtain ⟨row, hrow⟩ : ∃ row, M.getD i [] = row := ⟨_, rfl⟩
                  rw [hrow] at hIr hTk
                  have HTk := hid_ hTk
                  have hni : ni ≤ 1000 := by
                    have h9 := HRow.out row (by rw [← hrow, List.getD, List.getElem?_eq_getElem (by rw [Hm.out]; exact him)]; exact List.getElem_mem _)
                    rw [hIr.len] at h9; omega
                  have HLit := hid_ (World.ownsRow_lit (base := wr.heap.size) (e := 3) (size := 1) wr #[.int .i64 (j : Int)] 1 (Nat.le_refl _) (by unfold maxLen; omega) rfl)
                  have HIa := hid_ (hIr.below (below_alloc wr (.cells #[.int .i64 (j : Int)] 3)) (Nat.le_refl _))
                  have hca := cell_below hcell (below_alloc wr (.cells #[.int .i64 (j : Int)] 3))
                  obtain ⟨lR, hlR⟩ : ∃ lR, (preR L t f p b j ++ (M.take i).map ((j : Int) :: ·)).length = lR := ⟨_, rfl⟩
                  have HlR := hid_ hlR
                  have HIi := hid_ (show RestI wr w1.heap.size (.slice a9 lR c9) us2 (preR L t f p b j ++ (M.take i).map ((j : Int) :: ·)) (.slice (some ⟨bm, offm, none⟩) m cm) um M by have h9 := HIi.out; rw [hlR] at h9; exact h9)
                  have hlR2 : lR ≤ 1000 := by rw [← hlR, List.length_append, List.length_map, List.length_take, Hm.out]; have := HRl.out; omega
                  rw [hlR]
                  have Hlen := hid_ hIr.len
                  clear hI hbi hL8 hTk hrow hcell hIr hlR e6 e7
                  go_wp2_with (first
                    | (at_builtin; refine wpList_append_ints _ rfl (.tmp 64) (.tmp 68) _ rfl wr.heap.size 3 i0 Try.underlying26 hi0 hz0 hz1 hz2 _ _ [(j : Int)] rfl HLit.out _ _ _ _ rfl HIa.out (by omega) (by simp) ?_; intro v6 w6 hown6 hg6 hat6; obtain ⟨a6, c6, rfl, hI6⟩ := IntsAt.own hown6; have Hown6 := hid_ hown6; have hb6 := below_new hg6; have Hb6 := hid_ hb6; have htx := (HIi.out.below hb6).O.top; rw [HlR.out] at htx; have hzx : w1.heap.size ≤ w6.heap.size := Nat.le_trans Hbi.out.size hb6.size; clear hown6 hg6 hat6 hI6 hb6)
                    | (at_builtin; refine wpList_push_val2 _ rfl (.tmp 62) (.tmp 70) _ rfl w1.heap.size 26 i1 Try.underlying23 hi1 hy0 rfl hy1 hy2 (by omega) (.slice a9 lR c9) lR us2 rfl htx (.slice a6 (1 + ni) c6) rfl 26 rfl (by omega) hzx ?_; intro v7 w7 hown7 hg7 hat7; have Hown7 := hid_ hown7; have Hg7 := hid_ hg7; have Hat7 := hid_ hat7; clear hown7 hg7 hat7 htx hzx))
                  have hsz : (.slice a6 (1 + ni) c6 : Value) = .slice a6 (1 + ni) c6 := rfl
                  have HP7 := hid_ (RestI.push (r := (j : Int) :: row) Hbi.out.size HIi.out Hb6.out (by rw [show ((j : Int) :: row).length = 1 + ni by rw [List.length_cons, Hlen.out]; omega]; exact Hown6.out) (by rw [HlR.out]; exact Hown7.out) Hg7.out Hat7.out)
                  have Hb7 := hid_ (((Hbi.out.trans (Hb6.out.mono Hbi.out.size)).trans ((below_alloc w6 _).mono (Nat.le_trans Hbi.out.size Hb6.out.size))).grown Hg7.out (by simp; have := Hbi.out.size; have := Hb6.out.size; omega) (fun k hk => (HIi.out.O.top.lt k hk).1))
                  go_roundw
                  case rel => exact ⟨i + 1, _, by go_num, by omega, by rw [HTk.out]; exact HP7.out, Hb7.out⟩
                  case measure => simp [intOf]; omega
                · obtain rfl : m = i := by omega
                  have hT : M.take m = M := List.take_of_length_le (by rw [Hm.out]; exact Nat.le_refl _)
                  rw [hT] at HIi ⊢
                  clear hI hbi hT
                  go_wp2
                  go_roundw
                  case rel => exact ⟨j + 1, us2, by go_num, by omega, by rw [HG.out]; exact HIi.out.O, Hbi.out⟩
                  case measure => simp [intOf]; omega
            · have hbge : decide (b ≥ 0) = true := decide_eq_true (by omega)
              have HFo := hid_ (fun W (hW : Below w1.heap.size w1 W) => r8follow_calls _ L k j W (HLx.out W hW) g hk hjL)
              have hfv := follV_in g hk hjL
              have hgb : goB L t p b j = decide (0 ≤ follV L k j) := by
                unfold goB
                rw [hcm, hb, Int.toNat_natCast, decide_eq_false (show ¬ (k : Int) < 0 by omega)]; rfl
              generalize follV L k j = fv at *
              by_cases hf0 : fv < 0
              · have hfd : decide (fv < 0) = true := decide_eq_true hf0
                have HG := hid_ (HGn.out (by rw [hgb, decide_eq_false (by omega)]))
                subst hb
                clear hcm HGn hO hbo hle hl1 hgb hjL
                go_wp2_with (first
                  | (go_at_call 53; (with_reducible refine HCm.out.mono ?_); rintro e w3 ⟨rfl, hb3⟩; have Hb3 := hid_ (Hbo.out.trans (hb3.mono Hbo.out.size)); have Hb3o := hid_ hb3; clear hb3; obtain ⟨q03, q13⟩ := HQ.out w3 Hb3.out)
                  | (go_at_call 34; (with_reducible refine (HFo.out _ Hb3.out).mono ?_); rintro e w4 ⟨rfl, hb4⟩; have Hb4 := hid_ (Hb3o.out.trans (hb4.mono Hb3o.out.size)); clear hb4))
                go_roundw
                case rel => exact ⟨j + 1, us, by go_num, by omega, by rw [HG.out]; exact HO.out.below Hb4.out (Nat.le_refl _), Hbo.out.trans (Hb4.out.mono Hbo.out.size)⟩
                case measure => simp [intOf]; omega
              · have hfd : decide (fv < 0) = false := decide_eq_false hf0
                have hg0 : goB L t p b j = true := by rw [hgb, decide_eq_true (by omega)]
                have HG := hid_ (preR_go (f := f) hg0)
                have hML := restL_in (f := f) (k := n1) hg0 hjn
                have hI3 := (HI.out wo hbo).cells j hjn
                obtain ⟨bi, oi, ai, m0, ci, e1, -, -, -, -, hwd⟩ := hI3
                have hm0 : ln L j = m0 := hwd.len
                rw [hm0] at HG hML hle hl1
                obtain ⟨pn, hpn⟩ : ∃ pn, p + m0 = pn := ⟨_, rfl⟩
                rw [hpn] at HG hML hle
                obtain ⟨M, hM⟩ : ∃ M, restL L t f pn (j : Int) = M := ⟨_, rfl⟩
                rw [hM] at HG hML
                have HW := hid_ (fun W (hW : Below w1.heap.size w1 W) => HIH.out pn (j : Int) _ W (HLx.out W hW) (HT.out W hW) (by omega) (by omega) (.inr ⟨j, rfl, hjL⟩) (by rw [hM]; have := Hl.out; omega))
                rw [hM] at HW
                have HRow := hid_ (show ∀ s ∈ M, s.length ≤ 12 from fun s hs => by
                  rw [← hM] at hs
                  obtain ⟨k1, k2, -⟩ := (mem_restL g f pn (j : Int) (by rw [Htl.out]; exact hle) (by rw [Htl.out]; omega) s).1 hs
                  have k3 := itemsB_len g s.length rfl k1
                  rw [k2, List.length_drop, Htl.out] at k3
                  omega)
                obtain ⟨m, hm⟩ : ∃ m, M.length = m := ⟨_, rfl⟩
                have Hm := hid_ hm
                have hwp : IntKind.i64.wrap ((p : Int) + (m0 : Int)) = (pn : Int) := by rw [IntWalk.i64_in _ (by omega)]; omega
                have hm1 : m ≤ 1000 := by have := Hl.out; omega
                have HRl := hid_ (show (preR L t f p b j).length + m ≤ 1000 by have := preR_len (L := L) (t := t) (f := f) (p := p) (b := b) (show j + 1 ≤ n1 from hjn); rw [HG.out, List.length_append, List.length_map, hm] at this; have := Hl.out; omega)
                have Hm0 : Hid ((L.items.getD j I0).word.length = m0) := hid_ hm0
                clear e1 hm hM hwd hm0 hpn hML
                subst hb
                clear hcm hg0 HGn hO hbo hle hl1 hgb hjL
                go_wp2_with (first
                  | (go_at_call 53; (with_reducible refine HCm.out.mono ?_); rintro e w3 ⟨rfl, hb3⟩; have Hb3o := hid_ hb3; have Hb3' := hid_ (Hbo.out.trans (hb3.mono Hbo.out.size)); clear hb3; obtain ⟨q03, q13⟩ := HQ.out w3 Hb3'.out)
                  | (go_at_call 34; (with_reducible refine (HFo.out _ Hb3'.out).mono ?_); rintro e w4 ⟨rfl, hb4⟩; have Hb3 := hid_ (Hb3o.out.trans (hb4.mono Hb3o.out.size)); clear hb4 q03 q13))
                have Hbz := hid_ (Hbo.out.trans (Hb3.out.mono Hbo.out.size))
                obtain ⟨q0z, q1z⟩ := HQ.out _ Hbz.out
                obtain ⟨bi2, oi2, ai2, m2, ci2, e2, -, kz, -, -, hwz⟩ := (HI.out _ Hbz.out).cells j hjn
                have hm2 : m2 = m0 := by rw [← Hm0.out]; exact hwz.len.symm
                subst hm2; subst e2
                have gA := cell_regrown q0z; have gB := cell_regrown q1z; have gC := cell_regrown kz
                clear q0z q1z kz hwz q0r q1r
                refine wp_region_tail 12 (by kernel_rfl) (by kernel_rfl) ?_
                simp only [List.take_succ_cons, List.take_zero, List.drop_succ_cons, List.drop_zero]
                repeat (first | go_big_quiet_skip | (go_big_quiet_want; go_big_quiet_op; first | go_big_quiet_on | go_big_quiet_call (fail)))
                refine wpQuiet_nil ?_
                rintro wq ⟨pq, hpq⟩
                have hbq := below_wq hpq
                have Hbq := hid_ (Hb3.out.trans (hbq.mono Hb3.out.size))
                have Hbq1 := hid_ (Hbo.out.trans (Hbq.out.mono Hbo.out.size))
                clear hpq hbq gA gB gC
                go_wp2_with (go_at_call 35; (with_reducible refine (HW.out _ Hbq1.out).mono ?_); rintro e w5 ⟨vm, um, rfl, hM5, hb5⟩; obtain ⟨am, cm, rfl, hL5⟩ := hM5.lists; rw [Hm.out] at hM5 ⊢; have HM5 := hid_ hM5; have Hb5 := hid_ hb5; clear hM5 hL5 hb5)
                have Hb15 := hid_ (Hbq1.out.trans (Hb5.out.mono Hbq1.out.size))
                have HI5 := hid_ (show RestI w5 w1.heap.size u9 us (preR L t f p (k : Int) j) (.slice am m cm) um M from ⟨HO.out.below (Hbq.out.trans (Hb5.out.mono Hbq.out.size)) (Nat.le_refl _), HM5.out.base Hbq1.out.size, fun g9 e9 => by
                  have h9 := (HO.out.top.lt g9 e9).2
                  have h8 := Hbq.out.size
                  exact ⟨fun e8 => by have := (HM5.out.top.lt g9 e8).1; omega, fun x hx e8 => by have := (own_row_lt HM5.out hx g9 e8).1; omega⟩⟩)
                go_loopw [9, 12] (fun ov iv wr => ∃ (i : Nat) (us : List Value), iv = .int .i64 (i : Int) ∧ i ≤ m ∧ RestI wr w1.heap.size ov us (preR L t f p (k : Int) j ++ (M.take i).map ((j : Int) :: ·)) (.slice am m cm) um M ∧ Below w1.heap.size w1 wr) (fun _ iv _ => m - (intOf iv).toNat)
                case atStart => exact ⟨0, us, rfl, Nat.zero_le _, by simpa using HI5.out, Hb15.out⟩
                case round =>
                  obtain ⟨i, us2, rfl, hi, hI, hbi⟩ := hrel
                  have hwi : IntKind.i64.wrap ((i : Int) + 1) = (i : Int) + 1 := IntWalk.i64_in _ (by omega)
                  have HIi := hid_ hI; have Hbi := hid_ hbi
                  obtain ⟨a9, c9, rfl⟩ := own_sliceV hI.O.top
                  by_cases him : i < m
                  · obtain ⟨a8, c8, e8, hL8⟩ := hI.M.lists
                    rw [Hm.out] at hL8
                    obtain ⟨bm, offm, ai, ni, ci, e7, -, hcell, hIr⟩ := hL8.cells i him
                    injection e8 with e8 e6 e5
                    rw [e7] at e8
                    subst e8; subst e5
                    have hTk := take_map_succ (M := M) (i := i) (by rw [Hm.out]; exact him) (preR L t f p (k : Int) j) (j : Int)
                    obtain ⟨row, hrow⟩ : ∃ row, M.getD i [] = row := ⟨_, rfl⟩
                    rw [hrow] at hIr hTk
                    have HTk := hid_ hTk
                    have hni : ni ≤ 1000 := by
                      have h9 := HRow.out row (by rw [← hrow, List.getD, List.getElem?_eq_getElem (by rw [Hm.out]; exact him)]; exact List.getElem_mem _)
                      rw [hIr.len] at h9; omega
                    have HLit := hid_ (World.ownsRow_lit (base := wr.heap.size) (e := 3) (size := 1) wr #[.int .i64 (j : Int)] 1 (Nat.le_refl _) (by unfold maxLen; omega) rfl)
                    have HIa := hid_ (hIr.below (below_alloc wr (.cells #[.int .i64 (j : Int)] 3)) (Nat.le_refl _))
                    have hca := cell_below hcell (below_alloc wr (.cells #[.int .i64 (j : Int)] 3))
                    obtain ⟨lR, hlR⟩ : ∃ lR, (preR L t f p (k : Int) j ++ (M.take i).map ((j : Int) :: ·)).length = lR := ⟨_, rfl⟩
                    have HlR := hid_ hlR
                    have HIi := hid_ (show RestI wr w1.heap.size (.slice a9 lR c9) us2 (preR L t f p (k : Int) j ++ (M.take i).map ((j : Int) :: ·)) (.slice (some ⟨bm, offm, none⟩) m cm) um M by have h9 := HIi.out; rw [hlR] at h9; exact h9)
                    have hlR2 : lR ≤ 1000 := by rw [← hlR, List.length_append, List.length_map, List.length_take, Hm.out]; have := HRl.out; omega
                    rw [hlR]
                    have Hlen := hid_ hIr.len
                    clear hI hbi hL8 hTk hrow hcell hIr hlR e6 e7
                    go_wp2_with (first
                      | (at_builtin; refine wpList_append_ints _ rfl (.tmp 64) (.tmp 68) _ rfl wr.heap.size 3 i0 Try.underlying26 hi0 hz0 hz1 hz2 _ _ [(j : Int)] rfl HLit.out _ _ _ _ rfl HIa.out (by omega) (by simp) ?_; intro v6 w6 hown6 hg6 hat6; obtain ⟨a6, c6, rfl, hI6⟩ := IntsAt.own hown6; have Hown6 := hid_ hown6; have hb6 := below_new hg6; have Hb6 := hid_ hb6; have htx := (HIi.out.below hb6).O.top; rw [HlR.out] at htx; have hzx : w1.heap.size ≤ w6.heap.size := Nat.le_trans Hbi.out.size hb6.size; clear hown6 hg6 hat6 hI6 hb6)
                      | (at_builtin; refine wpList_push_val2 _ rfl (.tmp 62) (.tmp 70) _ rfl w1.heap.size 26 i1 Try.underlying23 hi1 hy0 rfl hy1 hy2 (by omega) (.slice a9 lR c9) lR us2 rfl htx (.slice a6 (1 + ni) c6) rfl 26 rfl (by omega) hzx ?_; intro v7 w7 hown7 hg7 hat7; have Hown7 := hid_ hown7; have Hg7 := hid_ hg7; have Hat7 := hid_ hat7; clear hown7 hg7 hat7 htx hzx))
                    have hsz : (.slice a6 (1 + ni) c6 : Value) = .slice a6 (1 + ni) c6 := rfl
                    have HP7 := hid_ (RestI.push (r := (j : Int) :: row) Hbi.out.size HIi.out Hb6.out (by rw [show ((j : Int) :: row).length = 1 + ni by rw [List.length_cons, Hlen.out]; omega]; exact Hown6.out) (by rw [HlR.out]; exact Hown7.out) Hg7.out Hat7.out)
                    have Hb7 := hid_ (((Hbi.out.trans (Hb6.out.mono Hbi.out.size)).trans ((below_alloc w6 _).mono (Nat.le_trans Hbi.out.size Hb6.out.size))).grown Hg7.out (by simp; have := Hbi.out.size; have := Hb6.out.size; omega) (fun k hk => (HIi.out.O.top.lt k hk).1))
                    go_roundw
                    case rel => exact ⟨i + 1, _, by go_num, by omega, by rw [HTk.out]; exact HP7.out, Hb7.out⟩
                    case measure => simp [intOf]; omega
                  · obtain rfl : m = i := by omega
                    have hT : M.take m = M := List.take_of_length_le (by rw [Hm.out]; exact Nat.le_refl _)
                    rw [hT] at HIi ⊢
                    clear hI hbi hT
                    go_wp2
                    go_roundw
                    case rel => exact ⟨j + 1, us2, by go_num, by omega, by rw [HG.out]; exact HIi.out.O, Hbi.out⟩
                    case measure => simp [intOf]; omega
        · obtain rfl : n1 = j := by omega
          clear hO hbo
          go_wp2
          go_ret
          exact ⟨_, us, rfl, HO.out.base Hc1.out.size, Hc1.out.trans (Hbo.out.mono Hc1.out.size)⟩
end Go.Proofs.Ytgpenbajhndhiaa
