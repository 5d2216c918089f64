import Derived.Test.YtoopgmoopmbfnaaBs
namespace Go.Proofs.Ytoopgmoopmbfnaa
open Go.RowKit Go.Proofs.Kv Go.Proofs.Snd

/-! ### CheckTable -/
def nameAll (F L : List (List Int)) : Bool := F.all fun s => decide (s ∈ classesS L)
def checkErr (m : Int) (F L : List (List Int)) : Int :=
  if famErr m F = 0 then (if validT L = 0 then (if IsOrd L.flatten m then (if nameAll F L then 0 else 7) else 9) else validT L) else famErr m F
theorem all_noB {p : List Int → Bool} {F : List (List Int)} {k : Nat} (hk : k < F.length) (h : p (F.getD k []) = false) : F.all p = false := all_no hk h
set_option maxRecDepth 100000 in
theorem sndCheck_calls (m : Int) (a : Option Addr) (n c : Nat) (F : List (List Int)) (a' : Option Addr) (n' c' : Nat) (L : List (List Int)) (w : World) (h : ListsAt w a n c F) (h' : ListsAt w a' n' c' L) :
    Calls Try.prog 18 #[.int .i64 m, .slice a n c, .slice a' n' c'] w fun e w' => e = .returned (.int .i64 (checkErr m F L)) ∧ Below w.heap.size w w' := by
  have hfam := sndFamily_calls m a n c F w h
  have HL := hid_ (fun W (hW : Below w.heap.size w W) => h'.below hW (Nat.le_refl _))
  have HF := hid_ (fun W (hW : Below w.heap.size w W) => h.below hW (Nat.le_refl _))
  by_cases he : famErr m F = 0
  · rw [he] at hfam
    have Hfam := hid_ hfam; clear hfam
    have hm6 := (famErr_ok he).1.2
    have hn6 : n ≤ 6 := by rw [← h.len]; exact (famErr_ok he).2.1
    have Hval := hid_ (fun W hW => sndValidate_calls a' n' c' L W hW)
    by_cases hv : validT L = 0
    · rw [hv] at Hval
      have Hval' := hid_ Hval.out; clear Hval
      have hg := good_of hv
      have hfl := hg.flat
      have Hcc := hid_ (fun W hW => concat_calls a' n' c' L W hW (by omega))
      cases ho : IsOrd L.flatten m with
      | false =>
        have He : Hid (checkErr m F L = 9) := hid_ (by rw [checkErr, if_pos he, if_pos hv, ho]; rfl)
        rw [He.out]
        obtain ⟨FL, hFL⟩ : ∃ FL, L.flatten = FL := ⟨_, rfl⟩
        rw [hFL] at ho Hcc
        have Ho := hid_ ho
        clear he hv hg ho h h' hFL hfl
        go_enter Try.func18, Try.ntmps18
        go_wp2_with fail
        refine Hfam.out.mono ?_
        rintro e w1 ⟨rfl, q, hq⟩
        have hb1 : Below w.heap.size w w1 := by rw [hq]; exact below_drewN (Below.refl _ _) q
        clear hq
        have H2 := hid_ (Hval'.out w1 (HL.out w1 hb1))
        go_wp2_with fail
        refine H2.out.mono ?_
        rintro e w2 ⟨rfl, hb2⟩
        have hb2' := below_then hb1 hb2
        have H3 := hid_ (Hcc.out w2 (HL.out w2 hb2'))
        clear hb1 hb2
        go_wp2_with fail
        refine H3.out.mono ?_
        rintro e w3 ⟨v3, rfl, hm3⟩
        obtain ⟨a3, c3, rfl, hI3⟩ := hm3.at_
        have H4 := hid_ (sndIsOrder_calls _ _ _ _ m _ hI3 hm6)
        rw [Ho.out] at H4
        have hb3 := below_then hb2' hm3.bel
        clear hm3 hI3
        go_wp2_with fail
        refine H4.out.mono ?_
        rintro e w4 ⟨rfl, hb4⟩
        go_wp2
        go_ret
        exact ⟨rfl, below_then hb3 hb4⟩
      | true =>
        have Hcl := hid_ (fun W hW => classes_calls a' n' c' L W hW hg)
        have He : Hid (checkErr m F L = if nameAll F L then 0 else 7) := hid_ (by rw [checkErr, if_pos he, if_pos hv, ho]; rfl)
        obtain ⟨FL, hFL⟩ : ∃ FL, L.flatten = FL := ⟨_, rfl⟩
        rw [hFL] at ho Hcc
        have Ho := hid_ ho
        clear hFL
        have Hasc : Hid ((classesS L).Pairwise LtL) := hid_ (by rw [classesS_eq hg]; exact (fold_ins _ (acc := []) List.Pairwise.nil).1)
        have hcn : (classesS L).length ≤ 3600 := by rw [classes_len, namesS_eq hg]; exact namesR_len hg
        have Hlen := hid_ h.len
        clear he hv hg ho h h'
        go_enter Try.func18, Try.ntmps18
        go_wp2_with fail
        refine Hfam.out.mono ?_
        rintro e w1 ⟨rfl, q, hq⟩
        have hb1 : Below w.heap.size w w1 := by rw [hq]; exact below_drewN (Below.refl _ _) q
        clear hq
        have H2 := hid_ (Hval'.out w1 (HL.out w1 hb1))
        go_wp2_with fail
        refine H2.out.mono ?_
        rintro e w2 ⟨rfl, hb2⟩
        have hb2' := below_then hb1 hb2
        have H3 := hid_ (Hcc.out w2 (HL.out w2 hb2'))
        clear hb1 hb2
        go_wp2_with fail
        refine H3.out.mono ?_
        rintro e w3 ⟨v3, rfl, hm3⟩
        obtain ⟨a3, c3, rfl, hI3⟩ := hm3.at_
        have H4 := hid_ (sndIsOrder_calls _ _ _ _ m _ hI3 hm6)
        rw [Ho.out] at H4
        have hb3 := below_then hb2' hm3.bel
        clear hm3 hI3 hb2'
        go_wp2_with fail
        refine H4.out.mono ?_
        rintro e w4 ⟨rfl, hb4⟩
        have hb4' := below_then hb3 hb4
        clear hb3 hb4
        have H5 := hid_ (Hcl.out w4 (HL.out w4 hb4'))
        go_wp2_with fail
        refine H5.out.mono ?_
        rintro e w5 ⟨v5, rfl, hm5⟩
        obtain ⟨a5, c5, rfl, hC5⟩ := hm5.at_
        have hb5 := below_then hb4' hm5.bel
        have HF5 := HF.out w5 hb5
        clear hm5 hb4' H2 H3 H4 H5
        generalize hCL : classesS L = C at *
        have HCL := hid_ hCL
        clear hCL
        generalize C.length = N at *
        go_wp2
        go_loop [34] (fun i => ∃ k : Nat, k ≤ n ∧ i = .int .i64 k ∧ ∀ j, j < k → decide (F.getD j [] ∈ C) = true) (fun i => n - (intOf i).toNat)
        case atStart => exact ⟨0, Nat.zero_le _, rfl, fun _ h => absurd h (by omega)⟩
        case round =>
          obtain ⟨k, hk, rfl, hall⟩ := hrel
          have Hall := hid_ hall; clear hall
          by_cases hlt : k < n
          · obtain ⟨b, off, a1, n1, c1, rfl, hb, hcell, hrow⟩ := HF5.cells k hlt
            have hkl : k < F.length := by rw [Hlen.out]; exact hlt
            have Hbs := hid_ (bsearch_calls _ _ _ _ _ _ _ _ w5 hC5 hrow Hasc.out (by omega))
            cases hd : decide (F.getD k [] ∈ C) with
            | true =>
              rw [hd] at Hbs
              have Hbs' := hid_ Hbs.out; clear Hbs
              have Hd := hid_ hd; clear hd
              go_wp2_with (go_at_call 63; refine (Hbs'.out).mono ?_; rintro e w' ⟨i, rfl, rfl⟩)
              go_round
              case rel => exact ⟨k + 1, by omega, by go_num, lt_snoc Hall.out Hd.out⟩
              case measure => simp [intOf]; omega
            | false =>
              rw [hd] at Hbs
              have Hbs' := hid_ Hbs.out; clear Hbs
              have Hf : Hid (nameAll F L = false) := hid_ (all_noB hkl (by rw [HCL.out]; exact hd))
              clear hd
              go_wp2_with (go_at_call 63; refine (Hbs'.out).mono ?_; rintro e w' ⟨i, rfl, rfl⟩)
              go_ret
              exact ⟨by rw [He.out, Hf.out]; rfl, hb5⟩
          · have Hf : Hid (nameAll F L = true) := hid_ (all_yes Hlen.out fun j hj => by rw [HCL.out]; exact Hall.out j (by omega))
            go_wp2
            go_ret
            exact ⟨by rw [He.out, Hf.out]; rfl, hb5⟩
    · have He : Hid (checkErr m F L = validT L) := hid_ (by rw [checkErr, if_pos he, if_neg hv])
      rw [He.out]
      clear He
      generalize validT L = er at *
      have hq : (er != 0) = true := by simpa using hv
      have Hval' := hid_ Hval.out; clear Hval hv he
      go_enter Try.func18, Try.ntmps18
      go_wp2_with fail
      refine Hfam.out.mono ?_
      rintro e w1 ⟨rfl, q, hq⟩
      have hb1 : Below w.heap.size w w1 := by rw [hq]; exact below_drewN (Below.refl _ _) q
      clear hq
      have H2 := hid_ (Hval'.out w1 (HL.out w1 hb1))
      go_wp2_with fail
      refine H2.out.mono ?_
      rintro e w2 ⟨rfl, hb2⟩
      go_wp2
      go_ret
      exact ⟨rfl, below_then hb1 hb2⟩
  · have He : Hid (checkErr m F L = famErr m F) := hid_ (if_neg he)
    rw [He.out]
    clear He
    generalize famErr m F = er at *
    have hq : (er != 0) = true := by simpa using he
    have Hfam := hid_ hfam; clear hfam he
    go_enter Try.func18, Try.ntmps18
    go_wp2_with fail
    refine Hfam.out.mono ?_
    rintro e w1 ⟨rfl, q, rfl⟩
    go_wp2
    go_ret
    exact ⟨rfl, below_drewN (Below.refl _ _) q⟩
/-! ### the document's CheckTable -/
theorem set_five {m : Int} {F : List (List Int)} (h : famErr m F = 0) : ∀ s ∈ F, IsSet s 0 5 = true := by
  have h0 := h
  obtain ⟨⟨h1, h6⟩, -, hs⟩ := famErr_ok h
  unfold famErr at h0
  cases hw : Within m 1 6 with
  | false => rw [hw] at h0; simp at h0
  | true =>
    rw [hw] at h0
    simp only [Bool.true_eq_false, if_false] at h0
    by_cases hl : 6 < F.length
    · rw [if_pos hl] at h0; cases h0
    · rw [if_neg hl] at h0
      cases ha : F.all (famGood m) with
      | false => rw [ha] at h0; simp at h0
      | true =>
        intro s hs'
        have hg := List.all_eq_true.1 ha s hs'
        simp only [famGood, Bool.and_eq_true, Bool.not_eq_true'] at hg
        have hset := hg.2
        unfold IsSet at hset ⊢
        rw [List.all_eq_true] at hset ⊢
        intro i hi
        have hi' := List.mem_range.1 hi
        have := hset i hi
        have hb := (hs s hs').2 _ (getD_mem hi')
        unfold setBad at this ⊢
        simp [Within] at this ⊢
        exact ⟨⟨by simpa [List.getD] using hb.1, by have := hb.2; simp [List.getD] at this; omega⟩, this.2⟩
theorem named_len {L : List (List Int)} (hv : validT L = 0) {s : List Int} (hs : IsSet s 0 5 = true) : namedErr L s = 0 ∧ ((namedRes L s).length = 0 ↔ ¬ s ∈ classesS L) := by
  have hg := good_of hv
  have he : namedErr L s = 0 := by rw [namedErr, if_pos hv, hs]; rfl
  refine ⟨he, ?_⟩
  rw [namedRes, if_pos he, List.length_eq_zero_iff]
  unfold namedL
  rw [List.filter_eq_nil_iff, classesS, List.mem_mergeSort, namesS_eq hg, List.mem_map]
  constructor
  · rintro h ⟨p, hp, e⟩
    exact h p hp (by simp [Same, e])
  · intro h p hp e
    exact h ⟨p, hp, by simpa [Same] using e⟩
set_option maxRecDepth 100000 in
theorem refCheck_calls (m : Int) (a : Option Addr) (n c : Nat) (F : List (List Int)) (a' : Option Addr) (n' c' : Nat) (L : List (List Int)) (w : World) (h : ListsAt w a n c F) (h' : ListsAt w a' n' c' L) (hs : L.flatten.length ≤ 100000) :
    Calls Try.prog 19 #[.int .i64 m, .slice a n c, .slice a' n' c'] w fun e w' => e = .returned (.int .i64 (checkErr m F L)) ∧ Below w.heap.size w w' := by
  have hfam := refFamily_calls m a n c F w h
  have HL := hid_ (fun W (hW : Below w.heap.size w W) => h'.below hW (Nat.le_refl _))
  have HF := hid_ (fun W (hW : Below w.heap.size w W) => h.below hW (Nat.le_refl _))
  by_cases he : famErr m F = 0
  · rw [he] at hfam
    have Hfam := hid_ hfam; clear hfam
    have Hset := hid_ (set_five he)
    have hn6 : n ≤ 6 := by rw [← h.len]; exact (famErr_ok he).2.1
    have Hval := hid_ (fun W hW => refValidate_calls a' n' c' L W hW hs)
    by_cases hv : validT L = 0
    · rw [hv] at Hval
      have Hval' := hid_ Hval.out; clear Hval
      have hg := good_of hv
      have hfl := hg.flat
      have Hcc := hid_ (fun W hW => sounds_calls a' n' c' L W hW (by omega))
      cases ho : IsOrd L.flatten m with
      | false =>
        have He : Hid (checkErr m F L = 9) := hid_ (by rw [checkErr, if_pos he, if_pos hv, ho]; rfl)
        rw [He.out]
        obtain ⟨FL, hFL⟩ : ∃ FL, L.flatten = FL := ⟨_, rfl⟩
        rw [hFL] at ho Hcc
        have Ho := hid_ ho
        clear he hv hg ho h h' hFL hfl
        go_enter Try.func19, Try.ntmps19
        go_wp2_with fail
        refine Hfam.out.mono ?_
        rintro e w1 ⟨rfl, q, hq⟩
        have hb1 : Below w.heap.size w w1 := by rw [hq]; exact below_drewN (Below.refl _ _) q
        clear hq
        have H2 := hid_ (Hval'.out w1 (HL.out w1 hb1))
        go_wp2_with fail
        refine H2.out.mono ?_
        rintro e w2 ⟨rfl, hb2⟩
        have hb2' := below_then hb1 hb2
        have H3 := hid_ (Hcc.out w2 (HL.out w2 hb2'))
        clear hb1 hb2
        go_wp2_with fail
        refine H3.out.mono ?_
        rintro e w3 ⟨v3, rfl, hm3⟩
        obtain ⟨a3, c3, rfl, hI3⟩ := hm3.at_
        have H4 := hid_ (isOrder_as hI3 Ho.out)
        have hb3 := below_then hb2' hm3.bel
        clear hm3 hI3
        go_wp2_with fail
        refine H4.out.mono ?_
        rintro e w4 ⟨rfl, rfl⟩
        go_wp2
        go_ret
        exact ⟨rfl, hb3⟩
      | true =>
        have Hnm := hid_ (fun s hs => @named_len L hv s hs)
        have He : Hid (checkErr m F L = if nameAll F L then 0 else 7) := hid_ (by rw [checkErr, if_pos he, if_pos hv, ho]; rfl)
        obtain ⟨FL, hFL⟩ : ∃ FL, L.flatten = FL := ⟨_, rfl⟩
        rw [hFL] at ho Hcc
        have Ho := hid_ ho
        clear hFL
        have Hlen := hid_ h.len
        clear he hv hg ho h h'
        go_enter Try.func19, Try.ntmps19
        go_wp2_with fail
        refine Hfam.out.mono ?_
        rintro e w1 ⟨rfl, q, hq⟩
        have hb1 : Below w.heap.size w w1 := by rw [hq]; exact below_drewN (Below.refl _ _) q
        clear hq
        have H2 := hid_ (Hval'.out w1 (HL.out w1 hb1))
        go_wp2_with fail
        refine H2.out.mono ?_
        rintro e w2 ⟨rfl, hb2⟩
        have hb2' := below_then hb1 hb2
        have H3 := hid_ (Hcc.out w2 (HL.out w2 hb2'))
        clear hb1 hb2
        go_wp2_with fail
        refine H3.out.mono ?_
        rintro e w3 ⟨v3, rfl, hm3⟩
        obtain ⟨a3, c3, rfl, hI3⟩ := hm3.at_
        have H4 := hid_ (isOrder_as hI3 Ho.out)
        have hb3 := below_then hb2' hm3.bel
        clear hm3 hI3 hb2'
        go_wp2_with fail
        refine H4.out.mono ?_
        rintro e w4 ⟨rfl, rfl⟩
        clear H2 H3 H4
        go_wp2
        go_loopw [9] (fun i wr => ∃ k : Nat, k ≤ n ∧ i = .int .i64 k ∧ (∀ j, j < k → decide (F.getD j [] ∈ classesS L) = true) ∧ Below w.heap.size w wr) (fun i _ => n - (intOf i).toNat)
        case atStart => exact ⟨0, Nat.zero_le _, rfl, fun _ h => absurd h (by omega), hb3⟩
        case round =>
          obtain ⟨k, hk, rfl, hall, hbel⟩ := hrel
          have Hall := hid_ hall; clear hall
          by_cases hlt : k < n
          · obtain ⟨b, off, a1, n1, c1, rfl, hb, hcell, hrow⟩ := (HF.out wr hbel).cells k hlt
            have hkl : k < F.length := by rw [Hlen.out]; exact hlt
            have hmem : F.getD k [] ∈ F := by rw [List.getD, List.getElem?_eq_getElem hkl, Option.getD_some]; exact List.getElem_mem _
            have Hn := hid_ (refNamed_calls _ _ _ _ _ _ _ _ wr (HL.out wr hbel) hrow hs)
            obtain ⟨g1, g2⟩ := Hnm.out _ (Hset.out _ hmem)
            rw [g1] at Hn
            have Hbel := hid_ hbel
            clear hmem hrow g1 hbel
            cases hd : decide (F.getD k [] ∈ classesS L) with
            | true =>
              have hl : ¬ (namedRes L (F.getD k [])).length = 0 := fun e => g2.1 e (of_decide_eq_true hd)
              have Hd := hid_ hd
              generalize hR : namedRes L (F.getD k []) = R at *
              clear hR hd g2
              go_wp2_with fail
              refine Hn.out.mono ?_
              rintro e w2 ⟨v2, rfl, hm2⟩
              obtain ⟨a2, c2, rfl, -⟩ := hm2.at_
              have hb2 := below_then Hbel.out hm2.bel
              clear hm2
              generalize R.length = r at *
              have hq : ((r : Int) == 0) = false := by simp; omega
              go_wp2
              go_roundw
              case rel => exact ⟨k + 1, by omega, by go_num, lt_snoc Hall.out Hd.out, hb2⟩
              case measure => simp [intOf]; omega
            | false =>
              have hl : (namedRes L (F.getD k [])).length = 0 := g2.2 (of_decide_eq_false hd)
              have Hf : Hid (nameAll F L = false) := hid_ (all_noB hkl hd)
              generalize hR : namedRes L (F.getD k []) = R at *
              clear hR hd g2
              go_wp2_with fail
              refine Hn.out.mono ?_
              rintro e w2 ⟨v2, rfl, hm2⟩
              obtain ⟨a2, c2, rfl, -⟩ := hm2.at_
              have hb2 := below_then Hbel.out hm2.bel
              clear hm2
              rw [hl]
              clear hl
              go_wp2
              go_ret
              exact ⟨by rw [He.out, Hf.out]; rfl, hb2⟩
          · have Hf : Hid (nameAll F L = true) := hid_ (all_yes Hlen.out fun j hj => Hall.out j (by omega))
            go_wp2
            go_ret
            exact ⟨by rw [He.out, Hf.out]; rfl, hbel⟩
    · have He : Hid (checkErr m F L = validT L) := hid_ (by rw [checkErr, if_pos he, if_neg hv])
      rw [He.out]
      clear He
      generalize validT L = er at *
      have hq : (er != 0) = true := by simpa using hv
      have Hval' := hid_ Hval.out; clear Hval hv he
      go_enter Try.func19, Try.ntmps19
      go_wp2_with fail
      refine Hfam.out.mono ?_
      rintro e w1 ⟨rfl, q, hq⟩
      have hb1 : Below w.heap.size w w1 := by rw [hq]; exact below_drewN (Below.refl _ _) q
      clear hq
      have H2 := hid_ (Hval'.out w1 (HL.out w1 hb1))
      go_wp2_with fail
      refine H2.out.mono ?_
      rintro e w2 ⟨rfl, hb2⟩
      go_wp2
      go_ret
      exact ⟨rfl, below_then hb1 hb2⟩
  · have He : Hid (checkErr m F L = famErr m F) := hid_ (if_neg he)
    rw [He.out]
    clear He
    generalize famErr m F = er at *
    have hq : (er != 0) = true := by simpa using he
    have Hfam := hid_ hfam; clear hfam he
    go_enter Try.func19, Try.ntmps19
    go_wp2_with fail
    refine Hfam.out.mono ?_
    rintro e w1 ⟨rfl, q, rfl⟩
    go_wp2
    go_ret
    exact ⟨rfl, below_drewN (Below.refl _ _) q⟩
end Go.Proofs.Ytoopgmoopmbfnaa
