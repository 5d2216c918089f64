import Derived.Test.YtdabgoiipkmpaaaJn
namespace Go.Proofs.Ytdabgoiipkmpaaa
open Go.RowKit Go.Proofs.Kv

/-! ### CheckPath: the program -/
theorem pairs_below {w w' : World} {a : Option Addr} {n c : Nat} {l : List (Int × Int)} (h : PairsAt w a n c l) (hb : Below w.heap.size w w') : PairsAt w' a n c l := h.below hb (Nat.le_refl _)
set_option maxRecDepth 100000 in
set_option maxHeartbeats 8000000 in
theorem fePath_calls (A : Option Addr) (N C : Nat) (L : List Rl) (a : Option Addr) (n c : Nat) (l : List Int) (a' : Option Addr) (n' c' : Nat) (P : List (Int × Int)) (w : World) (h : RulesAt w A N C L) (hI : IntsAt w a n c l) (hP : PairsAt w a' n' c' P) :
    Calls Try.prog 29 #[.slice A N C, .slice a n c, .slice a' n' c'] w fun e w' => ∃ v, e = .returned (.tuple #[v, .int .i64 ((pathR L l P).2.1 : Int), .int .i64 (pathR L l P).2.2]) ∧ Made 3 w w' v (pathR L l P).1 := by
  obtain ⟨w1, hw1⟩ : ∃ w1, w.alloc (.cells #[.slice a n c] 23) = w1 := ⟨_, rfl⟩
  have c01 : Below w.heap.size w w1 := by rw [← hw1]; exact below_alloc _ _
  have HV := hid_ (feValid_calls A N C L _ 1 1 [l] w1 (h.below c01 (Nat.le_refl _)) (ListsAt.one' hw1 hI))
  have H01 := hid_ c01
  have hN := Nat.le_trans h.le h.small
  have hn' := Nat.le_trans hP.le hP.small
  have HD : Hid (pathR L l P = if errSW L [l] = 0 then (if 60 < P.length then ([], 0, 3) else pathGo L P 0 l) else ([], 0, errSW L [l])) := hid_ rfl
  by_cases he : errSW L [l] = 0
  · rw [he] at HV
    rw [if_pos he] at HD
    by_cases h6 : 60 < n'
    · rw [if_pos (by rw [hP.len]; exact h6)] at HD
      have h6i : (60 : Int) < (n' : Int) := by omega
      clear he h hI hP c01
      go_enter Try.func29, Try.ntmps29
      go_wp2_with (go_at_call 54; (with_reducible refine HV.out.mono ?_); rintro e w3 ⟨rfl, hb3⟩)
      refine bodyPost_ret (v := .tuple #[.slice none 0 0, .int .i64 0, .int .i64 3]) (by simp [results, Try.results29, go_sem]) rfl ?_
      rw [HD.out]
      exact ⟨_, rfl, Made.none_ _ (H01.out.trans (hb3.mono H01.out.size))⟩
    · rw [if_neg (by rw [hP.len]; exact h6)] at HD
      have h6i : ¬ (60 : Int) < (n' : Int) := by omega
      have hw8 := (validW_ok (errSW_ok' he).2).1
      have HCl := hid_ (fun W (hW : Below w.heap.size w W) => clone_calls a n c l W (hI.below hW (Nat.le_refl _)) (by have := hI.len; omega))
      have HR := hid_ (fun W (hW : Below w.heap.size w W) => h.below hW (Nat.le_refl _))
      have HPa := hid_ (fun W (hW : Below w.heap.size w W) => hP.below hW (Nat.le_refl _))
      have HRu := hid_ (fun x W => isRule_calls A N C x W)
      have HLn := hid_ h.len
      have HGo := hid_ (fun k (hk : k < n') v => pathGo_drop L (P := P) (k := k) (by rw [hP.len]; exact hk) v)
      have HEnd : Hid (∀ v, pathGo L (P.drop n') n' v = (v, n', 0)) := hid_ (fun v => by rw [List.drop_eq_nil_of_le (by rw [hP.len]; exact Nat.le_refl _)]; rfl)
      clear he h hI hP c01 hw8
      go_enter Try.func29, Try.ntmps29
      go_wp2_with (first
        | (go_at_call 54; (with_reducible refine HV.out.mono ?_); rintro e w3 ⟨rfl, hb3⟩; have hb3' := H01.out.trans (hb3.mono H01.out.size))
        | (go_at_call 68; (with_reducible refine (HCl.out w3 hb3').mono ?_); rintro e w4 ⟨v4, rfl, hm4⟩; have hm4' := Made.after hb3' hm4))
      go_loopw [10, 29] (fun v i wr => ∃ (k : Nat) (lv : List Int), k ≤ n' ∧ i = .int .i64 k ∧ Made 3 w wr v lv ∧ pathR L l P = pathGo L (P.drop k) k lv) (fun _ i _ => n' - (intOf i).toNat)
      case atStart => exact ⟨0, l, Nat.zero_le _, rfl, hm4', by rw [HD.out]; rfl⟩
      case round =>
        obtain ⟨k, lv, hk, rfl, hm, hgo⟩ := hrel
        have Hm := hid_ hm
        obtain ⟨av, cv, rfl, hiv⟩ := hm.at_
        have hb := hm.bel
        by_cases hlt : k < n'
        · obtain ⟨bp, op_, rfl, hbp, p1, p2⟩ := (HPa.out wr hb).cells k hlt
          rw [HGo.out k hlt] at hgo
          generalize P.getD k (0, 0) = xy at *
          obtain ⟨x, y⟩ := xy
          simp only at p1 p2 hgo
          obtain ⟨w5, hw5⟩ : ∃ w5, wr.alloc (.cells #[.int .i64 x, .int .i64 y] 74) = w5 := ⟨_, rfl⟩
          have c5 : Below wr.heap.size wr w5 := by rw [← hw5]; exact below_alloc _ _
          have x0 : w5.cell? ⟨wr.heap.size, 0, none⟩ = some (.int .i64 x) := by rw [← hw5]; exact cells_alloc _ _ _ 0
          have x1 : w5.cell? ⟨wr.heap.size, 1, none⟩ = some (.int .i64 y) := by rw [← hw5]; exact cells_alloc _ _ _ 1
          have hru := HRu.out x w5
          rw [HLn.out] at hgo
          have Hbr := hid_ (hb.trans (c5.mono hb.size))
          have Hiv := hid_ (hiv.below c5 (Nat.le_refl _))
          have hlv : lv.length = lv.length := rfl
          cases hq : isRl N x with
          | false =>
            rw [hq] at hru hgo
            have Hgo := hid_ hgo
            have Hru := hid_ hru
            clear hru hgo hq hm hiv hb hb3 hb3' hm4 hm4'
            go_wp2_with (go_at_call 69; (with_reducible refine Hru.out.mono ?_); rintro e w6 ⟨rfl, rfl⟩)
            refine bodyPost_ret (v := .tuple #[.slice none 0 0, .int .i64 (k : Int), .int .i64 4]) (by simp [results, Try.results29, go_sem]) rfl ?_
            rw [Hgo.out]
            exact ⟨_, rfl, Made.none_ _ Hbr.out⟩
          | true =>
            rw [hq] at hru hgo
            simp only [if_true] at hgo
            simp only [isRl, Bool.and_eq_true, decide_eq_true_eq] at hq
            obtain ⟨m, rfl⟩ : ∃ m : Nat, x = (m : Int) := ⟨x.toNat, by omega⟩
            rw [Int.toNat_natCast] at hgo
            have hmN : m < N := by omega
            have hmi : (m : Int) < (N : Int) := by omega
            obtain ⟨br, or_, a1, n1, c1, a2, n2, c2, a3, n3, c3, rfl, hbl, k0, k1, k2, k3, hr⟩ := (HR.out w5 Hbr.out).at_ hmN
            have HA := hid_ (fun W (hW : Below w5.heap.size w5 W) => ruApply_calls _ (L.getD m R0) av lv.length cv lv y W (RuleAt.below (v := .agg #[.int .i64 (L.getD m R0).f, .slice a1 n1 c1, .slice a2 n2 c2, .slice a3 n3 c3]) hr hW (Nat.le_refl _)) (Hiv.out.below hW (Nat.le_refl _)))
            change w5.cell? _ = some (.int .i64 (L.getD m R0).f) at k0
            generalize L.getD m R0 = R at *
            have hbd5 : Below w5.heap.size w5 w5.drew := below_drew1 (Below.refl _ _)
            have Hru := hid_ hru
            have HkA := hid_ (fun W (hW : Below w5.heap.size w5 W) => HA.out W hW)
            have hmr : (0 : Int) ≤ (m : Int) := by omega
            by_cases hae : errApply R lv y = 0
            · rw [if_pos hae] at hgo
              have Hgo := hid_ hgo
              rw [hae] at HkA
              clear hru hgo hm hiv hb hb3 hb3' hm4 hm4' hr HA hae
              go_wp2_with (go_at_call 69; (with_reducible refine Hru.out.mono ?_); rintro e w6 ⟨rfl, rfl⟩)
              refine wp_region_held_drew (S := (fun W => W.cell? ⟨wr.heap.size, 0, none⟩ = some (.int .i64 (m : Int)) ∧ W.cell? ⟨wr.heap.size, 1, none⟩ = some (.int .i64 y) ∧ W.cell? ⟨br, or_ + m * 4, none⟩ = some (.int .i64 R.f) ∧ W.cell? ⟨br, or_ + m * 4 + 1, none⟩ = some (.slice a1 n1 c1) ∧ W.cell? ⟨br, or_ + m * 4 + 2, none⟩ = some (.slice a2 n2 c2) ∧ W.cell? ⟨br, or_ + m * 4 + 3, none⟩ = some (.slice a3 n3 c3))) (by kernel_rfl) ⟨x0, x1, k0, k1, k2, k3⟩ (fun hHeld => ?_)
              refine wpAnyH_take (i := 0) (oi := ?oi0a) (v := ?v0a) ?hi0a (by kernel_rfl) ?hf0a (by kernel_rfl) ?hQ0a ?hy0a (by assumption) ?rest0a
              case hi0a => (simp only [List.getElem?_toArray, List.getElem?_cons_zero]; rfl)
              case hf0a => kernel_rfl
              case hQ0a => exact fun _ _ _ h => h
              case hy0a => (refine Or.inl ⟨by rfl, ?_⟩; intro W hSw; (try dsimp only at hSw); obtain ⟨s0, s1, s2, s3, s4, s5⟩ := hSw; go_simp; try with_reducible rfl)
              try simp only [Act.put, List.setIfInBounds_toArray, List.set_cons_zero, List.set_cons_succ]
              refine wpAnyH_take (i := 1) (oi := ?oi1a) (v := ?v1a) ?hi1a (by kernel_rfl) ?hf1a (by kernel_rfl) ?hQ1a ?hy1a (by assumption) ?rest1a
              case hi1a => (simp only [List.getElem?_toArray, List.getElem?_cons_succ, List.getElem?_cons_zero]; rfl)
              case hf1a => kernel_rfl
              case hQ1a => exact fun _ _ _ h => h
              case hy1a => (refine Or.inl ⟨by rfl, ?_⟩; intro W hSw; (try dsimp only at hSw); obtain ⟨s0, s1, s2, s3, s4, s5⟩ := hSw; go_simp; try with_reducible rfl)
              try simp only [Act.put, List.setIfInBounds_toArray, List.set_cons_zero, List.set_cons_succ]
              refine wpAnyH_take (i := 2) (oi := ?oi2a) (v := ?v2a) ?hi2a (by kernel_rfl) ?hf2a (by kernel_rfl) ?hQ2a ?hy2a (by assumption) ?rest2a
              case hi2a => (simp only [List.getElem?_toArray, List.getElem?_cons_succ, List.getElem?_cons_zero]; rfl)
              case hf2a => kernel_rfl
              case hQ2a => exact fun _ _ _ h => h
              case hy2a => (refine Or.inl ⟨by rfl, ?_⟩; intro W hSw; (try dsimp only at hSw); obtain ⟨s0, s1, s2, s3, s4, s5⟩ := hSw; go_simp; try with_reducible rfl)
              try simp only [Act.put, List.setIfInBounds_toArray, List.set_cons_zero, List.set_cons_succ]
              refine wpAnyH_take (i := 3) (oi := ?oi3a) (v := ?v3a) ?hi3a (by kernel_rfl) ?hf3a (by kernel_rfl) ?hQ3a ?hy3a (by assumption) ?rest3a
              case hi3a => (simp only [List.getElem?_toArray, List.getElem?_cons_succ, List.getElem?_cons_zero]; rfl)
              case hf3a => kernel_rfl
              case hQ3a => exact fun _ _ _ h => h
              case hy3a => (refine Or.inl ⟨by rfl, ?_⟩; intro W hSw; (try dsimp only at hSw); obtain ⟨s0, s1, s2, s3, s4, s5⟩ := hSw; go_simp; try with_reducible rfl)
              try simp only [Act.put, List.setIfInBounds_toArray, List.set_cons_zero, List.set_cons_succ]
              refine wpAnyH_take (i := 4) (oi := ?oi4a) (v := ?v4a) ?hi4a (by kernel_rfl) ?hf4a (by kernel_rfl) ?hQ4a ?hy4a (by assumption) ?rest4a
              case hi4a => (simp only [List.getElem?_toArray, List.getElem?_cons_succ, List.getElem?_cons_zero]; rfl)
              case hf4a => kernel_rfl
              case hQ4a => exact fun _ _ _ h => h
              case hy4a => (refine Or.inl ⟨by rfl, ?_⟩; intro W hSw; (try dsimp only at hSw); obtain ⟨s0, s1, s2, s3, s4, s5⟩ := hSw; go_simp; try with_reducible rfl)
              try simp only [Act.put, List.setIfInBounds_toArray, List.set_cons_zero, List.set_cons_succ]
              refine wpAnyH_take (i := 5) (oi := ?oi5a) (v := ?v5a) ?hi5a (by kernel_rfl) ?hf5a (by kernel_rfl) ?hQ5a ?hy5a (by assumption) ?rest5a
              case hi5a => (simp only [List.getElem?_toArray, List.getElem?_cons_succ, List.getElem?_cons_zero]; rfl)
              case hf5a => kernel_rfl
              case hQ5a => exact fun _ _ _ h => h
              case hy5a => (refine Or.inl ⟨by rfl, ?_⟩; intro W hSw; (try dsimp only at hSw); obtain ⟨s0, s1, s2, s3, s4, s5⟩ := hSw; go_simp; try with_reducible rfl)
              try simp only [Act.put, List.setIfInBounds_toArray, List.set_cons_zero, List.set_cons_succ]
              refine wpAnyH_take (i := 6) (oi := ?oi6a) (v := ?v6a) ?hi6a (by kernel_rfl) ?hf6a (by kernel_rfl) ?hQ6a ?hy6a (by assumption) ?rest6a
              case hi6a => (simp only [List.getElem?_toArray, List.getElem?_cons_succ, List.getElem?_cons_zero]; rfl)
              case hf6a => kernel_rfl
              case hQ6a => exact fun _ _ _ h => h
              case hy6a => (refine Or.inl ⟨by rfl, ?_⟩; intro W hSw; (try dsimp only at hSw); obtain ⟨s0, s1, s2, s3, s4, s5⟩ := hSw; go_simp; try with_reducible rfl)
              try simp only [Act.put, List.setIfInBounds_toArray, List.set_cons_zero, List.set_cons_succ]
              refine wpAnyH_take (i := 7) (oi := ?oi7a) (v := ?v7a) ?hi7a (by kernel_rfl) ?hf7a (by kernel_rfl) ?hQ7a ?hy7a (by assumption) ?rest7a
              case hi7a => (simp only [List.getElem?_toArray, List.getElem?_cons_succ, List.getElem?_cons_zero]; rfl)
              case hf7a => kernel_rfl
              case hQ7a => exact fun _ _ _ h => h
              case hy7a => (refine Or.inl ⟨by rfl, ?_⟩; intro W hSw; (try dsimp only at hSw); obtain ⟨s0, s1, s2, s3, s4, s5⟩ := hSw; go_simp; try with_reducible rfl)
              try simp only [Act.put, List.setIfInBounds_toArray, List.set_cons_zero, List.set_cons_succ]
              refine wpAnyH_ready (rs := [8]) (by kernel_rfl) (by simp) ?_
              refine AllReadyH.cons (o := _) (by (simp only [List.getElem?_toArray, List.getElem?_cons_succ, List.getElem?_cons_zero]; rfl)) (fun K hK => ?_) AllReadyH.nil
              go_simp
              (go_at_call 70; (with_reducible refine (HkA.out _ hbd5).mono ?_); rintro e w7 ⟨v7, rfl, hm7⟩; have hb57 := hbd5.trans (hm7.bel.mono hbd5.size))
              refine hK.out _ _ ?_ (fun hHeld2 => ?_)
              · exact ⟨cell_below x0 hb57, cell_below x1 hb57, cell_below k0 hb57, cell_below k1 hb57, cell_below k2 hb57, cell_below k3 hb57⟩
              clear hK K
              try simp only [Act.put, List.setIfInBounds_toArray, List.set_cons_zero, List.set_cons_succ]
              refine wpAnyH_take (i := 9) (oi := ?oi9a) (v := ?v9a) ?hi9a (by kernel_rfl) ?hf9a (by kernel_rfl) ?hQ9a ?hy9a (by assumption) ?rest9a
              case hi9a => (simp only [List.getElem?_toArray, List.getElem?_cons_succ, List.getElem?_cons_zero]; rfl)
              case hf9a => kernel_rfl
              case hQ9a => exact fun _ _ _ h => h
              case hy9a => (refine Or.inl ⟨by rfl, ?_⟩; intro W hSw; (try dsimp only at hSw); obtain ⟨s0, s1, s2, s3, s4, s5⟩ := hSw; go_simp; try with_reducible rfl)
              try simp only [Act.put, List.setIfInBounds_toArray, List.set_cons_zero, List.set_cons_succ]
              refine wpAnyH_take (i := 10) (oi := ?oi10a) (v := ?v10a) ?hi10a (by kernel_rfl) ?hf10a (by kernel_rfl) ?hQ10a ?hy10a (by assumption) ?rest10a
              case hi10a => (simp only [List.getElem?_toArray, List.getElem?_cons_succ, List.getElem?_cons_zero]; rfl)
              case hf10a => kernel_rfl
              case hQ10a => exact fun _ _ _ h => h
              case hy10a => (refine Or.inl ⟨by rfl, ?_⟩; intro W hSw; (try dsimp only at hSw); obtain ⟨s0, s1, s2, s3, s4, s5⟩ := hSw; go_simp; try with_reducible rfl)
              try simp only [Act.put, List.setIfInBounds_toArray, List.set_cons_zero, List.set_cons_succ]
              refine wpAnyH_take (i := 11) (oi := ?oi11a) (v := ?v11a) ?hi11a (by kernel_rfl) ?hf11a (by kernel_rfl) ?hQ11a ?hy11a (by assumption) ?rest11a
              case hi11a => (simp only [List.getElem?_toArray, List.getElem?_cons_succ, List.getElem?_cons_zero]; rfl)
              case hf11a => kernel_rfl
              case hQ11a => exact fun _ _ _ h => h
              case hy11a => (refine Or.inl ⟨by rfl, ?_⟩; intro W hSw; (try dsimp only at hSw); obtain ⟨s0, s1, s2, s3, s4, s5⟩ := hSw; go_simp; try with_reducible rfl)
              try simp only [Act.put, List.setIfInBounds_toArray, List.set_cons_zero, List.set_cons_succ]
              refine wpAnyH_take (i := 12) (oi := ?oi12a) (v := ?v12a) ?hi12a (by kernel_rfl) ?hf12a (by kernel_rfl) ?hQ12a ?hy12a (by assumption) ?rest12a
              case hi12a => (simp only [List.getElem?_toArray, List.getElem?_cons_succ, List.getElem?_cons_zero]; rfl)
              case hf12a => kernel_rfl
              case hQ12a => exact fun _ _ _ h => h
              case hy12a => (refine Or.inl ⟨by rfl, ?_⟩; intro W hSw; (try dsimp only at hSw); obtain ⟨s0, s1, s2, s3, s4, s5⟩ := hSw; go_simp; try with_reducible rfl)
              try simp only [Act.put, List.setIfInBounds_toArray, List.set_cons_zero, List.set_cons_succ]
              refine wpAnyH_take (i := 13) (oi := ?oi13a) (v := ?v13a) ?hi13a (by kernel_rfl) ?hf13a (by kernel_rfl) ?hQ13a ?hy13a (by assumption) ?rest13a
              case hi13a => (simp only [List.getElem?_toArray, List.getElem?_cons_succ, List.getElem?_cons_zero]; rfl)
              case hf13a => kernel_rfl
              case hQ13a => exact fun _ _ _ h => h
              case hy13a => (refine Or.inl ⟨by rfl, ?_⟩; intro W hSw; (try dsimp only at hSw); obtain ⟨s0, s1, s2, s3, s4, s5⟩ := hSw; go_simp; try with_reducible rfl)
              try simp only [Act.put, List.setIfInBounds_toArray, List.set_cons_zero, List.set_cons_succ]
              refine wpAnyH_done (by kernel_rfl) ?_ _
              clear hHeld hHeld2
              go_wp2_with fail
              go_roundw
              case rel => exact ⟨k + 1, _, by omega, by go_num, Made.after (Hbr.out.trans (hbd5.mono Hbr.out.size)) hm7, Hgo.out⟩
              case measure => simp [intOf]; omega
            · rw [if_neg hae] at hgo
              have Hgo := hid_ hgo
              have hq2 : (errApply R lv y != 0) = true := by simpa using hae
              generalize errApply R lv y = ea at *
              clear hru hgo hm hiv hb hb3 hb3' hm4 hm4' hr HA hae
              go_wp2_with (go_at_call 69; (with_reducible refine Hru.out.mono ?_); rintro e w6 ⟨rfl, rfl⟩)
              refine wp_region_held_drew (S := (fun W => W.cell? ⟨wr.heap.size, 0, none⟩ = some (.int .i64 (m : Int)) ∧ W.cell? ⟨wr.heap.size, 1, none⟩ = some (.int .i64 y) ∧ W.cell? ⟨br, or_ + m * 4, none⟩ = some (.int .i64 R.f) ∧ W.cell? ⟨br, or_ + m * 4 + 1, none⟩ = some (.slice a1 n1 c1) ∧ W.cell? ⟨br, or_ + m * 4 + 2, none⟩ = some (.slice a2 n2 c2) ∧ W.cell? ⟨br, or_ + m * 4 + 3, none⟩ = some (.slice a3 n3 c3))) (by kernel_rfl) ⟨x0, x1, k0, k1, k2, k3⟩ (fun hHeld => ?_)
              refine wpAnyH_take (i := 0) (oi := ?oi0b) (v := ?v0b) ?hi0b (by kernel_rfl) ?hf0b (by kernel_rfl) ?hQ0b ?hy0b (by assumption) ?rest0b
              case hi0b => (simp only [List.getElem?_toArray, List.getElem?_cons_zero]; rfl)
              case hf0b => kernel_rfl
              case hQ0b => exact fun _ _ _ h => h
              case hy0b => (refine Or.inl ⟨by rfl, ?_⟩; intro W hSw; (try dsimp only at hSw); obtain ⟨s0, s1, s2, s3, s4, s5⟩ := hSw; go_simp; try with_reducible rfl)
              try simp only [Act.put, List.setIfInBounds_toArray, List.set_cons_zero, List.set_cons_succ]
              refine wpAnyH_take (i := 1) (oi := ?oi1b) (v := ?v1b) ?hi1b (by kernel_rfl) ?hf1b (by kernel_rfl) ?hQ1b ?hy1b (by assumption) ?rest1b
              case hi1b => (simp only [List.getElem?_toArray, List.getElem?_cons_succ, List.getElem?_cons_zero]; rfl)
              case hf1b => kernel_rfl
              case hQ1b => exact fun _ _ _ h => h
              case hy1b => (refine Or.inl ⟨by rfl, ?_⟩; intro W hSw; (try dsimp only at hSw); obtain ⟨s0, s1, s2, s3, s4, s5⟩ := hSw; go_simp; try with_reducible rfl)
              try simp only [Act.put, List.setIfInBounds_toArray, List.set_cons_zero, List.set_cons_succ]
              refine wpAnyH_take (i := 2) (oi := ?oi2b) (v := ?v2b) ?hi2b (by kernel_rfl) ?hf2b (by kernel_rfl) ?hQ2b ?hy2b (by assumption) ?rest2b
              case hi2b => (simp only [List.getElem?_toArray, List.getElem?_cons_succ, List.getElem?_cons_zero]; rfl)
              case hf2b => kernel_rfl
              case hQ2b => exact fun _ _ _ h => h
              case hy2b => (refine Or.inl ⟨by rfl, ?_⟩; intro W hSw; (try dsimp only at hSw); obtain ⟨s0, s1, s2, s3, s4, s5⟩ := hSw; go_simp; try with_reducible rfl)
              try simp only [Act.put, List.setIfInBounds_toArray, List.set_cons_zero, List.set_cons_succ]
              refine wpAnyH_take (i := 3) (oi := ?oi3b) (v := ?v3b) ?hi3b (by kernel_rfl) ?hf3b (by kernel_rfl) ?hQ3b ?hy3b (by assumption) ?rest3b
              case hi3b => (simp only [List.getElem?_toArray, List.getElem?_cons_succ, List.getElem?_cons_zero]; rfl)
              case hf3b => kernel_rfl
              case hQ3b => exact fun _ _ _ h => h
              case hy3b => (refine Or.inl ⟨by rfl, ?_⟩; intro W hSw; (try dsimp only at hSw); obtain ⟨s0, s1, s2, s3, s4, s5⟩ := hSw; go_simp; try with_reducible rfl)
              try simp only [Act.put, List.setIfInBounds_toArray, List.set_cons_zero, List.set_cons_succ]
              refine wpAnyH_take (i := 4) (oi := ?oi4b) (v := ?v4b) ?hi4b (by kernel_rfl) ?hf4b (by kernel_rfl) ?hQ4b ?hy4b (by assumption) ?rest4b
              case hi4b => (simp only [List.getElem?_toArray, List.getElem?_cons_succ, List.getElem?_cons_zero]; rfl)
              case hf4b => kernel_rfl
              case hQ4b => exact fun _ _ _ h => h
              case hy4b => (refine Or.inl ⟨by rfl, ?_⟩; intro W hSw; (try dsimp only at hSw); obtain ⟨s0, s1, s2, s3, s4, s5⟩ := hSw; go_simp; try with_reducible rfl)
              try simp only [Act.put, List.setIfInBounds_toArray, List.set_cons_zero, List.set_cons_succ]
              refine wpAnyH_take (i := 5) (oi := ?oi5b) (v := ?v5b) ?hi5b (by kernel_rfl) ?hf5b (by kernel_rfl) ?hQ5b ?hy5b (by assumption) ?rest5b
              case hi5b => (simp only [List.getElem?_toArray, List.getElem?_cons_succ, List.getElem?_cons_zero]; rfl)
              case hf5b => kernel_rfl
              case hQ5b => exact fun _ _ _ h => h
              case hy5b => (refine Or.inl ⟨by rfl, ?_⟩; intro W hSw; (try dsimp only at hSw); obtain ⟨s0, s1, s2, s3, s4, s5⟩ := hSw; go_simp; try with_reducible rfl)
              try simp only [Act.put, List.setIfInBounds_toArray, List.set_cons_zero, List.set_cons_succ]
              refine wpAnyH_take (i := 6) (oi := ?oi6b) (v := ?v6b) ?hi6b (by kernel_rfl) ?hf6b (by kernel_rfl) ?hQ6b ?hy6b (by assumption) ?rest6b
              case hi6b => (simp only [List.getElem?_toArray, List.getElem?_cons_succ, List.getElem?_cons_zero]; rfl)
              case hf6b => kernel_rfl
              case hQ6b => exact fun _ _ _ h => h
              case hy6b => (refine Or.inl ⟨by rfl, ?_⟩; intro W hSw; (try dsimp only at hSw); obtain ⟨s0, s1, s2, s3, s4, s5⟩ := hSw; go_simp; try with_reducible rfl)
              try simp only [Act.put, List.setIfInBounds_toArray, List.set_cons_zero, List.set_cons_succ]
              refine wpAnyH_take (i := 7) (oi := ?oi7b) (v := ?v7b) ?hi7b (by kernel_rfl) ?hf7b (by kernel_rfl) ?hQ7b ?hy7b (by assumption) ?rest7b
              case hi7b => (simp only [List.getElem?_toArray, List.getElem?_cons_succ, List.getElem?_cons_zero]; rfl)
              case hf7b => kernel_rfl
              case hQ7b => exact fun _ _ _ h => h
              case hy7b => (refine Or.inl ⟨by rfl, ?_⟩; intro W hSw; (try dsimp only at hSw); obtain ⟨s0, s1, s2, s3, s4, s5⟩ := hSw; go_simp; try with_reducible rfl)
              try simp only [Act.put, List.setIfInBounds_toArray, List.set_cons_zero, List.set_cons_succ]
              refine wpAnyH_ready (rs := [8]) (by kernel_rfl) (by simp) ?_
              refine AllReadyH.cons (o := _) (by (simp only [List.getElem?_toArray, List.getElem?_cons_succ, List.getElem?_cons_zero]; rfl)) (fun K hK => ?_) AllReadyH.nil
              go_simp
              (go_at_call 70; (with_reducible refine (HkA.out _ hbd5).mono ?_); rintro e w7 ⟨v7, rfl, hm7⟩; have hb57 := hbd5.trans (hm7.bel.mono hbd5.size))
              refine hK.out _ _ ?_ (fun hHeld2 => ?_)
              · exact ⟨cell_below x0 hb57, cell_below x1 hb57, cell_below k0 hb57, cell_below k1 hb57, cell_below k2 hb57, cell_below k3 hb57⟩
              clear hK K
              try simp only [Act.put, List.setIfInBounds_toArray, List.set_cons_zero, List.set_cons_succ]
              refine wpAnyH_take (i := 9) (oi := ?oi9b) (v := ?v9b) ?hi9b (by kernel_rfl) ?hf9b (by kernel_rfl) ?hQ9b ?hy9b (by assumption) ?rest9b
              case hi9b => (simp only [List.getElem?_toArray, List.getElem?_cons_succ, List.getElem?_cons_zero]; rfl)
              case hf9b => kernel_rfl
              case hQ9b => exact fun _ _ _ h => h
              case hy9b => (refine Or.inl ⟨by rfl, ?_⟩; intro W hSw; (try dsimp only at hSw); obtain ⟨s0, s1, s2, s3, s4, s5⟩ := hSw; go_simp; try with_reducible rfl)
              try simp only [Act.put, List.setIfInBounds_toArray, List.set_cons_zero, List.set_cons_succ]
              refine wpAnyH_take (i := 10) (oi := ?oi10b) (v := ?v10b) ?hi10b (by kernel_rfl) ?hf10b (by kernel_rfl) ?hQ10b ?hy10b (by assumption) ?rest10b
              case hi10b => (simp only [List.getElem?_toArray, List.getElem?_cons_succ, List.getElem?_cons_zero]; rfl)
              case hf10b => kernel_rfl
              case hQ10b => exact fun _ _ _ h => h
              case hy10b => (refine Or.inl ⟨by rfl, ?_⟩; intro W hSw; (try dsimp only at hSw); obtain ⟨s0, s1, s2, s3, s4, s5⟩ := hSw; go_simp; try with_reducible rfl)
              try simp only [Act.put, List.setIfInBounds_toArray, List.set_cons_zero, List.set_cons_succ]
              refine wpAnyH_take (i := 11) (oi := ?oi11b) (v := ?v11b) ?hi11b (by kernel_rfl) ?hf11b (by kernel_rfl) ?hQ11b ?hy11b (by assumption) ?rest11b
              case hi11b => (simp only [List.getElem?_toArray, List.getElem?_cons_succ, List.getElem?_cons_zero]; rfl)
              case hf11b => kernel_rfl
              case hQ11b => exact fun _ _ _ h => h
              case hy11b => (refine Or.inl ⟨by rfl, ?_⟩; intro W hSw; (try dsimp only at hSw); obtain ⟨s0, s1, s2, s3, s4, s5⟩ := hSw; go_simp; try with_reducible rfl)
              try simp only [Act.put, List.setIfInBounds_toArray, List.set_cons_zero, List.set_cons_succ]
              refine wpAnyH_take (i := 12) (oi := ?oi12b) (v := ?v12b) ?hi12b (by kernel_rfl) ?hf12b (by kernel_rfl) ?hQ12b ?hy12b (by assumption) ?rest12b
              case hi12b => (simp only [List.getElem?_toArray, List.getElem?_cons_succ, List.getElem?_cons_zero]; rfl)
              case hf12b => kernel_rfl
              case hQ12b => exact fun _ _ _ h => h
              case hy12b => (refine Or.inl ⟨by rfl, ?_⟩; intro W hSw; (try dsimp only at hSw); obtain ⟨s0, s1, s2, s3, s4, s5⟩ := hSw; go_simp; try with_reducible rfl)
              try simp only [Act.put, List.setIfInBounds_toArray, List.set_cons_zero, List.set_cons_succ]
              refine wpAnyH_take (i := 13) (oi := ?oi13b) (v := ?v13b) ?hi13b (by kernel_rfl) ?hf13b (by kernel_rfl) ?hQ13b ?hy13b (by assumption) ?rest13b
              case hi13b => (simp only [List.getElem?_toArray, List.getElem?_cons_succ, List.getElem?_cons_zero]; rfl)
              case hf13b => kernel_rfl
              case hQ13b => exact fun _ _ _ h => h
              case hy13b => (refine Or.inl ⟨by rfl, ?_⟩; intro W hSw; (try dsimp only at hSw); obtain ⟨s0, s1, s2, s3, s4, s5⟩ := hSw; go_simp; try with_reducible rfl)
              try simp only [Act.put, List.setIfInBounds_toArray, List.set_cons_zero, List.set_cons_succ]
              refine wpAnyH_done (by kernel_rfl) ?_ _
              clear hHeld hHeld2
              go_wp2_with fail
              refine bodyPost_ret (v := .tuple #[.slice none 0 0, .int .i64 (k : Int), .int .i64 6]) (by simp [results, Try.results29, go_sem]) rfl ?_
              rw [Hgo.out]
              exact ⟨_, rfl, Made.none_ _ (Hbr.out.trans (hb57.mono Hbr.out.size))⟩
        · obtain rfl : n' = k := by omega
          rw [HEnd.out] at hgo
          have Hgo := hid_ hgo
          clear hgo hm hiv hb hb3 hb3' hm4 hm4'
          go_wp2
          refine bodyPost_ret (v := .tuple #[.slice av lv.length cv, .int .i64 (n' : Int), .int .i64 0]) (by simp [results, Try.results29, go_sem]) rfl ?_
          rw [Hgo.out]
          exact ⟨_, rfl, Hm.out⟩
  · rw [if_neg he] at HD
    have hq : (errSW L [l] != 0) = true := by simpa using he
    generalize errSW L [l] = x at *
    clear he h hI hP c01
    go_enter Try.func29, Try.ntmps29
    go_wp2_with (go_at_call 54; (with_reducible refine HV.out.mono ?_); rintro e w3 ⟨rfl, hb3⟩)
    refine bodyPost_ret (v := .tuple #[.slice none 0 0, .int .i64 0, .int .i64 x]) (by simp [results, Try.results29, go_sem]) rfl ?_
    rw [HD.out]
    exact ⟨_, rfl, Made.none_ _ (H01.out.trans (hb3.mono H01.out.size))⟩
end Go.Proofs.Ytdabgoiipkmpaaa
