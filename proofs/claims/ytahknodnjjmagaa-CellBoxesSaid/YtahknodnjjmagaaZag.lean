import Derived.Test.YtahknodnjjmagaaZaf
import Derived.Test.YtahknodnjjmagaaZ1
import Derived.Test.YtahknodnjjmagaaZrv
namespace Go.Proofs.Ytahknodnjjmagaa
open Go.RowKit Go.Proofs.Kv Go
attribute [local go_sem] Oper.semAt_some

/-! ### IsBox of the program -/
theorem cell_kept {A A' : World} {p : Addr} {v : Value} {row : Option Nat} (h : A.cell? p = some v) (hg : A.grownBy A' row) (hr : ∀ r, row = some r → ∃ o : Obj, A.heap[r]? = some o ∧ o.isCells = false) : A'.cell? p = some v :=
  StaysN.cell (B := 0) A A' row h hg fun r e => ⟨Nat.zero_le _, hr r e⟩
theorem set_two {W : World} {d i : Nat} {v2 v3 : Value} (x2 : W.cell? ⟨d + i, 0, none⟩ = some v2) (x3 : W.cell? ⟨d + (i + 1), 0, none⟩ = some v3) (u2 u3 : Value) :
    ((W.setCell ⟨d + i, 0, none⟩ u2).setCell ⟨d + (i + 1), 0, none⟩ u3).cell? ⟨d + i, 0, none⟩ = some u2 ∧ ((W.setCell ⟨d + i, 0, none⟩ u2).setCell ⟨d + (i + 1), 0, none⟩ u3).cell? ⟨d + (i + 1), 0, none⟩ = some u3 := by
  refine ⟨?_, ?_⟩
  · rw [World.cell?_setCell_other _ _ _ _ (by simp), World.cell?_setCell_same _ _ _ x2]
  · rw [World.cell?_setCell_same _ _ _ (by rw [World.cell?_setCell_other _ _ _ _ (by simp)]; exact x3)]
set_option maxRecDepth 100000 in
set_option maxHeartbeats 1000000 in
theorem ceIsBox_calls (v : Value) (P : Par) (a : Option Addr) (n c : Nat) (L : List (List Int)) (w : World) (h : ParAt w v P) (hl : ListsAt w a n c L) :
    Calls Try.prog 50 #[v, .slice a n c] w fun e w' => e = .returned (.tuple #[.bool (resBox P L), .int .i64 (errC P L)]) ∧ Below w.heap.size w w' := by
  have HP := hid_ h
  obtain ⟨a1, n1, c1, a2, n2, c2, rfl, h1, h2⟩ := h
  obtain ⟨w1, hw1⟩ : ∃ w1, w.alloc (.cells #[.slice a1 n1 c1, .slice a2 n2 c2] 25) = w1 := ⟨_, rfl⟩
  have cb : Below w.heap.size w w1 := by rw [← hw1]; exact below_alloc _ _
  have q0 : w1.cell? ⟨w.heap.size, 0, none⟩ = some (.slice a1 n1 c1) := by rw [← hw1]; exact cells_alloc _ _ _ 0
  have q1 : w1.cell? ⟨w.heap.size, 1, none⟩ = some (.slice a2 n2 c2) := by rw [← hw1]; exact cells_alloc _ _ _ 1
  have HP1 := hid_ (HP.out.below cb (Nat.le_refl _)); have Hc1 := hid_ cb
  have hlen := hl.len
  have hmf : ∀ (fn : Fn) (first cap : Array Value) (w : World), (Instr.makeFunc fn first cap).run Try.prog w = .ok (.func fn first cap) w := fun _ _ _ _ => rfl
  obtain ⟨u2, hu2⟩ : ∃ u2, w1.alloc (.cells #[.slice a n c] 28) = u2 := ⟨_, rfl⟩
  obtain ⟨u3, hu3⟩ : ∃ u3, u2.alloc (.cells #[.bool false] 4) = u3 := ⟨_, rfl⟩
  obtain ⟨u4, hu4⟩ : ∃ u4, u3.alloc (.cells #[.int .i64 0] 29) = u4 := ⟨_, rfl⟩
  have z1 : w1.heap.size = w.heap.size + 1 := by rw [← hw1]; simp
  have z2 : u2.heap.size = w.heap.size + 2 := by rw [← hu2]; simp [z1]
  have z3 : u3.heap.size = w.heap.size + 3 := by rw [← hu3]; simp [z2]
  have z4 : u4.heap.size = w.heap.size + 4 := by rw [← hu4]; simp [z3]
  have b2 : Below w1.heap.size w1 u2 := by rw [← hu2]; exact below_alloc _ _
  have b3 : Below u2.heap.size u2 u3 := by rw [← hu3]; exact below_alloc _ _
  have b4 : Below u3.heap.size u3 u4 := by rw [← hu4]; exact below_alloc _ _
  have b24 := b3.trans (b4.mono b3.size)
  have b14 := b2.trans (b24.mono b2.size)
  have q04 := cell_below q0 b14; have q14 := cell_below q1 b14
  have q24 : u4.cell? ⟨w.heap.size + 1, 0, none⟩ = some (.slice a n c) := by rw [← z1]; exact cell_below (by rw [← hu2]; exact cells_alloc _ _ _ 0) b24
  have Hr4 : Hid (CF ⟨w.heap.size + 2, 0, none⟩ (.bool false) u4) := hid_ (cf_below (w := u3) (by rw [← z2, ← hu3]; exact ⟨cells_alloc _ _ _ 0, World.frozen?_alloc_at _ _ _ _ (by simp)⟩) b4)
  have He4 : Hid (CF ⟨w.heap.size + 3, 0, none⟩ (.int .i64 0) u4) := hid_ (by rw [← z3, ← hu4]; exact ⟨cells_alloc _ _ _ 0, World.frozen?_alloc_at _ _ _ _ (by simp)⟩)
  have HP4 := hid_ (HP1.out.below b14 (Nat.le_refl _))
  have HL4 := hid_ ((hl.below cb (Nat.le_refl _)).below b14 (Nat.le_refl _))
  have Hb4 : Hid (Below w.heap.size w u4) := hid_ (Hc1.out.trans (b14.mono Hc1.out.size))
  have HE := hid_ (validateCells_calls _ P a n c L u4 HP4.out HL4.out)
  have HR : Hid (resBox P L = if errC P L = 0 then (if n = 0 then false else boxB P L) else false) := hid_ (by rw [resBox, hlen])
  obtain ⟨y2, y2'⟩ := Hr4.out
  obtain ⟨y3, y3'⟩ := He4.out
  have HI := hid_ h1; have HLw := hid_ hl
  clear h1 h2 hl cb b2 b3 b4 b24 b14 q0 q1
  refine (callsIn_wide (n := 9)).1 ?_
  refine callsIn_of_wp_marks Try.func50 rfl trivial ?_ rfl
  simp only [Try.ntmps50, List.size_toArray, List.length_cons, List.length_nil, Nat.reduceAdd, Nat.reduceSub, Array.replicate_succ, Array.replicate_zero, List.push_toArray, List.append_toArray, List.nil_append, List.cons_append]
  gi_wp2
  refine ⟨trivial, (callsIn_wide.2 HE.out).mono ?_⟩
  rintro e w5 ⟨rfl, hb5⟩
  have q05 := cell_below q04 hb5; have q15 := cell_below q14 hb5; have q25 := cell_below q24 hb5
  have Hr5 := hid_ (cf_below ⟨y2, y2'⟩ hb5); have He5 := hid_ (cf_below ⟨y3, y3'⟩ hb5)
  obtain ⟨x2, x2'⟩ := Hr5.out
  obtain ⟨x3, x3'⟩ := He5.out
  have Hb5 : Hid (Below w.heap.size w w5) := hid_ (Hb4.out.trans (hb5.mono Hb4.out.size))
  have hz5 : w.heap.size + 4 ≤ w5.heap.size := by have := hb5.size; omega
  clear hb5 q04 q14 q24 y2 y2' y3 y3' hw1 hu2 hu3 hu4 HE
  by_cases he : errC P L = 0
  · by_cases hn : n = 0
    · have Hr : Hid (resBox P L = false) := hid_ (by rw [HR.out, if_pos he, if_pos hn])
      rw [he]
      have He := hid_ he
      subst hn
      clear he
      gi_wp2
      obtain ⟨r2, r3⟩ := set_two x2 x3 (.bool false) (.int .i64 0)
      have hb6 : Below w.heap.size w ((w5.setCell ⟨w.heap.size + 2, 0, none⟩ (.bool false)).setCell ⟨w.heap.size + (2 + 1), 0, none⟩ (.int .i64 0)) := (Hb5.out.setCell (p := ⟨w.heap.size + 2, 0, none⟩) (by show _ ≤ _ + 2; omega) _).setCell (p := ⟨w.heap.size + (2 + 1), 0, none⟩) (by show _ ≤ _ + (2 + 1); omega) _
      refine ⟨.tuple #[.bool false, .int .i64 0], by simp [results, Try.results50, go_sem, r2, r3], ?_⟩
      exact ⟨by rw [Hr.out, He.out], hb6⟩
    · have Hr : Hid (resBox P L = boxB P L) := hid_ (by rw [HR.out, if_pos he, if_neg hn])
      have hv := (errC_rows he).1
      have h3 := (validP_ok hv).1.2
      have HM := hid_ (cehull_calls a n c L P.sizes.length w5 (HLw.out.below Hb5.out (Nat.le_refl _)) (by omega) (fun k hk => errC_lens he k (by omega)) (by omega))
      have hnz : ((n : Int) == 0) = false := by simpa using hn
      have Hhl := hid_ (hull_len he (by omega))
      have Hge := hid_ (fun j => hull_min he j)
      have HLe : Hid (∀ k, k < (cellsL P.sizes).length → ((cellsL P.sizes).getD k []).length = P.sizes.length) := hid_ (fun k hk => (specB_ok (cells_spec hv hk)).1)
      have HY := hid_ (fun (hh : ∀ j, j < (cellsL P.sizes).length → boxAt L ((cellsL P.sizes).getD j []) = true) => all_yes (p := boxAt L) [] rfl hh)
      have HN := hid_ (fun k (hk : k < (cellsL P.sizes).length) (hh : boxAt L ((cellsL P.sizes).getD k []) = false) => all_no (p := boxAt L) [] hk hh)
      have HB : Hid (boxB P L = (cellsL P.sizes).all (boxAt L)) := hid_ rfl
      have HBa : Hid (∀ c, boxAt L c = (!hB (hullL L) c || hasL L c)) := hid_ (fun c => rfl)
      have h27 := (cells_chain hv).2.2.1
      have He := hid_ he
      have Hn1 : Hid (P.sizes.length = n1) := hid_ HI.out.len
      have Hit := hid_ (fun Bn => cells_iter P a1 n1 c1 Bn hv HI.out.len 8)
      rw [Hn1.out] at Hhl HLe h3
      rw [he]
      clear he hv hlen
      gi_wp2
      refine ⟨trivial, (callsIn_wide.2 HM.out).mono ?_⟩
      rintro e w6 ⟨v6, rfl, hm6⟩
      obtain ⟨a6, c6, rfl, hi6⟩ := hm6.at_
      have q06 := cell_below q05 hm6.bel; have q16 := cell_below q15 hm6.bel; have q26 := cell_below q25 hm6.bel
      have Hr6 := hid_ (cf_below ⟨x2, x2'⟩ hm6.bel); have He6 := hid_ (cf_below ⟨x3, x3'⟩ hm6.bel)
      have Hb6 : Hid (Below w.heap.size w w6) := hid_ (Hb5.out.trans (hm6.bel.mono (by omega)))
      have Hi6 := hid_ hi6
      rw [Hhl.out] at Hi6 ⊢
      have hz6 : w.heap.size + 4 ≤ w6.heap.size := Nat.le_trans hz5 hm6.bel.size
      obtain ⟨w7, hw7⟩ : ∃ w7, w6.alloc (.cells #[.slice a6 n1 c6] 22) = w7 := ⟨_, rfl⟩
      have b7 : Below w6.heap.size w6 w7 := by rw [← hw7]; exact below_alloc _ _
      have z7 : w7.heap.size = w6.heap.size + 1 := by rw [← hw7]; simp
      have q07 := cell_below q06 b7; have q17 := cell_below q16 b7; have q27 := cell_below q26 b7
      have q57 : w7.cell? ⟨w6.heap.size, 0, none⟩ = some (.slice a6 n1 c6) := by rw [← hw7]; exact cells_alloc _ _ _ 0
      have Hr7 := hid_ (cf_below Hr6.out b7); have He7 := hid_ (cf_below He6.out b7)
      have Hb7 : Hid (Below w.heap.size w w7) := hid_ (Hb6.out.trans (b7.mono (by omega)))
      have Hi7 := hid_ (Hi6.out.below b7 (Nat.le_refl _))
      clear hm6 hi6 q05 q15 q25 q06 q16 q26 x2 x2' x3 x3' hz5 b7
      gi_wp2
      refine ⟨trivial, (callsIn_wide.2 (cellsOf_calls _ _ _ w7)).mono ?_⟩
      rintro e w8 ⟨rfl, hw8⟩
      have z8 : w8.heap.size = w7.heap.size + 1 := by rw [hw8]; simp
      have b8 : Below w7.heap.size w7 w8 := by rw [hw8]; exact below_alloc _ _
      have k8 : w8.cell? ⟨w7.heap.size, 0, none⟩ = some (.slice a1 n1 c1) := by rw [hw8]; exact cells_alloc _ _ _ 0
      have q08 := cell_below q07 b8; have q18 := cell_below q17 b8; have q28 := cell_below q27 b8; have q58 := cell_below q57 b8
      have Hr8 := hid_ (cf_below Hr7.out b8); have He8 := hid_ (cf_below He7.out b8)
      have Hb8 : Hid (Below w.heap.size w w8) := hid_ (Hb7.out.trans (b8.mono (by omega)))
      have Hi8 := hid_ (Hi7.out.below b8 (Nat.le_refl _))
      clear q07 q17 q27 q57 hw7 hw8 b8
      gi_wp2
      refine wpIn_rangeFunc_newV (n := 9) rfl (by omega) (gf := 112) (lb := #[.pointer (some ⟨w6.heap.size + 1, 0, none⟩)]) rfl trivial (enters_of Try.func112 (by kernel_rfl) rfl) (Hit.out (w6.heap.size + 1)) rfl
        ?hC
        (fun k W => ((Below w8.heap.size w8 W ∧ Below w.heap.size w W) ∧ (∀ j, j < k → boxAt L ((cellsL P.sizes).getD j []) = true)))
        (fun c k W => c = .ret ∧ ((W.cell? ⟨w.heap.size + 2, 0, none⟩ = some (.bool false) ∧ W.cell? ⟨w.heap.size + 3, 0, none⟩ = some (.int .i64 0)) ∧ (Below w.heap.size w W ∧ boxB P L = false)))
        ?hIG ?hI ?hIx ⟨⟨Below.refl _ _, Hb8.out⟩, fun _ h => absurd h (by omega)⟩ 22
        (fun v b => { tmps := #[.agg #[.slice a1 n1 c1, .slice a2 n2 c2], .slice a n c, .pointer (some ⟨w.heap.size, 0, none⟩), .pointer (some ⟨w.heap.size + 1, 0, none⟩), .pointer (some ⟨w.heap.size + 2, 0, none⟩), .pointer (some ⟨w.heap.size + 3, 0, none⟩), .int .i64 0, .pointer (some ⟨w6.heap.size, 0, none⟩), .pointer (some ⟨b, 0, none⟩),
          .agg #[.slice a1 n1 c1, .slice a2 n2 c2], .slice a n c, .int .i64 0, .int .i64 0, .bool false, .bool false, .slice a n c, .int .i64 n, .bool false, .bool false, undef, .slice a n c, .slice a6 n1 c6, .pointer (some ⟨w.heap.size, 0, none⟩), .slice a1 n1 c1, .func (.func 112) #[] #[.pointer (some ⟨w6.heap.size + 1, 0, none⟩)], v, undef, undef, undef, undef, undef, undef, undef, undef, undef], defers := [] })
        ?hassign ?hC2 ?hbody (fun k A v h => h.1) ?hdone ?hstop
      case hC => exact fun k A v h l o o' hl ho => ⟨by have := h.1; simpa using this, (StaysN.own (B := 0)).put o' h.2 hl ho (Nat.zero_le _)⟩
      case hC2 => exact fun k A v h => ⟨by have := h.1; simp; omega, h.2.alloc _⟩
      case hIG => exact fun k A hA => ⟨by rw [← z7]; exact cell_below k8 hA.1.1, HI.out.below hA.1.2 (Nat.le_refl _)⟩
      case hI => exact fun k => stays_and (stays_and (stays_below (Nat.le_refl _) (Nat.le_refl _)) (stays_below (by omega) (Nat.le_refl _))) stays_pure
      case hIx => exact fun c k => stays_and stays_pure (stays_and (stays_and (stays_cell (by show w.heap.size + 2 < _; omega)) (stays_cell (by show w.heap.size + 3 < _; omega))) (stays_and (stays_below (by omega) (Nat.le_refl _)) stays_pure))
      case hassign =>
        intro l k v W K hY hK
        obtain ⟨av, cv, rfl, -⟩ := IntsAt.own hY.2
        gi_wp2
        exact hK
      case hbody =>
        rintro l k v bb W ⟨⟨hb8, hbw⟩, hall⟩ hkN ⟨hBs, hov⟩ hBW hWz hnew
        rw [Hn1.out] at hov
        obtain ⟨av, cv, rfl, hiv⟩ := IntsAt.own hov
        have Hall := hid_ hall
        have t8 : W.cell? ⟨bb, 0, none⟩ = some (.slice av n1 cv) := by
          unfold World.cell?
          rw [hnew]; rfl
        have t7 := cell_below q58 hb8
        have t3 := cell_below q28 hb8
        have HW := hid_ (ceWithin_calls av n1 cv ((cellsL P.sizes).getD k []) a6 n1 c6 (hullL L) W hiv (Hi8.out.below hb8 (Nat.le_refl _)) (Nat.le_refl _))
        have HT := hid_ (containsFuncL_calls a n c L bb av n1 cv ((cellsL P.sizes).getD k []) W (HLw.out.below hbw (Nat.le_refl _)) t8 hiv)
        have hno := HN.out k hkN
        have hyes := fun hh => lt_snoc (p := fun j => boxAt L ((cellsL P.sizes).getD j []) = true) Hall.out hh
        have hba := HBa.out ((cellsL P.sizes).getD k [])
        have Hr := hid_ (cf_below (cf_below Hr8.out (Below.refl _ _)) hb8); have He9 := hid_ (cf_below He8.out hb8)
        obtain ⟨f2, f2'⟩ := Hr.out
        obtain ⟨f3, f3'⟩ := He9.out
        have Hb8 := hid_ hb8; have Hbw := hid_ hbw
        have hWs : w8.heap.size ≤ W.heap.size := hb8.size
        clear hiv hov hall hb8 hbw hnew
        generalize (cellsL P.sizes).getD k [] = cl at *
        generalize hB (hullL L) cl = x at *
        generalize hasL L cl = y at *
        cases x with
        | false =>
          have Hn := hid_ (hyes (hba.trans rfl))
          clear hno hyes hba
          gi_wp2
          refine ⟨trivial, (CallsIn.inRound l (callsIn_wide.2 HW.out)).mono ?_⟩
          rintro e W2 ⟨rfl, rfl⟩
          gi_wp2
          refine ⟨trivial, ?_⟩
          gi_wp2
          exact ⟨KeepsOthers.refl _, rfl, ⟨Hb8.out, Hbw.out⟩, Hn.out⟩
        | true =>
          cases y with
          | true =>
            have Hn := hid_ (hyes (hba.trans rfl))
            clear hno hyes hba
            gi_wp2
            refine ⟨trivial, (CallsIn.inRound l (callsIn_wide.2 HW.out)).mono ?_⟩
            rintro e W2 ⟨rfl, rfl⟩
            gi_wp2
            refine ⟨trivial, (CallsIn.inRound l (callsIn_wide.2 HT.out)).mono ?_⟩
            rintro e W3 ⟨rfl, hb3⟩
            have Hb3 := hid_ hb3
            clear hb3
            gi_wp2
            exact ⟨keeps_below Hb3.out, Hb3.out.block _ hBs, ⟨Hb8.out.trans (Hb3.out.mono hWs), Hbw.out.trans (Hb3.out.mono Hbw.out.size)⟩, Hn.out⟩
          | false =>
            have Hf := hid_ (HB.out.trans (hno (hba.trans rfl)))
            clear hno hyes hba
            gi_wp2
            refine ⟨trivial, (CallsIn.inRound l (callsIn_wide.2 HW.out)).mono ?_⟩
            rintro e W2 ⟨rfl, rfl⟩
            gi_wp2
            refine ⟨trivial, (CallsIn.inRound l (callsIn_wide.2 HT.out)).mono ?_⟩
            rintro e W3 ⟨rfl, hb3⟩
            have Hb3 := hid_ hb3
            obtain ⟨g2, g2'⟩ := cf_below ⟨f2, f2'⟩ hb3
            obtain ⟨g3, g3'⟩ := cf_below ⟨f3, f3'⟩ hb3
            clear hb3 f2 f2' f3 f3'
            gi_wp2
            obtain ⟨r2, r3⟩ := set_two g2 g3 (.bool false) (.int .i64 0)
            exact ⟨((keeps_below Hb3.out).trans (KeepsOthers.setCell _ _ _)).trans (KeepsOthers.setCell _ _ _), rfl, ⟨r2, r3⟩, ((Hbw.out.trans (Hb3.out.mono Hbw.out.size)).setCell (p := ⟨w.heap.size + 2, 0, none⟩) (by show _ ≤ _ + 2; omega) _).setCell (p := ⟨w.heap.size + 3, 0, none⟩) (by show _ ≤ _ + 3; omega) _, Hf.out⟩
      case hdone =>
        rintro D W hD ⟨⟨hb8, hbw⟩, hall⟩ hK
        have Hf := hid_ (HB.out.trans (HY.out hall))
        obtain ⟨f2, f2'⟩ := cf_below Hr8.out hb8
        obtain ⟨f3, f3'⟩ := cf_below He8.out hb8
        have HK := hid_ hK
        have Hbw := hid_ hbw
        have hWs : w8.heap.size ≤ W.heap.size := hb8.size
        clear hK hbw hb8 hall
        gi_wp2
        obtain ⟨r2, r3⟩ := set_two f2 f3 (.bool true) (.int .i64 0)
        obtain ⟨W1, hW1⟩ : ∃ W1, (W.setCell ⟨w.heap.size + 2, 0, none⟩ (.bool true)).setCell ⟨w.heap.size + (2 + 1), 0, none⟩ (.int .i64 0) = W1 := ⟨_, rfl⟩
        have hb1 : Below w.heap.size w W1 := by rw [← hW1]; exact (Hbw.out.setCell (p := ⟨w.heap.size + 2, 0, none⟩) (by show _ ≤ _ + 2; omega) _).setCell (p := ⟨w.heap.size + (2 + 1), 0, none⟩) (by show _ ≤ _ + (2 + 1); omega) _
        have hK1 : W1.heap[D]? = some (.deferred (some [])) := by rw [← hW1]; exact ((KeepsOthers.setCell _ _ _).trans (KeepsOthers.setCell _ _ _)).same D _ HK.out rfl
        rw [hW1] at r2 r3
        simp only [hW1]
        have hDr : ∀ r, some D = some r → ∃ o : Obj, W1.heap[r]? = some o ∧ o.isCells = false := fun r e => by cases e; exact ⟨_, hK1, rfl⟩
        have s2 := cell_kept r2 (grownBy_putObj' W1 D (.deferred none)) hDr
        have s3 := cell_kept r3 (grownBy_putObj' W1 D (.deferred none)) hDr
        have hb2 : Below w.heap.size w (W1.putObj D (.deferred none)) := hb1.grown (grownBy_putObj' W1 D (.deferred none)) hb1.size fun r e => by cases e; omega
        refine ⟨by simp, .inl ⟨_, _, rfl, run_takeDeferred hK1, ?_⟩⟩
        refine ⟨.tuple #[.bool true, .int .i64 0], by simp [results, Try.results50, go_sem, s2, s3], ?_⟩
        exact ⟨by rw [Hr.out, Hf.out, He.out], hb2⟩
      case hstop =>
        rintro D c k W hD hkN ⟨rfl, ⟨r2, r3⟩, hbw, hbx⟩ hK
        have Hbx := hid_ hbx
        clear hbx
        gi_wp2
        have hDr : ∀ r, some D = some r → ∃ o : Obj, W.heap[r]? = some o ∧ o.isCells = false := fun r e => by cases e; exact ⟨_, hK, rfl⟩
        have s2 := cell_kept r2 (grownBy_putObj' W D (.deferred none)) hDr
        have s3 := cell_kept r3 (grownBy_putObj' W D (.deferred none)) hDr
        have hb2 : Below w.heap.size w (W.putObj D (.deferred none)) := hbw.grown (grownBy_putObj' W D (.deferred none)) hbw.size fun r e => by cases e; omega
        refine ⟨by simp, .inl ⟨_, _, rfl, run_takeDeferred hK, ?_⟩⟩
        refine ⟨.tuple #[.bool false, .int .i64 0], by simp [results, Try.results50, go_sem, s2, s3], ?_⟩
        exact ⟨by rw [Hr.out, Hbx.out, He.out], hb2⟩
  · have hq : (errC P L != 0) = true := by simpa using he
    have Hr : Hid (resBox P L = false) := hid_ (by rw [HR.out, if_neg he])
    obtain ⟨x, hx⟩ : ∃ x, errC P L = x := ⟨_, rfl⟩
    have Hx := hid_ hx
    rw [hx] at hq ⊢
    clear he hx hlen
    gi_wp2
    obtain ⟨r2, r3⟩ := set_two x2 x3 (.bool false) (.int .i64 x)
    have hb6 : Below w.heap.size w ((w5.setCell ⟨w.heap.size + 2, 0, none⟩ (.bool false)).setCell ⟨w.heap.size + (2 + 1), 0, none⟩ (.int .i64 x)) := (Hb5.out.setCell (p := ⟨w.heap.size + 2, 0, none⟩) (by show _ ≤ _ + 2; omega) _).setCell (p := ⟨w.heap.size + (2 + 1), 0, none⟩) (by show _ ≤ _ + (2 + 1); omega) _
    refine ⟨.tuple #[.bool false, .int .i64 x], by simp [results, Try.results50, go_sem, r2, r3], ?_⟩
    exact ⟨by rw [Hr.out, Hx.out], hb6⟩
end Go.Proofs.Ytahknodnjjmagaa
