import Derived.Test.YtliheejcfkhghaaV1
namespace Go.Proofs.Ytliheejcfkhghaa
open Go.RowKit Go.Proofs.Kv Go

/-! ### Text -/
def viE (L : Lx) (s : List Int) : Int := if validL L = 0 then (if itemsB L s = true then 0 else 4) else validL L
def txE (L : Lx) (s : List Int) : Int := if viE L s = 0 then (if 12 < (wordsL L s).length then 3 else 0) else viE L s
def txV (L : Lx) (s : List Int) : List Int := if txE L s = 0 then wordsL L s else []
theorem viE_ok {L : Lx} {s : List Int} (h : viE L s = 0) : validL L = 0 ∧ itemsB L s = true := by
  unfold viE at h
  by_cases h0 : validL L = 0
  · rw [if_pos h0] at h
    by_cases h1 : itemsB L s = true
    · exact ⟨h0, h1⟩
    · rw [if_neg h1] at h; cases h
  · rw [if_neg h0] at h; exact absurd h h0
theorem txE_ok {L : Lx} {s : List Int} (h : txE L s = 0) : validL L = 0 ∧ itemsB L s = true ∧ (wordsL L s).length ≤ 12 := by
  unfold txE at h
  by_cases h0 : viE L s = 0
  · rw [if_pos h0] at h
    by_cases h1 : 12 < (wordsL L s).length
    · rw [if_pos h1] at h; cases h
    · exact ⟨(viE_ok h0).1, (viE_ok h0).2, by omega⟩
  · rw [if_neg h0] at h; exact absurd h h0
theorem areB_app {a b : List Int} {lo hi : Int} (h : areB a lo hi = true) (h' : areB b lo hi = true) : areB (a ++ b) lo hi = true := by
  rw [areB, List.all_append, Bool.and_eq_true]; exact ⟨h, h'⟩
theorem words_in {L : Lx} (g : GoodL L) : ∀ {s : List Int}, itemsB L s = true → s.length ≤ (wordsL L s).length ∧ areB (wordsL L s) 0 5 = true
  | [], _ => ⟨Nat.le_refl _, rfl⟩
  | x :: s, h => by
    obtain ⟨⟨j, rfl, hj⟩, hs⟩ := itemsB_cons.1 h
    obtain ⟨i1, i2⟩ := words_in g hs
    obtain ⟨a1, a2, a3⟩ := g.word j hj
    rw [wordsL_cons, wordL_nat, List.length_append, List.length_cons]
    refine ⟨by change _ ≤ (L.items.getD j I0).word.length + _; omega, areB_app a3 i2⟩
theorem text_split {L : Lx} {s : List Int} (h : txE L s = 0) : splitE L (txV L s) s = 0 ∨ splitE L (txV L s) s = 6 := by
  obtain ⟨h0, h1, h2⟩ := txE_ok h
  obtain ⟨i1, i2⟩ := words_in (validL_ok h0) h1
  have ht : textE L (wordsL L s) = 0 := by unfold textE; rw [if_pos h0, if_neg (by omega), if_pos i2]
  unfold txV; rw [if_pos h]
  unfold splitE; rw [if_pos ht, if_neg (by omega), if_pos h1, if_pos rfl]
  by_cases h3 : okF L s = true
  · rw [if_pos h3]; exact .inl rfl
  · rw [if_neg h3]; exact .inr rfl
theorem long_no {L : Lx} {s : List Int} {Ls : List (List Int)} (h : longX L Ls = false) (hs : s ∈ Ls) : s.length ≤ 300 := by
  unfold longX at h
  rw [Bool.or_eq_false_iff, List.any_eq_false] at h
  have := h.1 s hs
  simpa using this
set_option maxRecDepth 100000 in
set_option maxHeartbeats 4000000 in
theorem validateItems_calls (v : Value) (L : Lx) (a : Option Addr) (n c : Nat) (s : List Int) (w : World) (h : LexAt w v L) (hs : IntsAt w a n c s) :
    Calls Try.prog 83 #[v, .slice a n c] w fun e w' => e = .returned (.int .i64 (viE L s)) ∧ Below w.heap.size w w' := by
  have HP := hid_ h
  obtain ⟨a1, n1, c1, a2, n2, c2, rfl, h1, h2⟩ := h
  obtain ⟨w1, hw1⟩ : ∃ w1, w.alloc (.cells #[.slice a1 n1 c1, .slice a2 n2 c2] 25) = w1 := ⟨_, rfl⟩
  have cb : Below w.heap.size w w1 := by rw [← hw1]; exact below_alloc _ _
  have q0 : w1.cell? ⟨w.heap.size, 0, none⟩ = some (.slice a1 n1 c1) := by rw [← hw1]; exact cells_alloc _ _ _ 0
  have q1 : w1.cell? ⟨w.heap.size, 1, none⟩ = some (.slice a2 n2 c2) := by rw [← hw1]; exact cells_alloc _ _ _ 1
  have HP1 := hid_ (HP.out.below cb (Nat.le_refl _)); have Hc1 := hid_ cb
  have HV := hid_ (taValidate_calls _ L w1 HP1.out)
  have HQ := hid_ (fun W (hW : Below w1.heap.size w1 W) => (⟨cell_below q0 hW, cell_below q1 hW⟩ : _ ∧ _))
  have HI := hid_ (fun W (hW : Below w1.heap.size w1 W) (g : GoodL L) => areItems_calls _ L a n c s W (HP1.out.below hW (Nat.le_refl _)) ((hs.below cb (Nat.le_refl _)).below hW (Nat.le_refl _)) (by have := g.le; omega))
  have HE : Hid (viE L s = if validL L = 0 then (if itemsB L s = true then 0 else 4) else validL L) := hid_ rfl
  clear h1 h2 HP HP1 cb hs
  generalize viE L s = E at *
  by_cases he : validL L = 0
  · have g := validL_ok he
    rw [he, if_pos rfl] at HE
    rw [he] at HV
    clear he
    cases hi : itemsB L s with
    | true =>
      rw [hi, if_pos rfl] at HE
      rw [hi] at HI
      have HI' := hid_ (fun W hW => HI.out W hW g)
      clear hi g HI
      go_enter Try.func83, Try.ntmps83
      go_wp2_with (first
        | (go_at_call 22; (with_reducible refine HV.out.mono ?_); rintro e w2 ⟨rfl, hb2⟩; obtain ⟨q2, r2⟩ := HQ.out w2 hb2)
        | (go_at_call 58; (with_reducible refine (HI'.out _ hb2).mono ?_); rintro e w3 ⟨rfl, hb3⟩))
      go_ret
      exact ⟨by rw [HE.out]; rfl, Hc1.out.trans ((below_then8 hb2 hb3).mono Hc1.out.size)⟩
    | false =>
      rw [hi, if_neg (by decide)] at HE
      rw [hi] at HI
      have HI' := hid_ (fun W hW => HI.out W hW g)
      clear hi g HI
      go_enter Try.func83, Try.ntmps83
      go_wp2_with (first
        | (go_at_call 22; (with_reducible refine HV.out.mono ?_); rintro e w2 ⟨rfl, hb2⟩; obtain ⟨q2, r2⟩ := HQ.out w2 hb2)
        | (go_at_call 58; (with_reducible refine (HI'.out _ hb2).mono ?_); rintro e w3 ⟨rfl, hb3⟩))
      go_ret
      exact ⟨by rw [HE.out]; rfl, Hc1.out.trans ((below_then8 hb2 hb3).mono Hc1.out.size)⟩
  · have hq : (validL L != 0) = true := by simpa using he
    rw [if_neg he] at HE
    generalize validL L = x at *
    clear he
    go_enter Try.func83, Try.ntmps83
    go_wp2_with (go_at_call 22; (with_reducible refine HV.out.mono ?_); rintro e w2 ⟨rfl, hb2⟩)
    go_ret
    exact ⟨by rw [HE.out]; rfl, Hc1.out.trans (hb2.mono Hc1.out.size)⟩
def TextPost (L : Lx) (s : List Int) (w : World) (e : Ending) (w' : World) : Prop := ∃ a c, e = .returned (.tuple #[.slice a (txV L s).length c, .int .i64 (txE L s)]) ∧ IntsAt w' a (txV L s).length c (txV L s) ∧ Below w.heap.size w w'
set_option maxRecDepth 100000 in
set_option maxHeartbeats 4000000 in
theorem taText_calls (v : Value) (L : Lx) (a : Option Addr) (n c : Nat) (s : List Int) (w : World) (h : LexAt w v L) (hs : IntsAt w a n c s) (hn : n ≤ 1000) :
    Calls Try.prog 43 #[v, .slice a n c] w fun e w' => TextPost L s w e w' := by
  have HP := hid_ h
  obtain ⟨a1, n1, c1, a2, n2, c2, rfl, h1, h2⟩ := h
  obtain ⟨w1, hw1⟩ : ∃ w1, w.alloc (.cells #[.slice a1 n1 c1, .slice a2 n2 c2] 25) = w1 := ⟨_, rfl⟩
  have cb : Below w.heap.size w w1 := by rw [← hw1]; exact below_alloc _ _
  have q0 : w1.cell? ⟨w.heap.size, 0, none⟩ = some (.slice a1 n1 c1) := by rw [← hw1]; exact cells_alloc _ _ _ 0
  have q1 : w1.cell? ⟨w.heap.size, 1, none⟩ = some (.slice a2 n2 c2) := by rw [← hw1]; exact cells_alloc _ _ _ 1
  have HP1 := hid_ (HP.out.below cb (Nat.le_refl _)); have Hc1 := hid_ cb
  have HV := hid_ (validateItems_calls _ L a n c s w1 HP1.out (hs.below cb (Nat.le_refl _)))
  have HQ := hid_ (fun W (hW : Below w1.heap.size w1 W) => (⟨cell_below q0 hW, cell_below q1 hW⟩ : _ ∧ _))
  have HW := hid_ (fun W (hW : Below w1.heap.size w1 W) (g : GoodL L) (hi : itemsB L s = true) => tawords_calls _ L a n c s W (HP1.out.below hW (Nat.le_refl _)) ((hs.below cb (Nat.le_refl _)).below hW (Nat.le_refl _)) g hi hn)
  have HX : Hid (txV L s = if txE L s = 0 then wordsL L s else []) := hid_ rfl
  have HE : Hid (txE L s = if viE L s = 0 then (if 12 < (wordsL L s).length then 3 else 0) else viE L s) := hid_ rfl
  clear h1 h2 HP HP1 cb hs
  unfold TextPost
  generalize txV L s = X at *
  generalize txE L s = E at *
  by_cases he : viE L s = 0
  · obtain ⟨h0, hi⟩ := viE_ok he
    have HW' := hid_ (fun W hW => HW.out W hW (validL_ok h0) hi)
    rw [if_pos he] at HE
    rw [he] at HV
    clear he h0 hi HW
    generalize wordsL L s = T at *
    obtain ⟨m, hm⟩ : ∃ m, T.length = m := ⟨_, rfl⟩
    have HM := hid_ hm
    rw [hm] at HE
    clear hm
    by_cases h12 : 12 < m
    · have h12' : 12 < (m : Int) := by omega
      rw [if_pos h12] at HE
      have HX' : Hid (X = []) := hid_ (by rw [HX.out, HE.out]; rfl)
      go_enter Try.func43, Try.ntmps43
      go_wp2_with (first
        | (go_at_call 83; (with_reducible refine HV.out.mono ?_); rintro e w2 ⟨rfl, hb2⟩; obtain ⟨q2, r2⟩ := HQ.out w2 hb2)
        | (go_at_call 60; (with_reducible refine (HW'.out _ hb2).mono ?_); rintro e w3 ⟨v3, rfl, hm3⟩; have hb3 := below_then8 hb2 hm3.bel; obtain ⟨a3, k3, rfl, hi3⟩ := hm3.at_; have Hi3 := hid_ hi3; clear hm3 hi3; rw [HM.out] at Hi3 ⊢))
      go_ret2
      exact ⟨none, 0, by rw [HX'.out, HE.out]; rfl, by rw [HX'.out]; exact IntsAt.nil _ _ _ (by omega), Hc1.out.trans (hb3.mono Hc1.out.size)⟩
    · have h12' : ¬ 12 < (m : Int) := by omega
      rw [if_neg h12] at HE
      have HX' : Hid (X = T) := hid_ (by rw [HX.out, HE.out]; rfl)
      go_enter Try.func43, Try.ntmps43
      go_wp2_with (first
        | (go_at_call 83; (with_reducible refine HV.out.mono ?_); rintro e w2 ⟨rfl, hb2⟩; obtain ⟨q2, r2⟩ := HQ.out w2 hb2)
        | (go_at_call 60; (with_reducible refine (HW'.out _ hb2).mono ?_); rintro e w3 ⟨v3, rfl, hm3⟩; have hb3 := below_then8 hb2 hm3.bel; obtain ⟨a3, k3, rfl, hi3⟩ := hm3.at_; have Hi3 := hid_ hi3; clear hm3 hi3; rw [HM.out] at Hi3 ⊢))
      go_ret2
      exact ⟨a3, k3, by rw [HX'.out, HE.out, HM.out]; rfl, by rw [HX'.out, HM.out]; exact Hi3.out, Hc1.out.trans (hb3.mono Hc1.out.size)⟩
  · have hq : (viE L s != 0) = true := by simpa using he
    rw [if_neg he] at HE
    have HX' : Hid (X = []) := hid_ (by rw [HX.out, HE.out, if_neg he])
    generalize viE L s = x at *
    clear he
    go_enter Try.func43, Try.ntmps43
    go_wp2_with (go_at_call 83; (with_reducible refine HV.out.mono ?_); rintro e w2 ⟨rfl, hb2⟩)
    go_ret2
    exact ⟨none, 0, by rw [HX'.out, HE.out]; rfl, by rw [HX'.out]; exact IntsAt.nil _ _ _ (by omega), Hc1.out.trans (hb2.mono Hc1.out.size)⟩
set_option maxRecDepth 100000 in
set_option maxHeartbeats 4000000 in
theorem r8Text_calls (v : Value) (L : Lx) (a : Option Addr) (n c : Nat) (s : List Int) (w : World) (h : LexAt w v L) (hs : IntsAt w a n c s) (hn : n ≤ 1000) :
    Calls Try.prog 44 #[v, .slice a n c] w fun e w' => TextPost L s w e w' := by
  have HP := hid_ h
  obtain ⟨a1, n1, c1, a2, n2, c2, rfl, h1, h2⟩ := h
  obtain ⟨w1, hw1⟩ : ∃ w1, w.alloc (.cells #[.slice a1 n1 c1, .slice a2 n2 c2] 25) = w1 := ⟨_, rfl⟩
  have cb : Below w.heap.size w w1 := by rw [← hw1]; exact below_alloc _ _
  have q0 : w1.cell? ⟨w.heap.size, 0, none⟩ = some (.slice a1 n1 c1) := by rw [← hw1]; exact cells_alloc _ _ _ 0
  have q1 : w1.cell? ⟨w.heap.size, 1, none⟩ = some (.slice a2 n2 c2) := by rw [← hw1]; exact cells_alloc _ _ _ 1
  have HP1 := hid_ (HP.out.below cb (Nat.le_refl _)); have Hc1 := hid_ cb
  have HV := hid_ (r8Validate_calls _ L w1 HP1.out)
  have HQ := hid_ (fun W (hW : Below w1.heap.size w1 W) => (⟨cell_below q0 hW, cell_below q1 hW⟩ : _ ∧ _))
  have HI := hid_ (fun W (hW : Below w1.heap.size w1 W) (g : GoodL L) => r8items_calls _ L a n c s W (HP1.out.below hW (Nat.le_refl _)) ((hs.below cb (Nat.le_refl _)).below hW (Nat.le_refl _)) (by have := g.le; omega))
  have HW := hid_ (fun W (hW : Below w1.heap.size w1 W) (g : GoodL L) (hi : itemsB L s = true) => r8words_calls _ L a n c s W (HP1.out.below hW (Nat.le_refl _)) ((hs.below cb (Nat.le_refl _)).below hW (Nat.le_refl _)) g hi hn)
  have HX : Hid (txV L s = if txE L s = 0 then wordsL L s else []) := hid_ rfl
  have HE : Hid (txE L s = if viE L s = 0 then (if 12 < (wordsL L s).length then 3 else 0) else viE L s) := hid_ rfl
  have HN : Hid (viE L s = if validL L = 0 then (if itemsB L s = true then 0 else 4) else validL L) := hid_ rfl
  clear h1 h2 HP HP1 cb hs
  unfold TextPost
  generalize txV L s = X at *
  generalize txE L s = E at *
  generalize viE L s = y at *
  by_cases he : validL L = 0
  · have g := validL_ok he
    rw [he, if_pos rfl] at HN
    rw [he] at HV
    clear he
    cases hi : itemsB L s with
    | true =>
      rw [hi, if_pos rfl] at HN
      have HW' := hid_ (fun W hW => HW.out W hW g hi)
      rw [hi] at HI
      have HI' := hid_ (fun W hW => HI.out W hW g)
      rw [HN.out, if_pos rfl] at HE
      clear hi HW HI g
      generalize wordsL L s = T at *
      obtain ⟨m, hm⟩ : ∃ m, T.length = m := ⟨_, rfl⟩
      have HM := hid_ hm
      rw [hm] at HE
      clear hm
      by_cases h12 : 12 < m
      · have h12' : 12 < (m : Int) := by omega
        rw [if_pos h12] at HE
        have HX' : Hid (X = []) := hid_ (by rw [HX.out, HE.out]; rfl)
        go_enter Try.func44, Try.ntmps44
        go_wp2_with (first
          | (go_at_call 23; (with_reducible refine HV.out.mono ?_); rintro e w2 ⟨rfl, hb2⟩; obtain ⟨q2, r2⟩ := HQ.out w2 hb2)
          | (go_at_call 63; (with_reducible refine (HI'.out _ hb2).mono ?_); rintro e w4 ⟨rfl, hb4'⟩; have hb4 := below_then8 hb2 hb4'; obtain ⟨q4, r4⟩ := HQ.out w4 hb4)
          | (go_at_call 64; (with_reducible refine (HW'.out _ hb4).mono ?_); rintro e w3 ⟨v3, rfl, hm3⟩; have hb3 := below_then8 hb4 hm3.bel; obtain ⟨a3, k3, rfl, hi3⟩ := hm3.at_; have Hi3 := hid_ hi3; clear hm3 hi3; rw [HM.out] at Hi3 ⊢))
        go_ret2
        exact ⟨none, 0, by rw [HX'.out, HE.out]; rfl, by rw [HX'.out]; exact IntsAt.nil _ _ _ (by omega), Hc1.out.trans (hb3.mono Hc1.out.size)⟩
      · have h12' : ¬ 12 < (m : Int) := by omega
        rw [if_neg h12] at HE
        have HX' : Hid (X = T) := hid_ (by rw [HX.out, HE.out]; rfl)
        go_enter Try.func44, Try.ntmps44
        go_wp2_with (first
          | (go_at_call 23; (with_reducible refine HV.out.mono ?_); rintro e w2 ⟨rfl, hb2⟩; obtain ⟨q2, r2⟩ := HQ.out w2 hb2)
          | (go_at_call 63; (with_reducible refine (HI'.out _ hb2).mono ?_); rintro e w4 ⟨rfl, hb4'⟩; have hb4 := below_then8 hb2 hb4'; obtain ⟨q4, r4⟩ := HQ.out w4 hb4)
          | (go_at_call 64; (with_reducible refine (HW'.out _ hb4).mono ?_); rintro e w3 ⟨v3, rfl, hm3⟩; have hb3 := below_then8 hb4 hm3.bel; obtain ⟨a3, k3, rfl, hi3⟩ := hm3.at_; have Hi3 := hid_ hi3; clear hm3 hi3; rw [HM.out] at Hi3 ⊢))
        go_ret2
        exact ⟨a3, k3, by rw [HX'.out, HE.out, HM.out]; rfl, by rw [HX'.out, HM.out]; exact Hi3.out, Hc1.out.trans (hb3.mono Hc1.out.size)⟩
    | false =>
      rw [hi, if_neg (by decide)] at HN
      rw [hi] at HI
      have HI' := hid_ (fun W hW => HI.out W hW g)
      rw [HN.out, if_neg (by decide)] at HE
      have HX' : Hid (X = []) := hid_ (by rw [HX.out, HE.out]; rfl)
      clear hi HW HI g
      go_enter Try.func44, Try.ntmps44
      go_wp2_with (first
        | (go_at_call 23; (with_reducible refine HV.out.mono ?_); rintro e w2 ⟨rfl, hb2⟩; obtain ⟨q2, r2⟩ := HQ.out w2 hb2)
        | (go_at_call 63; (with_reducible refine (HI'.out _ hb2).mono ?_); rintro e w4 ⟨rfl, hb4'⟩; have hb4 := below_then8 hb2 hb4'; obtain ⟨q4, r4⟩ := HQ.out w4 hb4))
      go_ret2
      exact ⟨none, 0, by rw [HX'.out, HE.out]; rfl, by rw [HX'.out]; exact IntsAt.nil _ _ _ (by omega), Hc1.out.trans (hb4.mono Hc1.out.size)⟩
  · have hq : (validL L != 0) = true := by simpa using he
    rw [if_neg he] at HN
    rw [HN.out, if_neg he] at HE
    have HX' : Hid (X = []) := hid_ (by rw [HX.out, HE.out, if_neg he])
    generalize validL L = x at *
    clear he
    go_enter Try.func44, Try.ntmps44
    go_wp2_with (go_at_call 23; (with_reducible refine HV.out.mono ?_); rintro e w2 ⟨rfl, hb2⟩)
    go_ret2
    exact ⟨none, 0, by rw [HX'.out, HE.out]; rfl, by rw [HX'.out]; exact IntsAt.nil _ _ _ (by omega), Hc1.out.trans (hb2.mono Hc1.out.size)⟩
/-! ### the law TagTexts -/
set_option maxRecDepth 100000 in
set_option maxHeartbeats 4000000 in
theorem tagTexts_calls (v : Value) (L : Lx) (a : Option Addr) (n c : Nat) (s : List Int) (w : World) (h : LexAt w v L) (hs : IntsAt w a n c s) :
    Calls Try.prog 12 #[v, .slice a n c] w fun e w' => e = .returned (.bool true) ∧ Below w.heap.size w w' := by
  have HP := hid_ h
  obtain ⟨a1, n1, c1, a2, n2, c2, rfl, h1, h2⟩ := h
  obtain ⟨w1, hw1⟩ : ∃ w1, w.alloc (.cells #[.slice a1 n1 c1, .slice a2 n2 c2] 25) = w1 := ⟨_, rfl⟩
  have cb : Below w.heap.size w w1 := by rw [← hw1]; exact below_alloc _ _
  have q0 : w1.cell? ⟨w.heap.size, 0, none⟩ = some (.slice a1 n1 c1) := by rw [← hw1]; exact cells_alloc _ _ _ 0
  have q1 : w1.cell? ⟨w.heap.size, 1, none⟩ = some (.slice a2 n2 c2) := by rw [← hw1]; exact cells_alloc _ _ _ 1
  have HP1 := hid_ (HP.out.below cb (Nat.le_refl _)); have Hc1 := hid_ cb
  have HG := hid_ (long8_calls _ L _ 1 1 [s] _ (HP1.out.below (below_alloc w1 (.cells #[.slice a n c] 26)) (Nat.le_refl _)) (lists1_8 w1 26 (hs.below cb (Nat.le_refl _))))
  have Ha := hid_ (below_alloc w1 (.cells #[.slice a n c] 26))
  have HQ := hid_ (fun W (hW : Below w1.heap.size w1 W) => (⟨cell_below q0 hW, cell_below q1 hW⟩ : _ ∧ _))
  have HA := hid_ (fun W (hW : Below w1.heap.size w1 W) (hn : n ≤ 1000) => taText_calls _ L a n c s W (HP1.out.below hW (Nat.le_refl _)) ((hs.below cb (Nat.le_refl _)).below hW (Nat.le_refl _)) hn)
  have HB := hid_ (fun W (hW : Below w1.heap.size w1 W) (hn : n ≤ 1000) => r8Text_calls _ L a n c s W (HP1.out.below hW (Nat.le_refl _)) ((hs.below cb (Nat.le_refl _)).below hW (Nat.le_refl _)) hn)
  have HC := hid_ (fun W (hW : Below w1.heap.size w1 W) a2 c2 (h2 : IntsAt W a2 (txV L s).length c2 (txV L s)) => taCheckSplit_calls _ L a2 _ c2 _ a n c s W (HP1.out.below hW (Nat.le_refl _)) h2 ((hs.below cb (Nat.le_refl _)).below hW (Nat.le_refl _)))
  have HK := hid_ sane_calls
  have HF := @text_split L s
  have hsl := hs.len
  clear h1 h2 HP HP1 cb hs
  cases hg : longX L [s] with
  | true =>
    rw [hg] at HG
    clear hg HF hsl
    go_enter Try.func12, Try.ntmps12
    go_wp2_with (first
      | (go_at_call 18; (with_reducible refine HG.out.mono ?_); rintro e w2 ⟨rfl, hb2⟩; have Hb2 := hid_ (below_then8 Ha.out hb2); clear hb2)
      | (go_at_call 19; (with_reducible refine (HK.out _).mono ?_); rintro e w3 ⟨rfl, hb3⟩))
    go_ret
    exact ⟨rfl, Hc1.out.trans ((below_then8 Hb2.out hb3).mono Hc1.out.size)⟩
  | false =>
    have hn := long_no hg (s := s) (by simp)
    rw [hg] at HG
    have HA' := hid_ (fun W hW => HA.out W hW (by omega))
    have HB' := hid_ (fun W hW => HB.out W hW (by omega))
    clear hg hn HA HB hsl
    unfold TextPost at HA' HB'
    generalize splitC L (txV L s) s = k at *
    generalize splitE L (txV L s) s = z at *
    generalize txV L s = X at *
    generalize txE L s = y at *
    obtain ⟨m, hm⟩ : ∃ m, X.length = m := ⟨_, rfl⟩
    have hyy : (y != y) = false := by simp
    simp only [hm] at HA' HB' HC
    clear hm
    have HS := hid_ (fun W a2 c2 a3 c3 (h2 : IntsAt W a2 m c2 X) (h3 : IntsAt W a3 m c3 X) => (by have := sameI8_calls a2 m c2 X a3 m c3 X W h2 h3; rw [decide_eq_true rfl] at this; exact this : Calls Try.prog 37 #[.slice a2 m c2, .slice a3 m c3] W fun e w' => e = .returned (.bool true) ∧ ∃ q, w' = W.drewN q))
    by_cases hy : y = 0
    · subst hy
      rcases HF rfl with rfl | rfl
      all_goals
        clear HF
        go_enter Try.func12, Try.ntmps12
        go_wp2_with (first
          | (go_at_call 18; (with_reducible refine HG.out.mono ?_); rintro e w2 ⟨rfl, hb2'⟩; have hb2 := below_then8 Ha.out hb2'; obtain ⟨q2, r2⟩ := HQ.out w2 hb2)
          | (go_at_call 43; (with_reducible refine (HA'.out _ hb2).mono ?_); rintro e w3 ⟨a3, c3, rfl, hi3, hb3'⟩; have hb3 := below_then8 hb2 hb3'; obtain ⟨q3, r3⟩ := HQ.out w3 hb3; have Hi3 := hid_ hi3; clear hi3)
          | (go_at_call 44; (with_reducible refine (HB'.out _ hb3).mono ?_); rintro e w4 ⟨a4, c4, rfl, hi4, hb4'⟩; have hb4 := below_then8 hb3 hb4'; have HSg := hid_ (HS.out _ _ _ _ _ (Hi3.out.below hb4' (Nat.le_refl _)) hi4); have Hi5 := hid_ (Hi3.out.below hb4' (Nat.le_refl _)); clear hi4)
          | (go_at_call 37; (with_reducible refine HSg.out.mono ?_); rintro e w5 ⟨rfl, q5, hw5⟩; have hb5' : Below w4.heap.size w4 w5 := (by rw [hw5]; exact below_drewN (Below.refl _ _) _); have hb5 := below_then8 hb4 hb5'; obtain ⟨q6, r6⟩ := HQ.out w5 hb5; have Hi6 := hid_ (Hi5.out.below hb5' (Nat.le_refl _)); clear hw5)
          | (go_at_call 20; (with_reducible refine (HC.out _ hb5 _ _ Hi6.out).mono ?_); rintro e w6 ⟨rfl, hb6'⟩; have hb6 := below_then8 hb5 hb6')
          | (go_at_call 19; (with_reducible refine (HK.out _).mono ?_); rintro e w7 ⟨rfl, hb7⟩))
        go_ret
        exact ⟨rfl, Hc1.out.trans ((below_then8 hb6 hb7).mono Hc1.out.size)⟩
    · have hq : (y != 0) = true := by simpa using hy
      clear HF hy
      go_enter Try.func12, Try.ntmps12
      go_wp2_with (first
        | (go_at_call 18; (with_reducible refine HG.out.mono ?_); rintro e w2 ⟨rfl, hb2'⟩; have hb2 := below_then8 Ha.out hb2'; obtain ⟨q2, r2⟩ := HQ.out w2 hb2)
        | (go_at_call 43; (with_reducible refine (HA'.out _ hb2).mono ?_); rintro e w3 ⟨a3, c3, rfl, hi3, hb3'⟩; have hb3 := below_then8 hb2 hb3'; obtain ⟨q3, r3⟩ := HQ.out w3 hb3; have Hi3 := hid_ hi3; clear hi3)
        | (go_at_call 44; (with_reducible refine (HB'.out _ hb3).mono ?_); rintro e w4 ⟨a4, c4, rfl, hi4, hb4'⟩; have hb4 := below_then8 hb3 hb4'; have HSg := hid_ (HS.out _ _ _ _ _ (Hi3.out.below hb4' (Nat.le_refl _)) hi4); clear hi4)
        | (go_at_call 37; (with_reducible refine HSg.out.mono ?_); rintro e w5 ⟨rfl, q5, hw5⟩; have hb5' : Below w4.heap.size w4 w5 := (by rw [hw5]; exact below_drewN (Below.refl _ _) _); have hb5 := below_then8 hb4 hb5'; clear hw5)
        | (go_at_call 19; (with_reducible refine (HK.out _).mono ?_); rintro e w7 ⟨rfl, hb7⟩))
      go_ret
      exact ⟨rfl, Hc1.out.trans ((below_then8 hb5 hb7).mono Hc1.out.size)⟩
end Go.Proofs.Ytliheejcfkhghaa
