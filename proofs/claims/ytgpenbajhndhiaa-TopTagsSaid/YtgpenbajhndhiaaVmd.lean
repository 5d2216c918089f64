import Derived.Test.YtgpenbajhndhiaaVz
namespace Go.Proofs.Ytgpenbajhndhiaa
open Go.RowKit Go.Proofs.Kv Go

/-! ### the law TagSplits -/
end Go.Proofs.Ytgpenbajhndhiaa
namespace Go.Proofs.Ytgpenbajhndhiaa
open Go.RowKit Go.Proofs.Kv Go

/-! ### Text -/
def viE (L : Lx) (s : List Int) : Int := if validL L = 0 then (if itemsB L s = true then 0 else 4) else validL L
def txE (L : Lx) (s : List Int) : Int := if viE L s = 0 then (if 12 < (wordsL L s).length then 3 else 0) else viE L s
def txV (L : Lx) (s : List Int) : List Int := if txE L s = 0 then wordsL L s else []
theorem viE_ok {L : Lx} {s : List Int} (h : viE L s = 0) : validL L = 0 ∧ itemsB L s = true := by
  unfold viE at h
  by_cases h0 : validL L = 0
  · rw [if_pos h0] at h
    by_cases h1 : itemsB L s = true
    · exact ⟨h0, h1⟩
    · rw [if_neg h1] at h; cases h
  · rw [if_neg h0] at h; exact absurd h h0
theorem txE_ok {L : Lx} {s : List Int} (h : txE L s = 0) : validL L = 0 ∧ itemsB L s = true ∧ (wordsL L s).length ≤ 12 := by
  unfold txE at h
  by_cases h0 : viE L s = 0
  · rw [if_pos h0] at h
    by_cases h1 : 12 < (wordsL L s).length
    · rw [if_pos h1] at h; cases h
    · exact ⟨(viE_ok h0).1, (viE_ok h0).2, by omega⟩
  · rw [if_neg h0] at h; exact absurd h h0
theorem areB_app {a b : List Int} {lo hi : Int} (h : areB a lo hi = true) (h' : areB b lo hi = true) : areB (a ++ b) lo hi = true := by
  rw [areB, List.all_append, Bool.and_eq_true]; exact ⟨h, h'⟩
theorem words_in {L : Lx} (g : GoodL L) : ∀ {s : List Int}, itemsB L s = true → s.length ≤ (wordsL L s).length ∧ areB (wordsL L s) 0 5 = true
  | [], _ => ⟨Nat.le_refl _, rfl⟩
  | x :: s, h => by
    obtain ⟨⟨j, rfl, hj⟩, hs⟩ := itemsB_cons.1 h
    obtain ⟨i1, i2⟩ := words_in g hs
    obtain ⟨a1, a2, a3⟩ := g.word j hj
    rw [wordsL_cons, wordL_nat, List.length_append, List.length_cons]
    refine ⟨by change _ ≤ (L.items.getD j I0).word.length + _; omega, areB_app a3 i2⟩
theorem text_split {L : Lx} {s : List Int} (h : txE L s = 0) : splitE L (txV L s) s = 0 ∨ splitE L (txV L s) s = 6 := by
  obtain ⟨h0, h1, h2⟩ := txE_ok h
  obtain ⟨i1, i2⟩ := words_in (validL_ok h0) h1
  have ht : textE L (wordsL L s) = 0 := by unfold textE; rw [if_pos h0, if_neg (by omega), if_pos i2]
  unfold txV; rw [if_pos h]
  unfold splitE; rw [if_pos ht, if_neg (by omega), if_pos h1, if_pos rfl]
  by_cases h3 : okF L s = true
  · rw [if_pos h3]; exact .inl rfl
  · rw [if_neg h3]; exact .inr rfl
theorem long_no {L : Lx} {s : List Int} {Ls : List (List Int)} (h : longX L Ls = false) (hs : s ∈ Ls) : s.length ≤ 300 := by
  unfold longX at h
  rw [Bool.or_eq_false_iff, List.any_eq_false] at h
  have := h.1 s hs
  simpa using this
set_option maxRecDepth 100000 in
set_option maxHeartbeats 4000000 in
theorem validateItems_calls (v : Value) (L : Lx) (a : Option Addr) (n c : Nat) (s : List Int) (w : World) (h : LexAt w v L) (hs : IntsAt w a n c s) :
    Calls Try.prog 45 #[v, .slice a n c] w fun e w' => e = .returned (.int .i64 (viE L s)) ∧ Below w.heap.size w w' := by
  have HP := hid_ h
  obtain ⟨a1, n1, c1, a2, n2, c2, rfl, h1, h2⟩ := h
  obtain ⟨w1, hw1⟩ : ∃ w1, w.alloc (.cells #[.slice a1 n1 c1, .slice a2 n2 c2] 25) = w1 := ⟨_, rfl⟩
  have cb : Below w.heap.size w w1 := by rw [← hw1]; exact below_alloc _ _
  have q0 : w1.cell? ⟨w.heap.size, 0, none⟩ = some (.slice a1 n1 c1) := by rw [← hw1]; exact cells_alloc _ _ _ 0
  have q1 : w1.cell? ⟨w.heap.size, 1, none⟩ = some (.slice a2 n2 c2) := by rw [← hw1]; exact cells_alloc _ _ _ 1
  have HP1 := hid_ (HP.out.below cb (Nat.le_refl _)); have Hc1 := hid_ cb
  have HV := hid_ (taValidate_calls _ L w1 HP1.out)
  have HQ := hid_ (fun W (hW : Below w1.heap.size w1 W) => (⟨cell_below q0 hW, cell_below q1 hW⟩ : _ ∧ _))
  have HI := hid_ (fun W (hW : Below w1.heap.size w1 W) (g : GoodL L) => areItems_calls _ L a n c s W (HP1.out.below hW (Nat.le_refl _)) ((hs.below cb (Nat.le_refl _)).below hW (Nat.le_refl _)) (by have := g.le; omega))
  have HE : Hid (viE L s = if validL L = 0 then (if itemsB L s = true then 0 else 4) else validL L) := hid_ rfl
  clear h1 h2 HP HP1 cb hs
  generalize viE L s = E at *
  by_cases he : validL L = 0
  · have g := validL_ok he
    rw [he, if_pos rfl] at HE
    rw [he] at HV
    clear he
    cases hi : itemsB L s with
    | true =>
      rw [hi, if_pos rfl] at HE
      rw [hi] at HI
      have HI' := hid_ (fun W hW => HI.out W hW g)
      clear hi g HI
      go_enter Try.func45, Try.ntmps45
      go_wp2_with (first
        | (go_at_call 44; (with_reducible refine HV.out.mono ?_); rintro e w2 ⟨rfl, hb2⟩; obtain ⟨q2, r2⟩ := HQ.out w2 hb2)
        | (go_at_call 36; (with_reducible refine (HI'.out _ hb2).mono ?_); rintro e w3 ⟨rfl, hb3⟩))
      go_ret
      exact ⟨by rw [HE.out]; rfl, Hc1.out.trans ((below_then8 hb2 hb3).mono Hc1.out.size)⟩
    | false =>
      rw [hi, if_neg (by decide)] at HE
      rw [hi] at HI
      have HI' := hid_ (fun W hW => HI.out W hW g)
      clear hi g HI
      go_enter Try.func45, Try.ntmps45
      go_wp2_with (first
        | (go_at_call 44; (with_reducible refine HV.out.mono ?_); rintro e w2 ⟨rfl, hb2⟩; obtain ⟨q2, r2⟩ := HQ.out w2 hb2)
        | (go_at_call 36; (with_reducible refine (HI'.out _ hb2).mono ?_); rintro e w3 ⟨rfl, hb3⟩))
      go_ret
      exact ⟨by rw [HE.out]; rfl, Hc1.out.trans ((below_then8 hb2 hb3).mono Hc1.out.size)⟩
  · have hq : (validL L != 0) = true := by simpa using he
    rw [if_neg he] at HE
    generalize validL L = x at *
    clear he
    go_enter Try.func45, Try.ntmps45
    go_wp2_with (go_at_call 44; (with_reducible refine HV.out.mono ?_); rintro e w2 ⟨rfl, hb2⟩)
    go_ret
    exact ⟨by rw [HE.out]; rfl, Hc1.out.trans (hb2.mono Hc1.out.size)⟩
def TextPost (L : Lx) (s : List Int) (w : World) (e : Ending) (w' : World) : Prop := ∃ a c, e = .returned (.tuple #[.slice a (txV L s).length c, .int .i64 (txE L s)]) ∧ IntsAt w' a (txV L s).length c (txV L s) ∧ Below w.heap.size w w'
set_option maxRecDepth 100000 in
set_option maxHeartbeats 4000000 in
theorem taText_calls (v : Value) (L : Lx) (a : Option Addr) (n c : Nat) (s : List Int) (w : World) (h : LexAt w v L) (hs : IntsAt w a n c s) (hn : n ≤ 1000) :
    Calls Try.prog 23 #[v, .slice a n c] w fun e w' => TextPost L s w e w' := by
  have HP := hid_ h
  obtain ⟨a1, n1, c1, a2, n2, c2, rfl, h1, h2⟩ := h
  obtain ⟨w1, hw1⟩ : ∃ w1, w.alloc (.cells #[.slice a1 n1 c1, .slice a2 n2 c2] 25) = w1 := ⟨_, rfl⟩
  have cb : Below w.heap.size w w1 := by rw [← hw1]; exact below_alloc _ _
  have q0 : w1.cell? ⟨w.heap.size, 0, none⟩ = some (.slice a1 n1 c1) := by rw [← hw1]; exact cells_alloc _ _ _ 0
  have q1 : w1.cell? ⟨w.heap.size, 1, none⟩ = some (.slice a2 n2 c2) := by rw [← hw1]; exact cells_alloc _ _ _ 1
  have HP1 := hid_ (HP.out.below cb (Nat.le_refl _)); have Hc1 := hid_ cb
  have HV := hid_ (validateItems_calls _ L a n c s w1 HP1.out (hs.below cb (Nat.le_refl _)))
  have HQ := hid_ (fun W (hW : Below w1.heap.size w1 W) => (⟨cell_below q0 hW, cell_below q1 hW⟩ : _ ∧ _))
  have HW := hid_ (fun W (hW : Below w1.heap.size w1 W) (g : GoodL L) (hi : itemsB L s = true) => tawords_calls _ L a n c s W (HP1.out.below hW (Nat.le_refl _)) ((hs.below cb (Nat.le_refl _)).below hW (Nat.le_refl _)) g hi hn)
  have HX : Hid (txV L s = if txE L s = 0 then wordsL L s else []) := hid_ rfl
  have HE : Hid (txE L s = if viE L s = 0 then (if 12 < (wordsL L s).length then 3 else 0) else viE L s) := hid_ rfl
  clear h1 h2 HP HP1 cb hs
  unfold TextPost
  generalize txV L s = X at *
  generalize txE L s = E at *
  by_cases he : viE L s = 0
  · obtain ⟨h0, hi⟩ := viE_ok he
    have HW' := hid_ (fun W hW => HW.out W hW (validL_ok h0) hi)
    rw [if_pos he] at HE
    rw [he] at HV
    clear he h0 hi HW
    generalize wordsL L s = T at *
    obtain ⟨m, hm⟩ : ∃ m, T.length = m := ⟨_, rfl⟩
    have HM := hid_ hm
    rw [hm] at HE
    clear hm
    by_cases h12 : 12 < m
    · have h12' : 12 < (m : Int) := by omega
      rw [if_pos h12] at HE
      have HX' : Hid (X = []) := hid_ (by rw [HX.out, HE.out]; rfl)
      go_enter Try.func23, Try.ntmps23
      go_wp2_with (first
        | (go_at_call 45; (with_reducible refine HV.out.mono ?_); rintro e w2 ⟨rfl, hb2⟩; obtain ⟨q2, r2⟩ := HQ.out w2 hb2)
        | (go_at_call 38; (with_reducible refine (HW'.out _ hb2).mono ?_); rintro e w3 ⟨v3, rfl, hm3⟩; have hb3 := below_then8 hb2 hm3.bel; obtain ⟨a3, k3, rfl, hi3⟩ := hm3.at_; have Hi3 := hid_ hi3; clear hm3 hi3; rw [HM.out] at Hi3 ⊢))
      go_ret2
      exact ⟨none, 0, by rw [HX'.out, HE.out]; rfl, by rw [HX'.out]; exact IntsAt.nil _ _ _ (by omega), Hc1.out.trans (hb3.mono Hc1.out.size)⟩
    · have h12' : ¬ 12 < (m : Int) := by omega
      rw [if_neg h12] at HE
      have HX' : Hid (X = T) := hid_ (by rw [HX.out, HE.out]; rfl)
      go_enter Try.func23, Try.ntmps23
      go_wp2_with (first
        | (go_at_call 45; (with_reducible refine HV.out.mono ?_); rintro e w2 ⟨rfl, hb2⟩; obtain ⟨q2, r2⟩ := HQ.out w2 hb2)
        | (go_at_call 38; (with_reducible refine (HW'.out _ hb2).mono ?_); rintro e w3 ⟨v3, rfl, hm3⟩; have hb3 := below_then8 hb2 hm3.bel; obtain ⟨a3, k3, rfl, hi3⟩ := hm3.at_; have Hi3 := hid_ hi3; clear hm3 hi3; rw [HM.out] at Hi3 ⊢))
      go_ret2
      exact ⟨a3, k3, by rw [HX'.out, HE.out, HM.out]; rfl, by rw [HX'.out, HM.out]; exact Hi3.out, Hc1.out.trans (hb3.mono Hc1.out.size)⟩
  · have hq : (viE L s != 0) = true := by simpa using he
    rw [if_neg he] at HE
    have HX' : Hid (X = []) := hid_ (by rw [HX.out, HE.out, if_neg he])
    generalize viE L s = x at *
    clear he
    go_enter Try.func23, Try.ntmps23
    go_wp2_with (go_at_call 45; (with_reducible refine HV.out.mono ?_); rintro e w2 ⟨rfl, hb2⟩)
    go_ret2
    exact ⟨none, 0, by rw [HX'.out, HE.out]; rfl, by rw [HX'.out]; exact IntsAt.nil _ _ _ (by omega), Hc1.out.trans (hb2.mono Hc1.out.size)⟩
/-! ### the law TagTexts -/
end Go.Proofs.Ytgpenbajhndhiaa
namespace Go.Proofs.Ytgpenbajhndhiaa
open Go.RowKit Go.Proofs.Kv Go

/-! ### the longest word with which a text begins -/
def bestP (L : Lx) (l : List Int) : Nat → Nat × Nat
  | 0 => (0, 0)
  | k + 1 => if (begT (wd L k) l && decide ((bestP L l k).2 < (wd L k).length)) = true then (k, (wd L k).length) else bestP L l k
theorem bestP_in {L : Lx} (g : GoodL L) (l : List Int) : ∀ k, k ≤ L.items.length → (bestP L l k).2 ≤ 6 ∧ (bestP L l k).2 ≤ l.length ∧ (bestP L l k).1 < L.items.length ∧ (0 < (bestP L l k).2 → (wd L (bestP L l k).1).length = (bestP L l k).2)
  | 0, _ => ⟨Nat.zero_le _, Nat.zero_le _, by have := g.ge; simp only [bestP]; omega, fun h => absurd h (by simp [bestP])⟩
  | k + 1, hk => by
    have ih := bestP_in g l k (by omega)
    rw [bestP]
    split
    · rename_i h
      rw [Bool.and_eq_true, begT, Bool.and_eq_true, decide_eq_true_eq] at h
      have := (g.word k (by omega)).2.1
      exact ⟨this, h.1.1, by simp only []; omega, fun _ => rfl⟩
    · exact ih
/-- what is taken by the longest words: the items, and how much of the text -/
def grL (L : Lx) (t : List Int) : Nat → List Int × Nat
  | 0 => ([], 0)
  | k + 1 => if (bestP L (t.drop (grL L t k).2) L.items.length).2 = 0 then grL L t k else ((grL L t k).1 ++ [((bestP L (t.drop (grL L t k).2) L.items.length).1 : Int)], (grL L t k).2 + (bestP L (t.drop (grL L t k).2) L.items.length).2)
theorem grL_in {L : Lx} (g : GoodL L) (t : List Int) : ∀ k, (grL L t k).2 ≤ t.length ∧ (grL L t k).1.length ≤ k
  | 0 => ⟨Nat.zero_le _, Nat.zero_le _⟩
  | k + 1 => by
    obtain ⟨i1, i2⟩ := grL_in g t k
    have hb := (bestP_in g (t.drop (grL L t k).2) L.items.length (Nat.le_refl _)).2.1
    rw [List.length_drop] at hb
    rw [grL]
    split
    · exact ⟨i1, by omega⟩
    · refine ⟨by simp only []; omega, by simp only [List.length_append, List.length_singleton]; omega⟩
theorem grL_stop {L : Lx} {t : List Int} {k : Nat} (h : (bestP L (t.drop (grL L t k).2) L.items.length).2 = 0) : ∀ d, grL L t (k + d) = grL L t k
  | 0 => rfl
  | d + 1 => by
    have ih := grL_stop h d
    rw [← Nat.add_assoc, grL, ih, if_pos h]
/-- what the greedy way takes -/
def grA (L : Lx) (t : List Int) : List Int × Nat := grL L t t.length
theorem grA_at {L : Lx} {t : List Int} {k : Nat} (hk : k ≤ t.length) (h : (bestP L (t.drop (grL L t k).2) L.items.length).2 = 0) : grA L t = grL L t k := by
  unfold grA
  have := grL_stop h (t.length - k)
  rwa [Nat.add_sub_cancel' hk] at this
theorem grL_go {L : Lx} {t : List Int} {k : Nat} (h : (bestP L (t.drop (grL L t k).2) L.items.length).2 ≠ 0) : grL L t (k + 1) = ((grL L t k).1 ++ [((bestP L (t.drop (grL L t k).2) L.items.length).1 : Int)], (grL L t k).2 + (bestP L (t.drop (grL L t k).2) L.items.length).2) := by
  rw [grL, if_neg h]
theorem bestP_yes {L : Lx} {l : List Int} {k bb m : Nat} (hB : bestP L l k = (bb, m)) (h1 : begT (wd L k) l = true) (h2 : m < (wd L k).length) : bestP L l (k + 1) = (k, (wd L k).length) := by
  rw [bestP, hB, if_pos (by rw [h1, decide_eq_true h2]; rfl)]
theorem bestP_no {L : Lx} {l : List Int} {k bb m : Nat} (hB : bestP L l k = (bb, m)) (h1 : begT (wd L k) l = false) : bestP L l (k + 1) = (bb, m) := by
  rw [bestP, hB, if_neg (by rw [h1, Bool.false_and]; decide)]
theorem bestP_no' {L : Lx} {l : List Int} {k bb m : Nat} (hB : bestP L l k = (bb, m)) (h2 : ¬ m < (wd L k).length) : bestP L l (k + 1) = (bb, m) := by
  rw [bestP, hB, if_neg (by rw [decide_eq_false h2, Bool.and_false]; decide)]
/-! ### comes -/
theorem run_slice_mid (a : Option Addr) (n c lo hi : Nat) (h1 : lo ≤ hi) (h2 : hi ≤ n) (h3 : n ≤ c) (W : World) :
    (Instr.slice 26 (.slice a n c) (some (.int .i64 (lo : Int))) (some (.int .i64 (hi : Int))) none).run Try.prog W = .ok (.slice (if c = lo then a else a.map (·.add lo)) (hi - lo) (c - lo)) W := by
  have hu := Try.underlying26
  have h4 : hi ≤ c := by omega
  simp [Instr.slice, run_underlying hu, go_sem, Instr.sliceBounds, Instr.sliceBound, h1, h4]
end Go.Proofs.Ytgpenbajhndhiaa
namespace Go.Proofs.Ytgpenbajhndhiaa
open Go.RowKit Go.Proofs.Kv Go

/-! ### comes -/
theorem IntsAt.midAny {w : World} {a : Option Addr} {n c lo hi : Nat} {l : List Int} (h : IntsAt w a n c l) (h1 : lo ≤ hi) (h2 : hi ≤ n) : IntsAt w (if c = lo then a else a.map (·.add lo)) (hi - lo) (c - lo) ((l.drop lo).take (hi - lo)) :=
  (h.dropAny (show lo ≤ n by omega)).take (by omega)
set_option maxRecDepth 100000 in
set_option maxHeartbeats 4000000 in
theorem comes_calls (v : Value) (L : Lx) (a : Option Addr) (n c : Nat) (t : List Int) (p j : Nat) (w : World) (h : LexAt w v L) (ht : IntsAt w a n c t) (g : GoodL L) (hj : j < L.items.length) (hp : p ≤ n) (hn : n ≤ 1000) :
    Calls Try.prog 53 #[v, .slice a n c, .int .i64 (p : Int), .int .i64 (j : Int)] w fun e w' => e = .returned (.bool (begT (wd L j) (t.drop p))) ∧ Below w.heap.size w w' := by
  have HP := hid_ h
  obtain ⟨a1, n1, c1, a2, n2, c2, rfl, h1, h2⟩ := h
  obtain ⟨w1, hw1⟩ : ∃ w1, w.alloc (.cells #[.slice a1 n1 c1, .slice a2 n2 c2] 25) = w1 := ⟨_, rfl⟩
  have cb : Below w.heap.size w w1 := by rw [← hw1]; exact below_alloc _ _
  have q0 : w1.cell? ⟨w.heap.size, 0, none⟩ = some (.slice a1 n1 c1) := by rw [← hw1]; exact cells_alloc _ _ _ 0
  have q1 : w1.cell? ⟨w.heap.size, 1, none⟩ = some (.slice a2 n2 c2) := by rw [← hw1]; exact cells_alloc _ _ _ 1
  have HP1 := hid_ (HP.out.below cb (Nat.le_refl _)); have Hc1 := hid_ cb
  have hl1 := h1.len
  obtain ⟨b, off, a3, m, c3, rfl, -, k0, k1, k2, hw⟩ := (h1.below cb (Nat.le_refl _)).cells j (by omega)
  have ht1 := ht.below cb (Nat.le_refl _)
  have hw' : IntsAt w1 a3 m c3 (wd L j) := hw
  have htl := ht.len
  have hle := ht.le
  have hsm := ht.small
  have h6 := (g.word j hj).2.1
  rw [hw.len] at h6
  have hj1 : j < n1 := by omega
  have HBv : Hid (begT (wd L j) (t.drop p) = (decide (m ≤ n - p) && decide ((t.drop p).take m = wd L j))) := hid_ (by rw [begT, show (wd L j).length = m from hw.len, List.length_drop, htl])
  have hge : decide ((p : Int) ≥ 0) = true := decide_eq_true (by omega)
  obtain ⟨s, hs⟩ : ∃ s, p + m = s := ⟨_, rfl⟩
  have hwr : IntKind.i64.wrap ((p : Int) + (m : Int)) = (s : Int) := by rw [IntKind.wrap_i64]; omega
  generalize begT (wd L j) (t.drop p) = R at *
  by_cases hsn : s ≤ n
  · have hsn' : (s : Int) ≤ (n : Int) := by omega
    have hps : p ≤ s := by omega
    have hsm' : s - p = m := by omega
    have hi3 := IntsAt.midAny ht1 hps hsn
    have hsl := fun W => run_slice_mid a n c p s hps hsn hle W
    rw [hsm'] at hi3
    simp only [hsm'] at hsl
    generalize (if c = p then a else a.map (·.add p)) = ax at *
    generalize c - p = cx at *
    have HE := hid_ (sameI8_calls _ _ _ _ _ _ _ _ w1 hi3 hw')
    have HB2 := hid_ (HBv.out.trans (by rw [decide_eq_true (show m ≤ n - p by omega), Bool.true_and]))
    clear h1 h2 HP HP1 cb ht ht1 htl hl1 hw hw' hs hi3 HBv g hps hsm' h6 hj hp
    generalize decide (List.take m (List.drop p t) = wd L j) = bb at *
    go_enter Try.func53, Try.ntmps53
    go_wp2_with (go_at_call 21; (with_reducible refine HE.out.mono ?_); rintro e w2 ⟨rfl, q, hw2⟩; have Hb2 := hid_ (show Below w1.heap.size w1 w2 by rw [hw2]; exact below_drewN (Below.refl _ _) _); clear hw2)
    go_ret
    exact ⟨by rw [HB2.out]; rfl, Hc1.out.trans (Hb2.out.mono Hc1.out.size)⟩
  · have hsn' : ¬ (s : Int) ≤ (n : Int) := by omega
    have HB2 := hid_ (HBv.out.trans (by rw [decide_eq_false (show ¬ m ≤ n - p by omega), Bool.false_and]))
    clear h1 h2 HP HP1 cb ht ht1 htl hl1 hw hw' hs HBv g h6 hj hp
    go_enter Try.func53, Try.ntmps53
    go_wp2
    go_ret
    exact ⟨by rw [HB2.out]; rfl, Hc1.out⟩
/-! ### Greedy of the program -/
def grI (L : Lx) (t : List Int) : List Int := if textE L t = 0 then (grA L t).1 else []
def grN (L : Lx) (t : List Int) : Int := if textE L t = 0 then ((grA L t).2 : Int) else 0
def GrPost (L : Lx) (t : List Int) (w : World) (e : Ending) (w' : World) : Prop := ∃ v, e = .returned (.tuple #[v, .int .i64 (grN L t), .int .i64 (textE L t)]) ∧ Made 3 w w' v (grI L t)
end Go.Proofs.Ytgpenbajhndhiaa
namespace Go.Proofs.Ytgpenbajhndhiaa
open Go.RowKit Go.Proofs.Kv Go

/-! ### Greedy of the document -/
end Go.Proofs.Ytgpenbajhndhiaa
namespace Go.Proofs.Ytgpenbajhndhiaa
open Go.RowKit Go.Proofs.Kv Go

/-! ### the law TagGreedy -/
end Go.Proofs.Ytgpenbajhndhiaa
namespace Go.Proofs.Kv
open Go.RowKit Go
/-- an own row of slices, whose numbers lie in an older world W0 -/
structure OldS (E : TypeId) (W0 w : World) (v : Value) (us : List Value) (ls : List (List Int)) : Prop where
  top : w.ownsRow W0.heap.size E 1 v ls.length us
  at_ : ∀ i, i < ls.length → ∃ a n c, us[i]? = some (.slice a n c) ∧ IntsAt W0 a n c (ls.getD i [])
theorem OldS.nil (E : TypeId) (W0 w : World) : OldS E W0 w (.slice none 0 0) [] [] := ⟨World.ownsRow_nil _ _ _ _, fun i hi => absurd hi (by simp)⟩
theorem OldS.below {E : TypeId} {W0 w w' : World} {B' : Nat} {v : Value} {us : List Value} {ls : List (List Int)} (h : OldS E W0 w v us ls) (hb : Below B' w w') (hB : w.heap.size ≤ B') : OldS E W0 w' v us ls := ⟨own_below h.top hb hB, h.at_⟩
theorem OldS.push {E : TypeId} {W0 w' : World} {v' : Value} {us : List Value} {ls : List (List Int)} {a : Option Addr} {n c : Nat} {r : List Int} (hat : ∀ i, i < ls.length → ∃ a n c, us[i]? = some (.slice a n c) ∧ IntsAt W0 a n c (ls.getD i [])) (hl : us.length = ls.length)
    (hown : w'.ownsRow W0.heap.size E 1 v' (ls.length + 1) (us ++ [.slice a n c])) (hr : IntsAt W0 a n c r) : OldS E W0 w' v' (us ++ [.slice a n c]) (ls ++ [r]) := by
  refine ⟨by simpa using hown, fun i hi => ?_⟩
  rw [List.length_append, List.length_singleton] at hi
  by_cases hlt : i < ls.length
  · obtain ⟨a, n, c, e, h⟩ := hat i hlt
    refine ⟨a, n, c, by rw [List.getElem?_append_left (by omega)]; exact e, ?_⟩
    rw [show (ls ++ [r]).getD i [] = ls.getD i [] by simp [List.getD, List.getElem?_append_left hlt]]; exact h
  · obtain rfl : i = ls.length := by omega
    refine ⟨a, n, c, by rw [List.getElem?_append_right (by omega), hl, Nat.sub_self]; rfl, ?_⟩
    rw [show (ls ++ [r]).getD ls.length [] = r by simp [List.getD]]; exact hr
theorem OldS.ulen {E : TypeId} {W0 w : World} {v : Value} {us : List Value} {ls : List (List Int)} (h : OldS E W0 w v us ls) : us.length = ls.length := by have := h.top.1; omega
theorem OldS.lists {E : TypeId} {W0 w : World} {v : Value} {us : List Value} {ls : List (List Int)} (h : OldS E W0 w v us ls) (hb : Below W0.heap.size W0 w) : ∃ a c, v = .slice a ls.length c ∧ ListsAt w a ls.length c ls := by
  have hat := h.at_
  rcases h.top.2 with ⟨rfl, h0⟩ | ⟨g, cap, cur, rfl, _, hg, hn, hm, hs, ht⟩
  · rw [h0]
    exact ⟨none, 0, rfl, h0, Nat.le_refl _, by omega, fun i hi => absurd hi (by omega)⟩
  · refine ⟨_, cap, rfl, rfl, hn, by unfold maxLen at hm; omega, fun i hi => ?_⟩
    obtain ⟨a, n, c, e, hI⟩ := hat i hi
    have hc := h.top.cells (g := g) rfl i _ e
    have : (⟨g, 0, none⟩ : Addr).add i = ⟨g, 0 + i, none⟩ := by unfold Addr.add; split <;> simp_all
    rw [this] at hc
    exact ⟨g, 0, a, _, c, rfl, (Array.getElem?_eq_some_iff.1 hg).1, hc, hI.below hb (Nat.le_refl _)⟩
theorem OldS.cell {E : TypeId} {W0 w : World} {v : Value} {us : List Value} {ls : List (List Int)} (h : OldS E W0 w v us ls) {i : Nat} (hi : i < ls.length) : ∃ g cap a n c, v = .slice (some ⟨g, 0, none⟩) ls.length cap ∧ W0.heap.size ≤ g ∧ g < w.heap.size ∧ w.cell? ⟨g, i, none⟩ = some (.slice a n c) ∧ IntsAt W0 a n c (ls.getD i []) := by
  obtain ⟨a, n, c, e, hI⟩ := h.at_ i hi
  have hlt := h.top.lt
  rcases h.top.2 with ⟨rfl, h0⟩ | ⟨g, cap, cur, rfl, _, hg, hn, hm, hs, ht⟩
  · omega
  · have hc := h.top.cells (g := g) rfl i _ e
    have : (⟨g, 0, none⟩ : Addr).add i = ⟨g, 0 + i, none⟩ := by unfold Addr.add; split <;> simp_all
    rw [this, Nat.zero_add] at hc
    exact ⟨g, cap, a, n, c, rfl, (hlt g rfl).1, (hlt g rfl).2, hc, hI⟩
end Go.Proofs.Kv
namespace Go.Proofs.Ytgpenbajhndhiaa
open Go.RowKit Go.Proofs.Kv Go

/-! ### begins, has -/
def hasB (ls : List (List Int)) (l : List Int) : Bool := ls.any fun r => decide (r = l)
theorem hasB_iff {ls : List (List Int)} {l : List Int} : hasB ls l = true ↔ l ∈ ls := by
  unfold hasB; rw [List.any_eq_true]
  exact ⟨fun ⟨r, h, e⟩ => by rw [← of_decide_eq_true e]; exact h, fun h => ⟨l, h, decide_eq_true rfl⟩⟩
end Go.Proofs.Ytgpenbajhndhiaa
namespace Go.Proofs.Ytgpenbajhndhiaa
open Go.RowKit Go.Proofs.Kv Go

/-! ### what is left over, as the document follows it -/
def doneS (L : Lx) (ls : List (List Int)) (l : List Int) (i : Nat) : Prop := ∀ r, (l = wd L i ++ r ∨ wd L i = l ++ r) → r ∈ ls
structure InvA (L : Lx) (ls : List (List Int)) (D : Nat → Nat → Prop) : Prop where
  good : ∀ r ∈ ls, RR L r ∧ r ∈ sufs L
  start : ∀ i j r, D i j → i < L.items.length → j < L.items.length → i ≠ j → wd L j = wd L i ++ r → r ∈ ls
theorem InvA.nil (L : Lx) : InvA L [] (fun i _ => i < 0) := ⟨fun r h => by simp at h, fun i j r h => absurd h (by omega)⟩
theorem InvA.same {L : Lx} {ls : List (List Int)} {D D' : Nat → Nat → Prop} (h : InvA L ls D) (hD : ∀ i j, D' i j → D i j) : InvA L ls D' := ⟨h.good, fun i j r d => h.start i j r (hD i j d)⟩
theorem InvA.skip {L : Lx} {ls : List (List Int)} {i j : Nat} (h : InvA L ls fun a b => a < i ∨ (a = i ∧ b < j)) (hn : i = j ∨ begT (wd L i) (wd L j) = false) : InvA L ls fun a b => a < i ∨ (a = i ∧ b < j + 1) :=
  ⟨h.good, fun a b r d ha hb hne e => by
    by_cases hd : a < i ∨ (a = i ∧ b < j)
    · exact h.start a b r hd ha hb hne e
    · obtain ⟨rfl, rfl⟩ : a = i ∧ b = j := by omega
      rcases hn with hn | hn
      · exact absurd hn hne
      · rw [begT_iff.2 ⟨r, e⟩] at hn; cases hn⟩
theorem InvA.done {L : Lx} {ls : List (List Int)} {i n : Nat} (h : InvA L ls fun a b => a < i ∨ (a = i ∧ b < n)) (hn : L.items.length ≤ n) : InvA L ls fun a _ => a < i + 1 :=
  ⟨h.good, fun a b r (d : a < i + 1) ha hb => h.start a b r (show a < i ∨ (a = i ∧ b < n) by omega) ha hb⟩
theorem InvA.push {L : Lx} (g : GoodL L) {ls : List (List Int)} {i j : Nat} (h : InvA L ls fun a b => a < i ∨ (a = i ∧ b < j)) (hi : i < L.items.length) (hj : j < L.items.length) (hne : i ≠ j) (hb : begT (wd L i) (wd L j) = true) :
    InvA L (ls ++ [(wd L j).drop (wd L i).length]) fun a b => a < i ∨ (a = i ∧ b < j + 1) := by
  obtain ⟨r, hr⟩ := begT_iff.1 hb
  have hd : (wd L j).drop (wd L i).length = r := by rw [hr, List.drop_left]
  rw [hd]
  refine ⟨fun x hx => ?_, fun a b r' d ha hb' hne' e => ?_⟩
  · rcases List.mem_append.1 hx with hx | hx
    · exact h.good x hx
    · rw [List.mem_singleton] at hx; subst hx
      exact ⟨RR.start i j x hi hj hne hr, (mem_sufs g).2 ⟨j, wd L i, hj, hr⟩⟩
  · by_cases hd : a < i ∨ (a = i ∧ b < j)
    · exact List.mem_append_left _ (h.start a b r' hd ha hb' hne' e)
    · obtain ⟨rfl, rfl⟩ : a = i ∧ b = j := by omega
      exact List.mem_append_right _ (by rw [List.mem_singleton]; exact List.append_cancel_left (e.symm.trans hr))
structure InvB (L : Lx) (ls : List (List Int)) (n : Nat) : Prop where
  good : ∀ r ∈ ls, RR L r ∧ r ∈ sufs L
  start : ∀ i j r, i < L.items.length → j < L.items.length → i ≠ j → wd L j = wd L i ++ r → r ∈ ls
  shut : ∀ k, k < n → ls.getD k [] ≠ [] ∧ ∀ i, i < L.items.length → doneS L ls (ls.getD k []) i
  bound : ∃ m app, m.length ≤ 64 ∧ ls = m ++ app ∧ app.Nodup
theorem InvA.toB {L : Lx} {ls : List (List Int)} {n : Nat} (h : InvA L ls fun i _ => i < n) (hn : L.items.length ≤ n) (hl : ls.length ≤ 64) : InvB L ls 0 :=
  ⟨h.good, fun i j r hi hj => h.start i j r (show i < n by omega) hi hj, fun k hk => absurd hk (by omega), ls, [], hl, by simp, List.nodup_nil⟩
theorem InvB.le {L : Lx} (g : GoodL L) {ls : List (List Int)} {n : Nat} (h : InvB L ls n) : ls.length ≤ 120 := by
  obtain ⟨m, app, h1, e, h2⟩ := h.bound
  have h3 := len_le_sub8 (m := sufs L) h2 (fun x hx => (h.good x (by rw [e]; exact List.mem_append_right _ hx)).2)
  have := sufs_len g
  rw [e, List.length_append]; omega
theorem getD_memS {ls : List (List Int)} {k : Nat} (h : k < ls.length) : ls.getD k [] ∈ ls := by simp [List.getD, List.getElem?_eq_getElem h]
theorem getD_snocS {ls : List (List Int)} {q : List Int} {k : Nat} (h : k < ls.length) : (ls ++ [q]).getD k [] = ls.getD k [] := by simp [List.getD, List.getElem?_append_left h]
theorem InvB.push {L : Lx} {ls : List (List Int)} {n : Nat} {q : List Int} (h : InvB L ls n) (hn : n ≤ ls.length) (hq : RR L q ∧ q ∈ sufs L) (hno : hasB ls q = false) : InvB L (ls ++ [q]) n := by
  have hnot : q ∉ ls := fun hm => by rw [hasB_iff.2 hm] at hno; cases hno
  refine ⟨fun p hp => ?_, fun i j r hi hj hne e => List.mem_append_left _ (h.start i j r hi hj hne e), fun k hk => ?_, ?_⟩
  · rcases List.mem_append.1 hp with hp | hp
    · exact h.good p hp
    · rw [List.mem_singleton] at hp; subst hp; exact hq
  · rw [getD_snocS (by omega)]
    exact ⟨(h.shut k hk).1, fun i hi r hr => List.mem_append_left _ ((h.shut k hk).2 i hi r hr)⟩
  · obtain ⟨m, app, h1, e, h2⟩ := h.bound
    refine ⟨m, app ++ [q], h1, by rw [e, List.append_assoc], ?_⟩
    unfold List.Nodup
    rw [List.pairwise_append]
    refine ⟨h2, by simp, fun x hx y hy => ?_⟩
    simp at hy; subst hy
    exact fun e' => hnot (by rw [← e', e]; exact List.mem_append_right _ hx)
theorem InvB.next {L : Lx} {ls : List (List Int)} {n : Nat} (h : InvB L ls n) (h0 : ls.getD n [] ≠ []) (hd : ∀ i, i < L.items.length → doneS L ls (ls.getD n []) i) : InvB L ls (n + 1) :=
  ⟨h.good, h.start, fun k hk => by
    by_cases hk' : k < n
    · exact h.shut k hk'
    · obtain rfl : k = n := by omega
      exact ⟨h0, hd⟩, h.bound⟩
theorem InvB.no {L : Lx} {ls : List (List Int)} {n : Nat} (h : InvB L ls n) (hn : n < ls.length) (h0 : ls.getD n [] = []) : RR L [] := by
  have := (h.good _ (getD_memS hn)).1
  rwa [h0] at this
theorem InvB.yes {L : Lx} {ls : List (List Int)} (h : InvB L ls ls.length) : ¬ RR L [] := by
  intro hr
  have hs : Shut L (· ∈ ls) := by
    have get : ∀ r, r ∈ ls → ∃ k, k < ls.length ∧ ls.getD k [] = r := fun r hr => by
      obtain ⟨k, hk, e⟩ := List.mem_iff_getElem.1 hr
      exact ⟨k, hk, by simp [List.getD, List.getElem?_eq_getElem hk, e]⟩
    refine ⟨fun i j r hi hj hne e => h.start i j r hi hj hne e, fun i r hl hi => ?_, fun i l r hl hi e => ?_⟩
    · obtain ⟨k, hk, e⟩ := get _ hl
      exact (h.shut k hk).2 i hi r (.inl e)
    · obtain ⟨k, hk, e'⟩ := get _ hl
      exact (h.shut k hk).2 i hi r (.inr (by rw [e']; exact e))
  obtain ⟨k, hk, e⟩ := List.mem_iff_getElem.1 (hs.all hr)
  exact (h.shut k hk).1 (by simp [List.getD, List.getElem?_eq_getElem hk, e])
theorem InvB.succ {L : Lx} (g : GoodL L) {ls : List (List Int)} {n i : Nat} {l r : List Int} (h : InvB L ls n) (hl : l ∈ ls) (hi : i < L.items.length) (hr : l = wd L i ++ r ∨ wd L i = l ++ r) : RR L r ∧ r ∈ sufs L := by
  obtain ⟨h1, h2⟩ := h.good l hl
  rcases hr with hr | hr
  · exact ⟨RR.short i r (by rwa [hr] at h1) hi, sufs_drop g (u := wd L i) (by rwa [hr] at h2)⟩
  · exact ⟨RR.long i l r h1 hi hr, (mem_sufs g).2 ⟨i, l, hi, hr⟩⟩
/-- the one word that is left over -/
theorem left_one {x l r r' : List Int} (h : l = x ++ r ∨ x = l ++ r) (h' : l = x ++ r' ∨ x = l ++ r') : r = r' := by
  have e : ∀ {a b : List Int}, a = b → a.length = b.length := fun h => by rw [h]
  rcases h with h | h <;> rcases h' with h' | h'
  · exact List.append_cancel_left (h.symm.trans h')
  · have h1 := e h; have h2 := e h'
    rw [List.length_append] at h1 h2
    rw [List.length_eq_zero_iff.1 (show r.length = 0 by omega), List.length_eq_zero_iff.1 (show r'.length = 0 by omega)]
  · have h1 := e h; have h2 := e h'
    rw [List.length_append] at h1 h2
    rw [List.length_eq_zero_iff.1 (show r.length = 0 by omega), List.length_eq_zero_iff.1 (show r'.length = 0 by omega)]
  · exact List.append_cancel_left (h.symm.trans h')
end Go.Proofs.Ytgpenbajhndhiaa
namespace Go.Proofs.Ytgpenbajhndhiaa
open Go.RowKit Go.Proofs.Kv Go

/-! ### IsCode of the document -/
end Go.Proofs.Ytgpenbajhndhiaa
namespace Go.Proofs.Ytgpenbajhndhiaa
open Go.RowKit Go.Proofs.Kv Go

/-! ### the law TagCodes -/
noncomputable def twoB (L : Lx) : Bool := if validL L = 0 then !codeB L else false
theorem two_calls8 (v : Value) (L : Lx) (w : World) (h : LexAt w v L) :
    Calls Try.prog 40 #[v] w fun e w' => ∃ v1 v2 s l, e = .returned (.tuple #[v1, v2, .bool (twoB L), .int .i64 (validL L)]) ∧ SlAt w' none v1 s ∧ SlAt w' none v2 l ∧ (twoB L = true → twoE L s l = 0) ∧ (twoB L = false → s = [] ∧ l = []) ∧ Below w.heap.size w w' :=
  (taTwo_calls v L w h).mono fun e w' ⟨v1, v2, s, l, ok, he, h1, h2, ht, hb⟩ => by
    by_cases h0 : validL L = 0
    · obtain ⟨a1, a2, a3⟩ := ht.2 h0
      have hc : (!ok) = codeB L := a1.uniq ((codeB_is L).2 h0)
      have hk : twoB L = ok := by unfold twoB; rw [if_pos h0, ← hc, Bool.not_not]
      refine ⟨v1, v2, s, l, by rw [hk]; exact he, h1, h2, fun h => ?_, fun h => a3 (hk.symm.trans h), hb⟩
      obtain ⟨b1, b2, b3, b4, b5⟩ := a2 (hk.symm.trans h)
      unfold twoE
      rw [if_pos h0, if_neg (by omega), if_pos (by rw [b2, b3]; rfl), if_neg]
      rintro (e | e)
      · exact b1 e
      · exact e b4
    · obtain ⟨rfl, rfl, rfl⟩ := ht.1 h0
      have hk : twoB L = false := by unfold twoB; rw [if_neg h0]
      exact ⟨v1, v2, [], [], by rw [hk]; exact he, h1, h2, fun h => (by rw [hk] at h; cases h), fun _ => ⟨rfl, rfl⟩, hb⟩
end Go.Proofs.Ytgpenbajhndhiaa
