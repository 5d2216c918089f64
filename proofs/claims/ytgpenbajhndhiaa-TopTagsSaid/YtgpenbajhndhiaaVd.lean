import Derived.Test.YtgpenbajhndhiaaVc
namespace Go.Proofs.Ytgpenbajhndhiaa
open Go.RowKit Go.Proofs.Kv Go

theorem cell_regrown {w : World} {p : Addr} {v : Value} (h : w.cell? p = some v) : ∀ d os, (Go.Sort.grow (redrawn w d) os).cell? p = some v := fun d os => cell_below h (below_regrown w d os)
/-! ### good lexicons; items; words -/
structure GoodL (L : Lx) : Prop where
  ge : 1 ≤ L.items.length
  le : L.items.length ≤ 8
  word : ∀ i, i < L.items.length → 1 ≤ (L.items.getD i I0).word.length ∧ (L.items.getD i I0).word.length ≤ 6 ∧ areB (L.items.getD i I0).word 0 5 = true
  kind : ∀ i, i < L.items.length → 0 ≤ (L.items.getD i I0).kind ∧ (L.items.getD i I0).kind ≤ 3
  cost : ∀ i, i < L.items.length → 0 ≤ (L.items.getD i I0).cost ∧ (L.items.getD i I0).cost ≤ 99
  rows : L.follow.length = 4
  row : ∀ k, k < 4 → (L.follow.getD k []).length = 4 ∧ areB (L.follow.getD k []) (-1) 99 = true
theorem validL_ok {L : Lx} (h : validL L = 0) : GoodL L := by
  unfold validL at h
  by_cases h1 : Within L.items.length 1 8 = true
  · rw [if_pos h1] at h
    by_cases h2 : L.items.any (fun x => !itemOk x) = true
    · rw [if_pos h2] at h; cases h
    · rw [if_neg h2] at h
      by_cases h3 : rowsB L.follow 4 4 (-1) 99 = true
      · have hw : 1 ≤ (L.items.length : Int) ∧ (L.items.length : Int) ≤ 8 := by simpa [Within] using h1
        have hi : ∀ i, i < L.items.length → itemOk (L.items.getD i I0) = true := fun i hi => by
          rw [Bool.not_eq_true, List.any_eq_false] at h2
          have := h2 (L.items.getD i I0) (by simp [List.getD, List.getElem?_eq_getElem hi])
          simpa using this
        have hx : ∀ i, i < L.items.length → (1 ≤ (L.items.getD i I0).word.length ∧ (L.items.getD i I0).word.length ≤ 6) ∧ areB (L.items.getD i I0).word 0 5 = true ∧ (0 ≤ (L.items.getD i I0).kind ∧ (L.items.getD i I0).kind ≤ 3) ∧ (0 ≤ (L.items.getD i I0).cost ∧ (L.items.getD i I0).cost ≤ 99) := fun i hi' => by
          have := hi i hi'
          simp only [itemOk, Within, Bool.and_eq_true, decide_eq_true_eq] at this
          obtain ⟨⟨a1, a2⟩, a3, ⟨a4, a5⟩, a6, a7⟩ := this
          exact ⟨⟨by omega, by omega⟩, a3, ⟨a4, a5⟩, a6, a7⟩
        rw [rowsB, Bool.and_eq_true, decide_eq_true_eq, List.all_eq_true] at h3
        have hl : L.follow.length = 4 := by have := h3.2; omega
        refine ⟨by omega, by omega, fun i hi => ⟨(hx i hi).1.1, (hx i hi).1.2, (hx i hi).2.1⟩, fun i hi => (hx i hi).2.2.1, fun i hi => (hx i hi).2.2.2, hl, fun k hk => ?_⟩
        have := h3.1 (L.follow.getD k []) (by simp [List.getD, List.getElem?_eq_getElem (show k < L.follow.length by omega)])
        rw [rowOk8, Bool.and_eq_true, decide_eq_true_eq] at this
        exact ⟨by omega, this.2⟩
      · rw [if_neg h3] at h; cases h
  · rw [if_neg h1] at h; cases h
theorem textE_ok {L : Lx} {t : List Int} (h : textE L t = 0) : GoodL L ∧ t.length ≤ 12 ∧ areB t 0 5 = true := by
  unfold textE at h
  by_cases h1 : validL L = 0
  · rw [if_pos h1] at h
    by_cases h2 : 12 < t.length
    · rw [if_pos h2] at h; cases h
    · rw [if_neg h2] at h
      by_cases h3 : areB t 0 5 = true
      · exact ⟨validL_ok h1, by omega, h3⟩
      · rw [if_neg h3] at h; cases h
  · rw [if_neg h1] at h; exact absurd h h1
def itemsB (L : Lx) (l : List Int) : Bool := areB l 0 ((L.items.length : Int) - 1)
theorem itemsB_at {L : Lx} {l : List Int} (h : itemsB L l = true) {k : Nat} (hk : k < l.length) : ∃ j : Nat, l.getD k 0 = (j : Int) ∧ j < L.items.length := by
  have := areB_at h hk
  exact ⟨(l.getD k 0).toNat, by omega, by omega⟩
def wordL (L : Lx) (j : Int) : List Int := (L.items.getD j.toNat I0).word
def wordsL (L : Lx) (l : List Int) : List Int := l.flatMap (wordL L)
theorem wordsL_take {L : Lx} {l : List Int} {k : Nat} (hk : k < l.length) : wordsL L (l.take (k + 1)) = wordsL L (l.take k) ++ wordL L (l.getD k 0) := by
  rw [Kv.take_snoc l 0 k hk]; simp [wordsL]
theorem wordsL_le {L : Lx} (g : GoodL L) {l : List Int} (h : itemsB L l = true) : ∀ k, k ≤ l.length → (wordsL L (l.take k)).length ≤ 6 * k
  | 0, _ => by simp [wordsL]
  | k + 1, hk => by
    obtain ⟨j, e, hj⟩ := itemsB_at h (k := k) (by omega)
    rw [wordsL_take (by omega), List.length_append, wordL, e, Int.toNat_natCast]
    have := wordsL_le g h k (by omega)
    have := (g.word j hj).2.1
    omega
set_option maxRecDepth 100000 in
theorem areItems_calls (v : Value) (L : Lx) (a : Option Addr) (n c : Nat) (l : List Int) (w : World) (h : LexAt w v L) (ht : IntsAt w a n c l) (hs : L.items.length ≤ 1000) :
    Calls Try.prog 36 #[v, .slice a n c] w fun e w' => e = .returned (.bool (itemsB L l)) ∧ Below w.heap.size w w' := by
  have HP := hid_ h
  obtain ⟨a1, n1, c1, a2, n2, c2, rfl, h1, h2⟩ := h
  obtain ⟨w1, hw1⟩ : ∃ w1, w.alloc (.cells #[.slice a1 n1 c1, .slice a2 n2 c2] 25) = w1 := ⟨_, rfl⟩
  have cb : Below w.heap.size w w1 := by rw [← hw1]; exact below_alloc _ _
  have q0 : w1.cell? ⟨w.heap.size, 0, none⟩ = some (.slice a1 n1 c1) := by rw [← hw1]; exact cells_alloc _ _ _ 0
  have q1 : w1.cell? ⟨w.heap.size, 1, none⟩ = some (.slice a2 n2 c2) := by rw [← hw1]; exact cells_alloc _ _ _ 1
  have HP1 := hid_ (HP.out.below cb (Nat.le_refl _)); have Hc1 := hid_ cb
  have HA := hid_ (areBetween_calls a n c l 0 ((L.items.length : Int) - 1) w1 (ht.below cb (Nat.le_refl _)))
  have HR : Hid (itemsB L l = areB l 0 ((L.items.length : Int) - 1)) := hid_ rfl
  have hl := h1.len
  rw [hl] at HA HR hs
  have hwr : IntKind.i64.wrap ((n1 : Int) - 1) = (n1 : Int) - 1 := IntWalk.i64_in _ (by omega)
  clear cb h1 h2 HP HP1 ht hl
  go_enter Try.func36, Try.ntmps36
  go_wp2_with (go_at_call 60; (with_reducible refine HA.out.mono ?_); rintro e w2 ⟨rfl, hb2⟩)
  go_ret
  exact ⟨by rw [HR.out]; rfl, Hc1.out.trans (hb2.mono Hc1.out.size)⟩
set_option maxRecDepth 100000 in
set_option maxHeartbeats 2000000 in
theorem r8items_calls (v : Value) (L : Lx) (a : Option Addr) (n c : Nat) (l : List Int) (w : World) (h : LexAt w v L) (ht : IntsAt w a n c l) (hs : L.items.length ≤ 1000) :
    Calls Try.prog 32 #[v, .slice a n c] w fun e w' => e = .returned (.bool (itemsB L l)) ∧ Below w.heap.size w w' := by
  have HP := hid_ h
  obtain ⟨a1, n1, c1, a2, n2, c2, rfl, h1, h2⟩ := h
  obtain ⟨w1, hw1⟩ : ∃ w1, w.alloc (.cells #[.slice a1 n1 c1, .slice a2 n2 c2] 25) = w1 := ⟨_, rfl⟩
  have cb : Below w.heap.size w w1 := by rw [← hw1]; exact below_alloc _ _
  have q0 : w1.cell? ⟨w.heap.size, 0, none⟩ = some (.slice a1 n1 c1) := by rw [← hw1]; exact cells_alloc _ _ _ 0
  have q1 : w1.cell? ⟨w.heap.size, 1, none⟩ = some (.slice a2 n2 c2) := by rw [← hw1]; exact cells_alloc _ _ _ 1
  have HP1 := hid_ (HP.out.below cb (Nat.le_refl _)); have Hc1 := hid_ cb
  have hn : n ≤ 9223372036854775807 := Nat.le_trans ht.le ht.small
  have hl := h1.len
  have HY := hid_ (@areB_yes l 0 ((L.items.length : Int) - 1) n ht.len)
  have HN := hid_ (fun k (hk : k < n) => @areB_no l 0 ((L.items.length : Int) - 1) k (by rw [ht.len]; exact hk))
  have HR : Hid (itemsB L l = areB l 0 ((L.items.length : Int) - 1)) := hid_ rfl
  have HT := hid_ (ht.below cb (Nat.le_refl _))
  rw [hl] at HY HN HR hs
  have hwr : IntKind.i64.wrap ((n1 : Int) - 1) = (n1 : Int) - 1 := IntWalk.i64_in _ (by omega)
  have hn1 : n1 ≤ 9223372036854775807 := by omega
  clear cb h1 h2 HP HP1 ht hl
  go_enter Try.func32, Try.ntmps32
  go_wp2
  go_loopw [5] (fun i wr => ∃ k q : Nat, k ≤ n ∧ i = .int .i64 k ∧ wr = w1.drewN q ∧ ∀ j, j < k → Within (l.getD j 0) 0 ((n1 : Int) - 1) = true) (fun i _ => n - (intOf i).toNat)
  case atStart => exact ⟨0, 0, Nat.zero_le _, rfl, rfl, fun _ h => absurd h (by omega)⟩
  case round =>
    obtain ⟨k, q, hk, rfl, hq, hall⟩ := hrel
    have Hall := hid_ hall
    have q0r : wr.cell? ⟨w.heap.size, 0, none⟩ = some (.slice a1 n1 c1) := by rw [hq]; exact q0
    have HI : IntsAt wr a n c l := by rw [hq]; exact HT.out.drewN q
    have Hq := hid_ hq
    clear hall hq
    by_cases hlt : k < n
    · obtain ⟨b, off, rfl, -, hcell⟩ := HI.cells k hlt
      have hno := HN.out k hlt
      have hy := fun hx => lt_snoc (p := fun j => Within (l.getD j 0) 0 ((n1 : Int) - 1) = true) Hall.out hx
      have hy' : Within (l.getD k 0) 0 ((n1 : Int) - 1) = true → ∀ j, j < k + 1 → Within (l.getD j 0) 0 ((n1 : Int) - 1) = true := hy
      clear hy HI
      generalize l.getD k 0 = x at *
      have HC := hid_ (fun W => within8_calls x 0 ((n1 : Int) - 1) W)
      cases hm : Within x 0 ((n1 : Int) - 1) with
      | true =>
        rw [hm] at HC
        have Hf := hid_ (hy' hm)
        clear hm hno hy'
        go_wp2_with fail
        go_quiet ((go_at_call 59; exact quiet_left (HC.out _)))
        go_wp2
        go_roundw
        case rel => exact ⟨k + 1, _, by omega, by go_num, by rw [Hq.out, drewN2], Hf.out⟩
        case measure => simp [intOf]; omega
      | false =>
        rw [hm] at HC
        have Hf := hid_ (hno hm)
        clear hm hno hy'
        go_wp2_with fail
        go_quiet ((go_at_call 59; exact quiet_left (HC.out _)))
        go_wp2
        go_ret
        exact ⟨by rw [HR.out, Hf.out]; rfl, Hc1.out.trans (by rw [Hq.out, drewN2]; exact (below_drewN (Below.refl _ _) _).mono Hc1.out.size)⟩
    · obtain rfl : n = k := by omega
      have Hf := hid_ (HY.out Hall.out)
      go_wp2
      go_ret
      exact ⟨by rw [HR.out, Hf.out]; rfl, Hc1.out.trans (by rw [Hq.out]; exact (below_drewN (Below.refl _ _) _).mono Hc1.out.size)⟩
set_option maxRecDepth 100000 in
set_option maxHeartbeats 4000000 in
theorem tawords_calls (v : Value) (L : Lx) (a : Option Addr) (n c : Nat) (l : List Int) (w : World) (h : LexAt w v L) (ht : IntsAt w a n c l) (g : GoodL L) (hi : itemsB L l = true) (hs : n ≤ 1000) :
    Calls Try.prog 38 #[v, .slice a n c] w fun e w' => ∃ v, e = .returned v ∧ Made 3 w w' v (wordsL L l) := by
  have HP := hid_ h
  obtain ⟨a1, n1, c1, a2, n2, c2, rfl, h1, h2⟩ := h
  obtain ⟨w1, hw1⟩ : ∃ w1, w.alloc (.cells #[.slice a1 n1 c1, .slice a2 n2 c2] 25) = w1 := ⟨_, rfl⟩
  have cb : Below w.heap.size w w1 := by rw [← hw1]; exact below_alloc _ _
  have q0 : w1.cell? ⟨w.heap.size, 0, none⟩ = some (.slice a1 n1 c1) := by rw [← hw1]; exact cells_alloc _ _ _ 0
  have q1 : w1.cell? ⟨w.heap.size, 1, none⟩ = some (.slice a2 n2 c2) := by rw [← hw1]; exact cells_alloc _ _ _ 1
  have HP1 := hid_ (HP.out.below cb (Nat.le_refl _)); have Hc1 := hid_ cb
  obtain ⟨i0, hi0, hz0, hz1, hz2⟩ := info_parts Try.infoInt
  have hl1 := h1.len
  have HT := hid_ (fun W (hW : Below w1.heap.size w1 W) => (ht.below cb (Nat.le_refl _)).below hW (Nat.le_refl _))
  have H1 := hid_ (fun W (hW : Below w1.heap.size w1 W) => (h1.below cb (Nat.le_refl _)).below hW (Nat.le_refl _))
  have HAt := hid_ (fun k (hk : k < n) => @itemsB_at L l hi k (by rw [ht.len]; exact hk))
  have HTk := hid_ (fun k (hk : k < n) => @wordsL_take L l k (by rw [ht.len]; exact hk))
  have HLe := hid_ (fun k (hk : k ≤ n) => wordsL_le g hi k (by rw [ht.len]; exact hk))
  have HW6 := hid_ (fun j (hj : j < n1) => (g.word j (by omega)).2.1)
  have HAll : Hid (wordsL L (l.take n) = wordsL L l) := hid_ (by rw [List.take_of_length_le (by rw [ht.len]; exact Nat.le_refl _)])
  rw [hl1] at HAt
  have hn1 : n1 ≤ 9223372036854775807 := Nat.le_trans h1.le h1.small
  clear cb h1 h2 HP HP1 ht g hi hl1
  go_enter Try.func38, Try.ntmps38
  go_wp2
  go_loopw [5, 10] (fun v i wr => ∃ k : Nat, k ≤ n ∧ i = .int .i64 k ∧ wr.ownsRow w1.heap.size 3 1 v (wordsL L (l.take k)).length ((wordsL L (l.take k)).map (Value.int .i64)) ∧ Below w1.heap.size w1 wr) (fun _ i _ => n - (intOf i).toNat)
  case atStart => exact ⟨0, Nat.zero_le _, rfl, World.ownsRow_nil _ _ _ _, Below.refl _ _⟩
  case round =>
    obtain ⟨k, hk, rfl, hown, hbr⟩ := hrel
    have hsz := hbr.size
    have q0r := cell_below q0 hbr
    by_cases hlt : k < n
    · obtain ⟨b, off, rfl, -, hcell⟩ := (HT.out wr hbr).cells k hlt
      obtain ⟨j, hj, hjn⟩ := HAt.out k hlt
      rw [hj] at hcell
      obtain ⟨b2, off2, a3, n3, c3, rfl, -, k0, k1, k2, hw⟩ := (H1.out wr hbr).cells j hjn
      have h6 := HW6.out j hjn
      rw [hw.len] at h6
      have htk := HTk.out k hlt
      rw [hj, wordL, Int.toNat_natCast] at htk
      have hle := HLe.out k hk
      have Htk := hid_ htk
      have Hlw := hid_ hw.len
      have Hw := hid_ hw
      generalize (L.items.getD j I0).word = y at *
      generalize wordsL L (l.take k) = X at *
      have Hown := hid_ hown; have Hbr := hid_ hbr
      obtain ⟨lx, hlx⟩ : ∃ lx, X.length = lx := ⟨_, rfl⟩
      have Hlx := hid_ hlx
      rw [hlx] at hle Hown
      clear hown hbr htk hw hlx hj
      go_wp2_with (at_builtin; refine wpList_append_ints _ rfl (.tmp 14) (.tmp 20) _ rfl w1.heap.size 3 i0 Try.underlying26 hi0 hz0 hz1 hz2 _ _ _ rfl Hown.out _ _ _ _ rfl Hw.out (by omega) hsz ?_; intro v2 w2 hown2 hg2 hat2; have Hown2 := hid_ hown2; have Hb2 := hid_ (below_app0 Hbr.out hsz Hown.out hg2); clear hown2 hg2 hat2)
      go_roundw
      case rel => exact ⟨k + 1, by omega, by go_num, by rw [Htk.out, List.length_append, Hlx.out, Hlw.out]; exact Hown2.out, Hb2.out⟩
      case measure => simp [intOf]; omega
    · obtain rfl : n = k := by omega
      rw [HAll.out] at hown
      have Hown := hid_ hown
      clear hown
      go_wp2
      go_ret
      exact ⟨_, rfl, own_base Hown.out Hc1.out.size, Hc1.out.trans (hbr.mono Hc1.out.size)⟩
end Go.Proofs.Ytgpenbajhndhiaa
