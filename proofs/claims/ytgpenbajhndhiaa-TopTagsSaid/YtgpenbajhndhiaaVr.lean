import Derived.Test.YtgpenbajhndhiaaVq
namespace Go.Proofs.Kv
open Go.RowKit Go
/-- the slice value (a, n, c) reads as the pairs ps -/
structure PrsAt (w : World) (X : Option Nat) (a : Option Addr) (n c : Nat) (ps : List Pr) : Prop where
  len : ps.length = n
  le : n ≤ c
  small : c ≤ 9223372036854775807
  cells : ∀ i, i < n → ∃ b v1 v2 v3, a = some ⟨b, 0, none⟩ ∧ b < w.heap.size ∧ w.cell? ⟨b, i * 3, none⟩ = some v1 ∧ w.cell? ⟨b, i * 3 + 1, none⟩ = some v2 ∧ w.cell? ⟨b, i * 3 + 2, none⟩ = some v3 ∧ PrAt w X v1 v2 v3 (ps.getD i P0)
theorem PrsAt.below {w w' : World} {B : Nat} {X : Option Nat} {a : Option Addr} {n c : Nat} {ps : List Pr} (h : PrsAt w X a n c ps) (hb : Below B w w') (hB : w.heap.size ≤ B) : PrsAt w' X a n c ps :=
  ⟨h.len, h.le, h.small, fun i hi => by
    obtain ⟨b, v1, v2, v3, ha, hl, h1, h2, h3, h4⟩ := h.cells i hi
    have hl' : b < B := Nat.lt_of_lt_of_le hl hB
    exact ⟨b, v1, v2, v3, ha, Nat.lt_of_lt_of_le hl hb.size, (hb.cell (p := ⟨b, i * 3, none⟩) hl').trans h1, (hb.cell (p := ⟨b, i * 3 + 1, none⟩) hl').trans h2, (hb.cell (p := ⟨b, i * 3 + 2, none⟩) hl').trans h3, h4.below hb hB⟩⟩
theorem OwnP.read {E : TypeId} {w : World} {B : Nat} {v : Value} {cs : List Value} {ps : List Pr} (h : OwnP E w B v cs ps) : ∃ a c, v = .slice a ps.length c ∧ PrsAt w v.ownBlock a ps.length c ps := by
  have hcl : cs.length = ps.length * 3 := h.top.1
  rcases h.top.2 with ⟨rfl, h0⟩ | ⟨g, cap, cur, e, hb, hg, hnc, hm, hs, htk⟩
  · rw [h0]
    exact ⟨none, 0, rfl, h0, Nat.le_refl _, by omega, fun i hi => absurd hi (by omega)⟩
  · have htop := h.top
    rw [e] at htop
    refine ⟨some ⟨g, 0, none⟩, cap, e, rfl, hnc, by unfold maxLen at hm; omega, fun i hi => ?_⟩
    obtain ⟨v1, v2, v3, a1, a2, a3, hp⟩ := h.at_ i hi
    exact ⟨g, v1, v2, v3, rfl, (Array.getElem?_eq_some_iff.1 hg).1, (htop.cellAt _ (by omega)).trans a1, (htop.cellAt _ (by omega)).trans a2, (htop.cellAt _ (by omega)).trans a3, hp⟩
end Go.Proofs.Kv
namespace Go.Proofs.Ytgpenbajhndhiaa
open Go.RowKit Go.Proofs.Kv Go

/-! ### is a rest left over already? -/
def isLeftB (ps : List Pr) (l : List Int) : Bool := ps.any fun p => decide (p.left = l)
set_option maxRecDepth 100000 in
set_option maxHeartbeats 2000000 in
theorem isLeft1_calls (lb : Nat) (aL : Option Addr) (nL cL : Nat) (l : List Int) (X : Option Nat) (v1 v2 v3 : Value) (p : Pr) (w : World) (ql : w.cell? ⟨lb, 0, none⟩ = some (.slice aL nL cL)) (hl : IntsAt w aL nL cL l) (h : PrAt w X v1 v2 v3 p) :
    Calls Try.prog 93 #[.agg #[v1, v2, v3], .pointer (some ⟨lb, 0, none⟩)] w fun e w' => e = .returned (.bool (decide (p.left = l))) ∧ Below w.heap.size w w' := by
  obtain ⟨h1, h2, h3⟩ := h
  obtain ⟨a1, c1, rfl, -, -⟩ := h1
  obtain ⟨a2, c2, rfl, -, -⟩ := h2
  obtain ⟨a3, c3, rfl, i3, -⟩ := h3
  obtain ⟨n1, hn1⟩ : ∃ n1, p.short.length = n1 := ⟨_, rfl⟩
  obtain ⟨n2, hn2⟩ : ∃ n2, p.long.length = n2 := ⟨_, rfl⟩
  obtain ⟨n3, hn3⟩ : ∃ n3, p.left.length = n3 := ⟨_, rfl⟩
  rw [hn1, hn2, hn3]
  rw [hn3] at i3
  obtain ⟨w1, hw1⟩ : ∃ w1, w.alloc (.cells #[.slice a1 n1 c1, .slice a2 n2 c2, .slice a3 n3 c3] 91) = w1 := ⟨_, rfl⟩
  have cb1 : Below w.heap.size w w1 := by rw [← hw1]; exact below_alloc _ _
  have q2 : w1.cell? ⟨w.heap.size, 2, none⟩ = some (.slice a3 n3 c3) := by rw [← hw1]; exact cells_alloc _ _ _ 2
  have ql1 := cell_below ql cb1
  have HE := hid_ (equal8_calls a3 n3 c3 p.left aL nL cL l w1 (i3.below cb1 (Nat.le_refl _)) (hl.below cb1 (Nat.le_refl _)))
  have Hcb := hid_ cb1
  clear hn1 hn2 hn3 i3 cb1 ql hl
  go_enter Try.func93, Try.ntmps93
  go_wp2_with (go_at_call 37; (with_reducible refine HE.out.mono ?_); rintro e w2 ⟨rfl, q, rfl⟩)
  go_ret
  exact ⟨rfl, below_drewN Hcb.out _⟩
set_option maxRecDepth 100000 in
set_option maxHeartbeats 4000000 in
theorem indexL_calls (lb : Nat) (aL : Option Addr) (nL cL : Nat) (l : List Int) (X : Option Nat) (a : Option Addr) (n c : Nat) (ps : List Pr) (w : World) (ql : w.cell? ⟨lb, 0, none⟩ = some (.slice aL nL cL)) (hl : IntsAt w aL nL cL l) (h : PrsAt w X a n c ps) :
    Calls Try.prog 100 #[.slice a n c, .func (.func 93) #[] #[.pointer (some ⟨lb, 0, none⟩)]] w fun e w' => ∃ r : Int, e = .returned (.int .i64 r) ∧ decide (0 ≤ r) = isLeftB ps l ∧ Below w.heap.size w w' := by
  have hn : n ≤ 9223372036854775807 := Nat.le_trans h.le h.small
  have hent : ∀ args W, (callFunc 93 args).run Try.prog W = .ok (.enter 93 args) W := enters_of Try.func93 (by kernel_rfl) rfl
  have HY := hid_ (fun k (hk : k < n) (hh : decide ((ps.getD k P0).left = l) = true) => show isLeftB ps l = true from @any_hit Pr ps (fun p => decide (p.left = l)) k P0 (by rw [h.len]; exact hk) hh)
  have HN := hid_ (fun (hh : ∀ k, k < n → decide ((ps.getD k P0).left = l) = false) => show isLeftB ps l = false from @any_no Pr ps (fun p => decide (p.left = l)) n P0 h.len hh)
  have HP := hid_ h; have HL := hid_ hl
  clear h hl
  generalize isLeftB ps l = R at *
  go_enter Try.func100, Try.ntmps100
  go_wp2
  go_loopw [8] (fun i wr => ∃ k : Nat, k ≤ n ∧ i = .int .i64 k ∧ Below w.heap.size w wr ∧ ∀ j, j < k → decide ((ps.getD j P0).left = l) = false) (fun i _ => n - (intOf i).toNat)
  case atStart => exact ⟨0, Nat.zero_le _, rfl, Below.refl _ _, fun _ h => absurd h (by omega)⟩
  case round =>
    obtain ⟨k, hk, rfl, hb, hall⟩ := hrel
    have Hall := hid_ hall; have Hb := hid_ hb
    clear hall
    by_cases hlt : k < n
    · obtain ⟨b, v1, v2, v3, rfl, -, k1, k2, k3, hp⟩ := (HP.out.below hb (Nat.le_refl _)).cells k hlt
      have hy := HY.out k hlt
      have hno := fun hx => lt_snoc (p := fun j => decide ((ps.getD j P0).left = l) = false) Hall.out hx
      have hno' : decide ((ps.getD k P0).left = l) = false → ∀ j, j < k + 1 → decide ((ps.getD j P0).left = l) = false := hno
      have HC := hid_ (isLeft1_calls lb aL nL cL l X v1 v2 v3 (ps.getD k P0) wr (cell_below ql hb) (HL.out.below hb (Nat.le_refl _)) hp)
      clear hb hno hp
      cases hm : decide ((ps.getD k P0).left = l) with
      | true =>
        rw [hm] at HC
        have HR := hid_ (hy hm)
        clear hm hy hno'
        go_wp2_with (go_at_call 93; (with_reducible refine HC.out.mono ?_); rintro e w4 ⟨rfl, hb4⟩)
        go_ret
        exact ⟨_, rfl, by rw [HR.out]; exact decide_eq_true (Int.natCast_nonneg k), Hb.out.trans (hb4.mono Hb.out.size)⟩
      | false =>
        rw [hm] at HC
        have Hf := hid_ (hno' hm)
        clear hm hy hno'
        go_wp2_with (go_at_call 93; (with_reducible refine HC.out.mono ?_); rintro e w4 ⟨rfl, hb4⟩)
        go_roundw
        case rel => exact ⟨k + 1, by omega, by go_num, Hb.out.trans (hb4.mono Hb.out.size), Hf.out⟩
        case measure => simp [intOf]; omega
    · obtain rfl : n = k := by omega
      have HR := hid_ (HN.out Hall.out)
      go_wp2
      go_ret
      exact ⟨_, rfl, by rw [HR.out]; rfl, Hb.out⟩
set_option maxRecDepth 100000 in
set_option maxHeartbeats 2000000 in
theorem isLeft_calls (aL : Option Addr) (nL cL : Nat) (l : List Int) (X : Option Nat) (a : Option Addr) (n c : Nat) (ps : List Pr) (w : World) (hl : IntsAt w aL nL cL l) (h : PrsAt w X a n c ps) :
    Calls Try.prog 77 #[.slice a n c, .slice aL nL cL] w fun e w' => e = .returned (.bool (isLeftB ps l)) ∧ Below w.heap.size w w' := by
  obtain ⟨w1, hw1⟩ : ∃ w1, w.alloc (.cells #[.slice aL nL cL] 26) = w1 := ⟨_, rfl⟩
  have cb1 : Below w.heap.size w w1 := by rw [← hw1]; exact below_alloc _ _
  have q0 : w1.cell? ⟨w.heap.size, 0, none⟩ = some (.slice aL nL cL) := by rw [← hw1]; exact cells_alloc _ _ _ 0
  have HI := hid_ (indexL_calls w.heap.size aL nL cL l X a n c ps w1 q0 (hl.below cb1 (Nat.le_refl _)) (h.below cb1 (Nat.le_refl _)))
  have HC : Hid (Calls Try.prog 92 #[.slice a n c, .func (.func 93) #[] #[.pointer (some ⟨w.heap.size, 0, none⟩)]] w1 fun e w' => e = .returned (.bool (isLeftB ps l)) ∧ Below w1.heap.size w1 w') := hid_ (by
    clear h hl hw1 q0 cb1
    go_enter Try.func92, Try.ntmps92
    go_wp2_with (go_at_call 100; (with_reducible refine HI.out.mono ?_); rintro e w4 ⟨r, rfl, hr, hb4⟩; have Hr := hid_ hr; clear hr)
    go_ret
    exact ⟨by rw [← Hr.out]; rfl, hb4⟩)
  have Hcb := hid_ cb1
  clear h hl HI q0 cb1
  go_enter Try.func77, Try.ntmps77
  go_wp2_with (go_at_call 92; (with_reducible refine HC.out.mono ?_); rintro e w4 ⟨rfl, hb4⟩)
  go_ret
  exact ⟨rfl, Hcb.out.trans (hb4.mono Hcb.out.size)⟩
end Go.Proofs.Ytgpenbajhndhiaa
