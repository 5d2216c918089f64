import Derived.Test.YtdnlpikfibdjoaaKa
import Derived.Test.YtdnlpikfibdjoaaRz
namespace Go.Proofs.Kv
open Go.RowKit

/-! ### paradigms -/
structure Ent where
  spec : List Int
  form : Int
abbrev E0 : Ent := ⟨[], 0⟩
structure Par where
  sizes : List Int
  ents : List Ent
/-- the slice value (a, n, c) reads as the entries L (two cells each) -/
structure EntsAt (w : World) (a : Option Addr) (n c : Nat) (L : List Ent) : Prop where
  len : L.length = n
  le : n ≤ c
  small : c ≤ 9223372036854775807
  cells : ∀ i, i < n → ∃ b off a1 n1 c1, a = some ⟨b, off, none⟩ ∧ b < w.heap.size ∧ w.cell? ⟨b, off + i * 2, none⟩ = some (.slice a1 n1 c1) ∧ w.cell? ⟨b, off + i * 2 + 1, none⟩ = some (.int .i64 (L.getD i E0).form) ∧ IntsAt w a1 n1 c1 (L.getD i E0).spec
theorem EntsAt.nil (w : World) (a : Option Addr) (c : Nat) (hc : c ≤ 9223372036854775807) : EntsAt w a 0 c [] := ⟨rfl, by omega, hc, fun i h => absurd h (by omega)⟩
theorem EntsAt.below {w w' : World} {B : Nat} {a : Option Addr} {n c : Nat} {L : List Ent} (h : EntsAt w a n c L) (hb : Below B w w') (hB : w.heap.size ≤ B) : EntsAt w' a n c L :=
  ⟨h.len, h.le, h.small, fun i hi => by
    obtain ⟨b, off, a1, n1, c1, ha, hlt, h0, h1, hr⟩ := h.cells i hi
    have hl : b < B := Nat.lt_of_lt_of_le hlt hB
    exact ⟨b, off, a1, n1, c1, ha, Nat.lt_of_lt_of_le hlt hb.size, (hb.cell (p := ⟨b, off + i * 2, none⟩) hl).trans h0, (hb.cell (p := ⟨b, off + i * 2 + 1, none⟩) hl).trans h1, hr.below hb hB⟩⟩
theorem EntsAt.drewN {w : World} {a : Option Addr} {n c : Nat} {L : List Ent} (h : EntsAt w a n c L) (q : Nat) : EntsAt (w.drewN q) a n c L :=
  ⟨h.len, h.le, h.small, fun i hi => by
    obtain ⟨b, off, a1, n1, c1, ha, hlt, h0, h1, hr⟩ := h.cells i hi
    exact ⟨b, off, a1, n1, c1, ha, hlt, h0, h1, hr.drewN q⟩⟩
/-- v is the paradigm P -/
def ParAt (w : World) (v : Value) (P : Par) : Prop := ∃ a n c a' n' c', v = .agg #[.slice a n c, .slice a' n' c'] ∧ IntsAt w a n c P.sizes ∧ EntsAt w a' n' c' P.ents
theorem ParAt.below {w w' : World} {B : Nat} {v : Value} {P : Par} (h : ParAt w v P) (hb : Below B w w') (hB : w.heap.size ≤ B) : ParAt w' v P := by
  obtain ⟨a, n, c, a', n', c', e, h1, h2⟩ := h
  exact ⟨a, n, c, a', n', c', e, h1.below hb hB, h2.below hb hB⟩
theorem ParAt.drewN {w : World} {v : Value} {P : Par} (h : ParAt w v P) (q : Nat) : ParAt (w.drewN q) v P := by
  obtain ⟨a, n, c, a', n', c', e, h1, h2⟩ := h
  exact ⟨a, n, c, a', n', c', e, h1.drewN q, h2.drewN q⟩
end Go.Proofs.Kv
namespace Go.Proofs.Ytdnlpikfibdjoaa
open Go.RowKit Go.Proofs.Kv
/-- a value for each trait, from lo on -/
def specB (sizes l : List Int) (lo : Int) : Bool := decide (l.length = sizes.length) && (List.range l.length).all fun i => Within (l.getD i 0) lo (sizes.getD i 0 - 1)
theorem specB_no {sizes l : List Int} {lo : Int} {k : Nat} (hk : k < l.length) (h : Within (l.getD k 0) lo (sizes.getD k 0 - 1) = false) : specB sizes l lo = false := by
  rw [specB, Bool.and_eq_false_iff]
  refine .inr (List.all_eq_false.2 ⟨k, List.mem_range.2 hk, by rw [h]; simp⟩)
theorem specB_yes {sizes l : List Int} {lo : Int} {n : Nat} (hn : l.length = n) (hs : sizes.length = n) (h : ∀ j, j < n → Within (l.getD j 0) lo (sizes.getD j 0 - 1) = true) : specB sizes l lo = true := by
  rw [specB, hn, hs, Bool.and_eq_true]
  exact ⟨by simp, List.all_eq_true.2 fun i hi => h i (List.mem_range.1 hi)⟩
theorem specB_ne {sizes l : List Int} {lo : Int} (h : l.length ≠ sizes.length) : specB sizes l lo = false := by rw [specB, decide_eq_false h]; rfl
def okSize (x : Int) : Bool := Within x 2 3
def badEnt (sizes : List Int) (e : Ent) : Bool := !specB sizes e.spec (-1) || !Within e.form 0 9
def validP (P : Par) : Int :=
  if P.sizes.length < 1 ∨ 3 < P.sizes.length then 1 else if P.sizes.any (fun x => !okSize x) then 1 else if 10 < P.ents.length then 3 else if P.ents.any (badEnt P.sizes) then 1 else 0

theorem within6_calls (n lo hi : Int) (w : World) :
    Calls Try.prog 105 #[.int .i64 n, .int .i64 lo, .int .i64 hi] w fun e w' => e = .returned (.bool (Within n lo hi)) ∧ w = w' := by
  have Hf : Hid (Within n lo hi = (decide (lo ≤ n) && decide (n ≤ hi))) := hid_ rfl
  by_cases h0 : lo ≤ n
  · by_cases h1 : n ≤ hi
    · have Hr : Hid (Within n lo hi = true) := hid_ (by rw [Hf.out, decide_eq_true h0, decide_eq_true h1]; rfl)
      go_enter Try.func105, Try.ntmps105
      go_wp2
      go_ret
      exact ⟨retB Hr.out, rfl⟩
    · have Hr : Hid (Within n lo hi = false) := hid_ (by rw [Hf.out, decide_eq_true h0, decide_eq_false h1]; rfl)
      go_enter Try.func105, Try.ntmps105
      go_wp2
      go_ret
      exact ⟨retB Hr.out, rfl⟩
  · have Hr : Hid (Within n lo hi = false) := hid_ (by rw [Hf.out, decide_eq_false h0]; rfl)
    go_enter Try.func105, Try.ntmps105
    go_wp2
    go_ret
    exact ⟨retB Hr.out, rfl⟩
theorem isForm_calls (n : Int) (w : World) :
    Calls Try.prog 82 #[.int .i64 n] w fun e w' => e = .returned (.bool (Within n 0 9)) ∧ w = w' := by
  have Hf : Hid (Within n 0 9 = (decide (0 ≤ n) && decide (n ≤ 9))) := hid_ rfl
  by_cases h0 : 0 ≤ n
  · by_cases h1 : n ≤ 9
    · have Hr : Hid (Within n 0 9 = true) := hid_ (by rw [Hf.out, decide_eq_true h0, decide_eq_true h1]; rfl)
      go_enter Try.func82, Try.ntmps82
      go_wp2
      go_ret
      exact ⟨retB Hr.out, rfl⟩
    · have Hr : Hid (Within n 0 9 = false) := hid_ (by rw [Hf.out, decide_eq_true h0, decide_eq_false h1]; rfl)
      go_enter Try.func82, Try.ntmps82
      go_wp2
      go_ret
      exact ⟨retB Hr.out, rfl⟩
  · have Hr : Hid (Within n 0 9 = false) := hid_ (by rw [Hf.out, decide_eq_false h0]; rfl)
    go_enter Try.func82, Try.ntmps82
    go_wp2
    go_ret
    exact ⟨retB Hr.out, rfl⟩
set_option maxRecDepth 100000 in
set_option maxHeartbeats 2000000 in
theorem areValues_calls (a : Option Addr) (n c : Nat) (sz : List Int) (a' : Option Addr) (n' c' : Nat) (l : List Int) (lo : Int) (w : World) (h : IntsAt w a n c sz) (h' : IntsAt w a' n' c' l) :
    Calls Try.prog 104 #[.slice a n c, .slice a' n' c', .int .i64 lo] w fun e w' => e = .returned (.bool (specB sz l lo)) ∧ w = w' := by
  have hn : n' ≤ 9223372036854775807 := Nat.le_trans h'.le h'.small
  by_cases hne : n' = n
  · subst hne
    have HY := hid_ (@specB_yes sz l lo n' h'.len h.len)
    have HN := hid_ (fun k (hk : k < n') => @specB_no sz l lo k (by rw [h'.len]; exact hk))
    go_enter Try.func104, Try.ntmps104
    go_wp2
    go_loop [16] (fun i => ∃ k : Nat, k ≤ n' ∧ i = .int .i64 k ∧ ∀ j, j < k → Within (l.getD j 0) lo (sz.getD j 0 - 1) = true) (fun i => n' - (intOf i).toNat)
    case atStart => exact ⟨0, Nat.zero_le _, rfl, fun _ h => absurd h (by omega)⟩
    case round =>
      obtain ⟨k, hk, rfl, hall⟩ := hrel
      have Hall := hid_ hall
      clear hall
      by_cases hlt : k < n'
      · obtain ⟨b, off, rfl, -, hc⟩ := h'.cells k hlt
        obtain ⟨b2, off2, rfl, -, hc2⟩ := h.cells k hlt
        have hno := HN.out k hlt
        have hy := fun hx => lt_snoc Hall.out hx
        have hwd : Within (l.getD k 0) lo (sz.getD k 0 - 1) = (decide (lo ≤ l.getD k 0) && decide (l.getD k 0 ≤ sz.getD k 0 - 1)) := rfl
        generalize l.getD k 0 = x at *
        generalize sz.getD k 0 = y at *
        have Hno := hid_ hno; have Hwd := hid_ hwd
        clear hno hwd
        by_cases h0 : x < lo
        · have Hf := hid_ (Hno.out (by rw [Hwd.out, decide_eq_false (by omega)]; rfl))
          go_wp2
          go_ret
          exact ⟨retB Hf.out, rfl⟩
        · by_cases h1 : y ≤ x
          · have Hf := hid_ (Hno.out (by rw [Hwd.out, decide_eq_false (show ¬ x ≤ y - 1 by omega)]; simp))
            go_wp2
            go_ret
            exact ⟨retB Hf.out, rfl⟩
          · have Hf := hid_ (hy (by rw [Hwd.out, decide_eq_true (show lo ≤ x by omega), decide_eq_true (show x ≤ y - 1 by omega)]; rfl))
            clear hy
            go_wp2
            go_round
            case rel => exact ⟨k + 1, by omega, by go_num, Hf.out⟩
            case measure => simp [intOf]; omega
      · obtain rfl : n' = k := by omega
        have Hf := hid_ (HY.out Hall.out)
        go_wp2
        go_ret
        exact ⟨retB Hf.out, rfl⟩
  · have hni : ¬ (n' : Int) = (n : Int) := by omega
    have Hf : Hid (specB sz l lo = false) := hid_ (specB_ne (by rw [h.len, h'.len]; exact hne))
    go_enter Try.func104, Try.ntmps104
    go_wp2
    go_ret
    exact ⟨retB Hf.out, rfl⟩
set_option maxRecDepth 100000 in
set_option maxHeartbeats 2000000 in
theorem isSpec_calls (v : Value) (P : Par) (a' : Option Addr) (n' c' : Nat) (l : List Int) (lo : Int) (w : World) (h : ParAt w v P) (h' : IntsAt w a' n' c' l) (hs : P.sizes.any (fun x => !okSize x) = false) :
    Calls Try.prog 106 #[v, .slice a' n' c', .int .i64 lo] w fun e w' => e = .returned (.bool (specB P.sizes l lo)) ∧ Below w.heap.size w w' := by
  obtain ⟨a, n, c, a2, n2, c2, rfl, h1, h2⟩ := h
  have hn : n' ≤ 9223372036854775807 := Nat.le_trans h'.le h'.small
  obtain ⟨w1, hw1⟩ : ∃ w1, w.alloc (.cells #[.slice a n c, .slice a2 n2 c2] 25) = w1 := ⟨_, rfl⟩
  have c1 : Below w.heap.size w w1 := by rw [← hw1]; exact below_alloc _ _
  have q0 : w1.cell? ⟨w.heap.size, 0, none⟩ = some (.slice a n c) := by rw [← hw1]; exact cells_alloc _ _ _ 0
  have HS : Hid (∀ k, k < n → 2 ≤ P.sizes.getD k 0 ∧ P.sizes.getD k 0 ≤ 3) := hid_ (fun k hk => by
    have := List.any_eq_false.1 hs _ (getD_mem (show k < P.sizes.length by rw [h1.len]; exact hk))
    simp [okSize, Within] at this
    exact this)
  by_cases hne : n' = n
  · subst hne
    have HY := hid_ (@specB_yes P.sizes l lo n' h'.len h1.len)
    have HN := hid_ (fun k (hk : k < n') => @specB_no P.sizes l lo k (by rw [h'.len]; exact hk))
    have H1 := hid_ (h1.below c1 (Nat.le_refl _)); have H' := hid_ (h'.below c1 (Nat.le_refl _)); have Hc1 := hid_ c1
    have HW := hid_ (fun n lo hi W => within6_calls n lo hi W)
    clear h1 h' h2 c1 hs
    go_enter Try.func106, Try.ntmps106
    go_wp2
    go_loopw [7] (fun i wr => ∃ k q : Nat, k ≤ n' ∧ i = .int .i64 k ∧ wr = w1.drewN q ∧ ∀ j, j < k → Within (l.getD j 0) lo (P.sizes.getD j 0 - 1) = true) (fun i _ => n' - (intOf i).toNat)
    case atStart => exact ⟨0, 0, Nat.zero_le _, rfl, rfl, fun _ h => absurd h (by omega)⟩
    case round =>
      obtain ⟨k, q, hk, rfl, hq, hall⟩ := hrel
      have Hall := hid_ hall; have Hq := hid_ hq
      have qr : wr.cell? ⟨w.heap.size, 0, none⟩ = some (.slice a n' c) := by rw [hq]; exact q0
      have HA := hid_ (show IntsAt wr a' n' c' l by rw [hq]; exact H'.out.drewN q)
      have HB := hid_ (show IntsAt wr a n' c P.sizes by rw [hq]; exact H1.out.drewN q)
      clear hall hq
      by_cases hlt : k < n'
      · obtain ⟨b, off, rfl, -, hc⟩ := HA.out.cells k hlt
        obtain ⟨b2, off2, rfl, -, hc2⟩ := HB.out.cells k hlt
        obtain ⟨y2, y3⟩ := HS.out k hlt
        have hno := HN.out k hlt
        have hy := fun hx => lt_snoc Hall.out hx
        generalize l.getD k 0 = x at *
        generalize P.sizes.getD k 0 = y at *
        have HWx := hid_ (fun W => HW.out x lo (y - 1) W)
        have hwr : IntKind.i64.wrap (y - 1) = y - 1 := IntWalk.i64_in _ (by omega)
        cases hwi : Within x lo (y - 1) with
        | false =>
          rw [hwi] at HWx
          have Hf := hid_ (hno hwi)
          clear hno hy hwi
          go_wp2_with fail
          go_quiet ((go_at_call 105; exact quiet_left (HWx.out _)))
          clear hwr
          go_wp2
          go_ret
          exact ⟨retB Hf.out, Hc1.out.trans (by rw [Hq.out]; exact below_drewN (below_drewN (Below.refl _ _) _) _)⟩
        | true =>
          rw [hwi] at HWx
          have Hf := hid_ (hy hwi)
          clear hno hy hwi
          go_wp2_with fail
          go_quiet ((go_at_call 105; exact quiet_left (HWx.out _)))
          clear hwr
          go_wp2
          go_roundw
          case rel => exact ⟨k + 1, _, by omega, by go_num, by rw [Hq.out, drewN2], Hf.out⟩
          case measure => simp [intOf]; omega
      · obtain rfl : n' = k := by omega
        have Hf := hid_ (HY.out Hall.out)
        go_wp2
        go_ret
        exact ⟨retB Hf.out, Hc1.out.trans (by rw [Hq.out]; exact below_drewN (Below.refl _ _) _)⟩
  · have hni : ¬ (n' : Int) = (n : Int) := by omega
    have Hf : Hid (specB P.sizes l lo = false) := hid_ (specB_ne (by rw [h1.len, h'.len]; exact hne))
    clear h1 h' h2 hs
    go_enter Try.func106, Try.ntmps106
    go_wp2
    go_ret
    exact ⟨retB Hf.out, c1⟩
theorem cell_below {w w' : World} {p : Addr} {v : Value} (h : w.cell? p = some v) (hb : Below w.heap.size w w') : w'.cell? p = some v := (hb.cell (World.block_lt_of_cell? w p h)).trans h
end Go.Proofs.Ytdnlpikfibdjoaa
