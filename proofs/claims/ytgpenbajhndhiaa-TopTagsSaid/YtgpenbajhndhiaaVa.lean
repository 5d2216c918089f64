import Derived.Test.YtgpenbajhndhiaaKa
import Derived.Test.YtgpenbajhndhiaaRz
import Derived.Shelf.Abstract
import Derived.Deep.RegionHeld3
namespace Go.Proofs.Kv
open Go.RowKit Go

/-! ### lexicons -/
structure It where
  word : List Int
  kind : Int
  cost : Int
abbrev I0 : It := ⟨[], 0, 0⟩
structure Lx where
  items : List It
  follow : List (List Int)
/-- the slice value (a, n, c) reads as the items L (three cells each) -/
structure ItemsAt (w : World) (a : Option Addr) (n c : Nat) (L : List It) : Prop where
  len : L.length = n
  le : n ≤ c
  small : c ≤ 9223372036854775807
  cells : ∀ i, i < n → ∃ b off a1 n1 c1, a = some ⟨b, off, none⟩ ∧ b < w.heap.size ∧ w.cell? ⟨b, off + i * 3, none⟩ = some (.slice a1 n1 c1) ∧ w.cell? ⟨b, off + i * 3 + 1, none⟩ = some (.int .i64 (L.getD i I0).kind) ∧ w.cell? ⟨b, off + i * 3 + 2, none⟩ = some (.int .i64 (L.getD i I0).cost) ∧ IntsAt w a1 n1 c1 (L.getD i I0).word
theorem ItemsAt.nil (w : World) (a : Option Addr) (c : Nat) (hc : c ≤ 9223372036854775807) : ItemsAt w a 0 c [] := ⟨rfl, by omega, hc, fun i h => absurd h (by omega)⟩
theorem ItemsAt.below {w w' : World} {B : Nat} {a : Option Addr} {n c : Nat} {L : List It} (h : ItemsAt w a n c L) (hb : Below B w w') (hB : w.heap.size ≤ B) : ItemsAt w' a n c L :=
  ⟨h.len, h.le, h.small, fun i hi => by
    obtain ⟨b, off, a1, n1, c1, ha, hlt, h0, h1, h2, hr⟩ := h.cells i hi
    have hl : b < B := Nat.lt_of_lt_of_le hlt hB
    exact ⟨b, off, a1, n1, c1, ha, Nat.lt_of_lt_of_le hlt hb.size, (hb.cell (p := ⟨b, off + i * 3, none⟩) hl).trans h0, (hb.cell (p := ⟨b, off + i * 3 + 1, none⟩) hl).trans h1, (hb.cell (p := ⟨b, off + i * 3 + 2, none⟩) hl).trans h2, hr.below hb hB⟩⟩
theorem ItemsAt.drewN {w : World} {a : Option Addr} {n c : Nat} {L : List It} (h : ItemsAt w a n c L) (q : Nat) : ItemsAt (w.drewN q) a n c L :=
  ⟨h.len, h.le, h.small, fun i hi => by
    obtain ⟨b, off, a1, n1, c1, ha, hlt, h0, h1, h2, hr⟩ := h.cells i hi
    exact ⟨b, off, a1, n1, c1, ha, hlt, h0, h1, h2, hr.drewN q⟩⟩
/-- v is the lexicon L -/
def LexAt (w : World) (v : Value) (L : Lx) : Prop := ∃ a n c a' n' c', v = .agg #[.slice a n c, .slice a' n' c'] ∧ ItemsAt w a n c L.items ∧ ListsAt w a' n' c' L.follow
theorem LexAt.below {w w' : World} {B : Nat} {v : Value} {L : Lx} (h : LexAt w v L) (hb : Below B w w') (hB : w.heap.size ≤ B) : LexAt w' v L := by
  obtain ⟨a, n, c, a', n', c', e, h1, h2⟩ := h
  exact ⟨a, n, c, a', n', c', e, h1.below hb hB, h2.below hb hB⟩
theorem LexAt.drewN {w : World} {v : Value} {L : Lx} (h : LexAt w v L) (q : Nat) : LexAt (w.drewN q) v L := by
  obtain ⟨a, n, c, a', n', c', e, h1, h2⟩ := h
  exact ⟨a, n, c, a', n', c', e, h1.drewN q, h2.drewN q⟩
theorem cell_below {w w' : World} {p : Addr} {v : Value} (h : w.cell? p = some v) (hb : Below w.heap.size w w') : w'.cell? p = some v :=
  (hb.cell (World.block_lt_of_cell? w p h)).trans h
end Go.Proofs.Kv
namespace Go.Proofs.Ytgpenbajhndhiaa
open Go.RowKit Go.Proofs.Kv Go
def areB (l : List Int) (lo hi : Int) : Bool := l.all fun x => Within x lo hi
theorem areB_no {l : List Int} {lo hi : Int} {k : Nat} (hk : k < l.length) (h : Within (l.getD k 0) lo hi = false) : areB l lo hi = false := by
  rw [areB, List.all_eq_false]; exact ⟨_, getD_mem hk, by rw [h]; decide⟩
theorem areB_yes {l : List Int} {lo hi : Int} {n : Nat} (hn : l.length = n) (h : ∀ j, j < n → Within (l.getD j 0) lo hi = true) : areB l lo hi = true := by
  rw [areB, List.all_eq_true]; intro x hx
  obtain ⟨j, hj, rfl⟩ := mem_getD hx
  exact h j (by omega)
theorem areB_at {l : List Int} {lo hi : Int} (h : areB l lo hi = true) {k : Nat} (hk : k < l.length) : lo ≤ l.getD k 0 ∧ l.getD k 0 ≤ hi := by
  rw [areB, List.all_eq_true] at h
  have := h _ (getD_mem hk)
  simpa [Within] using this
theorem isBetween_calls (n lo hi : Int) (w : World) :
    Calls Try.prog 64 #[.int .i64 n, .int .i64 lo, .int .i64 hi] w fun e w' => e = .returned (.bool (Within n lo hi)) ∧ w = w' := by
  have Hf : Hid (Within n lo hi = (decide (lo ≤ n) && decide (n ≤ hi))) := hid_ rfl
  by_cases h0 : lo ≤ n
  · by_cases h1 : n ≤ hi
    · have Hr : Hid (Within n lo hi = true) := hid_ (by rw [Hf.out, decide_eq_true h0, decide_eq_true h1]; rfl)
      go_enter Try.func64, Try.ntmps64
      go_wp2
      go_ret
      exact ⟨retB Hr.out, rfl⟩
    · have Hr : Hid (Within n lo hi = false) := hid_ (by rw [Hf.out, decide_eq_true h0, decide_eq_false h1]; rfl)
      go_enter Try.func64, Try.ntmps64
      go_wp2
      go_ret
      exact ⟨retB Hr.out, rfl⟩
  · have Hr : Hid (Within n lo hi = false) := hid_ (by rw [Hf.out, decide_eq_false h0]; rfl)
    go_enter Try.func64, Try.ntmps64
    go_wp2
    go_ret
    exact ⟨retB Hr.out, rfl⟩
theorem within8_calls (n lo hi : Int) (w : World) :
    Calls Try.prog 59 #[.int .i64 n, .int .i64 lo, .int .i64 hi] w fun e w' => e = .returned (.bool (Within n lo hi)) ∧ w = w' := by
  have Hf : Hid (Within n lo hi = (decide (lo ≤ n) && decide (n ≤ hi))) := hid_ rfl
  by_cases h0 : lo ≤ n
  · by_cases h1 : n ≤ hi
    · have Hr : Hid (Within n lo hi = true) := hid_ (by rw [Hf.out, decide_eq_true h0, decide_eq_true h1]; rfl)
      go_enter Try.func59, Try.ntmps59
      go_wp2
      go_ret
      exact ⟨retB Hr.out, rfl⟩
    · have Hr : Hid (Within n lo hi = false) := hid_ (by rw [Hf.out, decide_eq_true h0, decide_eq_false h1]; rfl)
      go_enter Try.func59, Try.ntmps59
      go_wp2
      go_ret
      exact ⟨retB Hr.out, rfl⟩
  · have Hr : Hid (Within n lo hi = false) := hid_ (by rw [Hf.out, decide_eq_false h0]; rfl)
    go_enter Try.func59, Try.ntmps59
    go_wp2
    go_ret
    exact ⟨retB Hr.out, rfl⟩
set_option maxRecDepth 100000 in
theorem between1_calls (lb hb : Nat) (x lo hi : Int) (w : World) (ql : w.cell? ⟨lb, 0, none⟩ = some (.int .i64 lo)) (qh : w.cell? ⟨hb, 0, none⟩ = some (.int .i64 hi)) :
    Calls Try.prog 74 #[.int .i64 x, .pointer (some ⟨lb, 0, none⟩), .pointer (some ⟨hb, 0, none⟩)] w fun e w' => e = .returned (.bool (!Within x lo hi)) ∧ w = w' := by
  have HC := hid_ (isBetween_calls x lo hi w)
  go_enter Try.func74, Try.ntmps74
  go_wp2_with (go_at_call 64; (with_reducible refine HC.out.mono ?_); rintro e w2 ⟨rfl, rfl⟩)
  go_ret
  exact ⟨rfl, rfl⟩
set_option maxRecDepth 100000 in
set_option maxHeartbeats 4000000 in
theorem indexB_calls (lb hb : Nat) (lo hi : Int) (a : Option Addr) (n c : Nat) (l : List Int) (w : World) (ql : w.cell? ⟨lb, 0, none⟩ = some (.int .i64 lo)) (qh : w.cell? ⟨hb, 0, none⟩ = some (.int .i64 hi)) (h : IntsAt w a n c l) :
    Calls Try.prog 90 #[.slice a n c, .func (.func 74) #[] #[.pointer (some ⟨lb, 0, none⟩), .pointer (some ⟨hb, 0, none⟩)]] w fun e w' => ∃ r : Int, e = .returned (.int .i64 r) ∧ decide (0 ≤ r) = !areB l lo hi ∧ w = w' := by
  have hn : n ≤ 9223372036854775807 := Nat.le_trans h.le h.small
  have hent : ∀ args W, (callFunc 74 args).run Try.prog W = .ok (.enter 74 args) W := enters_of Try.func74 (by kernel_rfl) rfl
  have HY := hid_ (@areB_yes l lo hi n h.len)
  have HN := hid_ (fun k (hk : k < n) => @areB_no l lo hi k (by rw [h.len]; exact hk))
  have HC := hid_ (fun x => between1_calls lb hb x lo hi w ql qh)
  clear ql qh
  go_enter Try.func90, Try.ntmps90
  go_wp2
  go_loop [8] (fun i => ∃ k : Nat, k ≤ n ∧ i = .int .i64 k ∧ ∀ j, j < k → Within (l.getD j 0) lo hi = true) (fun i => n - (intOf i).toNat)
  case atStart => exact ⟨0, Nat.zero_le _, rfl, fun _ h => absurd h (by omega)⟩
  case round =>
    obtain ⟨k, hk, rfl, hall⟩ := hrel
    have Hall := hid_ hall
    clear hall
    by_cases hlt : k < n
    · obtain ⟨b, off, rfl, -, hcell⟩ := h.cells k hlt
      have hno := HN.out k hlt
      have hy := fun hx => lt_snoc (p := fun j => Within (l.getD j 0) lo hi = true) Hall.out hx
      have hy' : Within (l.getD k 0) lo hi = true → ∀ j, j < k + 1 → Within (l.getD j 0) lo hi = true := hy
      clear hy
      have hc := HC.out (l.getD k 0)
      generalize l.getD k 0 = x at *
      cases hm : Within x lo hi with
      | true =>
        rw [hm] at hc
        have Hf := hid_ (hy' hm)
        have Hc := hid_ hc
        clear hm hno hy' hc
        go_wp2_with (go_at_call 74; (with_reducible refine Hc.out.mono ?_); rintro e w4 ⟨rfl, rfl⟩)
        go_round
        case rel => exact ⟨k + 1, by omega, by go_num, Hf.out⟩
        case measure => simp [intOf]; omega
      | false =>
        rw [hm] at hc
        have HR := hid_ (hno hm)
        have Hc := hid_ hc
        clear hm hno hy' hc
        go_wp2_with (go_at_call 74; (with_reducible refine Hc.out.mono ?_); rintro e w4 ⟨rfl, rfl⟩)
        go_ret
        exact ⟨_, rfl, by rw [HR.out]; exact decide_eq_true (Int.natCast_nonneg k), rfl⟩
    · obtain rfl : n = k := by omega
      have HR := hid_ (HY.out Hall.out)
      go_wp2
      go_ret
      exact ⟨_, rfl, by rw [HR.out]; rfl, rfl⟩
set_option maxRecDepth 100000 in
theorem containsB_calls (lb hb : Nat) (lo hi : Int) (a : Option Addr) (n c : Nat) (l : List Int) (w : World) (ql : w.cell? ⟨lb, 0, none⟩ = some (.int .i64 lo)) (qh : w.cell? ⟨hb, 0, none⟩ = some (.int .i64 hi)) (h : IntsAt w a n c l) :
    Calls Try.prog 73 #[.slice a n c, .func (.func 74) #[] #[.pointer (some ⟨lb, 0, none⟩), .pointer (some ⟨hb, 0, none⟩)]] w fun e w' => e = .returned (.bool (!areB l lo hi)) ∧ w = w' := by
  have HI := hid_ (indexB_calls lb hb lo hi a n c l w ql qh h)
  clear h ql qh
  go_enter Try.func73, Try.ntmps73
  go_wp2_with (go_at_call 90; (with_reducible refine HI.out.mono ?_); rintro e w4 ⟨r, rfl, hr, rfl⟩; have Hr := hid_ hr; clear hr)
  go_ret
  exact ⟨by rw [← Hr.out]; rfl, rfl⟩
set_option maxRecDepth 100000 in
theorem areBetween_calls (a : Option Addr) (n c : Nat) (l : List Int) (lo hi : Int) (w : World) (h : IntsAt w a n c l) :
    Calls Try.prog 60 #[.slice a n c, .int .i64 lo, .int .i64 hi] w fun e w' => e = .returned (.bool (areB l lo hi)) ∧ Below w.heap.size w w' := by
  have cb1 := below_alloc w (.cells #[.int .i64 lo] 3)
  have cb2 := below_alloc (w.alloc (.cells #[.int .i64 lo] 3)) (.cells #[.int .i64 hi] 3)
  have Hb := hid_ (cb1.trans (cb2.mono cb1.size))
  have HC := hid_ (containsB_calls w.heap.size (w.heap.size + 1) lo hi a n c l ((w.alloc (.cells #[.int .i64 lo] 3)).alloc (.cells #[.int .i64 hi] 3)) (cell_below (cells_alloc _ _ _ 0) cb2) (by rw [← size_alloc_one w (.cells #[.int .i64 lo] 3)]; exact cells_alloc _ _ _ 0) (h.below Hb.out (Nat.le_refl _)))
  clear h cb1 cb2
  go_enter Try.func60, Try.ntmps60
  go_wp2_with (go_at_call 73; (with_reducible refine HC.out.mono ?_); rintro e w4 ⟨rfl, rfl⟩)
  go_ret
  exact ⟨by simp, Hb.out⟩
set_option maxRecDepth 100000 in
theorem areSounds8_calls (a : Option Addr) (n c : Nat) (l : List Int) (w : World) (h : IntsAt w a n c l) :
    Calls Try.prog 47 #[.slice a n c] w fun e w' => e = .returned (.bool (areB l 0 5)) ∧ Below w.heap.size w w' := by
  have HC := hid_ (areBetween_calls a n c l 0 5 w h)
  clear h
  go_enter Try.func47, Try.ntmps47
  go_wp2_with (go_at_call 60; (with_reducible refine HC.out.mono ?_); rintro e w4 ⟨rfl, hb⟩)
  go_ret
  exact ⟨rfl, hb⟩
end Go.Proofs.Ytgpenbajhndhiaa
