import Derived.Test.YtoopgmoopmbfnaaSndP
import Derived.Test.YtoopgmoopmbfnaaMathB
import Derived.Deep.RegionHeld3
namespace Go.Proofs.Ytoopgmoopmbfnaa
open Go.RowKit Go.Proofs.Kv Go.Proofs.Snd

theorem below_drew {B : Nat} {a w : World} (h : Below B a w) : Below B a w.drew := ⟨h.os, h.tape, h.output, h.size, h.block⟩
/-! ### Named: what it asks of a name -/
set_option maxRecDepth 100000 in
theorem namedAsk_calls (p2 p3 : Addr) (a : Option Addr) (n c : Nat) (L : List (List Int)) (a' : Option Addr) (n' c' : Nat) (s : List Int) (x : Int) (y : Nat) (w : World) (h : ListsAt w a n c L) (h' : IntsAt w a' n' c' s)
    (hp2 : w.cell? p2 = some (.slice a n c)) (hp3 : w.cell? p3 = some (.slice a' n' c')) (hg : Good L) (hy : y < n) (hx : x ∈ (L.take (y + 1)).flatten) :
    Calls Try.prog 96 #[.agg #[.int .i64 x, .int .i64 y], .pointer (some p2), .pointer (some p3)] w fun e w' => e = .returned (.bool (!Same (standL L x y) s)) ∧ Below w.heap.size w w' := by
  have Hst : Hid (∀ W, Below w.heap.size w W → Calls Try.prog 98 #[.slice a n c, .agg #[.int .i64 x, .int .i64 y]] W fun e w' => ∃ v, e = .returned v ∧ Made 3 W w' v (standL L x y)) := hid_ fun W hW =>
    sndStand_calls a n c L x y W (h.below hW (Nat.le_refl _)) (by have := hg.flat; omega) hy hx hg.nd hg.rg
  have Hs : Hid (∀ W, Below w.heap.size w W → IntsAt W a' n' c' s) := hid_ fun W hW => h'.below hW (Nat.le_refl _)
  have hl2 := World.block_lt_of_cell? w p2 hp2
  have hl3 := World.block_lt_of_cell? w p3 hp3
  generalize standL L x y = l at Hst
  clear h h' hx hy hg
  go_enter Try.func96, Try.ntmps96
  go_wp2
  obtain ⟨w1, hw1⟩ : ∃ w1, w.alloc (.cells #[.int .i64 x, .int .i64 y] 71) = w1 := ⟨_, rfl⟩
  have hb1 : Below w.heap.size w w1 := by rw [← hw1]; exact (Below.refl _ w).alloc (Nat.le_refl _) _
  have c0 : w1.cell? ⟨w.heap.size, 0, none⟩ = some (.int .i64 x) := by rw [← hw1, World.cell?_alloc_at _ _ _ _ rfl]; rfl
  have c1 : w1.cell? ⟨w.heap.size, 1, none⟩ = some (.int .i64 y) := by rw [← hw1, World.cell?_alloc_at _ _ _ _ rfl]; rfl
  have c2 := (hb1.cell hl2).trans hp2
  have c3 := (hb1.cell hl3).trans hp3
  have hz : w.heap.size < w1.heap.size := by rw [← hw1]; simp
  rw [hw1]
  clear hw1 hp2 hp3
  have HS : Hid (∀ W, Below w1.heap.size w1 W → W.cell? p2 = some (.slice a n c) ∧ W.cell? ⟨w.heap.size, 0, none⟩ = some (.int .i64 x) ∧ W.cell? ⟨w.heap.size, 1, none⟩ = some (.int .i64 y) ∧ W.cell? p3 = some (.slice a' n' c') ∧ Below w1.heap.size w1 W) := hid_ fun W hW =>
    ⟨(hW.cell (Nat.lt_of_lt_of_le hl2 hb1.size)).trans c2, (hW.cell (p := ⟨w.heap.size, 0, none⟩) hz).trans c0, (hW.cell (p := ⟨w.heap.size, 1, none⟩) hz).trans c1, (hW.cell (Nat.lt_of_lt_of_le hl3 hb1.size)).trans c3, hW⟩
  have hbd : Below w1.heap.size w1 w1.drew := below_drew (Below.refl _ _)
  go_region_held3 (fun W => W.cell? p2 = some (.slice a n c) ∧ W.cell? ⟨w.heap.size, 0, none⟩ = some (.int .i64 x) ∧ W.cell? ⟨w.heap.size, 1, none⟩ = some (.int .i64 y) ∧ W.cell? p3 = some (.slice a' n' c') ∧ Below w1.heap.size w1 W) (first | exact HS.out _ (by assumption) | fail)
    (first
      | (go_at_call 98; refine (Hst.out _ (hb1.trans (hbd.mono hb1.size))).mono ?_; rintro e w2 ⟨v, rfl, hm⟩; obtain ⟨a5, c5, rfl, hI5⟩ := hm.at_; have hb2 : Below w1.heap.size w1 w2 := hbd.trans hm.bel; clear hm)
      | (go_at_call 97; refine (equal_calls _ _ _ _ _ _ _ _ _ hI5 (Hs.out _ (hb1.trans (hb2.mono hb1.size)))).mono ?_; rintro e w3 ⟨rfl, q, rfl⟩; have hb3 : Below w1.heap.size w1 (w2.drewN q) := below_drewN hb2 q))
  go_wp2
  go_ret
  exact ⟨rfl, hb1.trans (Below.mono (by assumption) hb1.size)⟩

/-! ### slices.IndexFunc of names -/
def idxP (P : Int × Int → Bool) (l : List (Int × Int)) : Int := if l.any P then (l.findIdx P : Int) else -1
theorem idxP_hit {P : Int × Int → Bool} {l : List (Int × Int)} {k : Nat} (hk : k < l.length) (h : ∀ j, j < k → P (l.getD j (0, 0)) = false) (hh : P (l.getD k (0, 0)) = true) : idxP P l = k := by
  have e : l.findIdx P = k := by
    rw [List.findIdx_eq hk]
    refine ⟨by simpa [List.getD, List.getElem?_eq_getElem hk] using hh, fun j hj => ?_⟩
    have := h j hj
    simpa [List.getD, List.getElem?_eq_getElem (show j < l.length by omega)] using this
  rw [idxP, if_pos, e]
  refine List.any_eq_true.2 ⟨_, List.getElem_mem hk, ?_⟩
  simpa [List.getD, List.getElem?_eq_getElem hk] using hh
theorem idxP_miss {P : Int × Int → Bool} {l : List (Int × Int)} {n : Nat} (hn : l.length = n) (h : ∀ j, j < n → P (l.getD j (0, 0)) = false) : idxP P l = -1 := by
  rw [idxP, if_neg]
  rw [Bool.not_eq_true, List.any_eq_false]
  intro x hx
  obtain ⟨i, hi, e⟩ := List.mem_iff_getElem.1 hx
  have := h i (by omega)
  rw [List.getD, List.getElem?_eq_getElem hi, Option.getD_some, e] at this
  simp [this]
/-- what a function value answers of the names of a list, in every later world -/
def Asks (P : Int × Int → Bool) (l : List (Int × Int)) (p2 p3 : Addr) (B : Nat) (w : World) : Prop :=
  ∀ W k, Below B w W → k < l.length → Calls Try.prog 96 #[.agg #[.int .i64 (l.getD k (0, 0)).1, .int .i64 (l.getD k (0, 0)).2], .pointer (some p2), .pointer (some p3)] W fun e w' => e = .returned (.bool (P (l.getD k (0, 0)))) ∧ Below W.heap.size W w'
set_option maxRecDepth 100000 in
theorem indexFunc_calls (P : Int × Int → Bool) (p2 p3 : Addr) (a : Option Addr) (n c : Nat) (l : List (Int × Int)) (w : World) (h : PairsAt w a n c l) {B : Nat} (hB : B ≤ w.heap.size) (hP : Asks P l p2 p3 B w) :
    Calls Try.prog 127 #[.slice a n c, .func (.func 96) #[] #[.pointer (some p2), .pointer (some p3)]] w fun e w' => e = .returned (.int .i64 (idxP P l)) ∧ Below w.heap.size w w' := by
  have hn : n ≤ 9223372036854775807 := Nat.le_trans h.le h.small
  have eg : ∀ args w, (callFunc 96 args).run Try.prog w = .ok (.enter 96 args) w := enters_of Try.func96 (by kernel_rfl) rfl
  have hl := h.len
  have HP := hid_ hP; clear hP
  have Hl := hid_ hl; clear hl
  go_enter Try.func127, Try.ntmps127
  go_wp2
  go_loopw [8] (fun i wr => ∃ k : Nat, k ≤ n ∧ i = .int .i64 k ∧ (∀ j, j < k → P (l.getD j (0, 0)) = false) ∧ Below w.heap.size w wr) (fun i _ => n - (intOf i).toNat)
  case atStart => exact ⟨0, Nat.zero_le _, rfl, fun _ h => absurd h (by omega), Below.refl _ _⟩
  case round =>
    obtain ⟨k, hk, rfl, hall, hbel⟩ := hrel
    have Hall := hid_ hall; clear hall
    by_cases hlt : k < n
    · obtain ⟨b, off, rfl, hb, hc1, hc2⟩ := (h.below hbel (Nat.le_refl _)).cells k hlt
      have Hc := hid_ (HP.out wr k (hbel.mono hB) (by rw [Hl.out]; exact hlt))
      have Hbel := hid_ hbel
      cases hq : P (l.getD k (0, 0)) with
      | true =>
        have Hf : Hid (idxP P l = k) := hid_ (idxP_hit (by rw [Hl.out]; exact hlt) Hall.out hq)
        rw [hq] at Hc
        have Hc' := hid_ Hc.out
        clear Hc hq
        generalize l.getD k (0, 0) = xy at hc1 hc2 Hc'
        obtain ⟨x, y⟩ := xy
        simp only at hc1 hc2
        go_wp2_with (go_at_call 96; refine Hc'.out.mono ?_; rintro e w' ⟨rfl, hb'⟩)
        go_ret
        exact ⟨retI Hf.out, Hbel.out.trans (hb'.mono Hbel.out.size)⟩
      | false =>
        have Hq := hid_ hq
        rw [hq] at Hc
        have Hc' := hid_ Hc.out
        clear Hc hq
        generalize hxy : l.getD k (0, 0) = xy at hc1 hc2 Hc'
        have Hxy := hid_ hxy; clear hxy
        obtain ⟨x, y⟩ := xy
        simp only at hc1 hc2
        go_wp2_with (go_at_call 96; refine Hc'.out.mono ?_; rintro e w' ⟨rfl, hb'⟩)
        go_roundw
        case rel => exact ⟨k + 1, by omega, by go_num, lt_snoc Hall.out Hq.out, Hbel.out.trans (hb'.mono Hbel.out.size)⟩
        case measure => simp [intOf]; omega
    · have Hf : Hid (idxP P l = -1) := hid_ (idxP_miss Hl.out fun j hj => Hall.out j (by omega))
      go_wp2
      go_ret
      exact ⟨retI Hf.out, hbel⟩
end Go.Proofs.Ytoopgmoopmbfnaa
