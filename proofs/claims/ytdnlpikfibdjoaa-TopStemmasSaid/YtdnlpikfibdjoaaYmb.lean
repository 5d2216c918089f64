import Derived.Test.YtdnlpikfibdjoaaYma
import Derived.WideKeyPair
namespace Go.Proofs.Ytdnlpikfibdjoaa
open Go.RowKit Go.Proofs.Kv

/-! ### splits, side -/
theorem diffR_le (T : List (List Int)) (p : Nat) : diffR T p ≤ T.length := by
  have := uq_le (colR T p); rw [colR_len] at this; exact this
def splR (T : List (List Int)) (p : Nat) : Bool := decide (diffR T p = 2)
theorem splits_calls (a : Option Addr) (n c : Nat) (T : List (List Int)) (p : Nat) (w : World) (h : ListsAt w a n c T) (g : GoodT T) (hp : p < n0 T) :
    Calls Try.prog 95 #[.slice a n c, .int .i64 (p : Int)] w fun e w' => e = .returned (.bool (splR T p)) ∧ Below w.heap.size w w' := by
  have HD := hid_ (stdiff_calls a n c T p w h g hp)
  have HS : Hid (splR T p = decide (diffR T p = 2)) := hid_ rfl
  have hle := diffR_le T p
  have hle6 := g.le
  generalize diffR T p = d at *
  by_cases he : d = 2
  · subst he
    go_enter Try.func95, Try.ntmps95
    go_wp2_with (go_at_call 103; refine (HD.out).mono ?_; rintro e w' ⟨rfl, hb⟩)
    go_ret
    exact ⟨retB HS.out, hb⟩
  · have hq : ((d : Int) == 2) = false := by simp; omega
    have Hf := hid_ (HS.out.trans (decide_eq_false he))
    clear he HS
    go_enter Try.func95, Try.ntmps95
    go_wp2_with (go_at_call 103; refine (HD.out).mono ?_; rintro e w' ⟨rfl, hb⟩)
    go_ret
    exact ⟨retB Hf.out, hb⟩
def sidB (T : List (List Int)) (p : Nat) (i : Int) : Bool := decide ((T.getD i.toNat []).getD p 0 ≠ (T.getD 0 []).getD p 0)
def sideR (T : List (List Int)) (p : Nat) : List Int := pl (sidB T p) T.length
set_option maxRecDepth 100000 in
theorem side_calls (a : Option Addr) (n c : Nat) (T : List (List Int)) (p : Nat) (w : World) (h : ListsAt w a n c T) (g : GoodT T) (hp : p < n0 T) :
    Calls Try.prog 96 #[.slice a n c, .int .i64 (p : Int)] w fun e w' => ∃ v, e = .returned v ∧ Made 3 w w' v (sideR T p) := by
  obtain ⟨i0, hi0, hz0, hz1, hz2⟩ := info_parts Try.infoInt
  have hn : n ≤ 9223372036854775807 := Nat.le_trans h.le h.small
  have h0 : 0 < n := by have := g.ge; have := h.len; omega
  have hn6 : n ≤ 6 := by have := g.le; have := h.len; omega
  have Hlen := hid_ h.len
  have Hg := hid_ g
  have HR : Hid (sideR T p = pl (sidB T p) n) := hid_ (by rw [sideR, h.len])
  have HZ : Hid (pl (sidB T p) 0 = []) := hid_ rfl
  generalize sideR T p = R at *
  clear g
  go_enter Try.func96, Try.ntmps96
  go_wp2
  go_loopw [5, 10] (fun v i wr => ∃ k : Nat, k ≤ n ∧ i = .int .i64 k ∧ wr.ownsRow w.heap.size 3 1 v (pl (sidB T p) k).length ((pl (sidB T p) k).map (Value.int .i64)) ∧ Below w.heap.size w wr) (fun _ i _ => n - (intOf i).toNat)
  case atStart => exact ⟨0, Nat.zero_le _, rfl, by rw [HZ.out]; exact World.ownsRow_nil _ _ _ _, Below.refl _ _⟩
  case round =>
    obtain ⟨k, hk, rfl, hown, hb⟩ := hrel
    have hsz := hb.size
    by_cases hlt : k < n
    · have hT := h.below hb (Nat.le_refl _)
      obtain ⟨b, off, a1, n1, c1, rfl, hb', hcell, hrow⟩ := hT.cells k hlt
      obtain ⟨b', off', a2, n2, c2, e, hb'', hcell2, hrow2⟩ := hT.cells 0 h0
      injection e with e; injection e with e1 e2; subst e1; subst e2
      rw [Nat.add_zero] at hcell2
      have hl : k < T.length := by rw [Hlen.out]; exact hlt
      have hpn : p < n1 := by rw [← hrow.len, Hg.out.len k hl]; exact hp
      have hpn2 : p < n2 := by rw [← hrow2.len, Hg.out.len 0 (by omega)]; exact hp
      have hrl := Nat.le_trans hrow.le hrow.small
      have hrl2 := Nat.le_trans hrow2.le hrow2.small
      obtain ⟨b1, off1, rfl, hb1, hcell1⟩ := hrow.cells p hpn
      obtain ⟨b3, off3, rfl, hb3, hcell3⟩ := hrow2.cells p hpn2
      have Hb := hid_ hb
      have hS : sidB T p (k : Int) = decide ((T.getD k []).getD p 0 ≠ (T.getD 0 []).getD p 0) := rfl
      have HH := hid_ (@pl_hit (sidB T p) k)
      have HM := hid_ (@pl_miss (sidB T p) k)
      have hle := pl_le (sidB T p) k
      clear hT hrow hrow2 hb
      generalize (T.getD k []).getD p 0 = y at *
      generalize (T.getD 0 []).getD p 0 = z at *
      have Hown := hid_ hown
      clear hown
      by_cases he : y = z
      · have Hf := hid_ (HM.out (by rw [hS]; simp [he]))
        have hq : (y != z) = false := by simpa using he
        clear he hS HH HM
        go_wp2_with fail
        go_quiet (fail)
        go_wp2
        go_roundw
        case rel => exact ⟨k + 1, by omega, by go_num, by rw [Hf.out]; exact own_drewN Hown.out _, below_drewN Hb.out _⟩
        case measure => simp [intOf]; omega
      · have Hf := hid_ (HH.out (by rw [hS]; simp [he]))
        have hq : (y != z) = true := by simpa using he
        clear he hS HH HM
        go_wp2_with fail
        go_quiet (fail)
        go_wp2_with (at_builtin; refine wpList_append_ints _ rfl (.tmp 26) (.tmp 28) _ rfl w.heap.size 3 i0 Try.underlying22 hi0 hz0 hz1 hz2 _ _ _ rfl ((own_drewN Hown.out nq).alloc _) _ 1 1 [(k : Int)] rfl (IntsAt.one _ _ _) (by omega) (le_alloc (w := wr.drewN nq) hsz) ?_; intro v' w1 hown1 hg1 hat1)
        go_roundw
        case rel => exact ⟨k + 1, by omega, by go_num, by rw [Hf.out, List.length_append]; exact hown1, below_app (below_drewN Hb.out nq) hsz (own_drewN Hown.out nq) hg1⟩
        case measure => simp [intOf]; omega
    · obtain rfl : n = k := by omega
      have Hown := hid_ hown
      clear hown
      go_wp2
      go_ret
      exact ⟨_, rfl, by rw [HR.out]; exact ⟨Hown.out, hb⟩⟩
/-! ### conflict -/
theorem laid7 : laidOutB Try.prog = true := by kernel_rfl
theorem cellsPair7 : Try.prog.cellsOf 128 = 2 := by kernel_rfl
theorem arrPair7 : Go.WideMaps.ArrKey Try.prog 128 3 2 := ⟨Try.underlying128, by kernel_rfl, by kernel_rfl, cellsPair7⟩
theorem pairLaw7 : Maps.Keyed Try.prog 128 := Maps.Keyed.of_law (deep_law_laid laid7 (m := 2) (by omega) (of_decide_eq_true (by kernel_rfl)) (by kernel_rfl) (by rw [Try.underlying128]))
def pairV (x : Int × Int) : Value := .agg #[.int .i64 x.1, .int .i64 x.2]
theorem pairKey {x : Int × Int} (h : (0 ≤ x.1 ∧ x.1 ≤ 1000) ∧ 0 ≤ x.2 ∧ x.2 ≤ 1000) : ∃ l, keyOf Try.prog 128 (pairV x) = some l :=
  ⟨_, Go.WideMaps.keyOf_pair arrPair7 Try.underlying3 (Nat.exists_eq_succ_of_ne_zero (by intro e; have : (0 : Nat) < Try.prog.types.size := of_decide_eq_true (by kernel_rfl); omega)) (WalkArith.wf_i64 (by omega)) (WalkArith.wf_i64 (by omega))⟩
theorem pairV_inj {x y : Int × Int} (h : pairV x = pairV y) : x = y := by
  simp [pairV] at h
  exact Prod.ext h.1 h.2
def colP (T : List (List Int)) (p q : Nat) : List (Int × Int) := T.map fun r => (r.getD p 0, r.getD q 0)
theorem colP_len (T : List (List Int)) (p q : Nat) : (colP T p q).length = T.length := by simp [colP]
theorem colP_take {T : List (List Int)} {p q k : Nat} (hk : k < T.length) : (colP T p q).take (k + 1) = (colP T p q).take k ++ [((T.getD k []).getD p 0, (T.getD k []).getD q 0)] := by
  rw [take_snoc _ (0, 0) _ (by rw [colP_len]; exact hk)]
  simp [colP, List.getD, List.getElem?_eq_getElem hk]
theorem colP_mem {T : List (List Int)} (h : GoodT T) {p q : Nat} (hp : p < n0 T) (hq : q < n0 T) {x : Int × Int} (hx : x ∈ colP T p q) : (0 ≤ x.1 ∧ x.1 ≤ 2) ∧ 0 ≤ x.2 ∧ x.2 ≤ 2 := by
  obtain ⟨r, hr, rfl⟩ := List.mem_map.1 hx
  obtain ⟨i, hi, rfl⟩ := List.mem_iff_getElem.1 hr
  have e : T.getD i [] = T[i] := by simp [List.getD, List.getElem?_eq_getElem hi]
  have h1 := h.ok i hi p hp
  have h2 := h.ok i hi q hq
  rw [e] at h1 h2
  exact ⟨h1, h2⟩
def cfR (T : List (List Int)) (p q : Nat) : Bool := splR T p && (splR T q && decide ((uq (colP T p q)).length = 4))
theorem uqP_le (T : List (List Int)) (p q : Nat) : (uq (colP T p q)).length ≤ T.length := by
  have := uq_le (colP T p q); rw [colP_len] at this; exact this
set_option maxRecDepth 100000 in
set_option maxHeartbeats 1000000 in
theorem conflict_calls (a : Option Addr) (n c : Nat) (T : List (List Int)) (p q : Nat) (w : World) (h : ListsAt w a n c T) (g : GoodT T) (hp : p < n0 T) (hq : q < n0 T) :
    Calls Try.prog 112 #[.slice a n c, .int .i64 (p : Int), .int .i64 (q : Int)] w fun e w' => e = .returned (.bool (cfR T p q)) ∧ Below w.heap.size w w' := by
  have hn : n ≤ 9223372036854775807 := Nat.le_trans h.le h.small
  have hn6 : n ≤ 6 := by have := g.le; have := h.len; omega
  have Hlen := hid_ h.len
  have Hg := hid_ g
  have HA := hid_ (splits_calls a n c T p w h g hp)
  have HB := hid_ (fun W (hW : Below w.heap.size w W) => splits_calls a n c T q W (h.below hW (Nat.le_refl _)) g hq)
  have HC : Hid (cfR T p q = (splR T p && (splR T q && decide ((uq (colP T p q)).length = 4)))) := hid_ rfl
  have hmm := @run_makeMap Try.prog
  have Hall : Hid ((colP T p q).take n = colP T p q) := hid_ (List.take_of_length_le (by rw [colP_len, h.len]; omega))
  have hU := uqP_le T p q
  rw [h.len] at hU
  clear g
  generalize cfR T p q = R at *
  cases h1 : splR T p with
  | false =>
    rw [h1] at HA HC
    clear h1
    go_enter Try.func112, Try.ntmps112
    go_wp2_with (go_at_call 95; refine (HA.out).mono ?_; rintro e w' ⟨rfl, hb⟩)
    go_ret
    exact ⟨retB HC.out, hb⟩
  | true =>
    rw [h1] at HA HC
    clear h1
    cases h2 : splR T q with
    | false =>
      rw [h2] at HB HC
      clear h2
      go_enter Try.func112, Try.ntmps112
      go_wp2_with (first
        | (go_at_call 95; (with_reducible refine HA.out.mono ?_); rintro e w2 ⟨rfl, hb⟩)
        | (go_at_call 95; (with_reducible refine (HB.out _ hb).mono ?_); rintro e w3 ⟨rfl, hb3⟩))
      go_ret
      exact ⟨retB HC.out, hb.trans (hb3.mono hb.size)⟩
    | true =>
      rw [h2] at HB HC
      clear h2
      go_enter Try.func112, Try.ntmps112
      go_wp2_with (first
        | (go_at_call 95; (with_reducible refine HA.out.mono ?_); rintro e w2 ⟨rfl, hb⟩)
        | (go_at_call 95; (with_reducible refine (HB.out _ hb).mono ?_); rintro e w3 ⟨rfl, hb3⟩))
      have Hb3 := hid_ (hb.trans (hb3.mono hb.size))
      clear hb hb3
      go_loopw [23] (fun i wr => ∃ k : Nat, k ≤ n ∧ i = .int .i64 k ∧ KeysAt pairV wr w3.heap.size (uq ((colP T p q).take k)) ∧ Below w3.heap.size w3 wr) (fun i _ => n - (intOf i).toNat)
      case atStart => exact ⟨0, Nat.zero_le _, rfl, KeysAt.new _ _, below_alloc _ _⟩
      case round =>
        obtain ⟨k, hk, rfl, hks, hb⟩ := hrel
        have Hb := hid_ hb
        have hlk := hks.lt
        by_cases hlt : k < n
        · have hbb := Hb3.out.trans (hb.mono Hb3.out.size)
          obtain ⟨b, off, a1, n1, c1, rfl, hb', hcell, hrow⟩ := (h.below hbb (Nat.le_refl _)).cells k hlt
          have hl : k < T.length := by rw [Hlen.out]; exact hlt
          have hpn : p < n1 := by rw [← hrow.len, Hg.out.len k hl]; exact hp
          have hqn : q < n1 := by rw [← hrow.len, Hg.out.len k hl]; exact hq
          have hrl := Nat.le_trans hrow.le hrow.small
          obtain ⟨b1, off1, rfl, hb1, hcell1⟩ := hrow.cells p hpn
          obtain ⟨b2, off2, e, hb2, hcell2⟩ := hrow.cells q hqn
          injection e with e; injection e with e1 e2; subst e1; subst e2
          have hy := Hg.out.ok k hl p hp
          have hz := Hg.out.ok k hl q hq
          have Ht := hid_ (@colP_take T p q k hl)
          have Hin := hid_ (fun z hz => @colP_mem T Hg.out p q hp hq z hz)
          have Hks := hid_ hks
          have g1 := cell_regrown hcell1
          have g2 := cell_regrown hcell2
          clear hrow hks hb hbb
          generalize (T.getD k []).getD p 0 = y at *
          generalize (T.getD k []).getD q 0 = z at *
          have HF : Hid (∀ x, x ∈ uq ((colP T p q).take k) ∨ x = (y, z) → ∃ l, keyOf Try.prog 128 (pairV x) = some l) := hid_ (fun x hx => by
            rcases hx with hx | rfl
            · have := Hin.out x (List.mem_of_mem_take (mem_uq.1 hx)); exact pairKey ⟨⟨by omega, by omega⟩, by omega, by omega⟩
            · exact pairKey ⟨⟨by omega, by omega⟩, by omega, by omega⟩)
          go_wp2_with fail
          refine wp_region_tail 10 (by kernel_rfl) (by kernel_rfl) ?_
          simp only [List.take_succ_cons, List.take_zero, List.drop_succ_cons, List.drop_zero]
          repeat (first | go_big_quiet_skip | (go_big_quiet_want; go_big_quiet_op; first | go_big_quiet_on | go_big_quiet_call (fail)))
          refine wpQuiet_nil ?_
          rintro wq ⟨pq, hpq⟩
          have hbq := below_wq hpq
          have Hkq := hid_ (Hks.out.block (hbq.block _ hlk))
          have Hbq := hid_ (Hb.out.trans (hbq.mono Hb.out.size))
          clear hpq hbq
          go_wp2_with (at_mapUpdate; refine wpList_keys_store rfl (.tmp 27) (.tmp 36) (.const (.bool true)) rfl pairLaw7 Try.underlying142 w3.heap.size _ rfl Hkq.out (y, z) rfl HF.out (fun x _ e => pairV_inj e) ?_; intro w4 hks2 hg2)
          exact ⟨⟨k + 1, by omega, by go_num, by rw [Ht.out, uq_snoc]; exact hks2, Hbq.out.grown hg2 Hbq.out.size (fun r e => by injection e with e; omega)⟩, by simp [intOf]; omega⟩
        · obtain rfl : n = k := by omega
          rw [Hall.out] at hks
          have Hks := hid_ hks
          clear hks
          generalize uq (colP T p q) = U at *
          obtain ⟨u, hu⟩ : ∃ u, U.length = u := ⟨_, rfl⟩
          have Hu := hid_ hu
          rw [hu] at HC hU
          clear hu
          by_cases h4 : u = 4
          · subst h4
            go_wp2_with (at_len; refine wpList_keys_len rfl (.tmp 38) rfl Try.underlying142 w3.heap.size _ rfl Hks.out ?_; rw [Hu.out])
            go_ret
            exact ⟨retB HC.out, Hb3.out.trans (Hb.out.mono Hb3.out.size)⟩
          · have hqq : ((u : Int) == 4) = false := by simp; omega
            have Hf := hid_ (HC.out.trans (show (true && (true && decide (u = 4))) = false by simp [h4]))
            clear h4 HC
            go_wp2_with (at_len; refine wpList_keys_len rfl (.tmp 38) rfl Try.underlying142 w3.heap.size _ rfl Hks.out ?_; rw [Hu.out])
            go_ret
            exact ⟨retB Hf.out, Hb3.out.trans (Hb.out.mono Hb3.out.size)⟩
end Go.Proofs.Ytdnlpikfibdjoaa
namespace Go.Proofs.Ytdnlpikfibdjoaa
open Go.RowKit Go.Proofs.Kv

/-! ### conflicts -/
theorem cell_below {w w' : World} {p : Addr} {v : Value} (h : w.cell? p = some v) (hb : Below w.heap.size w w') : w'.cell? p = some v := (hb.cell (World.block_lt_of_cell? w p h)).trans h
def rowC (cf : Nat → Nat → Bool) (p j : Nat) : List (Int × Int) := ((List.range j).filter fun q => decide (p < q) && cf p q).map fun q : Nat => ((p : Int), (q : Int))
def allC (cf : Nat → Nat → Bool) (m p : Nat) : List (Int × Int) := (List.range p).flatMap fun i => rowC cf i m
theorem rowC_zero (cf : Nat → Nat → Bool) (p : Nat) : rowC cf p (p + 1) = [] := by
  rw [rowC, List.map_eq_nil_iff, List.filter_eq_nil_iff]
  intro q hq
  have := List.mem_range.1 hq
  simp; omega
theorem rowC_hit {cf : Nat → Nat → Bool} {p j : Nat} (hp : p < j) (h : cf p j = true) : rowC cf p (j + 1) = rowC cf p j ++ [((p : Int), (j : Int))] := by
  simp [rowC, List.range_succ, hp, h]
theorem rowC_miss {cf : Nat → Nat → Bool} {p j : Nat} (h : cf p j = false) : rowC cf p (j + 1) = rowC cf p j := by
  simp [rowC, List.range_succ, h]
theorem rowC_le (cf : Nat → Nat → Bool) (p j : Nat) : (rowC cf p j).length ≤ j := by
  rw [rowC, List.length_map]
  exact Nat.le_trans (List.length_filter_le _ _) (by simp)
theorem allC_succ (cf : Nat → Nat → Bool) (m p : Nat) : allC cf m (p + 1) = allC cf m p ++ rowC cf p m := by simp [allC, List.range_succ]
theorem allC_le (cf : Nat → Nat → Bool) (m : Nat) : ∀ p, (allC cf m p).length ≤ p * m
  | 0 => by simp [allC]
  | p + 1 => by
    have := allC_le cf m p
    have := rowC_le cf p m
    rw [allC_succ, List.length_append, Nat.succ_mul]; omega
def confR (T : List (List Int)) : List (Int × Int) := allC (cfR T) (n0 T) (n0 T)
theorem confR_le {T : List (List Int)} (g : GoodT T) : (confR T).length ≤ 36 := by
  have := allC_le (cfR T) (n0 T) (n0 T)
  have h := g.w6
  have : n0 T * n0 T ≤ 6 * 6 := Nat.mul_le_mul h h
  rw [confR]; omega
theorem Try.infoPair : (Try.prog.info? 128).map (fun i => (i.zero, i.size, i.bytes)) = some (some (.agg #[.int .i64 0, .int .i64 0]), 2, 16) := by kernel_rfl
set_option maxRecDepth 100000 in
set_option maxHeartbeats 1000000 in
theorem conflicts_calls (a : Option Addr) (n c : Nat) (T : List (List Int)) (w : World) (h : ListsAt w a n c T) (g : GoodT T) :
    Calls Try.prog 87 #[.slice a n c] w fun e w' => ∃ v, e = .returned v ∧ MadeP 128 w w' v (confR T) := by
  obtain ⟨i0, hi0, hz0, hz1, hz2⟩ := info_parts Try.infoPair
  have h0 : 0 < n := by have := g.ge; have := h.len; omega
  obtain ⟨b, off, a0, m, c0, rfl, hb0, hc0, hr0⟩ := h.cells 0 h0
  rw [Nat.add_zero] at hc0
  have Hm : Hid (n0 T = m) := hid_ hr0.len
  have hm6 := g.w6
  have HA := hid_ (fun p q (hp : p < m) (hq : q < m) W (hW : Below w.heap.size w W) => conflict_calls _ n c T p q W (h.below hW (Nat.le_refl _)) g (by rw [Hm.out]; exact hp) (by rw [Hm.out]; exact hq))
  have HR : Hid (confR T = allC (cfR T) m m) := hid_ (by rw [confR, Hm.out])
  have HZ : Hid (allC (cfR T) m 0 = []) := hid_ rfl
  rw [Hm.out] at hm6
  have hle := fun p (hp : p ≤ m) => Nat.le_trans (allC_le (cfR T) m p) (Nat.mul_le_mul hp (Nat.le_refl m))
  have hmm36 : m * m ≤ 36 := Nat.mul_le_mul hm6 hm6
  have Hle := hid_ hle
  have Hcr := hid_ (fun p j => rowC_le (cfR T) p j)
  have Hsu := hid_ (fun p => allC_succ (cfR T) m p)
  have Hhit := hid_ (fun p j hp hh => @rowC_hit (cfR T) p j hp hh)
  have Hmis := hid_ (fun p j hh => @rowC_miss (cfR T) p j hh)
  have Hz1 := hid_ (fun p => rowC_zero (cfR T) p)
  have Hcell := hid_ (fun W (hW : Below w.heap.size w W) => cell_below hc0 hW)
  clear hr0 g hle h
  generalize confR T = R at *
  generalize cfR T = cf at *
  go_enter Try.func87, Try.ntmps87
  go_wp2
  go_loopw [3, 10] (fun v i wr => ∃ p : Nat, p ≤ m ∧ i = .int .i64 p ∧ wr.ownsRow w.heap.size 128 2 v (allC cf m p).length ((allC cf m p).flatMap encN) ∧ Below w.heap.size w wr) (fun _ i _ => m - (intOf i).toNat)
  case atStart => exact ⟨0, Nat.zero_le _, rfl, by rw [HZ.out]; exact World.ownsRow_nil _ _ _ _, Below.refl _ _⟩
  case round =>
    obtain ⟨p, hp, rfl, hown, hb⟩ := hrel
    by_cases hlt : p < m
    · have Hown := hid_ hown
      have Hb := hid_ hb
      have hc1 := Hcell.out _ hb
      clear hown hb
      go_wp2
      obtain ⟨wo, hwo⟩ : ∃ wo, wo = wr := ⟨_, rfl⟩
      rw [← hwo] at Hown Hb hc1 ⊢
      clear hwo
      go_loopw [3, 5] (fun v i wr => ∃ j : Nat, p < j ∧ j ≤ m ∧ i = .int .i64 j ∧ wr.ownsRow w.heap.size 128 2 v (allC cf m p ++ rowC cf p j).length ((allC cf m p ++ rowC cf p j).flatMap encN) ∧ Below w.heap.size w wr) (fun _ i _ => m - (intOf i).toNat)
      case atStart => exact ⟨p + 1, by omega, by omega, by go_num, by rw [Hz1.out, List.append_nil]; exact Hown.out, Hb.out⟩
      case round =>
        obtain ⟨j, hpj, hj, rfl, hown, hb⟩ := hrel
        have Hown := hid_ hown
        have Hb2 := hid_ hb
        have hc2 := Hcell.out _ hb
        by_cases hltj : j < m
        · have HC := hid_ (HA.out p j hlt hltj _ hb)
          clear hown hb
          cases hh : cf p j with
          | false =>
            have Hf := hid_ (Hmis.out p j hh)
            rw [hh] at HC
            clear hh
            go_wp2_with (go_at_call 112; (with_reducible refine HC.out.mono ?_); rintro e w2 ⟨rfl, hb2⟩)
            go_roundw
            case rel => exact ⟨j + 1, by omega, by omega, by go_num, by rw [Hf.out]; exact own_below Hown.out hb2 (Nat.le_refl _), Hb2.out.trans (hb2.mono Hb2.out.size)⟩
            case measure => simp [intOf]; omega
          | true =>
            have Hf := hid_ (Hhit.out p j hpj hh)
            rw [hh] at HC
            clear hh
            have hL : (allC cf m p ++ rowC cf p j).length + 1 ≤ 1000000 := by
              have := Hle.out p hp
              have := Hcr.out p j
              rw [List.length_append]; omega
            go_wp2_with (first
              | (go_at_call 112; (with_reducible refine HC.out.mono ?_); rintro e w2 ⟨rfl, hb2⟩; have hown2 := own_below Hown.out hb2 (Nat.le_refl _); have Hown2 := hid_ hown2; have Hb3 := hid_ (Hb2.out.trans (hb2.mono Hb2.out.size)); clear hown2)
              | (at_builtin; refine wpList_append_pair w2 rfl (.tmp 27) (.tmp 31) _ rfl w.heap.size 128 i0 Try.underlying68 hi0 hz0 hz1 hz2 u3 _ (allC cf m p ++ rowC cf p j) rfl Hown2.out (p : Int) (j : Int) 128 rfl hL Hb3.out.size ?_; intro v3 w3 hown3 hg3))
            go_roundw
            case rel => exact ⟨j + 1, by omega, by omega, by go_num, by rw [Hf.out, ← List.append_assoc, List.length_append (bs := [_])]; exact hown3, below_app Hb3.out Hb3.out.size Hown2.out hg3⟩
            case measure => simp [intOf]; omega
        · obtain rfl : j = m := by omega
          clear hown hb
          go_wp2
          go_roundw
          case rel => exact ⟨p + 1, by omega, by go_num, by rw [Hsu.out]; exact Hown.out, Hb2.out⟩
          case measure => simp [intOf]; omega
    · obtain rfl : p = m := by omega
      go_wp2
      go_ret
      exact ⟨_, rfl, by rw [HR.out]; exact ⟨hown, hb⟩⟩
end Go.Proofs.Ytdnlpikfibdjoaa
namespace Go.Proofs.Ytdnlpikfibdjoaa
open Go.RowKit Go.Proofs.Kv

/-! ### Different, Side, Conflict, Conflicts, CanTree of the program -/
def resDiff (T : List (List Int)) (p : Int) : Int := if placesE T [p] = 0 then (diffR T p.toNat : Int) else 0
theorem nat_of {p : Int} (h : 0 ≤ p) : ∃ k : Nat, p = (k : Int) := ⟨p.toNat, by omega⟩
set_option maxRecDepth 100000 in
theorem stDifferent_calls (a : Option Addr) (n c : Nat) (T : List (List Int)) (p : Int) (w : World) (h : ListsAt w a n c T) :
    Calls Try.prog 49 #[.slice a n c, .int .i64 p] w fun e w' => e = .returned (.tuple #[.int .i64 (resDiff T p), .int .i64 (placesE T [p])]) ∧ Below w.heap.size w w' := by
  have HV := hid_ (fun W (hW : Below w.heap.size w W) a' n' c' (h' : IntsAt W a' n' c' [p]) => places_calls a n c T a' n' c' [p] W (h.below hW (Nat.le_refl _)) h')
  have HR : Hid (resDiff T p = if placesE T [p] = 0 then (diffR T p.toNat : Int) else 0) := hid_ rfl
  generalize resDiff T p = R at *
  by_cases he : placesE T [p] = 0
  · have Hf := hid_ (HR.out.trans (if_pos he))
    obtain ⟨g, hp0, hp1⟩ := placesE_one he
    rw [he] at HV ⊢
    clear he HR
    rw [Hf.out]
    clear Hf
    obtain ⟨k, rfl⟩ := nat_of hp0
    have HD := hid_ (fun W (hW : Below w.heap.size w W) => stdiff_calls a n c T k W (h.below hW (Nat.le_refl _)) g (by omega))
    rw [Int.toNat_natCast]
    clear hp0 hp1 g
    go_enter Try.func49, Try.ntmps49
    go_wp2_with (first
      | (go_at_call 94; (with_reducible refine (HV.out _ (below_alloc _ _) _ _ _ (IntsAt.one _ _ _)).mono ?_); rintro e w2 ⟨rfl, rfl⟩)
      | (go_at_call 103; (with_reducible refine (HD.out _ (below_alloc _ _)).mono ?_); rintro e w3 ⟨rfl, hb⟩))
    go_ret2
    exact ⟨rfl, (below_alloc _ _).trans (hb.mono (below_alloc _ _).size)⟩
  · have Hf := hid_ (HR.out.trans (if_neg he))
    have hq : (placesE T [p] != 0) = true := by simpa using he
    generalize placesE T [p] = x at *
    clear he HR
    rw [Hf.out]
    go_enter Try.func49, Try.ntmps49
    go_wp2_with (go_at_call 94; (with_reducible refine (HV.out _ (below_alloc _ _) _ _ _ (IntsAt.one _ _ _)).mono ?_); rintro e w2 ⟨rfl, rfl⟩)
    go_ret2
    exact ⟨rfl, below_alloc _ _⟩
def okSide (T : List (List Int)) (p : Int) : Bool := decide (placesE T [p] = 0) && splR T p.toNat
def resSide (T : List (List Int)) (p : Int) : List Int := if okSide T p = true then sideR T p.toNat else []
set_option maxRecDepth 100000 in
theorem stSide_calls (a : Option Addr) (n c : Nat) (T : List (List Int)) (p : Int) (w : World) (h : ListsAt w a n c T) :
    Calls Try.prog 44 #[.slice a n c, .int .i64 p] w fun e w' => ∃ v, e = .returned (.tuple #[v, .bool (okSide T p), .int .i64 (placesE T [p])]) ∧ Made 3 w w' v (resSide T p) := by
  have HV := hid_ (fun W (hW : Below w.heap.size w W) a' n' c' (h' : IntsAt W a' n' c' [p]) => places_calls a n c T a' n' c' [p] W (h.below hW (Nat.le_refl _)) h')
  have HO : Hid (okSide T p = (decide (placesE T [p] = 0) && splR T p.toNat)) := hid_ rfl
  have HR : Hid (resSide T p = if okSide T p = true then sideR T p.toNat else []) := hid_ rfl
  generalize resSide T p = R at *
  generalize okSide T p = O at *
  by_cases he : placesE T [p] = 0
  · obtain ⟨g, hp0, hp1⟩ := placesE_one he
    rw [he] at HV HO ⊢
    clear he
    obtain ⟨k, rfl⟩ := nat_of hp0
    rw [Int.toNat_natCast] at HO HR
    have HD := hid_ (fun W (hW : Below w.heap.size w W) => splits_calls a n c T k W (h.below hW (Nat.le_refl _)) g (by omega))
    have HS := hid_ (fun W (hW : Below w.heap.size w W) => side_calls a n c T k W (h.below hW (Nat.le_refl _)) g (by omega))
    clear hp0 hp1 g
    cases hs : splR T k with
    | false =>
      rw [hs] at HD HO
      have Ho : Hid (O = false) := hid_ HO.out
      have Hf := hid_ (HR.out.trans (if_neg (by rw [Ho.out]; decide)))
      clear hs HO HR
      rw [Ho.out, Hf.out]
      go_enter Try.func44, Try.ntmps44
      go_wp2_with (first
        | (go_at_call 94; (with_reducible refine (HV.out _ (below_alloc _ _) _ _ _ (IntsAt.one _ _ _)).mono ?_); rintro e w2 ⟨rfl, rfl⟩)
        | (go_at_call 95; (with_reducible refine (HD.out _ (below_alloc _ _)).mono ?_); rintro e w3 ⟨rfl, hb⟩))
      go_ret3
      exact ⟨_, rfl, Made.none_ _ ((below_alloc _ _).trans (hb.mono (below_alloc _ _).size))⟩
    | true =>
      rw [hs] at HD HO
      have Ho : Hid (O = true) := hid_ HO.out
      have Hf := hid_ (HR.out.trans (if_pos Ho.out))
      clear hs HO HR
      rw [Ho.out, Hf.out]
      go_enter Try.func44, Try.ntmps44
      go_wp2_with (first
        | (go_at_call 94; (with_reducible refine (HV.out _ (below_alloc _ _) _ _ _ (IntsAt.one _ _ _)).mono ?_); rintro e w2 ⟨rfl, rfl⟩)
        | (go_at_call 95; (with_reducible refine (HD.out _ (below_alloc _ _)).mono ?_); rintro e w3 ⟨rfl, hb⟩; have hb3 := (below_alloc w (.cells #[.int .i64 (k : Int)] 3)).trans (hb.mono (below_alloc _ _).size))
        | (go_at_call 96; (with_reducible refine (HS.out _ hb3).mono ?_); rintro e w4 ⟨v4, rfl, hm⟩))
      go_ret3
      exact ⟨_, rfl, hm.after hb3⟩
  · have Ho : Hid (O = false) := hid_ (HO.out.trans (by rw [decide_eq_false he, Bool.false_and]))
    have Hf := hid_ (HR.out.trans (if_neg (by rw [Ho.out]; decide)))
    have hq : (placesE T [p] != 0) = true := by simpa using he
    generalize placesE T [p] = x at *
    clear he HR HO
    rw [Ho.out, Hf.out]
    go_enter Try.func44, Try.ntmps44
    go_wp2_with (go_at_call 94; (with_reducible refine (HV.out _ (below_alloc _ _) _ _ _ (IntsAt.one _ _ _)).mono ?_); rintro e w2 ⟨rfl, rfl⟩)
    go_ret3
    exact ⟨_, rfl, Made.none_ _ (below_alloc _ _)⟩
theorem ints_two7 (w : World) (x y : Int) (E : TypeId) : IntsAt (w.alloc (.cells #[.int .i64 x, .int .i64 y] E)) (some ⟨w.heap.size, 0, none⟩) 2 2 [x, y] :=
  ⟨rfl, Nat.le_refl _, by omega, fun i hi => ⟨w.heap.size, 0, rfl, by simp, by
    rcases (show i = 0 ∨ i = 1 by omega) with rfl | rfl
    · exact cells_alloc _ _ _ 0
    · exact cells_alloc _ _ _ 1⟩⟩
def resConf (T : List (List Int)) (p q : Int) : Bool := decide (placesE T [p, q] = 0) && cfR T p.toNat q.toNat
set_option maxRecDepth 100000 in
theorem stConflict_calls (a : Option Addr) (n c : Nat) (T : List (List Int)) (p q : Int) (w : World) (h : ListsAt w a n c T) :
    Calls Try.prog 64 #[.slice a n c, .int .i64 p, .int .i64 q] w fun e w' => e = .returned (.tuple #[.bool (resConf T p q), .int .i64 (placesE T [p, q])]) ∧ Below w.heap.size w w' := by
  have HV := hid_ (fun W (hW : Below w.heap.size w W) a' n' c' (h' : IntsAt W a' n' c' [p, q]) => places_calls a n c T a' n' c' [p, q] W (h.below hW (Nat.le_refl _)) h')
  have HR : Hid (resConf T p q = (decide (placesE T [p, q] = 0) && cfR T p.toNat q.toNat)) := hid_ rfl
  generalize resConf T p q = R at *
  by_cases he : placesE T [p, q] = 0
  · have Hf := hid_ (HR.out.trans (by rw [decide_eq_true he, Bool.true_and]))
    obtain ⟨g, ⟨hp0, hp1⟩, hq0, hq1⟩ := placesE_two he
    rw [he] at HV ⊢
    clear he HR
    rw [Hf.out]
    clear Hf
    obtain ⟨k, rfl⟩ := nat_of hp0
    obtain ⟨l, rfl⟩ := nat_of hq0
    have HD := hid_ (fun W (hW : Below w.heap.size w W) => conflict_calls a n c T k l W (h.below hW (Nat.le_refl _)) g (by omega) (by omega))
    rw [Int.toNat_natCast, Int.toNat_natCast]
    clear hp0 hp1 hq0 hq1 g
    go_enter Try.func64, Try.ntmps64
    go_wp2_with (first
      | (go_at_call 94; (with_reducible refine (HV.out _ (below_alloc _ _) _ _ _ (ints_two7 _ _ _ _)).mono ?_); rintro e w2 ⟨rfl, rfl⟩)
      | (go_at_call 112; (with_reducible refine (HD.out _ (below_alloc _ _)).mono ?_); rintro e w3 ⟨rfl, hb⟩))
    go_ret2
    exact ⟨rfl, (below_alloc _ _).trans (hb.mono (below_alloc _ _).size)⟩
  · have Hf := hid_ (HR.out.trans (by rw [decide_eq_false he, Bool.false_and]))
    have hq : (placesE T [p, q] != 0) = true := by simpa using he
    generalize placesE T [p, q] = x at *
    clear he HR
    rw [Hf.out]
    go_enter Try.func64, Try.ntmps64
    go_wp2_with (go_at_call 94; (with_reducible refine (HV.out _ (below_alloc _ _) _ _ _ (ints_two7 _ _ _ _)).mono ?_); rintro e w2 ⟨rfl, rfl⟩)
    go_ret2
    exact ⟨rfl, below_alloc _ _⟩
def resConfs (T : List (List Int)) : List (Int × Int) := if validT T = 0 then confR T else []
def resCan (T : List (List Int)) : Bool := decide (validT T = 0) && decide ((confR T).length = 0)
set_option maxRecDepth 100000 in
theorem stConflicts_calls (a : Option Addr) (n c : Nat) (T : List (List Int)) (w : World) (h : ListsAt w a n c T) :
    Calls Try.prog 43 #[.slice a n c] w fun e w' => ∃ v, e = .returned (.tuple #[v, .int .i64 (validT T)]) ∧ MadeP 128 w w' v (resConfs T) := by
  have HV := hid_ (stValidate_calls a n c T w h)
  have HR : Hid (resConfs T = if validT T = 0 then confR T else []) := hid_ rfl
  generalize resConfs T = R at *
  by_cases he : validT T = 0
  · have Hf := hid_ (HR.out.trans (if_pos he))
    have HC := hid_ (conflicts_calls a n c T w h (validT_ok he))
    rw [he] at HV ⊢
    clear he HR
    rw [Hf.out]
    clear Hf
    go_enter Try.func43, Try.ntmps43
    go_wp2_with (first
      | (go_at_call 41; refine (HV.out).mono ?_; rintro e w' ⟨rfl, rfl⟩)
      | (go_at_call 87; (with_reducible refine HC.out.mono ?_); rintro e w3 ⟨v3, rfl, hm⟩))
    go_ret2
    exact ⟨_, rfl, hm⟩
  · have Hf := hid_ (HR.out.trans (if_neg he))
    have hq : (validT T != 0) = true := by simpa using he
    generalize validT T = x at *
    clear he HR
    rw [Hf.out]
    go_enter Try.func43, Try.ntmps43
    go_wp2_with (go_at_call 41; refine (HV.out).mono ?_; rintro e w' ⟨rfl, rfl⟩)
    go_ret2
    exact ⟨_, rfl, MadeP.none_ _ (Below.refl _ _)⟩
set_option maxRecDepth 100000 in
theorem stCanTree_calls (a : Option Addr) (n c : Nat) (T : List (List Int)) (w : World) (h : ListsAt w a n c T) :
    Calls Try.prog 40 #[.slice a n c] w fun e w' => e = .returned (.tuple #[.bool (resCan T), .int .i64 (validT T)]) ∧ Below w.heap.size w w' := by
  have HV := hid_ (stValidate_calls a n c T w h)
  have HR : Hid (resCan T = (decide (validT T = 0) && decide ((confR T).length = 0))) := hid_ rfl
  generalize resCan T = R at *
  by_cases he : validT T = 0
  · have Hf := hid_ (HR.out.trans (by rw [decide_eq_true he, Bool.true_and]))
    have HC := hid_ (conflicts_calls a n c T w h (validT_ok he))
    rw [he] at HV ⊢
    clear he HR
    rw [Hf.out]
    clear Hf
    generalize confR T = C at *
    obtain ⟨m, hm⟩ : ∃ m, C.length = m := ⟨_, rfl⟩
    have Hm := hid_ hm
    rw [hm]
    clear hm
    by_cases h0 : m = 0
    · subst h0
      go_enter Try.func40, Try.ntmps40
      go_wp2_with (first
        | (go_at_call 41; refine (HV.out).mono ?_; rintro e w' ⟨rfl, rfl⟩)
        | (go_at_call 87; (with_reducible refine HC.out.mono ?_); rintro e w3 ⟨v3, rfl, hm⟩; obtain ⟨a3, c3, rfl, -⟩ := hm.at_; rw [Hm.out]))
      go_ret2
      exact ⟨rfl, hm.bel⟩
    · have hq : ((m : Int) == 0) = false := by simp; omega
      have Hd : Hid (decide (m = 0) = false) := hid_ (decide_eq_false h0)
      clear h0
      rw [Hd.out]
      go_enter Try.func40, Try.ntmps40
      go_wp2_with (first
        | (go_at_call 41; refine (HV.out).mono ?_; rintro e w' ⟨rfl, rfl⟩)
        | (go_at_call 87; (with_reducible refine HC.out.mono ?_); rintro e w3 ⟨v3, rfl, hm⟩; obtain ⟨a3, c3, rfl, -⟩ := hm.at_; rw [Hm.out]))
      go_ret2
      exact ⟨rfl, hm.bel⟩
  · have Hf := hid_ (HR.out.trans (by rw [decide_eq_false he, Bool.false_and]))
    have hq : (validT T != 0) = true := by simpa using he
    generalize validT T = x at *
    clear he HR
    rw [Hf.out]
    go_enter Try.func40, Try.ntmps40
    go_wp2_with (go_at_call 41; refine (HV.out).mono ?_; rintro e w' ⟨rfl, rfl⟩)
    go_ret2
    exact ⟨rfl, Below.refl _ _⟩
end Go.Proofs.Ytdnlpikfibdjoaa
namespace Go.Proofs.Kv
open Go.RowKit
/-- block b holds m bits, those of f -/
def BitsAt (w : World) (b m : Nat) (f : Nat → Bool) : Prop := ∀ j, j < m → w.cell? ⟨b, j, none⟩ = some (.bool (f j)) ∧ w.frozen? ⟨b, j, none⟩ = false
theorem BitsAt.set {w : World} {b m : Nat} {f : Nat → Bool} (h : BitsAt w b m f) {j : Nat} (hj : j < m) : BitsAt (w.setCell ⟨b, j, none⟩ (.bool true)) b m (fun i => f i || decide (i = j)) := by
  intro i hi
  refine ⟨?_, by rw [World.frozen?_setCell]; exact (h i hi).2⟩
  by_cases e : i = j
  · subst e
    rw [World.cell?_setCell_same _ _ _ (h i hi).1]; simp
  · rw [World.cell?_setCell_other _ _ _ _ (by intro e'; injection e' with _ e'; exact e e'.symm), (h i hi).1]; simp [e]
theorem BitsAt.drewN {w : World} {b m : Nat} {f : Nat → Bool} (h : BitsAt w b m f) (q : Nat) : BitsAt (w.drewN q) b m f := h
theorem BitsAt.congr {w : World} {b m : Nat} {f g : Nat → Bool} (h : BitsAt w b m f) (e : ∀ j, j < m → f j = g j) : BitsAt w b m g := fun j hj => by rw [← e j hj]; exact h j hj
end Go.Proofs.Kv
namespace Go.Proofs.Ytdnlpikfibdjoaa
open Go.RowKit Go.Proofs.Kv

set_option maxRecDepth 100000 in
theorem r7diff_calls (a : Option Addr) (n c : Nat) (T : List (List Int)) (p : Nat) (w : World) (h : ListsAt w a n c T) (g : GoodT T) (hp : p < n0 T) :
    Calls Try.prog 69 #[.slice a n c, .int .i64 (p : Int)] w fun e w' => e = .returned (.int .i64 (diffR T p : Nat)) ∧ Below w.heap.size w w' := by
  have hn : n ≤ 9223372036854775807 := Nat.le_trans h.le h.small
  have hn6 : n ≤ 6 := by have := g.le; have := h.len; omega
  have Hlen := hid_ h.len
  have Hg := hid_ g
  have HD : Hid (diffR T p = (uq (colR T p)).length) := hid_ rfl
  have Hall : Hid ((colR T p).take n = colR T p) := hid_ (List.take_of_length_le (by rw [colR_len, h.len]; omega))
  generalize diffR T p = D at *
  clear g
  go_enter Try.func69, Try.ntmps69
  go_wp2
  go_loopw [6, 7] (fun v i wr => ∃ k : Nat, k ≤ n ∧ i = .int .i64 k ∧ v = .int .i64 (uq ((colR T p).take k)).length ∧ BitsAt wr w.heap.size 3 (fun j => decide ((j : Int) ∈ (colR T p).take k)) ∧ Below w.heap.size w wr) (fun _ i _ => n - (intOf i).toNat)
  case atStart =>
    refine ⟨0, Nat.zero_le _, rfl, rfl, fun j hj => ⟨?_, World.frozen?_alloc_at _ _ _ _ (by simp)⟩, below_alloc _ _⟩
    rcases (show j = 0 ∨ j = 1 ∨ j = 2 by omega) with rfl | rfl | rfl
    · exact cells_alloc _ _ _ 0
    · exact cells_alloc _ _ _ 1
    · exact cells_alloc _ _ _ 2
  case round =>
    obtain ⟨k, hk, rfl, rfl, hbits, hb⟩ := hrel
    by_cases hlt : k < n
    · obtain ⟨b, off, a1, n1, c1, rfl, hb', hcell, hrow⟩ := (h.below hb (Nat.le_refl _)).cells k hlt
      have hl : k < T.length := by rw [Hlen.out]; exact hlt
      have hpn : p < n1 := by rw [← hrow.len, Hg.out.len k hl]; exact hp
      have hrl := Nat.le_trans hrow.le hrow.small
      obtain ⟨b1, off1, rfl, hb1, hcell1⟩ := hrow.cells p hpn
      have hy := Hg.out.ok k hl p hp
      have Ht := hid_ (@colR_take T p k hl)
      have Hb := hid_ hb; have Hbits := hid_ hbits
      have hUl : (uq ((colR T p).take k)).length ≤ n := Nat.le_trans (uq_le _) (by rw [List.length_take]; omega)
      clear hrow hb hbits
      generalize (T.getD k []).getD p 0 = y at *
      obtain ⟨j, rfl⟩ := nat_of hy.1
      obtain ⟨C, hC⟩ : ∃ C, (colR T p).take k = C := ⟨_, rfl⟩
      rw [hC] at Hbits Ht hUl ⊢
      clear hC
      have hj3 : j < 3 := by omega
      have hbj := (Hbits.out j hj3).1
      have hbf := (Hbits.out j hj3).2
      have hlw := World.block_lt_of_cell? _ _ hbj
      by_cases hm : (j : Int) ∈ C
      · have HU : Hid (uq (C ++ [(j : Int)]) = uq C) := hid_ (by rw [uq_snoc, insU_hit (mem_uq.2 hm)])
        have HE : Hid (∀ i : Nat, i < 3 → decide ((i : Int) ∈ C) = decide ((i : Int) ∈ C ++ [(j : Int)])) := hid_ (fun i hi => by
          rw [decide_eq_decide, List.mem_append, List.mem_singleton]
          exact ⟨.inl, fun h => by rcases h with h | h; exact h; rw [h]; exact hm⟩)
        rw [show (fun j : Nat => decide ((j : Int) ∈ C)) j = true from decide_eq_true hm] at hbj
        clear hm
        go_wp2
        go_roundw
        case rel => exact ⟨k + 1, by omega, by go_num, by rw [Ht.out, HU.out], by rw [Ht.out]; exact Hbits.out.congr HE.out, Hb.out⟩
        case measure => simp [intOf]; omega
      · have HU : Hid ((uq (C ++ [(j : Int)])).length = (uq C).length + 1) := hid_ (by rw [uq_snoc, insU_miss (fun h => hm (mem_uq.1 h)), List.length_append]; rfl)
        have HE : Hid (∀ i : Nat, i < 3 → (decide ((i : Int) ∈ C) || decide (i = j)) = decide ((i : Int) ∈ C ++ [(j : Int)])) := hid_ (fun i hi => by
          rw [Bool.eq_iff_iff]; simp only [Bool.or_eq_true, decide_eq_true_eq, List.mem_append, List.mem_singleton]; exact or_congr Iff.rfl (by omega))
        rw [show (fun j : Nat => decide ((j : Int) ∈ C)) j = false from decide_eq_false hm] at hbj
        clear hm
        go_wp2
        go_roundw
        case rel => exact ⟨k + 1, by omega, by go_num, by rw [Ht.out, HU.out]; go_num, by rw [Ht.out]; exact (Hbits.out.set hj3).congr HE.out, Hb.out.setCell (p := ⟨w.heap.size, j, none⟩) (Nat.le_refl _) _⟩
        case measure => simp [intOf]; omega
    · obtain rfl : n = k := by omega
      rw [Hall.out]
      go_wp2
      go_ret
      exact ⟨by rw [HD.out]; rfl, hb⟩
end Go.Proofs.Ytdnlpikfibdjoaa
namespace Go.Proofs.Kv
open Go.RowKit
theorem BitsAt.below {w w' : World} {B b m : Nat} {f : Nat → Bool} (h : BitsAt w b m f) (hb : Below B w w') (hB : b < B) : BitsAt w' b m f := fun j hj =>
  ⟨(hb.cell (p := ⟨b, j, none⟩) hB).trans (h j hj).1, (hb.frozen (p := ⟨b, j, none⟩) hB).trans (h j hj).2⟩
end Go.Proofs.Kv
namespace Go.Proofs.Ytdnlpikfibdjoaa
open Go.RowKit Go.Proofs.Kv

def pairI (i : Nat) : Int × Int := (((i / 3 : Nat) : Int), ((i % 3 : Nat) : Int))
theorem pairI_inj {i y z : Nat} (h : pairI i = ((y : Int), (z : Int))) : i = y * 3 + z := by
  have h1 := congrArg Prod.fst h
  have h2 := congrArg Prod.snd h
  simp only [pairI] at h1 h2
  omega
theorem pairI_at {y z : Nat} (hz : z < 3) : pairI (y * 3 + z) = ((y : Int), (z : Int)) := by
  have h1 : (y * 3 + z) / 3 = y := by omega
  have h2 : (y * 3 + z) % 3 = z := by omega
  rw [pairI, h1, h2]
set_option maxRecDepth 100000 in
set_option maxHeartbeats 1000000 in
theorem r7conflict_calls (a : Option Addr) (n c : Nat) (T : List (List Int)) (p q : Nat) (w : World) (h : ListsAt w a n c T) (g : GoodT T) (hp : p < n0 T) (hq : q < n0 T) :
    Calls Try.prog 116 #[.slice a n c, .int .i64 (p : Int), .int .i64 (q : Int)] w fun e w' => e = .returned (.bool (cfR T p q)) ∧ Below w.heap.size w w' := by
  have hn : n ≤ 9223372036854775807 := Nat.le_trans h.le h.small
  have hn6 : n ≤ 6 := by have := g.le; have := h.len; omega
  have Hlen := hid_ h.len
  have Hg := hid_ g
  have HA := hid_ (r7diff_calls a n c T p w h g hp)
  have HB := hid_ (fun W (hW : Below w.heap.size w W) => r7diff_calls a n c T q W (h.below hW (Nat.le_refl _)) g hq)
  have HC : Hid (cfR T p q = (decide (diffR T p = 2) && (decide (diffR T q = 2) && decide ((uq (colP T p q)).length = 4)))) := hid_ rfl
  have Hall : Hid ((colP T p q).take n = colP T p q) := hid_ (List.take_of_length_le (by rw [colP_len, h.len]; omega))
  have hU := uqP_le T p q
  rw [h.len] at hU
  have hd1 := diffR_le T p
  have hd2 := diffR_le T q
  rw [h.len] at hd1 hd2
  clear g
  generalize cfR T p q = R at *
  generalize diffR T p = d1 at *
  generalize diffR T q = d2 at *
  by_cases h1 : d1 = 2
  · subst h1
    by_cases h2 : d2 = 2
    · subst h2
      go_enter Try.func116, Try.ntmps116
      go_wp2_with (first
        | (go_at_call 69; (with_reducible refine HA.out.mono ?_); rintro e w2 ⟨rfl, hb⟩)
        | (go_at_call 69; (with_reducible refine (HB.out _ hb).mono ?_); rintro e w3 ⟨rfl, hb3⟩))
      have Hb3 := hid_ (hb.trans (hb3.mono hb.size))
      clear hb hb3 hd1 hd2
      go_loopw [8, 9] (fun v i wr => ∃ k : Nat, k ≤ n ∧ i = .int .i64 k ∧ v = .int .i64 (uq ((colP T p q).take k)).length ∧ BitsAt wr w3.heap.size 9 (fun j => decide (pairI j ∈ (colP T p q).take k)) ∧ Below w3.heap.size w3 wr) (fun _ i _ => n - (intOf i).toNat)
      case atStart =>
        refine ⟨0, Nat.zero_le _, rfl, rfl, fun j hj => ⟨?_, World.frozen?_alloc_at _ _ _ _ (by simp)⟩, below_alloc _ _⟩
        rcases (show j = 0 ∨ j = 1 ∨ j = 2 ∨ j = 3 ∨ j = 4 ∨ j = 5 ∨ j = 6 ∨ j = 7 ∨ j = 8 by omega) with rfl | rfl | rfl | rfl | rfl | rfl | rfl | rfl | rfl <;> exact cells_alloc _ _ _ _
      case round =>
        obtain ⟨k, hk, rfl, rfl, hbits, hb⟩ := hrel
        by_cases hlt : k < n
        · have hbb := Hb3.out.trans (hb.mono Hb3.out.size)
          obtain ⟨b, off, a1, n1, c1, rfl, hb', hcell, hrow⟩ := (h.below hbb (Nat.le_refl _)).cells k hlt
          have hl : k < T.length := by rw [Hlen.out]; exact hlt
          have hpn : p < n1 := by rw [← hrow.len, Hg.out.len k hl]; exact hp
          have hqn : q < n1 := by rw [← hrow.len, Hg.out.len k hl]; exact hq
          have hrl := Nat.le_trans hrow.le hrow.small
          obtain ⟨b1, off1, rfl, hb1, hcell1⟩ := hrow.cells p hpn
          obtain ⟨b2, off2, e, hb2, hcell2⟩ := hrow.cells q hqn
          injection e with e; injection e with e1 e2; subst e1; subst e2
          have hy := Hg.out.ok k hl p hp
          have hz := Hg.out.ok k hl q hq
          have Ht := hid_ (@colP_take T p q k hl)
          have Hb := hid_ hb; have Hbits := hid_ hbits
          have hUl : (uq ((colP T p q).take k)).length ≤ n := Nat.le_trans (uq_le _) (by rw [List.length_take]; omega)
          clear hrow hb hbits hbb
          generalize (T.getD k []).getD p 0 = y at *
          generalize (T.getD k []).getD q 0 = z at *
          obtain ⟨y, rfl⟩ := nat_of hy.1
          obtain ⟨z, rfl⟩ := nat_of hz.1
          obtain ⟨C, hC⟩ : ∃ C, (colP T p q).take k = C := ⟨_, rfl⟩
          rw [hC] at Hbits Ht hUl ⊢
          clear hC
          have hy3 : y < 3 := by omega
          have hz3 : z < 3 := by omega
          have hj9 : y * 3 + z < 9 := by omega
          have hbj := (Hbits.out _ hj9).1
          have hbf := (Hbits.out _ hj9).2
          have hlw := World.block_lt_of_cell? _ _ hbj
          dsimp only at hbj
          rw [pairI_at hz3] at hbj
          by_cases hm : ((y : Int), (z : Int)) ∈ C
          · have HU : Hid (uq (C ++ [((y : Int), (z : Int))]) = uq C) := hid_ (by rw [uq_snoc, insU_hit (mem_uq.2 hm)])
            have HE : Hid (∀ i : Nat, i < 9 → decide (pairI i ∈ C) = decide (pairI i ∈ C ++ [((y : Int), (z : Int))])) := hid_ (fun i hi => by
              rw [decide_eq_decide, List.mem_append, List.mem_singleton]
              exact ⟨.inl, fun h => by rcases h with h | h; exact h; rw [h]; exact hm⟩)
            rw [decide_eq_true hm] at hbj
            clear hm
            go_wp2_with fail
            go_quiet (fail)
            go_wp2
            go_roundw
            case rel => exact ⟨k + 1, by omega, by go_num, by rw [Ht.out, HU.out], by rw [Ht.out]; exact (Hbits.out.drewN _).congr HE.out, below_drewN Hb.out _⟩
            case measure => simp [intOf]; omega
          · have HU : Hid ((uq (C ++ [((y : Int), (z : Int))])).length = (uq C).length + 1) := hid_ (by rw [uq_snoc, insU_miss (fun h => hm (mem_uq.1 h)), List.length_append]; rfl)
            have HE : Hid (∀ i : Nat, i < 9 → (decide (pairI i ∈ C) || decide (i = y * 3 + z)) = decide (pairI i ∈ C ++ [((y : Int), (z : Int))])) := hid_ (fun i hi => by
              rw [Bool.eq_iff_iff]; simp only [Bool.or_eq_true, decide_eq_true_eq, List.mem_append, List.mem_singleton]
              exact or_congr Iff.rfl ⟨fun e => by rw [e, pairI_at hz3], pairI_inj⟩)
            rw [decide_eq_false hm] at hbj
            clear hm
            go_wp2_with fail
            go_quiet (fail)
            go_wp2_with fail
            have gA := cell_regrown (w := wr.drewN nq) hcell
            have gB := cell_regrown (w := wr.drewN nq) hcell1
            have gC := cell_regrown (w := wr.drewN nq) hcell2
            refine wp_region_tail 16 (by kernel_rfl) (by kernel_rfl) ?_
            simp only [List.take_succ_cons, List.take_zero, List.drop_succ_cons, List.drop_zero]
            repeat (first | go_big_quiet_skip | (go_big_quiet_want; go_big_quiet_op; first | go_big_quiet_on | go_big_quiet_call (fail)))
            refine wpQuiet_nil ?_
            rintro wq ⟨pq, hpq⟩
            have hbq := below_wq hpq
            have Hbq := hid_ ((Hbits.out.drewN nq).below hbq hlw)
            have Hb4 := hid_ ((below_drewN Hb.out nq).trans (hbq.mono Hb.out.size))
            have hbj2 := (Hbq.out _ hj9).1
            have hbf2 := (Hbq.out _ hj9).2
            clear hpq hbq hbj hbf gA gB gC hcell hcell1 hcell2
            go_wp2
            exact ⟨⟨k + 1, by omega, by go_num, by rw [Ht.out, HU.out]; go_num, by rw [Ht.out]; exact (Hbq.out.set hj9).congr HE.out, Hb4.out.setCell (p := ⟨w3.heap.size, y * 3 + z, none⟩) (Nat.le_refl _) _⟩, by simp [intOf]; omega⟩
        · obtain rfl : n = k := by omega
          rw [Hall.out] at hbits ⊢
          generalize uq (colP T p q) = U at *
          obtain ⟨u, hu⟩ : ∃ u, U.length = u := ⟨_, rfl⟩
          rw [hu] at HC hU ⊢
          clear hu
          by_cases h4 : u = 4
          · subst h4
            go_wp2
            go_ret
            exact ⟨retB HC.out, Hb3.out.trans (hb.mono Hb3.out.size)⟩
          · have hqq : ((u : Int) == 4) = false := by simp; omega
            have Hf := hid_ (HC.out.trans (show (decide ((2 : Nat) = 2) && (decide ((2 : Nat) = 2) && decide (u = 4))) = false by simp [h4]))
            clear h4 HC
            go_wp2
            go_ret
            exact ⟨retB Hf.out, Hb3.out.trans (hb.mono Hb3.out.size)⟩
    · have hqq : ((d2 : Int) != 2) = true := by simp; omega
      have Hf := hid_ (HC.out.trans (show (decide ((2 : Nat) = 2) && (decide (d2 = 2) && _)) = false by simp [h2]))
      clear h2 HC
      go_enter Try.func116, Try.ntmps116
      go_wp2_with (first
        | (go_at_call 69; (with_reducible refine HA.out.mono ?_); rintro e w2 ⟨rfl, hb⟩)
        | (go_at_call 69; (with_reducible refine (HB.out _ hb).mono ?_); rintro e w3 ⟨rfl, hb3⟩))
      go_ret
      exact ⟨retB Hf.out, hb.trans (hb3.mono hb.size)⟩
  · have hqq : ((d1 : Int) != 2) = true := by simp; omega
    have Hf := hid_ (HC.out.trans (show (decide (d1 = 2) && _) = false by simp [h1]))
    clear h1 HC
    go_enter Try.func116, Try.ntmps116
    go_wp2_with (go_at_call 69; (with_reducible refine HA.out.mono ?_); rintro e w2 ⟨rfl, hb⟩)
    go_ret
    exact ⟨retB Hf.out, hb⟩
end Go.Proofs.Ytdnlpikfibdjoaa
