import Derived.Test.YthmnmpglnaegfaaYe
import Derived.WideKeyPair
namespace Go.Proofs.Ythmnmpglnaegfaa
open Go.RowKit Go.Proofs.Kv

/-! ### splits, side -/
theorem diffR_le (T : List (List Int)) (p : Nat) : diffR T p ≤ T.length := by
  have := uq_le (colR T p); rw [colR_len] at this; exact this
def splR (T : List (List Int)) (p : Nat) : Bool := decide (diffR T p = 2)
theorem splits_calls (a : Option Addr) (n c : Nat) (T : List (List Int)) (p : Nat) (w : World) (h : ListsAt w a n c T) (g : GoodT T) (hp : p < n0 T) :
    Calls Try.prog 47 #[.slice a n c, .int .i64 (p : Int)] w fun e w' => e = .returned (.bool (splR T p)) ∧ Below w.heap.size w w' := by
  have HD := hid_ (stdiff_calls a n c T p w h g hp)
  have HS : Hid (splR T p = decide (diffR T p = 2)) := hid_ rfl
  have hle := diffR_le T p
  have hle6 := g.le
  generalize diffR T p = d at *
  by_cases he : d = 2
  · subst he
    go_enter Try.func47, Try.ntmps47
    go_wp2_with (go_at_call 55; refine (HD.out).mono ?_; rintro e w' ⟨rfl, hb⟩)
    go_ret
    exact ⟨retB HS.out, hb⟩
  · have hq : ((d : Int) == 2) = false := by simp; omega
    have Hf := hid_ (HS.out.trans (decide_eq_false he))
    clear he HS
    go_enter Try.func47, Try.ntmps47
    go_wp2_with (go_at_call 55; refine (HD.out).mono ?_; rintro e w' ⟨rfl, hb⟩)
    go_ret
    exact ⟨retB Hf.out, hb⟩
def sidB (T : List (List Int)) (p : Nat) (i : Int) : Bool := decide ((T.getD i.toNat []).getD p 0 ≠ (T.getD 0 []).getD p 0)
def sideR (T : List (List Int)) (p : Nat) : List Int := pl (sidB T p) T.length
set_option maxRecDepth 100000 in
theorem side_calls (a : Option Addr) (n c : Nat) (T : List (List Int)) (p : Nat) (w : World) (h : ListsAt w a n c T) (g : GoodT T) (hp : p < n0 T) :
    Calls Try.prog 48 #[.slice a n c, .int .i64 (p : Int)] w fun e w' => ∃ v, e = .returned v ∧ Made 3 w w' v (sideR T p) := by
  obtain ⟨i0, hi0, hz0, hz1, hz2⟩ := info_parts Try.infoInt
  have hn : n ≤ 9223372036854775807 := Nat.le_trans h.le h.small
  have h0 : 0 < n := by have := g.ge; have := h.len; omega
  have hn6 : n ≤ 6 := by have := g.le; have := h.len; omega
  have Hlen := hid_ h.len
  have Hg := hid_ g
  have HR : Hid (sideR T p = pl (sidB T p) n) := hid_ (by rw [sideR, h.len])
  have HZ : Hid (pl (sidB T p) 0 = []) := hid_ rfl
  generalize sideR T p = R at *
  clear g
  go_enter Try.func48, Try.ntmps48
  go_wp2
  go_loopw [5, 10] (fun v i wr => ∃ k : Nat, k ≤ n ∧ i = .int .i64 k ∧ wr.ownsRow w.heap.size 3 1 v (pl (sidB T p) k).length ((pl (sidB T p) k).map (Value.int .i64)) ∧ Below w.heap.size w wr) (fun _ i _ => n - (intOf i).toNat)
  case atStart => exact ⟨0, Nat.zero_le _, rfl, by rw [HZ.out]; exact World.ownsRow_nil _ _ _ _, Below.refl _ _⟩
  case round =>
    obtain ⟨k, hk, rfl, hown, hb⟩ := hrel
    have hsz := hb.size
    by_cases hlt : k < n
    · have hT := h.below hb (Nat.le_refl _)
      obtain ⟨b, off, a1, n1, c1, rfl, hb', hcell, hrow⟩ := hT.cells k hlt
      obtain ⟨b', off', a2, n2, c2, e, hb'', hcell2, hrow2⟩ := hT.cells 0 h0
      injection e with e; injection e with e1 e2; subst e1; subst e2
      rw [Nat.add_zero] at hcell2
      have hl : k < T.length := by rw [Hlen.out]; exact hlt
      have hpn : p < n1 := by rw [← hrow.len, Hg.out.len k hl]; exact hp
      have hpn2 : p < n2 := by rw [← hrow2.len, Hg.out.len 0 (by omega)]; exact hp
      have hrl := Nat.le_trans hrow.le hrow.small
      have hrl2 := Nat.le_trans hrow2.le hrow2.small
      obtain ⟨b1, off1, rfl, hb1, hcell1⟩ := hrow.cells p hpn
      obtain ⟨b3, off3, rfl, hb3, hcell3⟩ := hrow2.cells p hpn2
      have Hb := hid_ hb
      have hS : sidB T p (k : Int) = decide ((T.getD k []).getD p 0 ≠ (T.getD 0 []).getD p 0) := rfl
      have HH := hid_ (@pl_hit (sidB T p) k)
      have HM := hid_ (@pl_miss (sidB T p) k)
      have hle := pl_le (sidB T p) k
      clear hT hrow hrow2 hb
      generalize (T.getD k []).getD p 0 = y at *
      generalize (T.getD 0 []).getD p 0 = z at *
      have Hown := hid_ hown
      clear hown
      by_cases he : y = z
      · have Hf := hid_ (HM.out (by rw [hS]; simp [he]))
        have hq : (y != z) = false := by simpa using he
        clear he hS HH HM
        go_wp2_with fail
        go_quiet (fail)
        go_wp2
        go_roundw
        case rel => exact ⟨k + 1, by omega, by go_num, by rw [Hf.out]; exact own_drewN Hown.out _, below_drewN Hb.out _⟩
        case measure => simp [intOf]; omega
      · have Hf := hid_ (HH.out (by rw [hS]; simp [he]))
        have hq : (y != z) = true := by simpa using he
        clear he hS HH HM
        go_wp2_with fail
        go_quiet (fail)
        go_wp2_with (at_builtin; refine wpList_append_ints _ rfl (.tmp 26) (.tmp 28) _ rfl w.heap.size 3 i0 Try.underlying25 hi0 hz0 hz1 hz2 _ _ _ rfl ((own_drewN Hown.out nq).alloc _) _ 1 1 [(k : Int)] rfl (IntsAt.one _ _ _) (by omega) (le_alloc (w := wr.drewN nq) hsz) ?_; intro v' w1 hown1 hg1 hat1)
        go_roundw
        case rel => exact ⟨k + 1, by omega, by go_num, by rw [Hf.out, List.length_append]; exact hown1, below_app (below_drewN Hb.out nq) hsz (own_drewN Hown.out nq) hg1⟩
        case measure => simp [intOf]; omega
    · obtain rfl : n = k := by omega
      have Hown := hid_ hown
      clear hown
      go_wp2
      go_ret
      exact ⟨_, rfl, by rw [HR.out]; exact ⟨Hown.out, hb⟩⟩
/-! ### conflict -/
theorem laid7 : laidOutB Try.prog = true := by kernel_rfl
theorem cellsPair7 : Try.prog.cellsOf 83 = 2 := by kernel_rfl
theorem arrPair7 : Go.WideMaps.ArrKey Try.prog 83 3 2 := ⟨Try.underlying83, by kernel_rfl, by kernel_rfl, cellsPair7⟩
theorem pairLaw7 : Maps.Keyed Try.prog 83 := Maps.Keyed.of_law (deep_law_laid laid7 (m := 2) (by omega) (of_decide_eq_true (by kernel_rfl)) (by kernel_rfl) (by rw [Try.underlying83]))
def pairV (x : Int × Int) : Value := .agg #[.int .i64 x.1, .int .i64 x.2]
theorem pairKey {x : Int × Int} (h : (0 ≤ x.1 ∧ x.1 ≤ 1000) ∧ 0 ≤ x.2 ∧ x.2 ≤ 1000) : ∃ l, keyOf Try.prog 83 (pairV x) = some l :=
  ⟨_, Go.WideMaps.keyOf_pair arrPair7 Try.underlying3 (Nat.exists_eq_succ_of_ne_zero (by intro e; have : (0 : Nat) < Try.prog.types.size := of_decide_eq_true (by kernel_rfl); omega)) (WalkArith.wf_i64 (by omega)) (WalkArith.wf_i64 (by omega))⟩
theorem pairV_inj {x y : Int × Int} (h : pairV x = pairV y) : x = y := by
  simp [pairV] at h
  exact Prod.ext h.1 h.2
def colP (T : List (List Int)) (p q : Nat) : List (Int × Int) := T.map fun r => (r.getD p 0, r.getD q 0)
theorem colP_len (T : List (List Int)) (p q : Nat) : (colP T p q).length = T.length := by simp [colP]
theorem colP_take {T : List (List Int)} {p q k : Nat} (hk : k < T.length) : (colP T p q).take (k + 1) = (colP T p q).take k ++ [((T.getD k []).getD p 0, (T.getD k []).getD q 0)] := by
  rw [take_snoc _ (0, 0) _ (by rw [colP_len]; exact hk)]
  simp [colP, List.getD, List.getElem?_eq_getElem hk]
theorem colP_mem {T : List (List Int)} (h : GoodT T) {p q : Nat} (hp : p < n0 T) (hq : q < n0 T) {x : Int × Int} (hx : x ∈ colP T p q) : (0 ≤ x.1 ∧ x.1 ≤ 2) ∧ 0 ≤ x.2 ∧ x.2 ≤ 2 := by
  obtain ⟨r, hr, rfl⟩ := List.mem_map.1 hx
  obtain ⟨i, hi, rfl⟩ := List.mem_iff_getElem.1 hr
  have e : T.getD i [] = T[i] := by simp [List.getD, List.getElem?_eq_getElem hi]
  have h1 := h.ok i hi p hp
  have h2 := h.ok i hi q hq
  rw [e] at h1 h2
  exact ⟨h1, h2⟩
def cfR (T : List (List Int)) (p q : Nat) : Bool := splR T p && (splR T q && decide ((uq (colP T p q)).length = 4))
theorem uqP_le (T : List (List Int)) (p q : Nat) : (uq (colP T p q)).length ≤ T.length := by
  have := uq_le (colP T p q); rw [colP_len] at this; exact this
set_option maxRecDepth 100000 in
set_option maxHeartbeats 1000000 in
theorem conflict_calls (a : Option Addr) (n c : Nat) (T : List (List Int)) (p q : Nat) (w : World) (h : ListsAt w a n c T) (g : GoodT T) (hp : p < n0 T) (hq : q < n0 T) :
    Calls Try.prog 56 #[.slice a n c, .int .i64 (p : Int), .int .i64 (q : Int)] w fun e w' => e = .returned (.bool (cfR T p q)) ∧ Below w.heap.size w w' := by
  have hn : n ≤ 9223372036854775807 := Nat.le_trans h.le h.small
  have hn6 : n ≤ 6 := by have := g.le; have := h.len; omega
  have Hlen := hid_ h.len
  have Hg := hid_ g
  have HA := hid_ (splits_calls a n c T p w h g hp)
  have HB := hid_ (fun W (hW : Below w.heap.size w W) => splits_calls a n c T q W (h.below hW (Nat.le_refl _)) g hq)
  have HC : Hid (cfR T p q = (splR T p && (splR T q && decide ((uq (colP T p q)).length = 4)))) := hid_ rfl
  have hmm := @run_makeMap Try.prog
  have Hall : Hid ((colP T p q).take n = colP T p q) := hid_ (List.take_of_length_le (by rw [colP_len, h.len]; omega))
  have hU := uqP_le T p q
  rw [h.len] at hU
  clear g
  generalize cfR T p q = R at *
  cases h1 : splR T p with
  | false =>
    rw [h1] at HA HC
    clear h1
    go_enter Try.func56, Try.ntmps56
    go_wp2_with (go_at_call 47; refine (HA.out).mono ?_; rintro e w' ⟨rfl, hb⟩)
    go_ret
    exact ⟨retB HC.out, hb⟩
  | true =>
    rw [h1] at HA HC
    clear h1
    cases h2 : splR T q with
    | false =>
      rw [h2] at HB HC
      clear h2
      go_enter Try.func56, Try.ntmps56
      go_wp2_with (first
        | (go_at_call 47; (with_reducible refine HA.out.mono ?_); rintro e w2 ⟨rfl, hb⟩)
        | (go_at_call 47; (with_reducible refine (HB.out _ hb).mono ?_); rintro e w3 ⟨rfl, hb3⟩))
      go_ret
      exact ⟨retB HC.out, hb.trans (hb3.mono hb.size)⟩
    | true =>
      rw [h2] at HB HC
      clear h2
      go_enter Try.func56, Try.ntmps56
      go_wp2_with (first
        | (go_at_call 47; (with_reducible refine HA.out.mono ?_); rintro e w2 ⟨rfl, hb⟩)
        | (go_at_call 47; (with_reducible refine (HB.out _ hb).mono ?_); rintro e w3 ⟨rfl, hb3⟩))
      have Hb3 := hid_ (hb.trans (hb3.mono hb.size))
      clear hb hb3
      go_loopw [23] (fun i wr => ∃ k : Nat, k ≤ n ∧ i = .int .i64 k ∧ KeysAt pairV wr w3.heap.size (uq ((colP T p q).take k)) ∧ Below w3.heap.size w3 wr) (fun i _ => n - (intOf i).toNat)
      case atStart => exact ⟨0, Nat.zero_le _, rfl, KeysAt.new _ _, below_alloc _ _⟩
      case round =>
        obtain ⟨k, hk, rfl, hks, hb⟩ := hrel
        have Hb := hid_ hb
        have hlk := hks.lt
        by_cases hlt : k < n
        · have hbb := Hb3.out.trans (hb.mono Hb3.out.size)
          obtain ⟨b, off, a1, n1, c1, rfl, hb', hcell, hrow⟩ := (h.below hbb (Nat.le_refl _)).cells k hlt
          have hl : k < T.length := by rw [Hlen.out]; exact hlt
          have hpn : p < n1 := by rw [← hrow.len, Hg.out.len k hl]; exact hp
          have hqn : q < n1 := by rw [← hrow.len, Hg.out.len k hl]; exact hq
          have hrl := Nat.le_trans hrow.le hrow.small
          obtain ⟨b1, off1, rfl, hb1, hcell1⟩ := hrow.cells p hpn
          obtain ⟨b2, off2, e, hb2, hcell2⟩ := hrow.cells q hqn
          injection e with e; injection e with e1 e2; subst e1; subst e2
          have hy := Hg.out.ok k hl p hp
          have hz := Hg.out.ok k hl q hq
          have Ht := hid_ (@colP_take T p q k hl)
          have Hin := hid_ (fun z hz => @colP_mem T Hg.out p q hp hq z hz)
          have Hks := hid_ hks
          have g1 := cell_regrown hcell1
          have g2 := cell_regrown hcell2
          clear hrow hks hb hbb
          generalize (T.getD k []).getD p 0 = y at *
          generalize (T.getD k []).getD q 0 = z at *
          have HF : Hid (∀ x, x ∈ uq ((colP T p q).take k) ∨ x = (y, z) → ∃ l, keyOf Try.prog 83 (pairV x) = some l) := hid_ (fun x hx => by
            rcases hx with hx | rfl
            · have := Hin.out x (List.mem_of_mem_take (mem_uq.1 hx)); exact pairKey ⟨⟨by omega, by omega⟩, by omega, by omega⟩
            · exact pairKey ⟨⟨by omega, by omega⟩, by omega, by omega⟩)
          go_wp2_with fail
          refine wp_region_tail 10 (by kernel_rfl) (by kernel_rfl) ?_
          simp only [List.take_succ_cons, List.take_zero, List.drop_succ_cons, List.drop_zero]
          repeat (first | go_big_quiet_skip | (go_big_quiet_want; go_big_quiet_op; first | go_big_quiet_on | go_big_quiet_call (fail)))
          refine wpQuiet_nil ?_
          rintro wq ⟨pq, hpq⟩
          have hbq := below_wq hpq
          have Hkq := hid_ (Hks.out.block (hbq.block _ hlk))
          have Hbq := hid_ (Hb.out.trans (hbq.mono Hb.out.size))
          clear hpq hbq
          go_wp2_with (at_mapUpdate; refine wpList_keys_store rfl (.tmp 27) (.tmp 36) (.const (.bool true)) rfl pairLaw7 Try.underlying95 w3.heap.size _ rfl Hkq.out (y, z) rfl HF.out (fun x _ e => pairV_inj e) ?_; intro w4 hks2 hg2)
          exact ⟨⟨k + 1, by omega, by go_num, by rw [Ht.out, uq_snoc]; exact hks2, Hbq.out.grown hg2 Hbq.out.size (fun r e => by injection e with e; omega)⟩, by simp [intOf]; omega⟩
        · obtain rfl : n = k := by omega
          rw [Hall.out] at hks
          have Hks := hid_ hks
          clear hks
          generalize uq (colP T p q) = U at *
          obtain ⟨u, hu⟩ : ∃ u, U.length = u := ⟨_, rfl⟩
          have Hu := hid_ hu
          rw [hu] at HC hU
          clear hu
          by_cases h4 : u = 4
          · subst h4
            go_wp2_with (at_len; refine wpList_keys_len rfl (.tmp 38) rfl Try.underlying95 w3.heap.size _ rfl Hks.out ?_; rw [Hu.out])
            go_ret
            exact ⟨retB HC.out, Hb3.out.trans (Hb.out.mono Hb3.out.size)⟩
          · have hqq : ((u : Int) == 4) = false := by simp; omega
            have Hf := hid_ (HC.out.trans (show (true && (true && decide (u = 4))) = false by simp [h4]))
            clear h4 HC
            go_wp2_with (at_len; refine wpList_keys_len rfl (.tmp 38) rfl Try.underlying95 w3.heap.size _ rfl Hks.out ?_; rw [Hu.out])
            go_ret
            exact ⟨retB Hf.out, Hb3.out.trans (Hb.out.mono Hb3.out.size)⟩
end Go.Proofs.Ythmnmpglnaegfaa
