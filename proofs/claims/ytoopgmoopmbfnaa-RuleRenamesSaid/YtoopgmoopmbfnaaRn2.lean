import Derived.Test.YtoopgmoopmbfnaaRgn
namespace Go.Proofs.Ytoopgmoopmbfnaa
open Go.RowKit Go.Proofs.Kv

/-! ### other sounds: newSound, the reference's spell, sides, Spell -/
def nsV (t : List Int) (x : Int) : Int := if x < 0 then x else t.getD x.toNat 0
/-- every sound of l has a sound in a list of n -/
def spOk (n : Nat) (l : List Int) : Prop := ∀ x ∈ l, x < n
theorem newSound_calls (x : Int) (a : Option Addr) (n c : Nat) (t : List Int) (w : World) (h : IntsAt w a n c t) (hn : n = 6) (hx : -1 ≤ x) (h5 : x ≤ 5) :
    Calls Try.prog 80 #[.int .i64 x, .slice a n c] w fun e w' => e = .returned (.int .i64 (nsV t x)) ∧ w = w' := by
  have HS := hid_ (ruIsSound_calls x)
  by_cases h0 : x < 0
  · have hw : Within x 0 5 = false := by simp [Within]; omega
    have HE : Hid (nsV t x = x) := hid_ (if_pos h0)
    rw [hw] at HS
    go_enter Try.func80, Try.ntmps80
    go_wp2_with (go_at_call 117; refine (HS.out _).mono ?_; rintro e w' ⟨rfl, rfl⟩)
    go_ret
    exact ⟨retI HE.out, rfl⟩
  · have hw : Within x 0 5 = true := by simp [Within]; omega
    obtain ⟨k, rfl⟩ : ∃ k : Nat, x = (k : Int) := ⟨x.toNat, by omega⟩
    have HE : Hid (nsV t (k : Int) = t.getD k 0) := hid_ (by rw [nsV, if_neg h0]; simp)
    obtain ⟨b, off, rfl, hb, hcell⟩ := h.cells k (by omega)
    rw [hw] at HS
    have hk : (k : Int) < (n : Int) := by omega
    have hk0 : (0 : Int) ≤ (k : Int) := by omega
    generalize t.getD k 0 = y at *
    clear hw h0
    go_enter Try.func80, Try.ntmps80
    go_wp2_with (go_at_call 117; refine (HS.out _).mono ?_; rintro e w' ⟨rfl, rfl⟩)
    go_ret
    exact ⟨retI HE.out, rfl⟩
set_option maxRecDepth 100000 in
set_option maxHeartbeats 2000000 in
theorem refSpell_calls (a : Option Addr) (n c : Nat) (l : List Int) (a' : Option Addr) (n' c' : Nat) (t : List Int) (w : World) (h : IntsAt w a n c l) (h' : IntsAt w a' n' c' t) (hn : n ≤ 1000) (hok : spOk n' l) :
    Calls Try.prog 84 #[.slice a n c, .slice a' n' c'] w fun e w' => ∃ v', e = .returned v' ∧ Made 3 w w' v' (l.map (nsV t)) := by
  obtain ⟨i0, hi0, hz0, hz1, hz2⟩ := info_parts Try.infoInt
  have HL := hid_ h.len
  have HT : Hid (∀ k, k < n → (l.take (k + 1)).map (nsV t) = (l.take k).map (nsV t) ++ [nsV t (l.getD k 0)]) := hid_ (fun k hk => by rw [take_snoc l 0 k (by rw [h.len]; exact hk), List.map_append]; rfl)
  have HF : Hid (l.take n = l) := hid_ (by rw [← h.len]; simp)
  have HOK : Hid (∀ k, k < n → l.getD k 0 < n') := hid_ (fun k hk => hok _ (getD_mem (by rw [h.len]; exact hk)))
  have HLE : Hid (∀ k, ((l.take k).map (nsV t)).length ≤ n) := hid_ (fun k => by rw [List.length_map, List.length_take, h.len]; omega)
  have hnn : n ≤ 9223372036854775807 := by omega
  clear hok
  go_enter Try.func84, Try.ntmps84
  go_wp2
  go_loopw [5, 6] (fun v i wr => ∃ k : Nat, k ≤ n ∧ i = .int .i64 k ∧ wr.ownsRow w.heap.size 3 1 v ((l.take k).map (nsV t)).length (((l.take k).map (nsV t)).map (Value.int .i64)) ∧ Below w.heap.size w wr) (fun _ i _ => n - (intOf i).toNat)
  case atStart => exact ⟨0, Nat.zero_le _, rfl, World.ownsRow_nil _ _ _ _, Below.refl _ _⟩
  case round =>
    obtain ⟨k, hk, rfl, hown, hbel⟩ := hrel
    have hsz := hbel.size
    by_cases hlt : k < n
    · obtain ⟨b, off, rfl, hbl, hcell⟩ := (h.below hbel (Nat.le_refl _)).cells k hlt
      have Ht := hid_ (HT.out k hlt)
      have hle := HLE.out k
      have hs1 : ((l.take k).map (nsV t)).length + 1 ≤ 1000000 := by omega
      have hox := HOK.out k hlt
      clear hle
      generalize l.getD k 0 = y at *
      by_cases hy : y < 0
      · have HE : Hid (nsV t y = y) := hid_ (if_pos hy)
        rw [HE.out] at Ht
        go_wp2_with (at_builtin; refine wpList_append_ints _ rfl (.tmp 18) (.tmp 23) _ rfl w.heap.size 3 i0 Try.underlying23 hi0 hz0 hz1 hz2 _ _ _ rfl (hown.alloc _) _ _ _ _ rfl (IntsAt.one _ _ _) hs1 (le_alloc hsz) ?_; intro v' w5 hown5 hg5 hat5)
        go_roundw
        case rel => exact ⟨k + 1, by omega, by go_num, by rw [Ht.out]; simpa using hown5, below_app hbel hsz hown hg5⟩
        case measure => simp [intOf]; omega
      · obtain ⟨j, rfl⟩ : ∃ j : Nat, y = (j : Int) := ⟨y.toNat, by omega⟩
        have hj : j < n' := by omega
        have HE : Hid (nsV t (j : Int) = t.getD j 0) := hid_ (by rw [nsV, if_neg hy]; simp)
        obtain ⟨b2, off2, rfl, hbl2, hcell2⟩ := (h'.below hbel (Nat.le_refl _)).cells j hj
        rw [HE.out] at Ht
        have hj0 : (0 : Int) ≤ (j : Int) := by omega
        have hjn : (j : Int) < (n' : Int) := by omega
        generalize t.getD j 0 = z at *
        go_wp2_with (at_builtin; refine wpList_append_ints _ rfl (.tmp 25) (.tmp 33) _ rfl w.heap.size 3 i0 Try.underlying23 hi0 hz0 hz1 hz2 _ _ _ rfl (hown.alloc _) _ _ _ _ rfl (IntsAt.one _ _ _) hs1 (le_alloc hsz) ?_; intro v' w5 hown5 hg5 hat5)
        go_roundw
        case rel => exact ⟨k + 1, by omega, by go_num, by rw [Ht.out]; simpa using hown5, below_app hbel hsz hown hg5⟩
        case measure => simp [intOf]; omega
    · obtain rfl : k = n := by omega
      rw [HF.out] at hown
      go_wp2
      go_ret
      exact ⟨_, rfl, hown, hbel⟩
/-- a set with its sounds replaced, by the reference -/
def sdN (m : List Int) (k : Nat) : List Int := ((List.range k).map fun j : Nat => (j : Int) - 1).filter fun x => Has m x
def sidV (t s : List Int) : List Int := sdN (s.map (nsV t)) 7
theorem sd_hit {m : List Int} {k : Nat} (h : Has m ((k : Int) - 1) = true) : sdN m (k + 1) = sdN m k ++ [(k : Int) - 1] := by
  simp only [sdN, List.range_succ, List.map_append, List.filter_append, List.map_cons, List.map_nil, List.filter_cons, h, if_true, List.filter_nil]
theorem sd_miss {m : List Int} {k : Nat} (h : Has m ((k : Int) - 1) = false) : sdN m (k + 1) = sdN m k := by
  simp only [sdN, List.range_succ, List.map_append, List.filter_append, List.map_cons, List.map_nil, List.filter_cons, h, List.filter_nil]
  simp
theorem sd_le (m : List Int) (k : Nat) : (sdN m k).length ≤ k := by
  refine Nat.le_trans (List.length_filter_le _ _) ?_
  simp
set_option maxRecDepth 100000 in
set_option maxHeartbeats 2000000 in
theorem refSides_calls (a : Option Addr) (n c : Nat) (l : List Int) (a' : Option Addr) (n' c' : Nat) (t : List Int) (w : World) (h : IntsAt w a n c l) (h' : IntsAt w a' n' c' t) (hn : n ≤ 1000) (hok : spOk n' l) :
    Calls Try.prog 85 #[.slice a n c, .slice a' n' c'] w fun e w' => ∃ v', e = .returned v' ∧ Made 3 w w' v' (sidV t l) := by
  obtain ⟨i0, hi0, hz0, hz1, hz2⟩ := info_parts Try.infoInt
  have HSP := hid_ (refSpell_calls a n c l a' n' c' t w h h' hn hok)
  have HV : Hid (sidV t l = sdN (l.map (nsV t)) 7) := hid_ rfl
  generalize l.map (nsV t) = m at *
  clear hok
  go_enter Try.func85, Try.ntmps85
  go_wp2_with (go_at_call 84; (with_reducible refine HSP.out.mono ?_); rintro e w2 ⟨v2, rfl, hm2⟩; have hb2 := hm2.bel; obtain ⟨ax, cx, rfl, hix⟩ := hm2.at_; have Hx := hid_ hix; clear hix hm2)
  go_loopw [5, 7] (fun v i wr => ∃ k : Nat, k ≤ 7 ∧ i = .int .i64 ((k : Int) - 1) ∧ wr.ownsRow w2.heap.size 3 1 v (sdN m k).length ((sdN m k).map (Value.int .i64)) ∧ Below w2.heap.size w2 wr) (fun _ i _ => 7 - (intOf i + 1).toNat)
  case atStart => exact ⟨0, by omega, rfl, World.ownsRow_nil _ _ _ _, Below.refl _ _⟩
  case round =>
    obtain ⟨k, hk, rfl, hown, hbel⟩ := hrel
    have hsz := hbel.size
    by_cases hlt : k < 7
    · have HH := hid_ (has_calls ax m.length cx m ((k : Int) - 1) wr (Hx.out.below hbel (Nat.le_refl _)))
      have h6 : (k : Int) - 1 < 6 := by omega
      have hH := hid_ (@sd_hit m k)
      have hM := hid_ (@sd_miss m k)
      have hle := sd_le m k
      have hs1 : (sdN m k).length + 1 ≤ 1000000 := by omega
      clear hle
      generalize Has m ((k : Int) - 1) = x1 at *
      cases x1 with
      | false =>
        have Hn := hid_ (hM.out rfl)
        go_wp2_with (go_at_call 92; (with_reducible refine HH.out.mono ?_); rintro e w3 ⟨rfl, rfl⟩)
        go_roundw
        case rel => exact ⟨k + 1, by omega, by go_num, by rw [Hn.out]; exact hown, hbel⟩
        case measure => simp [intOf]; omega
      | true =>
        have Hn := hid_ (hH.out rfl)
        go_wp2_with (first
          | (go_at_call 92; (with_reducible refine HH.out.mono ?_); rintro e w3 ⟨rfl, rfl⟩)
          | (at_builtin; refine wpList_append_ints _ rfl (.tmp 18) (.tmp 20) _ rfl w2.heap.size 3 i0 Try.underlying23 hi0 hz0 hz1 hz2 _ _ _ rfl (hown.alloc _) _ _ _ _ rfl (IntsAt.one _ _ _) hs1 (le_alloc hsz) ?_; intro v' w5 hown5 hg5 hat5))
        go_roundw
        case rel => exact ⟨k + 1, by omega, by go_num, by rw [Hn.out]; simpa using hown5, below_app hbel hsz hown hg5⟩
        case measure => simp [intOf]; omega
    · obtain rfl : k = 7 := by omega
      go_wp2
      go_ret
      exact ⟨_, rfl, by rw [HV.out]; exact own_base hown hb2.size, hb2.trans (hbel.mono hb2.size)⟩
end Go.Proofs.Ytoopgmoopmbfnaa
