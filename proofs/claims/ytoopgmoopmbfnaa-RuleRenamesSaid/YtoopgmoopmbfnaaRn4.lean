import Derived.Test.YtoopgmoopmbfnaaRn3
namespace Go.Proofs.Ytoopgmoopmbfnaa
open Go.RowKit Go.Proofs.Kv

/-! ### newSounds, Spell -/
set_option maxRecDepth 100000 in
set_option maxHeartbeats 4000000 in
theorem newSoundsS_calls (a : Option Addr) (n c : Nat) (l : List Int) (a' : Option Addr) (n' c' : Nat) (t : List Int) (w : World) (h : IntsAt w a n c l) (h' : IntsAt w a' n' c' t) (hn : n ≤ 1000) (h6 : n' = 6) (hx : ∀ x ∈ l, -1 ≤ x ∧ x ≤ 5) :
    Calls Try.prog 81 #[.slice a n c, .slice a' n' c'] w fun e w' => ∃ g, e = .returned (.slice (some ⟨g, 0, none⟩) n n) ∧ Made 3 w w' (.slice (some ⟨g, 0, none⟩) n n) (l.map (nsV t)) := by
  obtain ⟨i0, hi0, hz0, hz1, hz2⟩ := info_parts Try.infoInt
  have HL := hid_ h.len
  have HX : Hid (∀ k, k < n → -1 ≤ l.getD k 0 ∧ l.getD k 0 ≤ 5) := hid_ (fun k hk => hx _ (getD_mem (by rw [h.len]; exact hk)))
  have Hz2 : Hid (i0.bytes * n ≤ 281474976710656) := hid_ (by rw [hz2]; omega)
  clear hx
  subst h6
  go_enter Try.func81, Try.ntmps81
  go_wp2_with (at_make; refine wpList_make_full _ rfl (.tmp 9) (.tmp 9) _ rfl w.heap.size 3 i0 (.int .i64 0) 1 Try.underlying23 hi0 hz0 hz1 .i64 .i64 _ _ n rfl rfl rfl rfl Hz2.out (by unfold maxLen; omega) (Nat.le_refl _) ?_; intro w2 hown2 hg2)
  have hb2 : Below w.heap.size w w2 := (Below.refl _ w).grown hg2 (Nat.le_refl _) (fun k hk => by cases hk)
  obtain ⟨cur0, hc0, hs0⟩ : ∃ cur : Array Value, w2.heap[w.heap.size]? = some (.cells cur 3 (0, 0)) ∧ cur.size = n := by
    rcases hown2.2 with ⟨h1, _⟩ | ⟨g, cap, cur, h1, h2, h3, h4, h5, h6, h7⟩
    · injection h1 with h1; cases h1
    · injection h1 with h1 _ h8
      injection h1 with h1
      injection h1 with h1
      subst h1; subst h8
      exact ⟨cur, h3, by omega⟩
  clear hown2 hg2
  have Hc0 := hid_ hc0; clear hc0
  go_loopw [13] (fun i wr => ∃ (k : Nat) (cur : Array Value), k ≤ n ∧ i = .int .i64 k ∧ wr.heap[w.heap.size]? = some (.cells cur 3 (0, 0)) ∧ cur.size = n ∧ (∀ j, j < k → cur[j]? = some (.int .i64 (nsV t (l.getD j 0)))) ∧ Below w.heap.size w wr) (fun i _ => n - (intOf i).toNat)
  case atStart => exact ⟨0, cur0, Nat.zero_le _, rfl, Hc0.out, hs0, fun j hj => absurd hj (by omega), hb2⟩
  case round =>
    obtain ⟨k, cur, hk, rfl, hc, hs, hall, hbel⟩ := hrel
    have Hc := hid_ hc; clear hc
    have Hall := hid_ hall; clear hall
    have Hs := hid_ hs; clear hs
    by_cases hlt : k < n
    · obtain ⟨b, off, rfl, hbl, hcell⟩ := (h.below hbel (Nat.le_refl _)).cells k hlt
      obtain ⟨x0, x5⟩ := HX.out k hlt
      have HN := hid_ (newSound_calls (l.getD k 0) a' 6 c' t wr (h'.below hbel (Nat.le_refl _)) rfl x0 x5)
      have Hy : Hid (∀ z, z = nsV t (l.getD k 0) → ∀ j, j < k + 1 → (cur.setIfInBounds k (.int .i64 z))[j]? = some (.int .i64 (nsV t (l.getD j 0)))) := hid_ (fun z hz j hj => by
        rw [Array.getElem?_setIfInBounds]
        by_cases e : k = j
        · subst e; rw [if_pos rfl, if_pos (by rw [Hs.out]; exact hlt), hz]
        · rw [if_neg e]; exact Hall.out j (by omega))
      have HY := hid_ (Hy.out _ rfl)
      generalize nsV t (l.getD k 0) = z at HN HY
      generalize l.getD k 0 = y at *
      have hkc : k < cur.size := by rw [Hs.out]; exact hlt
      have hcs : wr.cell? ⟨w.heap.size, k, none⟩ = some cur[k] := by rw [Go.Joins.cell_of_block Hc.out]; exact Array.getElem?_eq_getElem hkc
      have Hkc := hid_ hkc
      have hfs : wr.frozen? ⟨w.heap.size, k, none⟩ = false := Go.Joins.unfrozen_of_block Hc.out k
      have hkn : (k : Int) < (n : Int) := by omega
      go_wp2_with (go_at_call 80; (with_reducible refine HN.out.mono ?_); rintro e w3 ⟨rfl, rfl⟩)
      go_roundw
      case rel => exact ⟨k + 1, _, by omega, by go_num, Go.Joins.block_setCell Hc.out _, by simpa using Hs.out, HY.out, Below.setCell hbel (Nat.le_refl _) _⟩
      case measure => simp [intOf]; omega
    · obtain rfl : k = n := by omega
      go_wp2
      go_ret
      refine ⟨w.heap.size, rfl, ⟨by simp, .inr ⟨w.heap.size, k, cur, by rw [List.length_map, HL.out], Nat.le_refl _, Hc.out, by rw [List.length_map, HL.out]; exact Nat.le_refl _, by unfold maxLen; omega, by have := Hs.out; omega, ?_⟩⟩, hbel⟩
      apply List.ext_getElem?
      intro i
      by_cases hi : i < k
      · rw [List.getElem?_take_of_lt (by simp [HL.out]; omega), Array.getElem?_toList, Hall.out i hi, List.getElem?_map, List.getElem?_map, List.getElem?_eq_getElem (by rw [HL.out]; exact hi)]
        simp [List.getD, show i < l.length by rw [HL.out]; exact hi]
      · rw [List.getElem?_take_eq_none (by simp [HL.out]; omega), List.getElem?_eq_none (by simp [HL.out]; omega)]
theorem newSounds_calls (a : Option Addr) (n c : Nat) (l : List Int) (a' : Option Addr) (n' c' : Nat) (t : List Int) (w : World) (h : IntsAt w a n c l) (h' : IntsAt w a' n' c' t) (hn : n ≤ 1000) (h6 : n' = 6) (hx : ∀ x ∈ l, -1 ≤ x ∧ x ≤ 5) :
    Calls Try.prog 81 #[.slice a n c, .slice a' n' c'] w fun e w' => ∃ v', e = .returned v' ∧ Made 3 w w' v' (l.map (nsV t)) :=
  (newSoundsS_calls a n c l a' n' c' t w h h' hn h6 hx).mono fun _ _ ⟨_, h1, h2⟩ => ⟨_, h1, h2⟩
end Go.Proofs.Ytoopgmoopmbfnaa
