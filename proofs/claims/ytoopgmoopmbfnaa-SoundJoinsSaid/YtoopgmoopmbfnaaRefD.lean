import Derived.Test.YtoopgmoopmbfnaaRefC
namespace Go.Proofs.Ytoopgmoopmbfnaa
open Go.RowKit Go.Proofs.Kv Go.Proofs.Snd

/-! ### Validate -/
theorem val_row {L : List (List Int)} {k : Nat} (h1 : ¬ (L.length = 0 ∨ 6 < L.length)) (hk : k < L.length) (h : okRow (L.getD k []) = false) : validT L = 1 := by
  have : L.all okRow = false := by
    rw [Bool.eq_false_iff]
    intro e
    rw [List.all_eq_true] at e
    have := e (L.getD k []) (by simp [List.getD, List.getElem?_eq_getElem hk])
    rw [h] at this; cases this
  rw [validT, if_neg h1, this]; rfl
theorem val_rows {L : List (List Int)} {n : Nat} (hn : L.length = n) (h : ∀ j, j < n → okRow (L.getD j []) = true) : L.all okRow = true := by
  rw [List.all_eq_true]
  intro s hs
  obtain ⟨i, hi, e⟩ := List.mem_iff_getElem.1 hs
  have := h i (by omega)
  rwa [List.getD, List.getElem?_eq_getElem hi, Option.getD_some, e] at this
theorem okRow_no {r : List Int} {k : Nat} (hk : k < r.length) (h : Within (r.getD k 0) 0 5 = false) : okRow r = false := by
  have : r.all okS = false := by
    rw [Bool.eq_false_iff]
    intro e
    rw [List.all_eq_true] at e
    have h2 : Within (r.getD k 0) 0 5 = true := e _ (getD_mem hk)
    rw [h] at h2; cases h2
  simp [okRow, this]
theorem okRow_yes {r : List Int} {n : Nat} (hn : r.length = n) (h0 : 0 < n) (h : ∀ j, j < n → Within (r.getD j 0) 0 5 = true) : okRow r = true := by
  have : r.all okS = true := by
    rw [List.all_eq_true]
    intro s hs
    obtain ⟨i, hi, e⟩ := mem_getD hs
    have := h i (by omega)
    rwa [e] at this
  have h2 : r.isEmpty = false := by cases r with | nil => simp at hn; omega | cons _ _ => rfl
  simp [okRow, this, h2]
theorem take_nodup {l : List Int} {k : Nat} (hk : k < l.length) (h : (l.take k).Nodup) (hh : Has (l.take k) (l.getD k 0) = false) : (l.take (k + 1)).Nodup := by
  rw [Kv.take_snoc l 0 k hk, nodup_snoc]
  exact ⟨h, fun e => by rw [Has_iff.2 e] at hh; cases hh⟩
theorem take_dup {l : List Int} {k : Nat} (hk : k < l.length) (hh : Has (l.take k) (l.getD k 0) = true) : dup l = true := by
  rw [dup_eq, decide_eq_true_eq]
  intro hn
  have : (l.take (k + 1)).Nodup := hn.sublist (List.take_sublist _ _)
  rw [Kv.take_snoc l 0 k hk, nodup_snoc] at this
  exact this.2 (Has_iff.1 hh)

set_option maxRecDepth 100000 in
theorem refValidate_calls (a : Option Addr) (n c : Nat) (L : List (List Int)) (w : World) (h : ListsAt w a n c L) (hs : L.flatten.length ≤ 100000) :
    Calls Try.prog 65 #[.slice a n c] w fun e w' => e = .returned (.int .i64 (validT L)) ∧ Below w.heap.size w w' := by
  have hn : n ≤ 9223372036854775807 := Nat.le_trans h.le h.small
  cases hw : Within (n : Int) 1 6 with
  | false =>
    have Hf : Hid (validT L = 3) := hid_ (by
      have : L.length = 0 ∨ 6 < L.length := by rw [h.len]; simp [Within] at hw; omega
      rw [validT, if_pos this])
    go_enter Try.func65, Try.ntmps65
    go_wp2_with (go_at_call 72; refine (within_calls _ _ _ _).mono ?_; rintro e w' ⟨rfl, rfl⟩)
    go_ret
    exact ⟨retI Hf.out, Below.refl _ _⟩
  | true =>
    have H6 : Hid (¬ (L.length = 0 ∨ 6 < L.length)) := hid_ (by rw [h.len]; simp [Within] at hw; omega)
    go_enter Try.func65, Try.ntmps65
    go_wp2_with (go_at_call 72; refine (within_calls _ _ _ _).mono ?_; rintro e w' ⟨rfl, rfl⟩)
    clear hw
    go_loop [3] (fun i => ∃ k : Nat, k ≤ n ∧ i = .int .i64 k ∧ ∀ j, j < k → okRow (L.getD j []) = true) (fun i => n - (intOf i).toNat)
    case atStart => exact ⟨0, Nat.zero_le _, rfl, fun _ h => absurd h (by omega)⟩
    case round =>
      obtain ⟨k, hk, rfl, hall⟩ := hrel
      have Hall := hid_ hall; clear hall
      by_cases hlt : k < n
      · obtain ⟨b, off, a', n', c', rfl, hb, hcell, hrow⟩ := h.cells k hlt
        generalize hr : L.getD k [] = r at hrow
        have Hr := hid_ hr; clear hr
        have hl : k < L.length := by rw [h.len]; exact hlt
        have hn' : n' ≤ 9223372036854775807 := Nat.le_trans hrow.le hrow.small
        by_cases hz : n' = 0
        · subst hz
          have Hf : Hid (validT L = 1) := hid_ (val_row H6.out hl (by rw [Hr.out, List.eq_nil_of_length_eq_zero hrow.len]; rfl))
          go_wp2
          go_ret
          exact ⟨retI Hf.out, Below.refl _ _⟩
        · have hz' : ((n' : Int) == 0) = false := by simp; omega
          have Hz := hid_ hz; clear hz
          go_wp2
          clear hz'
          go_loop [4] (fun i => ∃ k2 : Nat, k2 ≤ n' ∧ i = .int .i64 k2 ∧ ∀ j, j < k2 → Within (r.getD j 0) 0 5 = true) (fun i => n' - (intOf i).toNat)
          case atStart => exact ⟨0, Nat.zero_le _, rfl, fun _ h => absurd h (by omega)⟩
          case round =>
            obtain ⟨k2, hk2, rfl, hall2⟩ := hrel
            have Hall2 := hid_ hall2; clear hall2
            by_cases hlt2 : k2 < n'
            · obtain ⟨b2, off2, rfl, hb2, hcell2⟩ := hrow.cells k2 hlt2
              generalize hy : r.getD k2 0 = y at hcell2
              have Hy := hid_ hy; clear hy
              cases hw2 : Within y 0 5 with
              | false =>
                have Hf : Hid (validT L = 1) := hid_ (val_row H6.out hl (by rw [Hr.out]; exact okRow_no (by rw [hrow.len]; exact hlt2) (by rw [Hy.out]; exact hw2)))
                go_wp2_with (go_at_call 72; refine (within_calls _ _ _ _).mono ?_; rintro e w' ⟨rfl, rfl⟩)
                go_ret
                exact ⟨retI Hf.out, Below.refl _ _⟩
              | true =>
                go_wp2_with (go_at_call 72; refine (within_calls _ _ _ _).mono ?_; rintro e w' ⟨rfl, rfl⟩)
                go_round
                case rel => exact ⟨k2 + 1, by omega, by go_num, lt_snoc Hall2.out (by rw [Hy.out]; exact hw2)⟩
                case measure => simp [intOf]; omega
            · have Hf : Hid (okRow r = true) := hid_ (okRow_yes hrow.len (Nat.pos_of_ne_zero Hz.out) fun j hj => Hall2.out j (by omega))
              go_wp2
              go_round
              case rel => exact ⟨k + 1, by omega, by go_num, lt_snoc Hall.out (by rw [Hr.out]; exact Hf.out)⟩
              case measure => simp [intOf]; omega
      · have Hrows : Hid (L.all okRow = true) := hid_ (val_rows h.len fun j hj => Hall.out j (by omega))
        go_wp2_with (go_at_call 67; refine (sounds_calls _ _ _ _ _ h hs).mono ?_; rintro e w1 ⟨v, rfl, hmade⟩)
        obtain ⟨a1, c1, rfl, hI⟩ := hmade.at_
        have hbel := hmade.bel
        clear hmade
        generalize hl : L.flatten = l at hI
        have Hl := hid_ hl; clear hl
        generalize hm : l.length = m at hI
        have Hm := hid_ hm; clear hm
        have hmm : m ≤ 9223372036854775807 := Nat.le_trans hI.le hI.small
        go_loopw [6] (fun i wr => ∃ k q : Nat, k ≤ m ∧ i = .int .i64 k ∧ wr = w1.drewN q ∧ (l.take k).Nodup) (fun i _ => m - (intOf i).toNat)
        case atStart => exact ⟨0, 0, Nat.zero_le _, rfl, rfl, by simp⟩
        case round =>
          obtain ⟨k3, q, hk3, rfl, hq, hnd⟩ := hrel
          have hI2 : IntsAt wr a1 m c1 l := by rw [hq]; exact hI.drewN q
          have Hq := hid_ hq; clear hq
          have Hnd := hid_ hnd; clear hnd
          by_cases hlt3 : k3 < m
          · obtain ⟨b2, off2, rfl, hb2, hcell2⟩ := hI2.cells k3 hlt3
            have htk := hI2.take (k := k3) (by omega)
            have hl3 : k3 < l.length := by rw [hI2.len]; exact hlt3
            generalize hy : l.getD k3 0 = y at hcell2
            have Hy := hid_ hy; clear hy
            have hc3 : (k3 : Int) ≤ (c1 : Int) := by have := hI2.le; omega
            generalize ht : l.take k3 = tk at htk
            have Ht := hid_ ht; clear ht
            cases hh : Has tk y with
            | true =>
              have Hf : Hid (validT L = 5) := hid_ (by
                have : dup l = true := take_dup hl3 (by rw [Hy.out, Ht.out]; exact hh)
                rw [validT, if_neg H6.out, Hrows.out, Hl.out, this]; rfl)
              go_wp2
              go_quiet ((go_at_call 92; exact quiet_left (has_as (htk.drewN _) hh)))
              go_wp2
              go_ret
              exact ⟨retI Hf.out, by rw [Hq.out, drewN2]; exact below_drewN hbel _⟩
            | false =>
              go_wp2
              go_quiet ((go_at_call 92; exact quiet_left (has_as (htk.drewN _) hh)))
              go_wp2
              go_roundw
              case rel => exact ⟨k3 + 1, _, by omega, by go_num, by rw [Hq.out, drewN2], take_nodup hl3 Hnd.out (by rw [Hy.out, Ht.out]; exact hh)⟩
              case measure => simp [intOf]; omega
          · have Hf : Hid (validT L = 0) := hid_ (by
              have h1 := Hnd.out
              rw [List.take_of_length_le (by rw [hI2.len]; omega)] at h1
              have : dup l = false := (dup_iff l).2 h1
              rw [validT, if_neg H6.out, Hrows.out, Hl.out, this]; rfl)
            go_wp2
            go_ret
            exact ⟨retI Hf.out, by rw [Hq.out]; exact below_drewN hbel _⟩
end Go.Proofs.Ytoopgmoopmbfnaa
