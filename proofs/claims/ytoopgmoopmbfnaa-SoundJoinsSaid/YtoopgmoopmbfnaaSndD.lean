import Derived.Test.YtoopgmoopmbfnaaSndC
namespace Go.Proofs.Ytoopgmoopmbfnaa
open Go.RowKit Go.Proofs.Kv Go.Proofs.Snd

/-! ### ValidateFamily -/
set_option maxRecDepth 100000 in
theorem sndFamily_calls (m : Int) (a : Option Addr) (n c : Nat) (F : List (List Int)) (w : World) (h : ListsAt w a n c F) :
    Calls Try.prog 55 #[.int .i64 m, .slice a n c] w fun e w' => e = .returned (.int .i64 (famErr m F)) ∧ ∃ q, w' = w.drewN q := by
  have hn : n ≤ 9223372036854775807 := Nat.le_trans h.le h.small
  by_cases hm1 : m < 1
  · have Hf : Hid (famErr m F = 1) := hid_ (by
      have : Within m 1 6 = false := by simp [Within]; omega
      simp [famErr, this])
    go_enter Try.func55, Try.ntmps55
    go_wp2
    go_ret
    exact ⟨retI Hf.out, 0, rfl⟩
  · by_cases hm2 : 6 < m
    · have Hf : Hid (famErr m F = 1) := hid_ (by
        have : Within m 1 6 = false := by simp [Within]; omega
        simp [famErr, this])
      go_enter Try.func55, Try.ntmps55
      go_wp2
      go_ret
      exact ⟨retI Hf.out, 0, rfl⟩
    · have Hw : Hid (Within m 1 6 = true) := hid_ (by simp [Within]; omega)
      by_cases h6 : 6 < n
      · have Hf : Hid (famErr m F = 3) := hid_ (by simp [famErr, Hw.out, h.len, h6])
        go_enter Try.func55, Try.ntmps55
        go_wp2
        go_ret
        exact ⟨retI Hf.out, 0, rfl⟩
      · go_enter Try.func55, Try.ntmps55
        go_wp2
        go_loopw [18] (fun i wr => ∃ k q : Nat, k ≤ n ∧ i = .int .i64 k ∧ wr = w.drewN q ∧ ∀ j, j < k → famGood m (F.getD j []) = true) (fun i _ => n - (intOf i).toNat)
        case atStart => exact ⟨0, 0, Nat.zero_le _, rfl, rfl, fun _ h => absurd h (by omega)⟩
        case round =>
          obtain ⟨k, q, hk, rfl, hq, hall⟩ := hrel
          have hI : ListsAt wr a n c F := by rw [hq]; exact h.drewN q
          have Hq := hid_ hq; clear hq
          have Hall := hid_ hall; clear hall
          by_cases hlt : k < n
          · obtain ⟨b, off, a', n', c', rfl, hb, hcell, hrow⟩ := hI.cells k hlt
            generalize hr : F.getD k [] = r at hrow
            have Hr := hid_ hr; clear hr
            have hl : k < F.length := by rw [h.len]; exact hlt
            by_cases hz : n' = 0
            · subst hz
              have Hf : Hid (famErr m F = 1) := hid_ (by
                have hr0 : r = [] := List.eq_nil_of_length_eq_zero hrow.len
                have : F.all (famGood m) = false := fam_no hl (by rw [Hr.out, hr0]; rfl)
                simp [famErr, Hw.out, h.len, h6, this])
              go_wp2
              go_ret
              exact ⟨retI Hf.out, _, Hq.out⟩
            · have hz' : ((n' : Int) == 0) = false := by simp; omega
              have hne : r.isEmpty = false := by
                cases hr1 : r with
                | nil => rw [hr1] at hrow; exact absurd hrow.len.symm hz
                | cons _ _ => rfl
              have Hne := hid_ hne; clear hne
              have Hz := hid_ hz; clear hz
              have hsc := sndIsSet_calls _ _ _ _ m _ hrow
              have Hs : Hid (famGood m r = IsSet r 0 (m - 1)) := hid_ (by rw [famGood, Hne.out]; rfl)
              generalize IsSet r 0 (m - 1) = s at hsc Hs
              have Hsc := hid_ hsc; clear hsc
              cases s with
              | false =>
                have Hf : Hid (famErr m F = 1) := hid_ (by
                  have : F.all (famGood m) = false := fam_no hl (by rw [Hr.out, Hs.out])
                  simp [famErr, Hw.out, h.len, h6, this])
                go_wp2_with (go_at_call 93; refine Hsc.out.mono ?_; rintro e w' ⟨rfl, q', rfl⟩)
                go_ret
                exact ⟨retI Hf.out, _, by rw [Hq.out, drewN2]⟩
              | true =>
                go_wp2_with (go_at_call 93; refine Hsc.out.mono ?_; rintro e w' ⟨rfl, q', rfl⟩)
                go_roundw
                case rel => exact ⟨k + 1, _, by omega, by go_num, by rw [Hq.out, drewN2], lt_snoc Hall.out (by rw [Hr.out, Hs.out])⟩
                case measure => simp [intOf]; omega
          · have Hf : Hid (famErr m F = 0) := hid_ (by
              have : F.all (famGood m) = true := fam_yes h.len fun j hj => Hall.out j (by omega)
              rw [famErr, Hw.out, h.len, this]; simp [h6])
            go_wp2
            go_ret
            exact ⟨retI Hf.out, _, Hq.out⟩

/-! ### Sounds, Row -/
/-! ### span, fits -/
def sp1 (n : Nat) (f : Int) : Int := if f < 0 then (n : Int) else f
def spanL (o s : List Int) : Int × Int := (sp1 o.length (ends o s).1, (ends o s).2 + 1)
set_option maxRecDepth 100000 in
theorem span_calls (a' : Option Addr) (n' c' : Nat) (s : List Int) (a : Option Addr) (n c : Nat) (o : List Int) (w : World) (h' : IntsAt w a' n' c' s) (h : IntsAt w a n c o) :
    Calls Try.prog 100 #[.slice a' n' c', .slice a n c] w fun e w' => e = .returned (.tuple #[.int .i64 (spanL o s).1, .int .i64 (spanL o s).2]) ∧ w = w' := by
  have hn : n ≤ 9223372036854775807 := Nat.le_trans h.le h.small
  have Hlen : Hid (spanL o s = (sp1 n (endsTo o s n).1, (endsTo o s n).2 + 1)) := hid_ (by rw [spanL, ends, h.len])
  go_enter Try.func100, Try.ntmps100
  go_wp2
  go_loop [4, 5, 12] (fun f l i => ∃ k : Nat, k ≤ n ∧ i = .int .i64 k ∧ f = .int .i64 (sp1 n (endsTo o s k).1) ∧ l = .int .i64 ((endsTo o s k).2 + 1)) (fun _ _ i => n - (intOf i).toNat)
  case atStart => exact ⟨0, Nat.zero_le _, rfl, rfl, rfl⟩
  case round =>
    obtain ⟨k, hk, rfl, rfl, rfl⟩ := hrel
    by_cases hlt : k < n
    · obtain ⟨b, off, rfl, hb, hcell⟩ := h.cells k hlt
      have hbd := endsTo_bd o s k
      have Hnext : Hid (endsTo o s (k + 1) = if Has s (o.getD k 0) then (if (endsTo o s k).1 < 0 then (k : Int) else (endsTo o s k).1, (k : Int)) else endsTo o s k) := hid_ rfl
      generalize hy : o.getD k 0 = y at hcell Hnext
      have Hy := hid_ hy; clear hy
      generalize endsTo o s k = p at Hnext hbd
      obtain ⟨f, l⟩ := p
      simp only at hbd
      have Hbd := hid_ hbd; clear hbd
      by_cases hf : f < 0
      · have Hif : Hid (sp1 n f = n) := hid_ (if_pos hf)
        cases hh : Has s y with
        | true =>
          have Hf : Hid (endsTo o s (k + 1) = ((k : Int), (k : Int))) := hid_ (by rw [Hnext.out, hh]; simp [hf])
          have Hk : Hid (sp1 n (k : Int) = k) := hid_ (if_neg (by omega))
          have hmin : ¬ ((n : Int) ≤ (k : Int)) := by omega
          clear Hnext
          rw [Hif.out]
          go_wp2_with (go_at_call 131; refine (contains_calls _ _ _ _ _ _ h').mono ?_; rintro e w' ⟨rfl, rfl⟩)
          go_round
          case rel => exact ⟨k + 1, by omega, by go_num, by rw [Hf.out, Hk.out]; congr 1; omega, by rw [Hf.out]⟩
          case measure => simp [intOf]; omega
        | false =>
          have Hf : Hid (endsTo o s (k + 1) = (f, l)) := hid_ (by rw [Hnext.out, hh]; simp)
          clear Hnext
          rw [Hif.out]
          go_wp2_with (go_at_call 131; refine (contains_calls _ _ _ _ _ _ h').mono ?_; rintro e w' ⟨rfl, rfl⟩)
          go_round
          case rel => exact ⟨k + 1, by omega, by go_num, by rw [Hf.out, Hif.out], by rw [Hf.out]⟩
          case measure => simp [intOf]; omega
      · have Hif : Hid (sp1 n f = f) := hid_ (if_neg hf)
        have hfk : f < k := by
          rcases Hbd.out with h | ⟨_, h⟩
          · omega
          · injection h with h1 h2; omega
        cases hh : Has s y with
        | true =>
          have Hf : Hid (endsTo o s (k + 1) = (f, (k : Int))) := hid_ (by rw [Hnext.out, hh]; simp [hf])
          have hmin : f ≤ (k : Int) := by omega
          clear Hnext
          rw [Hif.out]
          go_wp2_with (go_at_call 131; refine (contains_calls _ _ _ _ _ _ h').mono ?_; rintro e w' ⟨rfl, rfl⟩)
          go_round
          case rel => exact ⟨k + 1, by omega, by go_num, by rw [Hf.out, Hif.out]; congr 1; omega, by rw [Hf.out]⟩
          case measure => simp [intOf]; omega
        | false =>
          have Hf : Hid (endsTo o s (k + 1) = (f, l)) := hid_ (by rw [Hnext.out, hh]; simp)
          clear Hnext
          rw [Hif.out]
          go_wp2_with (go_at_call 131; refine (contains_calls _ _ _ _ _ _ h').mono ?_; rintro e w' ⟨rfl, rfl⟩)
          go_round
          case rel => exact ⟨k + 1, by omega, by go_num, by rw [Hf.out, Hif.out], by rw [Hf.out]⟩
          case measure => simp [intOf]; omega
    · obtain rfl : k = n := by omega
      go_wp2
      go_ret2
      exact ⟨by rw [Hlen.out]; rfl, rfl⟩
end Go.Proofs.Ytoopgmoopmbfnaa
