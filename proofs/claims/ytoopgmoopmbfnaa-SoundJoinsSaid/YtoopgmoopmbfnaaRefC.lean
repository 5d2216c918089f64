import Derived.Test.YtoopgmoopmbfnaaRefB
namespace Go.Proofs.Ytoopgmoopmbfnaa
open Go.RowKit Go.Proofs.Kv Go.Proofs.Snd

/-! ### ValidateFamily -/
def famGood (n : Int) (s : List Int) : Bool := !s.isEmpty && IsSet s 0 (n - 1)
def famErr (n : Int) (F : List (List Int)) : Int := if Within n 1 6 = false then 1 else if 6 < F.length then 3 else if F.all (famGood n) then 0 else 1
theorem fam_no {n : Int} {F : List (List Int)} {k : Nat} (hk : k < F.length) (h : famGood n (F.getD k []) = false) : F.all (famGood n) = false := by
  rw [Bool.eq_false_iff]
  intro e
  rw [List.all_eq_true] at e
  have := e (F.getD k []) (by simp [List.getD, List.getElem?_eq_getElem hk])
  rw [h] at this; cases this
theorem fam_yes {n : Int} {F : List (List Int)} {m : Nat} (hm : F.length = m) (h : ∀ j, j < m → famGood n (F.getD j []) = true) : F.all (famGood n) = true := by
  rw [List.all_eq_true]
  intro s hs
  obtain ⟨i, hi, e⟩ := List.mem_iff_getElem.1 hs
  have := h i (by omega)
  rwa [List.getD, List.getElem?_eq_getElem hi, Option.getD_some, e] at this

set_option maxRecDepth 100000 in
theorem refFamily_calls (m : Int) (a : Option Addr) (n c : Nat) (F : List (List Int)) (w : World) (h : ListsAt w a n c F) :
    Calls Try.prog 57 #[.int .i64 m, .slice a n c] w fun e w' => e = .returned (.int .i64 (famErr m F)) ∧ ∃ q, w' = w.drewN q := by
  have hn : n ≤ 9223372036854775807 := Nat.le_trans h.le h.small
  cases hw : Within m 1 6 with
  | false =>
    have Hf : Hid (famErr m F = 1) := hid_ (by simp [famErr, hw])
    go_enter Try.func57, Try.ntmps57
    go_wp2_with (go_at_call 72; refine (within_calls _ _ _ _).mono ?_; rintro e w' ⟨rfl, rfl⟩)
    go_ret
    exact ⟨retI Hf.out, 0, rfl⟩
  | true =>
    have hm : 1 ≤ m ∧ m ≤ 6 := by simpa [Within] using hw
    obtain ⟨hm1, hm2⟩ := hm
    by_cases h6 : 6 < n
    · have Hf : Hid (famErr m F = 3) := hid_ (by simp [famErr, hw, h.len, h6])
      go_enter Try.func57, Try.ntmps57
      go_wp2_with (go_at_call 72; refine (within_calls _ _ _ _).mono ?_; rintro e w' ⟨rfl, rfl⟩)
      go_ret
      exact ⟨retI Hf.out, 0, rfl⟩
    · have hwr : IntKind.i64.wrap (m - 1) = m - 1 := IntWalk.i64_in _ (by omega)
      go_enter Try.func57, Try.ntmps57
      go_wp2_with (go_at_call 72; refine (within_calls _ _ _ _).mono ?_; rintro e w' ⟨rfl, rfl⟩)
      go_loopw [5] (fun i wr => ∃ k q : Nat, k ≤ n ∧ i = .int .i64 k ∧ wr = w.drewN q ∧ ∀ j, j < k → famGood m (F.getD j []) = true) (fun i _ => n - (intOf i).toNat)
      case atStart => exact ⟨0, 0, Nat.zero_le _, rfl, rfl, fun _ h => absurd h (by omega)⟩
      case round =>
        obtain ⟨k, q, hk, rfl, hq, hall⟩ := hrel
        have hI : ListsAt wr a n c F := by rw [hq]; exact h.drewN q
        have Hq := hid_ hq; clear hq
        have Hall := hid_ hall; clear hall
        by_cases hlt : k < n
        · obtain ⟨b, off, a', n', c', rfl, hb, hcell, hrow⟩ := hI.cells k hlt
          generalize hr : F.getD k [] = r at hrow
          have Hr := hid_ hr; clear hr
          have hl : k < F.length := by rw [h.len]; exact hlt
          by_cases hz : n' = 0
          · subst hz
            have Hf : Hid (famErr m F = 1) := hid_ (by
              have hr0 : r = [] := List.eq_nil_of_length_eq_zero hrow.len
              have : F.all (famGood m) = false := fam_no hl (by rw [Hr.out, hr0]; rfl)
              simp [famErr, hw, h.len, h6, this])
            go_wp2
            go_ret
            exact ⟨retI Hf.out, _, Hq.out⟩
          · have hz' : ((n' : Int) == 0) = false := by simp; omega
            have hne : r.isEmpty = false := by
              cases hr1 : r with
              | nil => rw [hr1] at hrow; exact absurd hrow.len.symm hz
              | cons _ _ => rfl
            have Hne := hid_ hne; clear hne
            have Hz := hid_ hz; clear hz
            cases hs : IsSet r 0 (m - 1) with
            | false =>
              have Hf : Hid (famErr m F = 1) := hid_ (by
                have : F.all (famGood m) = false := fam_no hl (by rw [Hr.out, famGood, hs]; simp)
                simp [famErr, hw, h.len, h6, this])
              go_wp2_with (go_at_call 103; refine (isSet_calls _ _ _ _ _ _ _ hrow).mono ?_; rintro e w' ⟨rfl, q', rfl⟩)
              go_ret
              exact ⟨retI Hf.out, _, by rw [Hq.out, drewN2]⟩
            | true =>
              have Hf : Hid (famGood m r = true) := hid_ (by rw [famGood, hs, Hne.out]; rfl)
              go_wp2_with (go_at_call 103; refine (isSet_calls _ _ _ _ _ _ _ hrow).mono ?_; rintro e w' ⟨rfl, q', rfl⟩)
              go_roundw
              case rel => exact ⟨k + 1, _, by omega, by go_num, by rw [Hq.out, drewN2], lt_snoc Hall.out (by rw [Hr.out]; exact Hf.out)⟩
              case measure => simp [intOf]; omega
        · have Hf : Hid (famErr m F = 0) := hid_ (by
            have : F.all (famGood m) = true := fam_yes h.len fun j hj => Hall.out j (by omega)
            rw [famErr, hw, h.len, this]; simp [h6])
          go_wp2
          go_ret
          exact ⟨retI Hf.out, _, Hq.out⟩

/-! ### SameLists -/
def SameL (L M : List (List Int)) : Bool := decide (L = M)
theorem ext_getDL {l m : List (List Int)} {n : Nat} (h1 : l.length = n) (h2 : m.length = n) (h : ∀ j, j < n → l.getD j [] = m.getD j []) : l = m := by
  refine List.ext_getElem (by omega) fun i h3 h4 => ?_
  have := h i (by omega)
  simpa [List.getD, List.getElem?_eq_getElem h3, List.getElem?_eq_getElem h4] using this

set_option maxRecDepth 100000 in
theorem sameL_calls (a : Option Addr) (n c : Nat) (L : List (List Int)) (a' : Option Addr) (n' c' : Nat) (M : List (List Int)) (w : World) (h : ListsAt w a n c L) (h' : ListsAt w a' n' c' M) :
    Calls Try.prog 23 #[.slice a n c, .slice a' n' c'] w fun e w' => e = .returned (.bool (SameL L M)) ∧ ∃ q, w' = w.drewN q := by
  have hn : n ≤ 9223372036854775807 := Nat.le_trans h.le h.small
  by_cases hnn : n = n'
  · subst hnn
    have hb1 : ((n : Int) != (n : Int)) = false := by simp
    go_enter Try.func23, Try.ntmps23
    go_wp2
    go_loopw [5] (fun i wr => ∃ k q : Nat, k ≤ n ∧ i = .int .i64 k ∧ wr = w.drewN q ∧ ∀ j, j < k → L.getD j [] = M.getD j []) (fun i _ => n - (intOf i).toNat)
    case atStart => exact ⟨0, 0, Nat.zero_le _, rfl, rfl, fun _ h => absurd h (by omega)⟩
    case round =>
      obtain ⟨k, q, hk, rfl, hq, hall⟩ := hrel
      have hI : ListsAt wr a n c L := by rw [hq]; exact h.drewN q
      have hI' : ListsAt wr a' n c' M := by rw [hq]; exact h'.drewN q
      have Hq := hid_ hq; clear hq
      have Hall := hid_ hall; clear hall
      by_cases hlt : k < n
      · obtain ⟨b, off, a1, n1, c1, rfl, hb, hcell, hrow⟩ := hI.cells k hlt
        obtain ⟨b', off', a2, n2, c2, rfl, hb', hcell', hrow'⟩ := hI'.cells k hlt
        generalize hy : L.getD k [] = y at hrow
        have Hy := hid_ hy; clear hy
        generalize hy' : M.getD k [] = y' at hrow'
        have Hy' := hid_ hy'; clear hy'
        cases hs : Same y y' with
        | true =>
          have He : Hid (y = y') := hid_ (by simpa [Same] using hs)
          go_wp2
          go_quiet ((go_at_call 41; exact quiet_more (same_calls _ _ _ _ _ _ _ _ _ (hrow.drewN _) (hrow'.drewN _))))
          go_wp2
          go_roundw
          case rel => exact ⟨k + 1, _, by omega, by go_num, by rw [Hq.out, drewN2], lt_snoc Hall.out (by rw [Hy.out, Hy'.out]; exact He.out)⟩
          case measure => simp [intOf]; omega
        | false =>
          have Hf : Hid (SameL L M = false) := hid_ (decide_eq_false fun e => by
            have : y = y' := by rw [← Hy.out, ← Hy'.out, e]
            simp [Same, this] at hs)
          go_wp2
          go_quiet ((go_at_call 41; exact quiet_more (same_calls _ _ _ _ _ _ _ _ _ (hrow.drewN _) (hrow'.drewN _))))
          go_wp2
          go_ret
          exact ⟨retB Hf.out, _, by rw [Hq.out, drewN2]⟩
      · have Hf : Hid (SameL L M = true) := hid_ (decide_eq_true (ext_getDL h.len h'.len fun j hj => Hall.out j (by omega)))
        go_wp2
        go_ret
        exact ⟨retB Hf.out, _, Hq.out⟩
  · have hb1 : ((n : Int) != (n' : Int)) = true := by simp; omega
    have Hf : Hid (SameL L M = false) := hid_ (decide_eq_false fun e => hnn (by rw [← h.len, ← h'.len, e]))
    have Hn := hid_ hnn; clear hnn
    go_enter Try.func23, Try.ntmps23
    go_wp2
    go_ret
    exact ⟨retB Hf.out, 0, rfl⟩

/-! ### sounds -/
theorem flat_snoc (L : List (List Int)) (k : Nat) (h : k < L.length) : (L.take (k + 1)).flatten = (L.take k).flatten ++ L.getD k [] := by
  rw [Kv.take_snoc L [] k h, List.flatten_append]; simp

set_option maxRecDepth 100000 in
theorem sounds_calls (a : Option Addr) (n c : Nat) (L : List (List Int)) (w : World) (h : ListsAt w a n c L) (hs : L.flatten.length ≤ 100000) :
    Calls Try.prog 67 #[.slice a n c] w fun e w' => ∃ v, e = .returned v ∧ Made 3 w w' v L.flatten := by
  have hn : n ≤ 9223372036854775807 := Nat.le_trans h.le h.small
  obtain ⟨i0, hi0, hz0, hz1, hz2⟩ := info_parts Try.infoInt
  go_enter Try.func67, Try.ntmps67
  go_wp2
  go_loopw [3, 4] (fun v i wr => ∃ k : Nat, k ≤ n ∧ i = .int .i64 k ∧ wr.ownsRow w.heap.size 3 1 v (L.take k).flatten.length ((L.take k).flatten.map (Value.int .i64)) ∧ Below w.heap.size w wr) (fun _ i _ => n - (intOf i).toNat)
  case atStart => exact ⟨0, by omega, rfl, by simpa using World.ownsRow_nil _ _ _ _, Below.refl _ _⟩
  case round =>
    obtain ⟨k, hk, rfl, hown, hbel⟩ := hrel
    have hsz := hbel.size
    by_cases hlt : k < n
    · have hI := h.below hbel (Nat.le_refl _)
      have hl : k < L.length := by rw [h.len]; exact hlt
      obtain ⟨b, off, a1, n1, c1, rfl, hb, hcell, hrow⟩ := hI.cells k hlt
      have hf := flat_snoc L k hl
      generalize hy : L.getD k [] = y at hrow hf
      have Hf := hid_ hf; clear hf
      have Hy := hid_ hy; clear hy
      have hs1 : (L.take k).flatten.length + n1 ≤ 1000000 := by
        have h1 := flat_take_le L (k + 1)
        rw [Hf.out, List.length_append, hrow.len] at h1
        omega
      have Hlen : Hid (y.length = n1) := hid_ hrow.len
      go_wp2_with (at_builtin; refine wpList_append_ints _ rfl (.tmp 11) (.tmp 15) _ rfl w.heap.size 3 i0 Try.underlying23 hi0 hz0 hz1 hz2 _ _ _ rfl hown _ _ _ _ rfl hrow hs1 hsz ?_; intro v' w1 hown1 hg1 hat1)
      go_roundw
      case rel => exact ⟨k + 1, by omega, by go_num, by rw [Hf.out, List.length_append, Hlen.out]; exact hown1, below_app0 hbel hsz hown hg1⟩
      case measure => simp [intOf]; omega
    · obtain rfl : k = n := by omega
      have Hf : Hid (L.take k = L) := hid_ (by rw [List.take_of_length_le]; rw [h.len]; omega)
      go_wp2
      go_ret
      exact ⟨_, rfl, by have := hown; rw [Hf.out] at this; exact this, hbel⟩
end Go.Proofs.Ytoopgmoopmbfnaa
