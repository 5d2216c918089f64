import Derived.Test.YtoopgmoopmbfnaaSndB
namespace Go.Proofs.Ytoopgmoopmbfnaa
open Go.RowKit Go.Proofs.Kv Go.Proofs.Snd

/-! ### isSet -/
theorem IsSet_asc {l : List Int} {m : Int} {n : Nat} (hl : l.length = n) (h : ∀ j, 0 < j → j < n → ¬ (l.getD j 0 ≤ l.getD (j - 1) 0)) : IsSet l 0 (m - 1) = AllB l m := by
  have key : ∀ i, i < n → (!setBad l 0 (m - 1) i) = (decide (0 ≤ l.getD i 0) && decide (l.getD i 0 < m)) := by
    intro i hi
    have h2 : (decide (0 < i) && decide (l.getD i 0 ≤ l.getD (i - 1) 0)) = false := by
      by_cases h0 : 0 < i
      · rw [decide_eq_false (h i h0 hi), Bool.and_false]
      · rw [decide_eq_false h0, Bool.false_and]
    have h3 : decide (l.getD i 0 ≤ m - 1) = decide (l.getD i 0 < m) := by rw [decide_eq_decide]; omega
    rw [setBad, h2, Bool.or_false, Bool.not_not, Within, h3]
  cases hA : AllB l m with
  | true =>
    refine IsSet_yes hl fun j hj => ?_
    rw [AllB, List.all_eq_true] at hA
    have := hA _ (getD_mem (l := l) (k := j) (by omega))
    rw [← key j hj, Bool.not_eq_true'] at this
    exact this
  | false =>
    rw [Bool.eq_false_iff] at hA ⊢
    intro hI
    refine hA (AllB_yes hl fun j hj => ?_)
    rw [IsSet, List.all_eq_true] at hI
    have := hI j (by rw [List.mem_range, hl]; exact hj)
    rwa [key j hj] at this

set_option maxRecDepth 100000 in
theorem sndIsSet_calls (a : Option Addr) (n c : Nat) (l : List Int) (m : Int) (w : World) (h : IntsAt w a n c l) :
    Calls Try.prog 93 #[.slice a n c, .int .i64 m] w fun e w' => e = .returned (.bool (IsSet l 0 (m - 1))) ∧ ∃ q, w' = w.drewN q := by
  have hn : n ≤ 9223372036854775807 := Nat.le_trans h.le h.small
  go_enter Try.func93, Try.ntmps93
  go_wp2
  go_loopw [5] (fun i wr => ∃ k q : Nat, 1 ≤ k ∧ (k ≤ n ∨ k = 1) ∧ i = .int .i64 k ∧ wr = w.drewN q ∧ ∀ j, 0 < j → j < k → ¬ (l.getD j 0 ≤ l.getD (j - 1) 0)) (fun i _ => n + 1 - (intOf i).toNat)
  case atStart => exact ⟨1, 0, Nat.le_refl _, .inr rfl, rfl, rfl, fun _ h h' => absurd h (by omega)⟩
  case round =>
    obtain ⟨k, q, hk1, hk, rfl, hq, hall⟩ := hrel
    have hI : IntsAt wr a n c l := by rw [hq]; exact h.drewN q
    have Hq := hid_ hq; clear hq
    have Hall := hid_ hall; clear hall
    by_cases hlt : k < n
    · obtain ⟨b, off, rfl, hb, hcell⟩ := hI.cells k hlt
      have hcell2 : wr.cell? ⟨b, off + (k - 1), none⟩ = some (.int .i64 (l.getD (k - 1) 0)) := by
        obtain ⟨b', off', e, _, hc⟩ := hI.cells (k - 1) (by omega)
        injection e with e; injection e with e1 e2; subst e1; subst e2; exact hc
      have hl : k < l.length := by rw [h.len]; exact hlt
      have Hbad : Hid (∀ y z, l.getD k 0 = y → l.getD (k - 1) 0 = z → y ≤ z → IsSet l 0 (m - 1) = false) := hid_ fun y z hy hz hyz => IsSet_no hl (by
        rw [setBad, hy, hz, decide_eq_true (show 0 < k by omega), decide_eq_true hyz]; simp)
      generalize hy : l.getD k 0 = y at hcell
      generalize hz : l.getD (k - 1) 0 = z at hcell2
      have Hy := hid_ hy; clear hy
      have Hz := hid_ hz; clear hz
      have hk1' : (0 : Int) ≤ (k : Int) - 1 := by omega
      have hk2 : (k : Int) - 1 < (n : Int) := by omega
      have hk3 : ((k : Int) - 1).toNat = k - 1 := by omega
      have hw1 : IntKind.i64.wrap ((k : Int) - 1) = (k : Int) - 1 := IntWalk.i64_in _ (by omega)
      by_cases hyz : y ≤ z
      · have Hf := hid_ (Hbad.out y z Hy.out Hz.out hyz)
        clear Hbad
        go_wp2
        go_quiet (fail)
        clear hk3 hw1
        go_wp2
        go_ret
        exact ⟨retB Hf.out, _, by rw [Hq.out, drewN2]⟩
      · have hyz' : ¬ (y ≤ z) := hyz
        clear Hbad
        go_wp2
        go_quiet (fail)
        clear hk3 hw1
        go_wp2
        go_roundw
        case rel => exact ⟨k + 1, _, by omega, by omega, by go_num, by rw [Hq.out, drewN2], fun j h0 hj => by
          rcases Nat.lt_succ_iff_lt_or_eq.1 hj with h1 | rfl
          · have := Hall.out j h0 h1; omega
          · rw [Hy.out, Hz.out]; omega⟩
        case measure => simp [intOf]; omega
    · have Hf : Hid (IsSet l 0 (m - 1) = AllB l m) := hid_ (IsSet_asc h.len fun j h0 hj => by have := Hall.out j h0 (by omega); omega)
      go_wp2_with (go_at_call 104; refine (allBelow_calls _ _ _ _ _ _ hI).mono ?_; rintro e w' ⟨rfl, rfl⟩)
      go_ret
      exact ⟨retB Hf.out, _, Hq.out⟩

/-! ### isOrder -/
theorem perm_of_sub : ∀ {a l : List Int}, a.Nodup → (∀ x ∈ a, x ∈ l) → l.length ≤ a.length → l.Perm a
  | [], l, _, _, h => by rw [List.eq_nil_of_length_eq_zero (Nat.le_zero.1 h)]
  | x :: a, l, hn, hs, hl => by
    have hx := hs x (by simp)
    have hp := List.perm_cons_erase hx
    rw [List.nodup_cons] at hn
    have hle : (l.erase x).length ≤ a.length := by
      rw [List.length_erase_of_mem hx]; simp at hl; omega
    refine hp.trans ((perm_of_sub hn.2 (fun y hy => ?_) hle).cons x)
    have := hs y (by simp [hy])
    rcases List.mem_cons.1 (hp.mem_iff.1 this) with e | e
    · subst e; exact absurd hy hn.1
    · exact e
def rangeI (n : Nat) : List Int := (List.range n).map fun i : Nat => (i : Int)
theorem mem_rangeI {n : Nat} {x : Int} : x ∈ rangeI n ↔ 0 ≤ x ∧ x < n := by
  simp only [rangeI, List.mem_map, List.mem_range]
  constructor
  · rintro ⟨i, hi, rfl⟩; omega
  · intro h; exact ⟨x.toNat, by omega, by omega⟩
theorem nodup_rangeI (n : Nat) : (rangeI n).Nodup := by
  rw [rangeI, List.nodup_iff_pairwise_ne]
  exact List.pairwise_map.2 (List.nodup_range.imp fun h e => h (by omega))
theorem len_rangeI (n : Nat) : (rangeI n).length = n := by simp [rangeI]
theorem IsOrd_perm {l : List Int} {n : Nat} : IsOrd l n = true ↔ l.Perm (rangeI n) := by
  constructor
  · intro h
    simp only [IsOrd, Bool.and_eq_true, decide_eq_true_eq, List.all_eq_true, List.mem_range] at h
    refine perm_of_sub (nodup_rangeI n) (fun x hx => ?_) (by rw [len_rangeI]; omega)
    rw [mem_rangeI] at hx
    have := h.2 x.toNat (by omega)
    rw [Has_iff] at this
    rwa [Int.toNat_of_nonneg hx.1] at this
  · intro h
    simp only [IsOrd, Bool.and_eq_true, decide_eq_true_eq, List.all_eq_true, List.mem_range]
    refine ⟨by rw [h.length_eq, len_rangeI], fun i hi => ?_⟩
    rw [Has_iff, h.mem_iff, mem_rangeI]
    simp at hi; omega
theorem IsOrd_eq {l : List Int} {n : Nat} (hl : l.length = n) : IsOrd l n = (AllB l n && !dup l) := by
  rw [Bool.eq_iff_iff, IsOrd_perm, Bool.and_eq_true, Bool.not_eq_true', dup_iff]
  constructor
  · intro h
    refine ⟨?_, h.symm.nodup (nodup_rangeI n)⟩
    rw [AllB, List.all_eq_true]
    intro x hx
    have := mem_rangeI.1 (h.mem_iff.1 hx)
    simp; omega
  · rintro ⟨h1, h2⟩
    refine (perm_of_sub h2 (fun x hx => ?_) (by rw [len_rangeI]; omega)).symm
    rw [AllB, List.all_eq_true] at h1
    have := h1 x hx
    rw [mem_rangeI]
    simp at this; omega

set_option maxRecDepth 100000 in
theorem sndIsOrder_calls (a : Option Addr) (n c : Nat) (l : List Int) (m : Int) (w : World) (h : IntsAt w a n c l) (hm : m ≤ 6) :
    Calls Try.prog 60 #[.slice a n c, .int .i64 m] w fun e w' => e = .returned (.bool (IsOrd l m)) ∧ Below w.heap.size w w' := by
  by_cases he : (n : Int) = m
  · subst he
    have hq : ((n : Int) == (n : Int)) = true := by simp
    have hq' : (n : Int) = (n : Int) := rfl
    have Hord := hid_ (IsOrd_eq (n := n) h.len)
    cases hA : AllB l (n : Int) with
    | false =>
      have Hf : Hid (IsOrd l (n : Int) = false) := hid_ (by rw [Hord.out, hA]; rfl)
      clear hq'
      go_enter Try.func60, Try.ntmps60
      go_wp2_with (go_at_call 104; refine (allBelow_calls _ _ _ _ _ _ h).mono ?_; rintro e w' ⟨rfl, rfl⟩)
      go_ret
      exact ⟨retB Hf.out, Below.refl _ _⟩
    | true =>
      have Hf : Hid (IsOrd l (n : Int) = !dup l) := hid_ (by rw [Hord.out, hA]; rfl)
      have Hok : Hid (∀ r ∈ [l], ∀ x ∈ r, 0 ≤ x ∧ x ≤ 5) := hid_ (by
        intro r hr x hx
        rw [List.mem_singleton] at hr
        subst hr
        rw [AllB, List.all_eq_true] at hA
        have := hA x hx
        simp at this; omega)
      have hL : ListsAt (w.alloc (.cells #[.slice a n c] 23)) (some ⟨w.heap.size, 0, none⟩) 1 1 [l] :=
        ⟨rfl, Nat.le_refl _, by omega, fun i hi => ⟨w.heap.size, 0, a, n, c, rfl, by simp, by
          obtain rfl : i = 0 := by omega
          rw [World.cell?_alloc_at _ _ _ _ (by rfl)]; rfl, by
          obtain rfl : i = 0 := by omega
          exact h.below ((Below.refl w.heap.size w).alloc (Nat.le_refl _) _) (Nat.le_refl _)⟩⟩
      have hht := hasTwice_calls _ _ _ _ _ hL Hok.out
      have hfl : [l].flatten = l := by simp
      rw [hfl] at hht
      have Hht := hid_ hht; clear hht hfl hL hq'
      generalize dup l = d at Hht Hf
      go_enter Try.func60, Try.ntmps60
      go_wp2_with (first
        | (go_at_call 104; refine (allBelow_calls _ _ _ _ _ _ h).mono ?_; rintro e w' ⟨rfl, rfl⟩)
        | (go_at_call 105; refine Hht.out.mono ?_; rintro e w' ⟨rfl, hb⟩))
      go_ret
      exact ⟨retB Hf.out, ((Below.refl w.heap.size w).alloc (Nat.le_refl _) _).trans (hb.mono (by simp))⟩
  · have hq : ((n : Int) == m) = false := by simpa using he
    have Hf : Hid (IsOrd l m = false) := hid_ (by simp [IsOrd, h.len, he])
    have He := hid_ he; clear he
    go_enter Try.func60, Try.ntmps60
    go_wp2
    go_ret
    exact ⟨retB Hf.out, Below.refl _ _⟩

/-! ### Validate -/
theorem okRow_all {r : List Int} {n : Nat} (hn : r.length = n) (h0 : 0 < n) : okRow r = AllB r 6 := by
  have h2 : r.isEmpty = false := by cases r with | nil => simp at hn; omega | cons _ _ => rfl
  have h3 : r.all okS = AllB r 6 := by
    rw [AllB]
    congr 1
    funext x
    have : decide (x ≤ 5) = decide (x < 6) := by rw [decide_eq_decide]; omega
    rw [okS, this]
  simp [okRow, h2, h3]
theorem okRow_mem {r : List Int} (h : okRow r = true) : ∀ x ∈ r, 0 ≤ x ∧ x ≤ 5 := by
  intro x hx
  simp only [okRow, Bool.and_eq_true, List.all_eq_true] at h
  have := h.2 x hx
  simp [okS] at this
  exact this

set_option maxRecDepth 100000 in
theorem sndValidate_calls (a : Option Addr) (n c : Nat) (L : List (List Int)) (w : World) (h : ListsAt w a n c L) :
    Calls Try.prog 59 #[.slice a n c] w fun e w' => e = .returned (.int .i64 (validT L)) ∧ Below w.heap.size w w' := by
  have hn : n ≤ 9223372036854775807 := Nat.le_trans h.le h.small
  by_cases h1 : n < 1
  · have Hf : Hid (validT L = 3) := hid_ (by rw [validT, if_pos (by rw [h.len]; omega)])
    go_enter Try.func59, Try.ntmps59
    go_wp2
    go_ret
    exact ⟨retI Hf.out, Below.refl _ _⟩
  · by_cases h6 : 6 < n
    · have Hf : Hid (validT L = 3) := hid_ (by rw [validT, if_pos (by rw [h.len]; omega)])
      go_enter Try.func59, Try.ntmps59
      go_wp2
      go_ret
      exact ⟨retI Hf.out, Below.refl _ _⟩
    · have H6 : Hid (¬ (L.length = 0 ∨ 6 < L.length)) := hid_ (by rw [h.len]; omega)
      go_enter Try.func59, Try.ntmps59
      go_wp2
      go_loop [15] (fun i => ∃ k : Nat, k ≤ n ∧ i = .int .i64 k ∧ ∀ j, j < k → okRow (L.getD j []) = true) (fun i => n - (intOf i).toNat)
      case atStart => exact ⟨0, Nat.zero_le _, rfl, fun _ h => absurd h (by omega)⟩
      case round =>
        obtain ⟨k, hk, rfl, hall⟩ := hrel
        have Hall := hid_ hall; clear hall
        by_cases hlt : k < n
        · obtain ⟨b, off, a', n', c', rfl, hb, hcell, hrow⟩ := h.cells k hlt
          generalize hr : L.getD k [] = r at hrow
          have Hr := hid_ hr; clear hr
          have hl : k < L.length := by rw [h.len]; exact hlt
          by_cases hz : n' = 0
          · subst hz
            have Hf : Hid (validT L = 1) := hid_ (val_row H6.out hl (by rw [Hr.out, List.eq_nil_of_length_eq_zero hrow.len]; rfl))
            go_wp2
            go_ret
            exact ⟨retI Hf.out, Below.refl _ _⟩
          · have hz' : ((n' : Int) == 0) = false := by simp; omega
            have Hok := hid_ (okRow_all hrow.len (Nat.pos_of_ne_zero hz))
            have Hz := hid_ hz; clear hz
            cases hA : AllB r 6 with
            | false =>
              have Hf : Hid (validT L = 1) := hid_ (val_row H6.out hl (by rw [Hr.out, Hok.out]; exact hA))
              go_wp2_with (go_at_call 104; refine (allBelow_calls _ _ _ _ _ _ hrow).mono ?_; rintro e w' ⟨rfl, rfl⟩)
              go_ret
              exact ⟨retI Hf.out, Below.refl _ _⟩
            | true =>
              go_wp2_with (go_at_call 104; refine (allBelow_calls _ _ _ _ _ _ hrow).mono ?_; rintro e w' ⟨rfl, rfl⟩)
              go_round
              case rel => exact ⟨k + 1, by omega, by go_num, lt_snoc Hall.out (by rw [Hr.out, Hok.out]; exact hA)⟩
              case measure => simp [intOf]; omega
        · have Hrows : Hid (L.all okRow = true) := hid_ (val_rows h.len fun j hj => Hall.out j (by omega))
          have Hm : Hid (∀ r ∈ L, ∀ x ∈ r, 0 ≤ x ∧ x ≤ 5) := hid_ fun r hr => okRow_mem ((List.all_eq_true.1 Hrows.out) r hr)
          have hht := hasTwice_calls _ _ _ _ _ h Hm.out
          cases hd : dup L.flatten with
          | true =>
            have Hf : Hid (validT L = 5) := hid_ (by rw [validT, if_neg H6.out, Hrows.out, hd]; rfl)
            rw [hd] at hht
            have Hht := hid_ hht; clear hht
            go_wp2_with (go_at_call 105; refine Hht.out.mono ?_; rintro e w' ⟨rfl, hb⟩)
            go_ret
            exact ⟨retI Hf.out, hb⟩
          | false =>
            have Hf : Hid (validT L = 0) := hid_ (by rw [validT, if_neg H6.out, Hrows.out, hd]; rfl)
            rw [hd] at hht
            have Hht := hid_ hht; clear hht
            go_wp2_with (go_at_call 105; refine Hht.out.mono ?_; rintro e w' ⟨rfl, hb⟩)
            go_ret
            exact ⟨retI Hf.out, hb⟩
end Go.Proofs.Ytoopgmoopmbfnaa
