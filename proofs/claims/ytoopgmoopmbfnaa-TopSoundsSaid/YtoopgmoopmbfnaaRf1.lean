import Derived.Test.YtoopgmoopmbfnaaProg
import Derived.Test.YtoopgmoopmbfnaaKit
import Derived.Test.YtoopgmoopmbfnaaMath
namespace Go.Proofs.Ytoopgmoopmbfnaa
open Go.RowKit Go.Proofs.Kv Go.Proofs.Snd

def Has (l : List Int) (x : Int) : Bool := l.contains x
theorem Has_iff {l : List Int} {x : Int} : Has l x = true ↔ x ∈ l := by simp [Has]
def Within (n lo hi : Int) : Bool := decide (lo ≤ n) && decide (n ≤ hi)
def Same (l m : List Int) : Bool := decide (l = m)

theorem within_calls (n lo hi : Int) (w : World) :
    Calls Try.prog 72 #[.int .i64 n, .int .i64 lo, .int .i64 hi] w fun e w' => e = .returned (.bool (Within n lo hi)) ∧ w = w' := by
  by_cases h1 : lo ≤ n
  · by_cases h2 : n ≤ hi
    · have H : Hid (Within n lo hi = true) := by simp [Hid, Within, h1, h2]
      go_enter Try.func72, Try.ntmps72
      go_wp2
      go_ret
      exact ⟨retB H.out, rfl⟩
    · have H : Hid (Within n lo hi = false) := by simp [Hid, Within, h2]
      go_enter Try.func72, Try.ntmps72
      go_wp2
      go_ret
      exact ⟨retB H.out, rfl⟩
  · have H : Hid (Within n lo hi = false) := by simp [Hid, Within, h1]
    go_enter Try.func72, Try.ntmps72
    go_wp2
    go_ret
    exact ⟨retB H.out, rfl⟩

theorem has_calls (a : Option Addr) (n c : Nat) (l : List Int) (x : Int) (w : World) (h : IntsAt w a n c l) :
    Calls Try.prog 92 #[.slice a n c, .int .i64 x] w fun e w' => e = .returned (.bool (Has l x)) ∧ w = w' := by
  have hn : n ≤ 9223372036854775807 := Nat.le_trans h.le h.small
  go_enter Try.func92, Try.ntmps92
  go_wp2
  go_loop [5] (fun i => ∃ k : Nat, k ≤ n ∧ i = .int .i64 k ∧ ∀ j, j < k → l.getD j 0 ≠ x) (fun i => n - (intOf i).toNat)
  case atStart => exact ⟨0, Nat.zero_le _, rfl, fun _ h => absurd h (by omega)⟩
  case round =>
    obtain ⟨k, hk, rfl, hno⟩ := hrel
    have Hno := hid_ hno; clear hno
    by_cases hlt : k < n
    · obtain ⟨b, off, rfl, hb, hcell⟩ := h.cells k hlt
      generalize hy : l.getD k 0 = y at hcell
      have Hy := hid_ hy; clear hy
      by_cases he : y = x
      · have hq : (y == x) = true := by simpa using he
        have He := hid_ he; clear he
        have Hf : Hid (Has l x = true) := by
          refine hid_ (Has_iff.2 ?_)
          rw [← He.out, ← Hy.out]
          exact getD_mem (by rw [h.len]; exact hlt)
        go_wp2
        go_ret
        exact ⟨retB Hf.out, rfl⟩
      · have hq : (y == x) = false := by simpa using he
        have He := hid_ he; clear he
        go_wp2
        go_round
        case rel => exact ⟨k + 1, by omega, by go_num, lt_snoc Hno.out (by rw [Hy.out]; exact He.out)⟩
        case measure => simp [intOf]; omega
    · have HH : Hid (Has l x = false) := by
        refine hid_ (Bool.eq_false_iff.2 fun hc => ?_)
        obtain ⟨i, hi, hx⟩ := mem_getD (Has_iff.1 hc)
        exact Hno.out i (by have := h.len; omega) hx
      go_wp2
      go_ret
      exact ⟨retB HH.out, rfl⟩

theorem has_as {a : Option Addr} {n c : Nat} {l : List Int} {x : Int} {w : World} {b : Bool} (h : IntsAt w a n c l) (hb : Has l x = b) :
    Calls Try.prog 92 #[.slice a n c, .int .i64 x] w fun e w' => e = .returned (.bool b) ∧ w = w' := by subst hb; exact has_calls a n c l x w h

theorem same_calls (a : Option Addr) (n c : Nat) (l : List Int) (a' : Option Addr) (n' c' : Nat) (l' : List Int) (w : World) (h : IntsAt w a n c l) (h' : IntsAt w a' n' c' l') :
    Calls Try.prog 41 #[.slice a n c, .slice a' n' c'] w fun e w' => e = .returned (.bool (Same l l')) ∧ ∃ q, w' = w.drewN q := by
  have hn : n ≤ 9223372036854775807 := Nat.le_trans h.le h.small
  by_cases hnn : n = n'
  · subst hnn
    have hb1 : ((n : Int) != (n : Int)) = false := by simp
    go_enter Try.func41, Try.ntmps41
    go_wp2
    go_loopw [5] (fun i wr => ∃ k q : Nat, k ≤ n ∧ i = .int .i64 k ∧ wr = w.drewN q ∧ ∀ j, j < k → l.getD j 0 = l'.getD j 0) (fun i _ => n - (intOf i).toNat)
    case atStart => exact ⟨0, 0, Nat.zero_le _, rfl, rfl, fun _ h => absurd h (by omega)⟩
    case round =>
      obtain ⟨k, q, hk, rfl, rfl, hall⟩ := hrel
      have Hall := hid_ hall; clear hall
      by_cases hlt : k < n
      · obtain ⟨b, off, rfl, hb, hcell⟩ := h.cells k hlt
        obtain ⟨b', off', rfl, hb', hcell'⟩ := h'.cells k hlt
        generalize hy : l.getD k 0 = y at hcell
        have Hy := hid_ hy; clear hy
        generalize hy' : l'.getD k 0 = y' at hcell'
        have Hy' := hid_ hy'; clear hy'
        by_cases he : y = y'
        · have hq : (y != y') = false := by simpa using he
          have He := hid_ he; clear he
          go_wp2
          go_quiet (fail)
          go_wp2
          go_roundw
          case rel => exact ⟨k + 1, _, by omega, by go_num, rfl, lt_snoc Hall.out (by rw [Hy.out, Hy'.out]; exact He.out)⟩
          case measure => simp [intOf]; omega
        · have hq : (y != y') = true := by simpa using he
          have Hf : Hid (Same l l' = false) := by
            refine hid_ (decide_eq_false fun e => he ?_)
            rw [← Hy.out, ← Hy'.out, e]
          have He := hid_ he; clear he
          go_wp2
          go_quiet (fail)
          go_wp2
          go_ret
          exact ⟨retB Hf.out, _, drewN2 _ _ _⟩
      · have Hf : Hid (Same l l' = true) := hid_ (decide_eq_true (ext_getD h.len h'.len fun j hj => Hall.out j (by omega)))
        go_wp2
        go_ret
        exact ⟨retB Hf.out, _, rfl⟩
  · have hb1 : ((n : Int) != (n' : Int)) = true := by simp; omega
    have Hf : Hid (Same l l' = false) := hid_ (decide_eq_false fun e => hnn (by rw [← h.len, ← h'.len, e]))
    have Hn := hid_ hnn; clear hnn
    go_enter Try.func41, Try.ntmps41
    go_wp2
    go_ret
    exact ⟨retB Hf.out, 0, rfl⟩

theorem Try.infoInt : (Try.prog.info? 3).map (fun i => (i.zero, i.size, i.bytes)) = some (some (.int .i64 0), 1, 8) := by kernel_rfl

def srt (l : List Int) (k : Nat) : List Int := (six.take k).filter (Has l)
theorem srt_le (l : List Int) (k : Nat) : (srt l k).length ≤ 6 := Nat.le_trans (List.length_filter_le _ _) (by rw [List.length_take]; simp [six]; omega)
theorem six_at {k : Nat} (h : k < 6) : six.getD k 0 = (k : Int) := by
  match k, h with
  | 0, _ => rfl
  | 1, _ => rfl
  | 2, _ => rfl
  | 3, _ => rfl
  | 4, _ => rfl
  | 5, _ => rfl
theorem six_take {k : Nat} (h : k < 6) : six.take (k + 1) = six.take k ++ [(k : Int)] := by rw [take_snoc six 0 k h, six_at h]
theorem srt_hit {l : List Int} {k : Nat} (h : k < 6) (hh : Has l k = true) : srt l (k + 1) = srt l k ++ [(k : Int)] := by simp [srt, six_take h, List.filter_append, hh]
theorem srt_miss {l : List Int} {k : Nat} (h : k < 6) (hh : Has l k = false) : srt l (k + 1) = srt l k := by simp [srt, six_take h, List.filter_append, hh]
theorem srt_all (l : List Int) : srt l 6 = sorted l := rfl

set_option maxRecDepth 100000 in
theorem sorted_calls (a : Option Addr) (n c : Nat) (l : List Int) (w : World) (h : IntsAt w a n c l) :
    Calls Try.prog 75 #[.slice a n c] w fun e w' => ∃ v, e = .returned v ∧ Made 3 w w' v (sorted l) := by
  obtain ⟨i0, hi0, hz0, hz1, hz2⟩ := info_parts Try.infoInt
  go_enter Try.func75, Try.ntmps75
  go_wp2
  go_loopw [3, 4] (fun v i wr => ∃ k : Nat, k ≤ 6 ∧ i = .int .i64 k ∧ wr.ownsRow w.heap.size 3 1 v (srt l k).length ((srt l k).map (Value.int .i64)) ∧ Below w.heap.size w wr) (fun _ i _ => 6 - (intOf i).toNat)
  case atStart => exact ⟨0, by omega, rfl, World.ownsRow_nil _ _ _ _, Below.refl _ _⟩
  case round =>
    obtain ⟨k, hk, rfl, hown, hbel⟩ := hrel
    have hsz := hbel.size
    by_cases hlt : k < 6
    · have hI := h.below hbel (Nat.le_refl _)
      have hle := srt_le l k
      have hs1 : (srt l k).length + 1 ≤ 1000000 := by omega
      by_cases hh : Has l k = true
      · go_wp2_with (first
          | (go_at_call 92; refine (has_calls _ _ _ _ _ _ hI).mono ?_; rintro e w' ⟨rfl, rfl⟩)
          | (at_builtin; refine wpList_append_ints _ rfl (.tmp 12) (.tmp 14) _ rfl w.heap.size 3 i0 Try.underlying23 hi0 hz0 hz1 hz2 _ _ _ rfl (hown.alloc _) _ _ _ _ rfl (IntsAt.one _ _ _) hs1 (le_alloc hsz) ?_; intro v' w1 hown1 hg1 hat1))
        go_roundw
        case rel => exact ⟨k + 1, by omega, by go_num, by rw [srt_hit hlt hh]; simpa using hown1, below_app hbel hsz hown hg1⟩
        case measure => simp [intOf]; omega
      · have hh : Has l k = false := by simpa using hh
        go_wp2_with (go_at_call 92; refine (has_calls _ _ _ _ _ _ hI).mono ?_; rintro e w' ⟨rfl, rfl⟩)
        go_roundw
        case rel => exact ⟨k + 1, by omega, by go_num, by rw [srt_miss hlt hh]; exact hown, hbel⟩
        case measure => simp [intOf]; omega
    · obtain rfl : k = 6 := by omega
      go_wp2
      go_ret
      exact ⟨_, rfl, hown, hbel⟩

end Go.Proofs.Ytoopgmoopmbfnaa
namespace Go.Proofs.Ytoopgmoopmbfnaa
open Go.RowKit Go.Proofs.Kv Go.Proofs.Snd

theorem quiet_left {P : Program} {f : FuncId} {args : Array Value} {w : World} {n : Nat} {v : Value}
    (h : Calls P f args (w.drewN n) fun e w' => e = .returned v ∧ w.drewN n = w') : Calls P f args (w.drewN n) fun e w'' => e = .returned v ∧ ∃ m, w'' = w.drewN m :=
  h.mono fun _ _ ⟨he, hm⟩ => ⟨he, n, hm.symm⟩
theorem quiet_more {P : Program} {f : FuncId} {args : Array Value} {w : World} {n : Nat} {v : Value}
    (h : Calls P f args (w.drewN n) fun e w' => e = .returned v ∧ ∃ q, w' = (w.drewN n).drewN q) : Calls P f args (w.drewN n) fun e w'' => e = .returned v ∧ ∃ m, w'' = w.drewN m :=
  h.mono fun _ _ ⟨he, q, hm⟩ => ⟨he, n + q, by rw [hm, drewN2]⟩

/-! ### IsSet -/
def setBad (l : List Int) (lo hi : Int) (i : Nat) : Bool := !Within (l.getD i 0) lo hi || (decide (0 < i) && decide (l.getD i 0 ≤ l.getD (i - 1) 0))
def IsSet (l : List Int) (lo hi : Int) : Bool := (List.range l.length).all fun i => !setBad l lo hi i
theorem IsSet_yes {l : List Int} {lo hi : Int} {n : Nat} (hl : l.length = n) (h : ∀ j, j < n → setBad l lo hi j = false) : IsSet l lo hi = true := by
  simp only [IsSet, List.all_eq_true, List.mem_range, hl]
  intro i hi'; rw [h i hi']; rfl
theorem IsSet_no {l : List Int} {lo hi : Int} {k : Nat} (hl : k < l.length) (h : setBad l lo hi k = true) : IsSet l lo hi = false := by
  rw [Bool.eq_false_iff]
  intro e
  simp only [IsSet, List.all_eq_true, List.mem_range] at e
  have := e k hl
  rw [h] at this; cases this

set_option maxRecDepth 100000 in
theorem isSet_calls (a : Option Addr) (n c : Nat) (l : List Int) (lo hi : Int) (w : World) (h : IntsAt w a n c l) :
    Calls Try.prog 103 #[.slice a n c, .int .i64 lo, .int .i64 hi] w fun e w' => e = .returned (.bool (IsSet l lo hi)) ∧ ∃ q, w' = w.drewN q := by
  have hn : n ≤ 9223372036854775807 := Nat.le_trans h.le h.small
  go_enter Try.func103, Try.ntmps103
  go_wp2
  go_loopw [7] (fun i wr => ∃ k q : Nat, k ≤ n ∧ i = .int .i64 k ∧ wr = w.drewN q ∧ ∀ j, j < k → setBad l lo hi j = false) (fun i _ => n - (intOf i).toNat)
  case atStart => exact ⟨0, 0, Nat.zero_le _, rfl, rfl, fun _ h => absurd h (by omega)⟩
  case round =>
    obtain ⟨k, q, hk, rfl, hq, hall⟩ := hrel
    have hI : IntsAt wr a n c l := by rw [hq]; exact h.drewN q
    have Hq := hid_ hq; clear hq
    have Hall := hid_ hall; clear hall
    by_cases hlt : k < n
    · obtain ⟨b, off, rfl, hb, hcell⟩ := hI.cells k hlt
      have hprev : 0 < k → wr.cell? ⟨b, off + (k - 1), none⟩ = some (.int .i64 (l.getD (k - 1) 0)) := fun h0 => by
        obtain ⟨b', off', e, _, hc⟩ := hI.cells (k - 1) (by omega)
        injection e with e; injection e with e1 e2; subst e1; subst e2; exact hc
      generalize hy : l.getD k 0 = y at hcell
      generalize hz : l.getD (k - 1) 0 = z at hprev
      have Hbad : Hid (setBad l lo hi k = (!Within y lo hi || (decide (0 < k) && decide (y ≤ z)))) := hid_ (by rw [setBad, hy, hz])
      clear hy hz
      have hl : k < l.length := by rw [h.len]; exact hlt
      cases hw : Within y lo hi with
      | false =>
        have Hf : Hid (IsSet l lo hi = false) := hid_ (IsSet_no hl (by rw [Hbad.out, hw]; rfl))
        clear Hbad hprev
        go_wp2
        go_quiet ((go_at_call 72; exact quiet_left (within_calls _ _ _ _)))
        go_wp2
        go_ret
        exact ⟨retB Hf.out, _, by rw [Hq.out, drewN2]⟩
      | true =>
        by_cases h0 : 0 < k
        · have hcell2 := hprev h0
          have hk1 : (0 : Int) ≤ (k : Int) - 1 := by omega
          have hk2 : (k : Int) - 1 < (n : Int) := by omega
          have hk3 : ((k : Int) - 1).toNat = k - 1 := by omega
          have hw1 : IntKind.i64.wrap ((k : Int) - 1) = (k : Int) - 1 := IntWalk.i64_in _ (by omega)
          by_cases hyz : y ≤ z
          · have Hf : Hid (IsSet l lo hi = false) := hid_ (IsSet_no hl (by rw [Hbad.out, hw]; simp [h0, hyz]))
            clear Hbad hprev
            go_wp2
            go_quiet ((go_at_call 72; exact quiet_left (within_calls _ _ _ _)))
            clear hk3 hw1
            go_wp2
            go_ret
            exact ⟨retB Hf.out, _, by rw [Hq.out, drewN2]⟩
          · have Hf : Hid (setBad l lo hi k = false) := hid_ (by rw [Hbad.out, hw]; simp [hyz])
            clear Hbad hprev
            go_wp2
            go_quiet ((go_at_call 72; exact quiet_left (within_calls _ _ _ _)))
            clear hk3 hw1
            go_wp2
            go_roundw
            case rel => exact ⟨k + 1, _, by omega, by go_num, by rw [Hq.out, drewN2], lt_snoc Hall.out Hf.out⟩
            case measure => simp [intOf]; omega
        · have hd : decide ((0 : Int) < (k : Int)) = false := by simp; omega
          have Hf : Hid (setBad l lo hi k = false) := hid_ (by rw [Hbad.out, hw]; simp [h0])
          clear Hbad hprev
          go_wp2
          go_quiet ((go_at_call 72; exact quiet_left (within_calls _ _ _ _)))
          go_wp2
          go_roundw
          case rel => exact ⟨k + 1, _, by omega, by go_num, by rw [Hq.out, drewN2], lt_snoc Hall.out Hf.out⟩
          case measure => simp [intOf]; omega
    · have Hf : Hid (IsSet l lo hi = true) := hid_ (IsSet_yes h.len fun j hj => Hall.out j (by omega))
      go_wp2
      go_ret
      exact ⟨retB Hf.out, _, Hq.out⟩

/-! ### row -/
def rowTo (L : List (List Int)) (x : Int) : Int := if L.findIdx (fun r => Has r x) < L.length then (L.findIdx (fun r => Has r x) : Int) else -1
theorem rowTo_hit {L : List (List Int)} {x : Int} {k : Nat} (hk : k < L.length) (h : ∀ j, j < k → Has (L.getD j []) x = false) (hh : Has (L.getD k []) x = true) : rowTo L x = k := by
  have e : L.findIdx (fun r => Has r x) = k := by
    rw [List.findIdx_eq hk]
    refine ⟨by simpa [List.getD, List.getElem?_eq_getElem hk] using hh, fun j hj => ?_⟩
    have := h j hj
    simpa [List.getD, List.getElem?_eq_getElem (show j < L.length by omega)] using this
  rw [rowTo, e, if_pos hk]
theorem rowTo_miss {L : List (List Int)} {x : Int} {n : Nat} (hn : L.length = n) (h : ∀ j, j < n → Has (L.getD j []) x = false) : rowTo L x = -1 := by
  rw [rowTo, if_neg]
  rw [List.findIdx_lt_length]
  rintro ⟨r, hr, hx⟩
  obtain ⟨i, hi, e⟩ := List.mem_iff_getElem.1 hr
  have := h i (by omega)
  rw [List.getD, List.getElem?_eq_getElem hi, Option.getD_some, e, hx] at this
  cases this

set_option maxRecDepth 100000 in
theorem row_calls (a : Option Addr) (n c : Nat) (L : List (List Int)) (x : Int) (w : World) (h : ListsAt w a n c L) :
    Calls Try.prog 134 #[.slice a n c, .int .i64 x] w fun e w' => e = .returned (.int .i64 (rowTo L x)) ∧ w = w' := by
  have hn : n ≤ 9223372036854775807 := Nat.le_trans h.le h.small
  go_enter Try.func134, Try.ntmps134
  go_wp2
  go_loop [5] (fun i => ∃ k : Nat, k ≤ n ∧ i = .int .i64 k ∧ ∀ j, j < k → Has (L.getD j []) x = false) (fun i => n - (intOf i).toNat)
  case atStart => exact ⟨0, Nat.zero_le _, rfl, fun _ h => absurd h (by omega)⟩
  case round =>
    obtain ⟨k, hk, rfl, hall⟩ := hrel
    have Hall := hid_ hall; clear hall
    by_cases hlt : k < n
    · obtain ⟨b, off, a', n', c', rfl, hb, hcell, hrow⟩ := h.cells k hlt
      generalize hr : L.getD k [] = r at hrow
      have Hr := hid_ hr; clear hr
      have hl : k < L.length := by rw [h.len]; exact hlt
      cases hh : Has r x with
      | true =>
        have Hf : Hid (rowTo L x = k) := hid_ (rowTo_hit hl Hall.out (by rw [Hr.out]; exact hh))
        go_wp2_with (go_at_call 92; refine (has_calls _ _ _ _ _ _ hrow).mono ?_; rintro e w' ⟨rfl, rfl⟩)
        go_ret
        exact ⟨retI Hf.out, rfl⟩
      | false =>
        go_wp2_with (go_at_call 92; refine (has_calls _ _ _ _ _ _ hrow).mono ?_; rintro e w' ⟨rfl, rfl⟩)
        go_round
        case rel => exact ⟨k + 1, by omega, by go_num, lt_snoc Hall.out (by rw [Hr.out]; exact hh)⟩
        case measure => simp [intOf]; omega
    · have Hf : Hid (rowTo L x = -1) := hid_ (rowTo_miss h.len fun j hj => Hall.out j (by omega))
      go_wp2
      go_ret
      exact ⟨retI Hf.out, rfl⟩

/-! ### isOrder -/
def IsOrd (l : List Int) (n : Int) : Bool := decide ((l.length : Int) = n) && (List.range n.toNat).all fun i => Has l (i : Int)
set_option maxRecDepth 100000 in
theorem isOrder_calls (a : Option Addr) (n c : Nat) (l : List Int) (m : Int) (w : World) (h : IntsAt w a n c l) :
    Calls Try.prog 66 #[.slice a n c, .int .i64 m] w fun e w' => e = .returned (.bool (IsOrd l m)) ∧ w = w' := by
  have hn : n ≤ 9223372036854775807 := Nat.le_trans h.le h.small
  by_cases hm : (n : Int) = m
  · subst hm
    have hq : ((n : Int) != (n : Int)) = false := by simp
    go_enter Try.func66, Try.ntmps66
    go_wp2
    go_loop [5] (fun i => ∃ k : Nat, k ≤ n ∧ i = .int .i64 k ∧ ∀ j : Nat, j < k → Has l (j : Int) = true) (fun i => n - (intOf i).toNat)
    case atStart => exact ⟨0, Nat.zero_le _, rfl, fun _ h => absurd h (by omega)⟩
    case round =>
      obtain ⟨k, hk, rfl, hall⟩ := hrel
      have Hall := hid_ hall; clear hall
      by_cases hlt : k < n
      · cases hh : Has l (k : Int) with
        | false =>
          have Hf : Hid (IsOrd l (n : Int) = false) := hid_ (by
            rw [Bool.eq_false_iff]
            intro e
            simp only [IsOrd, Bool.and_eq_true, List.all_eq_true, List.mem_range] at e
            have := e.2 k (by simpa using hlt)
            rw [hh] at this; cases this)
          go_wp2_with (go_at_call 92; refine (has_calls _ _ _ _ _ _ h).mono ?_; rintro e w' ⟨rfl, rfl⟩)
          go_ret
          exact ⟨retB Hf.out, rfl⟩
        | true =>
          go_wp2_with (go_at_call 92; refine (has_calls _ _ _ _ _ _ h).mono ?_; rintro e w' ⟨rfl, rfl⟩)
          go_round
          case rel => exact ⟨k + 1, by omega, by go_num, lt_snoc Hall.out hh⟩
          case measure => simp [intOf]; omega
      · have Hf : Hid (IsOrd l (n : Int) = true) := hid_ (by
          simp only [IsOrd, Bool.and_eq_true, List.all_eq_true, List.mem_range, decide_eq_true_eq]
          exact ⟨by rw [h.len], fun j hj => Hall.out j (by simp at hj; omega)⟩)
        go_wp2
        go_ret
        exact ⟨retB Hf.out, rfl⟩
  · have hq : ((n : Int) != m) = true := by simpa using hm
    have Hf : Hid (IsOrd l m = false) := hid_ (by simp [IsOrd, h.len, hm])
    have Hm := hid_ hm; clear hm
    go_enter Try.func66, Try.ntmps66
    go_wp2
    go_ret
    exact ⟨retB Hf.out, rfl⟩
end Go.Proofs.Ytoopgmoopmbfnaa
namespace Go.Proofs.Ytoopgmoopmbfnaa
open Go.RowKit Go.Proofs.Kv Go.Proofs.Snd

/-! ### ValidateFamily -/
def famGood (n : Int) (s : List Int) : Bool := !s.isEmpty && IsSet s 0 (n - 1)
def famErr (n : Int) (F : List (List Int)) : Int := if Within n 1 6 = false then 1 else if 6 < F.length then 3 else if F.all (famGood n) then 0 else 1
theorem fam_no {n : Int} {F : List (List Int)} {k : Nat} (hk : k < F.length) (h : famGood n (F.getD k []) = false) : F.all (famGood n) = false := by
  rw [Bool.eq_false_iff]
  intro e
  rw [List.all_eq_true] at e
  have := e (F.getD k []) (by simp [List.getD, List.getElem?_eq_getElem hk])
  rw [h] at this; cases this
theorem fam_yes {n : Int} {F : List (List Int)} {m : Nat} (hm : F.length = m) (h : ∀ j, j < m → famGood n (F.getD j []) = true) : F.all (famGood n) = true := by
  rw [List.all_eq_true]
  intro s hs
  obtain ⟨i, hi, e⟩ := List.mem_iff_getElem.1 hs
  have := h i (by omega)
  rwa [List.getD, List.getElem?_eq_getElem hi, Option.getD_some, e] at this

set_option maxRecDepth 100000 in
theorem refFamily_calls (m : Int) (a : Option Addr) (n c : Nat) (F : List (List Int)) (w : World) (h : ListsAt w a n c F) :
    Calls Try.prog 57 #[.int .i64 m, .slice a n c] w fun e w' => e = .returned (.int .i64 (famErr m F)) ∧ ∃ q, w' = w.drewN q := by
  have hn : n ≤ 9223372036854775807 := Nat.le_trans h.le h.small
  cases hw : Within m 1 6 with
  | false =>
    have Hf : Hid (famErr m F = 1) := hid_ (by simp [famErr, hw])
    go_enter Try.func57, Try.ntmps57
    go_wp2_with (go_at_call 72; refine (within_calls _ _ _ _).mono ?_; rintro e w' ⟨rfl, rfl⟩)
    go_ret
    exact ⟨retI Hf.out, 0, rfl⟩
  | true =>
    have hm : 1 ≤ m ∧ m ≤ 6 := by simpa [Within] using hw
    obtain ⟨hm1, hm2⟩ := hm
    by_cases h6 : 6 < n
    · have Hf : Hid (famErr m F = 3) := hid_ (by simp [famErr, hw, h.len, h6])
      go_enter Try.func57, Try.ntmps57
      go_wp2_with (go_at_call 72; refine (within_calls _ _ _ _).mono ?_; rintro e w' ⟨rfl, rfl⟩)
      go_ret
      exact ⟨retI Hf.out, 0, rfl⟩
    · have hwr : IntKind.i64.wrap (m - 1) = m - 1 := IntWalk.i64_in _ (by omega)
      go_enter Try.func57, Try.ntmps57
      go_wp2_with (go_at_call 72; refine (within_calls _ _ _ _).mono ?_; rintro e w' ⟨rfl, rfl⟩)
      go_loopw [5] (fun i wr => ∃ k q : Nat, k ≤ n ∧ i = .int .i64 k ∧ wr = w.drewN q ∧ ∀ j, j < k → famGood m (F.getD j []) = true) (fun i _ => n - (intOf i).toNat)
      case atStart => exact ⟨0, 0, Nat.zero_le _, rfl, rfl, fun _ h => absurd h (by omega)⟩
      case round =>
        obtain ⟨k, q, hk, rfl, hq, hall⟩ := hrel
        have hI : ListsAt wr a n c F := by rw [hq]; exact h.drewN q
        have Hq := hid_ hq; clear hq
        have Hall := hid_ hall; clear hall
        by_cases hlt : k < n
        · obtain ⟨b, off, a', n', c', rfl, hb, hcell, hrow⟩ := hI.cells k hlt
          generalize hr : F.getD k [] = r at hrow
          have Hr := hid_ hr; clear hr
          have hl : k < F.length := by rw [h.len]; exact hlt
          by_cases hz : n' = 0
          · subst hz
            have Hf : Hid (famErr m F = 1) := hid_ (by
              have hr0 : r = [] := List.eq_nil_of_length_eq_zero hrow.len
              have : F.all (famGood m) = false := fam_no hl (by rw [Hr.out, hr0]; rfl)
              simp [famErr, hw, h.len, h6, this])
            go_wp2
            go_ret
            exact ⟨retI Hf.out, _, Hq.out⟩
          · have hz' : ((n' : Int) == 0) = false := by simp; omega
            have hne : r.isEmpty = false := by
              cases hr1 : r with
              | nil => rw [hr1] at hrow; exact absurd hrow.len.symm hz
              | cons _ _ => rfl
            have Hne := hid_ hne; clear hne
            have Hz := hid_ hz; clear hz
            cases hs : IsSet r 0 (m - 1) with
            | false =>
              have Hf : Hid (famErr m F = 1) := hid_ (by
                have : F.all (famGood m) = false := fam_no hl (by rw [Hr.out, famGood, hs]; simp)
                simp [famErr, hw, h.len, h6, this])
              go_wp2_with (go_at_call 103; refine (isSet_calls _ _ _ _ _ _ _ hrow).mono ?_; rintro e w' ⟨rfl, q', rfl⟩)
              go_ret
              exact ⟨retI Hf.out, _, by rw [Hq.out, drewN2]⟩
            | true =>
              have Hf : Hid (famGood m r = true) := hid_ (by rw [famGood, hs, Hne.out]; rfl)
              go_wp2_with (go_at_call 103; refine (isSet_calls _ _ _ _ _ _ _ hrow).mono ?_; rintro e w' ⟨rfl, q', rfl⟩)
              go_roundw
              case rel => exact ⟨k + 1, _, by omega, by go_num, by rw [Hq.out, drewN2], lt_snoc Hall.out (by rw [Hr.out]; exact Hf.out)⟩
              case measure => simp [intOf]; omega
        · have Hf : Hid (famErr m F = 0) := hid_ (by
            have : F.all (famGood m) = true := fam_yes h.len fun j hj => Hall.out j (by omega)
            rw [famErr, hw, h.len, this]; simp [h6])
          go_wp2
          go_ret
          exact ⟨retI Hf.out, _, Hq.out⟩

/-! ### SameLists -/
def SameL (L M : List (List Int)) : Bool := decide (L = M)
theorem ext_getDL {l m : List (List Int)} {n : Nat} (h1 : l.length = n) (h2 : m.length = n) (h : ∀ j, j < n → l.getD j [] = m.getD j []) : l = m := by
  refine List.ext_getElem (by omega) fun i h3 h4 => ?_
  have := h i (by omega)
  simpa [List.getD, List.getElem?_eq_getElem h3, List.getElem?_eq_getElem h4] using this

set_option maxRecDepth 100000 in
theorem sameL_calls (a : Option Addr) (n c : Nat) (L : List (List Int)) (a' : Option Addr) (n' c' : Nat) (M : List (List Int)) (w : World) (h : ListsAt w a n c L) (h' : ListsAt w a' n' c' M) :
    Calls Try.prog 23 #[.slice a n c, .slice a' n' c'] w fun e w' => e = .returned (.bool (SameL L M)) ∧ ∃ q, w' = w.drewN q := by
  have hn : n ≤ 9223372036854775807 := Nat.le_trans h.le h.small
  by_cases hnn : n = n'
  · subst hnn
    have hb1 : ((n : Int) != (n : Int)) = false := by simp
    go_enter Try.func23, Try.ntmps23
    go_wp2
    go_loopw [5] (fun i wr => ∃ k q : Nat, k ≤ n ∧ i = .int .i64 k ∧ wr = w.drewN q ∧ ∀ j, j < k → L.getD j [] = M.getD j []) (fun i _ => n - (intOf i).toNat)
    case atStart => exact ⟨0, 0, Nat.zero_le _, rfl, rfl, fun _ h => absurd h (by omega)⟩
    case round =>
      obtain ⟨k, q, hk, rfl, hq, hall⟩ := hrel
      have hI : ListsAt wr a n c L := by rw [hq]; exact h.drewN q
      have hI' : ListsAt wr a' n c' M := by rw [hq]; exact h'.drewN q
      have Hq := hid_ hq; clear hq
      have Hall := hid_ hall; clear hall
      by_cases hlt : k < n
      · obtain ⟨b, off, a1, n1, c1, rfl, hb, hcell, hrow⟩ := hI.cells k hlt
        obtain ⟨b', off', a2, n2, c2, rfl, hb', hcell', hrow'⟩ := hI'.cells k hlt
        generalize hy : L.getD k [] = y at hrow
        have Hy := hid_ hy; clear hy
        generalize hy' : M.getD k [] = y' at hrow'
        have Hy' := hid_ hy'; clear hy'
        cases hs : Same y y' with
        | true =>
          have He : Hid (y = y') := hid_ (by simpa [Same] using hs)
          go_wp2
          go_quiet ((go_at_call 41; exact quiet_more (same_calls _ _ _ _ _ _ _ _ _ (hrow.drewN _) (hrow'.drewN _))))
          go_wp2
          go_roundw
          case rel => exact ⟨k + 1, _, by omega, by go_num, by rw [Hq.out, drewN2], lt_snoc Hall.out (by rw [Hy.out, Hy'.out]; exact He.out)⟩
          case measure => simp [intOf]; omega
        | false =>
          have Hf : Hid (SameL L M = false) := hid_ (decide_eq_false fun e => by
            have : y = y' := by rw [← Hy.out, ← Hy'.out, e]
            simp [Same, this] at hs)
          go_wp2
          go_quiet ((go_at_call 41; exact quiet_more (same_calls _ _ _ _ _ _ _ _ _ (hrow.drewN _) (hrow'.drewN _))))
          go_wp2
          go_ret
          exact ⟨retB Hf.out, _, by rw [Hq.out, drewN2]⟩
      · have Hf : Hid (SameL L M = true) := hid_ (decide_eq_true (ext_getDL h.len h'.len fun j hj => Hall.out j (by omega)))
        go_wp2
        go_ret
        exact ⟨retB Hf.out, _, Hq.out⟩
  · have hb1 : ((n : Int) != (n' : Int)) = true := by simp; omega
    have Hf : Hid (SameL L M = false) := hid_ (decide_eq_false fun e => hnn (by rw [← h.len, ← h'.len, e]))
    have Hn := hid_ hnn; clear hnn
    go_enter Try.func23, Try.ntmps23
    go_wp2
    go_ret
    exact ⟨retB Hf.out, 0, rfl⟩

/-! ### sounds -/
theorem flat_snoc (L : List (List Int)) (k : Nat) (h : k < L.length) : (L.take (k + 1)).flatten = (L.take k).flatten ++ L.getD k [] := by
  rw [Kv.take_snoc L [] k h, List.flatten_append]; simp

set_option maxRecDepth 100000 in
theorem sounds_calls (a : Option Addr) (n c : Nat) (L : List (List Int)) (w : World) (h : ListsAt w a n c L) (hs : L.flatten.length ≤ 100000) :
    Calls Try.prog 67 #[.slice a n c] w fun e w' => ∃ v, e = .returned v ∧ Made 3 w w' v L.flatten := by
  have hn : n ≤ 9223372036854775807 := Nat.le_trans h.le h.small
  obtain ⟨i0, hi0, hz0, hz1, hz2⟩ := info_parts Try.infoInt
  go_enter Try.func67, Try.ntmps67
  go_wp2
  go_loopw [3, 4] (fun v i wr => ∃ k : Nat, k ≤ n ∧ i = .int .i64 k ∧ wr.ownsRow w.heap.size 3 1 v (L.take k).flatten.length ((L.take k).flatten.map (Value.int .i64)) ∧ Below w.heap.size w wr) (fun _ i _ => n - (intOf i).toNat)
  case atStart => exact ⟨0, by omega, rfl, by simpa using World.ownsRow_nil _ _ _ _, Below.refl _ _⟩
  case round =>
    obtain ⟨k, hk, rfl, hown, hbel⟩ := hrel
    have hsz := hbel.size
    by_cases hlt : k < n
    · have hI := h.below hbel (Nat.le_refl _)
      have hl : k < L.length := by rw [h.len]; exact hlt
      obtain ⟨b, off, a1, n1, c1, rfl, hb, hcell, hrow⟩ := hI.cells k hlt
      have hf := flat_snoc L k hl
      generalize hy : L.getD k [] = y at hrow hf
      have Hf := hid_ hf; clear hf
      have Hy := hid_ hy; clear hy
      have hs1 : (L.take k).flatten.length + n1 ≤ 1000000 := by
        have h1 := flat_take_le L (k + 1)
        rw [Hf.out, List.length_append, hrow.len] at h1
        omega
      have Hlen : Hid (y.length = n1) := hid_ hrow.len
      go_wp2_with (at_builtin; refine wpList_append_ints _ rfl (.tmp 11) (.tmp 15) _ rfl w.heap.size 3 i0 Try.underlying23 hi0 hz0 hz1 hz2 _ _ _ rfl hown _ _ _ _ rfl hrow hs1 hsz ?_; intro v' w1 hown1 hg1 hat1)
      go_roundw
      case rel => exact ⟨k + 1, by omega, by go_num, by rw [Hf.out, List.length_append, Hlen.out]; exact hown1, below_app0 hbel hsz hown hg1⟩
      case measure => simp [intOf]; omega
    · obtain rfl : k = n := by omega
      have Hf : Hid (L.take k = L) := hid_ (by rw [List.take_of_length_le]; rw [h.len]; omega)
      go_wp2
      go_ret
      exact ⟨_, rfl, by have := hown; rw [Hf.out] at this; exact this, hbel⟩
end Go.Proofs.Ytoopgmoopmbfnaa
namespace Go.Proofs.Ytoopgmoopmbfnaa
open Go.RowKit Go.Proofs.Kv Go.Proofs.Snd

/-! ### Validate -/
theorem val_row {L : List (List Int)} {k : Nat} (h1 : ¬ (L.length = 0 ∨ 6 < L.length)) (hk : k < L.length) (h : okRow (L.getD k []) = false) : validT L = 1 := by
  have : L.all okRow = false := by
    rw [Bool.eq_false_iff]
    intro e
    rw [List.all_eq_true] at e
    have := e (L.getD k []) (by simp [List.getD, List.getElem?_eq_getElem hk])
    rw [h] at this; cases this
  rw [validT, if_neg h1, this]; rfl
theorem val_rows {L : List (List Int)} {n : Nat} (hn : L.length = n) (h : ∀ j, j < n → okRow (L.getD j []) = true) : L.all okRow = true := by
  rw [List.all_eq_true]
  intro s hs
  obtain ⟨i, hi, e⟩ := List.mem_iff_getElem.1 hs
  have := h i (by omega)
  rwa [List.getD, List.getElem?_eq_getElem hi, Option.getD_some, e] at this
theorem okRow_no {r : List Int} {k : Nat} (hk : k < r.length) (h : Within (r.getD k 0) 0 5 = false) : okRow r = false := by
  have : r.all okS = false := by
    rw [Bool.eq_false_iff]
    intro e
    rw [List.all_eq_true] at e
    have h2 : Within (r.getD k 0) 0 5 = true := e _ (getD_mem hk)
    rw [h] at h2; cases h2
  simp [okRow, this]
theorem okRow_yes {r : List Int} {n : Nat} (hn : r.length = n) (h0 : 0 < n) (h : ∀ j, j < n → Within (r.getD j 0) 0 5 = true) : okRow r = true := by
  have : r.all okS = true := by
    rw [List.all_eq_true]
    intro s hs
    obtain ⟨i, hi, e⟩ := mem_getD hs
    have := h i (by omega)
    rwa [e] at this
  have h2 : r.isEmpty = false := by cases r with | nil => simp at hn; omega | cons _ _ => rfl
  simp [okRow, this, h2]
theorem take_nodup {l : List Int} {k : Nat} (hk : k < l.length) (h : (l.take k).Nodup) (hh : Has (l.take k) (l.getD k 0) = false) : (l.take (k + 1)).Nodup := by
  rw [Kv.take_snoc l 0 k hk, nodup_snoc]
  exact ⟨h, fun e => by rw [Has_iff.2 e] at hh; cases hh⟩
theorem take_dup {l : List Int} {k : Nat} (hk : k < l.length) (hh : Has (l.take k) (l.getD k 0) = true) : dup l = true := by
  rw [dup_eq, decide_eq_true_eq]
  intro hn
  have : (l.take (k + 1)).Nodup := hn.sublist (List.take_sublist _ _)
  rw [Kv.take_snoc l 0 k hk, nodup_snoc] at this
  exact this.2 (Has_iff.1 hh)

set_option maxRecDepth 100000 in
theorem refValidate_calls (a : Option Addr) (n c : Nat) (L : List (List Int)) (w : World) (h : ListsAt w a n c L) (hs : L.flatten.length ≤ 100000) :
    Calls Try.prog 65 #[.slice a n c] w fun e w' => e = .returned (.int .i64 (validT L)) ∧ Below w.heap.size w w' := by
  have hn : n ≤ 9223372036854775807 := Nat.le_trans h.le h.small
  cases hw : Within (n : Int) 1 6 with
  | false =>
    have Hf : Hid (validT L = 3) := hid_ (by
      have : L.length = 0 ∨ 6 < L.length := by rw [h.len]; simp [Within] at hw; omega
      rw [validT, if_pos this])
    go_enter Try.func65, Try.ntmps65
    go_wp2_with (go_at_call 72; refine (within_calls _ _ _ _).mono ?_; rintro e w' ⟨rfl, rfl⟩)
    go_ret
    exact ⟨retI Hf.out, Below.refl _ _⟩
  | true =>
    have H6 : Hid (¬ (L.length = 0 ∨ 6 < L.length)) := hid_ (by rw [h.len]; simp [Within] at hw; omega)
    go_enter Try.func65, Try.ntmps65
    go_wp2_with (go_at_call 72; refine (within_calls _ _ _ _).mono ?_; rintro e w' ⟨rfl, rfl⟩)
    clear hw
    go_loop [3] (fun i => ∃ k : Nat, k ≤ n ∧ i = .int .i64 k ∧ ∀ j, j < k → okRow (L.getD j []) = true) (fun i => n - (intOf i).toNat)
    case atStart => exact ⟨0, Nat.zero_le _, rfl, fun _ h => absurd h (by omega)⟩
    case round =>
      obtain ⟨k, hk, rfl, hall⟩ := hrel
      have Hall := hid_ hall; clear hall
      by_cases hlt : k < n
      · obtain ⟨b, off, a', n', c', rfl, hb, hcell, hrow⟩ := h.cells k hlt
        generalize hr : L.getD k [] = r at hrow
        have Hr := hid_ hr; clear hr
        have hl : k < L.length := by rw [h.len]; exact hlt
        have hn' : n' ≤ 9223372036854775807 := Nat.le_trans hrow.le hrow.small
        by_cases hz : n' = 0
        · subst hz
          have Hf : Hid (validT L = 1) := hid_ (val_row H6.out hl (by rw [Hr.out, List.eq_nil_of_length_eq_zero hrow.len]; rfl))
          go_wp2
          go_ret
          exact ⟨retI Hf.out, Below.refl _ _⟩
        · have hz' : ((n' : Int) == 0) = false := by simp; omega
          have Hz := hid_ hz; clear hz
          go_wp2
          clear hz'
          go_loop [4] (fun i => ∃ k2 : Nat, k2 ≤ n' ∧ i = .int .i64 k2 ∧ ∀ j, j < k2 → Within (r.getD j 0) 0 5 = true) (fun i => n' - (intOf i).toNat)
          case atStart => exact ⟨0, Nat.zero_le _, rfl, fun _ h => absurd h (by omega)⟩
          case round =>
            obtain ⟨k2, hk2, rfl, hall2⟩ := hrel
            have Hall2 := hid_ hall2; clear hall2
            by_cases hlt2 : k2 < n'
            · obtain ⟨b2, off2, rfl, hb2, hcell2⟩ := hrow.cells k2 hlt2
              generalize hy : r.getD k2 0 = y at hcell2
              have Hy := hid_ hy; clear hy
              cases hw2 : Within y 0 5 with
              | false =>
                have Hf : Hid (validT L = 1) := hid_ (val_row H6.out hl (by rw [Hr.out]; exact okRow_no (by rw [hrow.len]; exact hlt2) (by rw [Hy.out]; exact hw2)))
                go_wp2_with (go_at_call 72; refine (within_calls _ _ _ _).mono ?_; rintro e w' ⟨rfl, rfl⟩)
                go_ret
                exact ⟨retI Hf.out, Below.refl _ _⟩
              | true =>
                go_wp2_with (go_at_call 72; refine (within_calls _ _ _ _).mono ?_; rintro e w' ⟨rfl, rfl⟩)
                go_round
                case rel => exact ⟨k2 + 1, by omega, by go_num, lt_snoc Hall2.out (by rw [Hy.out]; exact hw2)⟩
                case measure => simp [intOf]; omega
            · have Hf : Hid (okRow r = true) := hid_ (okRow_yes hrow.len (Nat.pos_of_ne_zero Hz.out) fun j hj => Hall2.out j (by omega))
              go_wp2
              go_round
              case rel => exact ⟨k + 1, by omega, by go_num, lt_snoc Hall.out (by rw [Hr.out]; exact Hf.out)⟩
              case measure => simp [intOf]; omega
      · have Hrows : Hid (L.all okRow = true) := hid_ (val_rows h.len fun j hj => Hall.out j (by omega))
        go_wp2_with (go_at_call 67; refine (sounds_calls _ _ _ _ _ h hs).mono ?_; rintro e w1 ⟨v, rfl, hmade⟩)
        obtain ⟨a1, c1, rfl, hI⟩ := hmade.at_
        have hbel := hmade.bel
        clear hmade
        generalize hl : L.flatten = l at hI
        have Hl := hid_ hl; clear hl
        generalize hm : l.length = m at hI
        have Hm := hid_ hm; clear hm
        have hmm : m ≤ 9223372036854775807 := Nat.le_trans hI.le hI.small
        go_loopw [6] (fun i wr => ∃ k q : Nat, k ≤ m ∧ i = .int .i64 k ∧ wr = w1.drewN q ∧ (l.take k).Nodup) (fun i _ => m - (intOf i).toNat)
        case atStart => exact ⟨0, 0, Nat.zero_le _, rfl, rfl, by simp⟩
        case round =>
          obtain ⟨k3, q, hk3, rfl, hq, hnd⟩ := hrel
          have hI2 : IntsAt wr a1 m c1 l := by rw [hq]; exact hI.drewN q
          have Hq := hid_ hq; clear hq
          have Hnd := hid_ hnd; clear hnd
          by_cases hlt3 : k3 < m
          · obtain ⟨b2, off2, rfl, hb2, hcell2⟩ := hI2.cells k3 hlt3
            have htk := hI2.take (k := k3) (by omega)
            have hl3 : k3 < l.length := by rw [hI2.len]; exact hlt3
            generalize hy : l.getD k3 0 = y at hcell2
            have Hy := hid_ hy; clear hy
            have hc3 : (k3 : Int) ≤ (c1 : Int) := by have := hI2.le; omega
            generalize ht : l.take k3 = tk at htk
            have Ht := hid_ ht; clear ht
            cases hh : Has tk y with
            | true =>
              have Hf : Hid (validT L = 5) := hid_ (by
                have : dup l = true := take_dup hl3 (by rw [Hy.out, Ht.out]; exact hh)
                rw [validT, if_neg H6.out, Hrows.out, Hl.out, this]; rfl)
              go_wp2
              go_quiet ((go_at_call 92; exact quiet_left (has_as (htk.drewN _) hh)))
              go_wp2
              go_ret
              exact ⟨retI Hf.out, by rw [Hq.out, drewN2]; exact below_drewN hbel _⟩
            | false =>
              go_wp2
              go_quiet ((go_at_call 92; exact quiet_left (has_as (htk.drewN _) hh)))
              go_wp2
              go_roundw
              case rel => exact ⟨k3 + 1, _, by omega, by go_num, by rw [Hq.out, drewN2], take_nodup hl3 Hnd.out (by rw [Hy.out, Ht.out]; exact hh)⟩
              case measure => simp [intOf]; omega
          · have Hf : Hid (validT L = 0) := hid_ (by
              have h1 := Hnd.out
              rw [List.take_of_length_le (by rw [hI2.len]; omega)] at h1
              have : dup l = false := (dup_iff l).2 h1
              rw [validT, if_neg H6.out, Hrows.out, Hl.out, this]; rfl)
            go_wp2
            go_ret
            exact ⟨retI Hf.out, by rw [Hq.out]; exact below_drewN hbel _⟩
end Go.Proofs.Ytoopgmoopmbfnaa
namespace Go.Proofs.Ytoopgmoopmbfnaa
open Go.RowKit Go.Proofs.Kv Go.Proofs.Snd

/-! ### Sounds -/
def soundsRes (L : List (List Int)) : List Int := if validT L = 0 then L.flatten else []
/-! ### Row -/
def rowRes (L : List (List Int)) (x : Int) : Int × Bool := if validT L = 0 then (if rowTo L x < 0 then (0, false) else (rowTo L x, true)) else (0, false)
/-! ### ends, fits -/
def endsTo (o s : List Int) : Nat → Int × Int
  | 0 => (-1, -1)
  | k + 1 => if Has s (o.getD k 0) then (if (endsTo o s k).1 < 0 then (k : Int) else (endsTo o s k).1, (k : Int)) else endsTo o s k
theorem endsTo_bd (o s : List Int) (k : Nat) : -1 ≤ (endsTo o s k).1 ∧ (endsTo o s k).1 < k ∧ (endsTo o s k).1 ≤ (endsTo o s k).2 ∧ (endsTo o s k).2 < k ∨ k = 0 ∧ endsTo o s k = (-1, -1) := by
  induction k with
  | zero => exact .inr ⟨rfl, rfl⟩
  | succ k ih =>
    left
    simp only [endsTo]
    split
    · split <;> rcases ih with ih | ⟨rfl, ih⟩ <;> simp_all <;> omega
    · rcases ih with ih | ⟨rfl, ih⟩ <;> simp_all <;> omega
def ends (o s : List Int) : Int × Int := endsTo o s o.length

set_option maxRecDepth 100000 in
theorem ends_calls (a : Option Addr) (n c : Nat) (o : List Int) (a' : Option Addr) (n' c' : Nat) (s : List Int) (w : World) (h : IntsAt w a n c o) (h' : IntsAt w a' n' c' s) :
    Calls Try.prog 102 #[.slice a n c, .slice a' n' c'] w fun e w' => e = .returned (.tuple #[.int .i64 (ends o s).1, .int .i64 (ends o s).2]) ∧ w = w' := by
  have hn : n ≤ 9223372036854775807 := Nat.le_trans h.le h.small
  have Hlen : Hid (ends o s = endsTo o s n) := hid_ (by rw [ends, h.len])
  go_enter Try.func102, Try.ntmps102
  go_wp2
  go_loop [6, 7, 8] (fun f l i => ∃ k : Nat, k ≤ n ∧ i = .int .i64 k ∧ f = .int .i64 (endsTo o s k).1 ∧ l = .int .i64 (endsTo o s k).2) (fun _ _ i => n - (intOf i).toNat)
  case atStart => exact ⟨0, Nat.zero_le _, rfl, rfl, rfl⟩
  case round =>
    obtain ⟨k, hk, rfl, rfl, rfl⟩ := hrel
    by_cases hlt : k < n
    · obtain ⟨b, off, rfl, hb, hcell⟩ := h.cells k hlt
      have Hnext : Hid (endsTo o s (k + 1) = if Has s (o.getD k 0) then (if (endsTo o s k).1 < 0 then (k : Int) else (endsTo o s k).1, (k : Int)) else endsTo o s k) := hid_ rfl
      generalize hy : o.getD k 0 = y at hcell Hnext
      have Hy := hid_ hy; clear hy
      generalize endsTo o s k = p at Hnext
      obtain ⟨f, l⟩ := p
      cases hh : Has s y with
      | true =>
        by_cases hf : f < 0
        · have Hf : Hid (endsTo o s (k + 1) = ((k : Int), (k : Int))) := hid_ (by rw [Hnext.out, hh]; simp [hf])
          clear Hnext
          go_wp2_with (go_at_call 92; refine (has_calls _ _ _ _ _ _ h').mono ?_; rintro e w' ⟨rfl, rfl⟩)
          go_round
          case rel => exact ⟨k + 1, by omega, by go_num, by rw [Hf.out], by rw [Hf.out]⟩
          case measure => simp [intOf]; omega
        · have Hf : Hid (endsTo o s (k + 1) = (f, (k : Int))) := hid_ (by rw [Hnext.out, hh]; simp [hf])
          clear Hnext
          go_wp2_with (go_at_call 92; refine (has_calls _ _ _ _ _ _ h').mono ?_; rintro e w' ⟨rfl, rfl⟩)
          go_round
          case rel => exact ⟨k + 1, by omega, by go_num, by rw [Hf.out], by rw [Hf.out]⟩
          case measure => simp [intOf]; omega
      | false =>
        have Hf : Hid (endsTo o s (k + 1) = (f, l)) := hid_ (by rw [Hnext.out, hh]; simp)
        clear Hnext
        go_wp2_with (go_at_call 92; refine (has_calls _ _ _ _ _ _ h').mono ?_; rintro e w' ⟨rfl, rfl⟩)
        go_round
        case rel => exact ⟨k + 1, by omega, by go_num, by rw [Hf.out], by rw [Hf.out]⟩
        case measure => simp [intOf]; omega
    · obtain rfl : k = n := by omega
      go_wp2
      go_ret2
      exact ⟨by rw [Hlen.out]; rfl, rfl⟩
end Go.Proofs.Ytoopgmoopmbfnaa
namespace Go.Proofs.Ytoopgmoopmbfnaa
open Go.RowKit Go.Proofs.Kv Go.Proofs.Snd

theorem all_no {p : List Int → Bool} {F : List (List Int)} {k : Nat} (hk : k < F.length) (h : p (F.getD k []) = false) : F.all p = false := by
  rw [Bool.eq_false_iff]
  intro e
  rw [List.all_eq_true] at e
  have := e (F.getD k []) (by simp [List.getD, List.getElem?_eq_getElem hk])
  rw [h] at this; cases this
theorem all_yes {p : List Int → Bool} {F : List (List Int)} {m : Nat} (hm : F.length = m) (h : ∀ j, j < m → p (F.getD j []) = true) : F.all p = true := by
  rw [List.all_eq_true]
  intro s hs
  obtain ⟨i, hi, e⟩ := List.mem_iff_getElem.1 hs
  have := h i (by omega)
  rwa [List.getD, List.getElem?_eq_getElem hi, Option.getD_some, e] at this
theorem ends_bd (o s : List Int) : -1 ≤ (ends o s).1 ∧ (ends o s).1 ≤ o.length ∧ -1 ≤ (ends o s).2 ∧ (ends o s).2 ≤ o.length := by
  rcases endsTo_bd o s o.length with h | ⟨h, e⟩
  · unfold ends; omega
  · unfold ends; rw [e]; simp

/-! ### fits -/
def fitOne (o s : List Int) : Bool := (ends o s).2 - (ends o s).1 + 1 == (s.length : Int)
def fitsB (F : List (List Int)) (o : List Int) : Bool := F.all (fitOne o)
set_option maxRecDepth 100000 in
theorem refFits_calls (a : Option Addr) (n c : Nat) (F : List (List Int)) (a' : Option Addr) (n' c' : Nat) (o : List Int) (w : World) (h : ListsAt w a n c F) (h' : IntsAt w a' n' c' o) (hs : n' ≤ 1000000) :
    Calls Try.prog 53 #[.slice a n c, .slice a' n' c'] w fun e w' => e = .returned (.bool (fitsB F o)) ∧ w = w' := by
  have hn : n ≤ 9223372036854775807 := Nat.le_trans h.le h.small
  go_enter Try.func53, Try.ntmps53
  go_wp2
  go_loop [5] (fun i => ∃ k : Nat, k ≤ n ∧ i = .int .i64 k ∧ ∀ j, j < k → fitOne o (F.getD j []) = true) (fun i => n - (intOf i).toNat)
  case atStart => exact ⟨0, Nat.zero_le _, rfl, fun _ h => absurd h (by omega)⟩
  case round =>
    obtain ⟨k, hk, rfl, hall⟩ := hrel
    have Hall := hid_ hall; clear hall
    by_cases hlt : k < n
    · obtain ⟨b, off, a1, n1, c1, rfl, hb, hcell, hrow⟩ := h.cells k hlt
      have hl : k < F.length := by rw [h.len]; exact hlt
      generalize hr : F.getD k [] = r at hrow
      have Hr := hid_ hr; clear hr
      have hbd := ends_bd o r
      rw [h'.len] at hbd
      have Hone : Hid (fitOne o r = ((ends o r).2 - (ends o r).1 + 1 == (n1 : Int))) := hid_ (by rw [fitOne, hrow.len])
      have hec := ends_calls _ _ _ _ _ _ _ _ w h' hrow
      generalize ends o r = p at hec hbd Hone
      obtain ⟨f, l⟩ := p
      simp only at hbd hec
      obtain ⟨b1, b2, b3, b4⟩ := hbd
      have Hec := hid_ hec; clear hec
      cases hq : (l - f + 1 == (n1 : Int)) with
      | true =>
        have hq' : (l - f + 1 != (n1 : Int)) = false := by rw [bne, hq]; rfl
        have Hf : Hid (fitOne o r = true) := hid_ (by rw [Hone.out]; exact hq)
        clear Hone hq
        go_wp2_with (go_at_call 102; refine Hec.out.mono ?_; rintro e w' ⟨rfl, rfl⟩)
        go_round
        case rel => exact ⟨k + 1, by omega, by go_num, lt_snoc Hall.out (by rw [Hr.out]; exact Hf.out)⟩
        case measure => simp [intOf]; omega
      | false =>
        have hq' : (l - f + 1 != (n1 : Int)) = true := by rw [bne, hq]; rfl
        have Hf : Hid (fitsB F o = false) := hid_ (all_no hl (by rw [Hr.out, Hone.out]; exact hq))
        clear Hone hq
        go_wp2_with (go_at_call 102; refine Hec.out.mono ?_; rintro e w' ⟨rfl, rfl⟩)
        go_ret
        exact ⟨retB Hf.out, rfl⟩
    · have Hf : Hid (fitsB F o = true) := hid_ (all_yes h.len fun j hj => Hall.out j (by omega))
      go_wp2
      go_ret
      exact ⟨retB Hf.out, rfl⟩

/-! ### ordered, Fits -/
def ordErr (m : Int) (F : List (List Int)) (o : List Int) : Int := if famErr m F = 0 then (if IsOrd o m then 0 else 1) else famErr m F
set_option maxRecDepth 100000 in
theorem ordered_calls (m : Int) (a : Option Addr) (n c : Nat) (F : List (List Int)) (a' : Option Addr) (n' c' : Nat) (o : List Int) (w : World) (h : ListsAt w a n c F) (h' : IntsAt w a' n' c' o) :
    Calls Try.prog 52 #[.int .i64 m, .slice a n c, .slice a' n' c'] w fun e w' => e = .returned (.int .i64 (ordErr m F o)) ∧ ∃ q, w' = w.drewN q := by
  have hfe := refFamily_calls m a n c F w h
  by_cases he : famErr m F = 0
  · rw [he] at hfe
    have Hv := hid_ hfe; clear hfe
    cases ho : IsOrd o m with
    | true =>
      have Hf : Hid (ordErr m F o = 0) := hid_ (by rw [ordErr, if_pos he, ho]; rfl)
      clear he
      go_enter Try.func52, Try.ntmps52
      go_wp2_with fail
      refine Hv.out.mono ?_
      rintro e w1 ⟨rfl, q, rfl⟩
      go_wp2_with (go_at_call 66; refine (isOrder_calls _ _ _ _ _ _ (h'.drewN q)).mono ?_; rintro e w' ⟨rfl, rfl⟩)
      go_ret
      exact ⟨retI Hf.out, _, rfl⟩
    | false =>
      have Hf : Hid (ordErr m F o = 1) := hid_ (by rw [ordErr, if_pos he, ho]; rfl)
      clear he
      go_enter Try.func52, Try.ntmps52
      go_wp2_with fail
      refine Hv.out.mono ?_
      rintro e w1 ⟨rfl, q, rfl⟩
      go_wp2_with (go_at_call 66; refine (isOrder_calls _ _ _ _ _ _ (h'.drewN q)).mono ?_; rintro e w' ⟨rfl, rfl⟩)
      go_ret
      exact ⟨retI Hf.out, _, rfl⟩
  · have Hf : Hid (ordErr m F o = famErr m F) := hid_ (by rw [ordErr, if_neg he])
    generalize famErr m F = er at hfe he Hf
    have hq : (er != 0) = true := by simpa using he
    have Hv := hid_ hfe; clear hfe he
    go_enter Try.func52, Try.ntmps52
    go_wp2_with fail
    refine Hv.out.mono ?_
    rintro e w1 ⟨rfl, q, rfl⟩
    go_wp2
    go_ret
    exact ⟨retI Hf.out, _, rfl⟩

def fitsRes (m : Int) (F : List (List Int)) (o : List Int) : Bool := if ordErr m F o = 0 then fitsB F o else false
/-! ### marks -/
def markAt (F : List (List Int)) (o : List Int) (at_ : Nat) (k : Nat) : Bool := decide ((at_ : Int) = (o.length : Int) - 1) || (F.take k).any fun s => (ends o s).2 == (at_ : Int)
def marksTo (F : List (List Int)) (o : List Int) : Nat → Nat
  | 0 => 0
  | k + 1 => marksTo F o k + if markAt F o k F.length then 1 else 0
theorem marksTo_le (F : List (List Int)) (o : List Int) (k : Nat) : marksTo F o k ≤ k := by
  induction k with
  | zero => exact Nat.le_refl _
  | succ k ih => simp only [marksTo]; split <;> omega
theorem markAt_snoc {F : List (List Int)} {o : List Int} {at_ k : Nat} (h : k < F.length) : markAt F o at_ (k + 1) = (markAt F o at_ k || ((ends o (F.getD k [])).2 == (at_ : Int))) := by
  rw [markAt, markAt, Kv.take_snoc F [] k h, List.any_append]
  simp [Bool.or_assoc]
def marksR (F : List (List Int)) (o : List Int) : Nat := marksTo F o o.length

set_option maxRecDepth 100000 in
theorem refMarks_calls (a : Option Addr) (n c : Nat) (F : List (List Int)) (a' : Option Addr) (n' c' : Nat) (o : List Int) (w : World) (h : ListsAt w a n c F) (h' : IntsAt w a' n' c' o) (hs : n' ≤ 1000000) :
    Calls Try.prog 54 #[.slice a n c, .slice a' n' c'] w fun e w' => e = .returned (.int .i64 (marksR F o : Nat)) ∧ w = w' := by
  have hn : n ≤ 9223372036854775807 := Nat.le_trans h.le h.small
  have Hend : Hid (marksR F o = marksTo F o n') := hid_ (by rw [marksR, h'.len])
  have Hol : Hid (o.length = n') := hid_ h'.len
  go_enter Try.func54, Try.ntmps54
  go_wp2
  go_loop [5, 6] (fun s i => ∃ k : Nat, k ≤ n' ∧ i = .int .i64 k ∧ s = .int .i64 (marksTo F o k : Nat)) (fun _ i => n' - (intOf i).toNat)
  case atStart => exact ⟨0, Nat.zero_le _, rfl, rfl⟩
  case round =>
    obtain ⟨k, hk, rfl, rfl⟩ := hrel
    by_cases hlt : k < n'
    · have hle := marksTo_le F o k
      have Hnext : Hid (marksTo F o (k + 1) = marksTo F o k + if markAt F o k F.length then 1 else 0) := hid_ rfl
      generalize marksTo F o k = s at hle Hnext
      have hstart : ((k : Int) == (n' : Int) - 1) = markAt F o k 0 := by
        rw [markAt, Hol.out, Bool.eq_iff_iff]; simp
      generalize hm0 : markAt F o k 0 = m0 at hstart
      have Hm0 := hid_ hm0; clear hm0
      have Hst := hid_ hstart; clear hstart
      go_wp2
      go_loop [7, 8] (fun m i => ∃ j : Nat, j ≤ n ∧ i = .int .i64 j ∧ m = .bool (markAt F o k j)) (fun _ i => n - (intOf i).toNat)
      case atStart => exact ⟨0, Nat.zero_le _, rfl, by rw [Hm0.out, ← Hst.out]⟩
      case round =>
        obtain ⟨j, hj, rfl, rfl⟩ := hrel
        by_cases hlt2 : j < n
        · obtain ⟨b, off, a1, n1, c1, rfl, hb, hcell, hrow⟩ := h.cells j hlt2
          have hl : j < F.length := by rw [h.len]; exact hlt2
          have Hms : Hid (markAt F o k (j + 1) = (markAt F o k j || ((ends o (F.getD j [])).2 == (k : Int)))) := hid_ (markAt_snoc hl)
          generalize hr : F.getD j [] = r at hrow Hms
          have Hr := hid_ hr; clear hr
          have hec := ends_calls _ _ _ _ _ _ _ _ w h' hrow
          generalize ends o r = p at hec Hms
          obtain ⟨f, l⟩ := p
          simp only at hec Hms
          have Hec := hid_ hec; clear hec
          cases hmj : markAt F o k j with
          | true =>
            have Hf : Hid (markAt F o k (j + 1) = true) := hid_ (by rw [Hms.out, hmj]; rfl)
            clear Hms hmj
            go_wp2_with (go_at_call 102; refine Hec.out.mono ?_; rintro e w' ⟨rfl, rfl⟩)
            go_round
            case rel => exact ⟨j + 1, by omega, by go_num, by rw [Hf.out]⟩
            case measure => simp [intOf]; omega
          | false =>
            cases hq : (l == (k : Int)) with
            | true =>
              have Hf : Hid (markAt F o k (j + 1) = true) := hid_ (by rw [Hms.out, hmj]; exact hq)
              clear Hms hmj
              go_wp2_with (go_at_call 102; refine Hec.out.mono ?_; rintro e w' ⟨rfl, rfl⟩)
              go_round
              case rel => exact ⟨j + 1, by omega, by go_num, by rw [Hf.out]⟩
              case measure => simp [intOf]; omega
            | false =>
              have Hf : Hid (markAt F o k (j + 1) = false) := hid_ (by rw [Hms.out, hmj]; exact hq)
              clear Hms hmj
              go_wp2_with (go_at_call 102; refine Hec.out.mono ?_; rintro e w' ⟨rfl, rfl⟩)
              go_round
              case rel => exact ⟨j + 1, by omega, by go_num, by rw [Hf.out]⟩
              case measure => simp [intOf]; omega
        · obtain rfl : j = n := by omega
          have Hfl : Hid (F.length = j) := hid_ h.len
          cases hmn : markAt F o k j with
          | true =>
            have Hf : Hid (marksTo F o (k + 1) = s + 1) := hid_ (by rw [Hnext.out, Hfl.out, hmn]; rfl)
            clear Hnext
            go_wp2
            go_round
            case rel => exact ⟨k + 1, by omega, by go_num, by rw [Hf.out]; go_num⟩
            case measure => simp [intOf]; omega
          | false =>
            have Hf : Hid (marksTo F o (k + 1) = s) := hid_ (by rw [Hnext.out, Hfl.out, hmn]; rfl)
            clear Hnext
            go_wp2
            go_round
            case rel => exact ⟨k + 1, by omega, by go_num, by rw [Hf.out]⟩
            case measure => simp [intOf]; omega
    · obtain rfl : k = n' := by omega
      go_wp2
      go_ret
      exact ⟨by rw [Hend.out]; rfl, rfl⟩
end Go.Proofs.Ytoopgmoopmbfnaa
