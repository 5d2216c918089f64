import Derived.Test.YtoopgmoopmbfnaaProg
import Derived.Test.YtoopgmoopmbfnaaKit
import Derived.Test.YtoopgmoopmbfnaaMath
namespace Go.Proofs.Ytoopgmoopmbfnaa
open Go.RowKit Go.Proofs.Kv Go.Proofs.Snd

def Has (l : List Int) (x : Int) : Bool := l.contains x
theorem Has_iff {l : List Int} {x : Int} : Has l x = true ↔ x ∈ l := by simp [Has]
def Within (n lo hi : Int) : Bool := decide (lo ≤ n) && decide (n ≤ hi)
def Same (l m : List Int) : Bool := decide (l = m)

theorem within_calls (n lo hi : Int) (w : World) :
    Calls Try.prog 72 #[.int .i64 n, .int .i64 lo, .int .i64 hi] w fun e w' => e = .returned (.bool (Within n lo hi)) ∧ w = w' := by
  by_cases h1 : lo ≤ n
  · by_cases h2 : n ≤ hi
    · have H : Hid (Within n lo hi = true) := by simp [Hid, Within, h1, h2]
      go_enter Try.func72, Try.ntmps72
      go_wp2
      go_ret
      exact ⟨retB H.out, rfl⟩
    · have H : Hid (Within n lo hi = false) := by simp [Hid, Within, h2]
      go_enter Try.func72, Try.ntmps72
      go_wp2
      go_ret
      exact ⟨retB H.out, rfl⟩
  · have H : Hid (Within n lo hi = false) := by simp [Hid, Within, h1]
    go_enter Try.func72, Try.ntmps72
    go_wp2
    go_ret
    exact ⟨retB H.out, rfl⟩

theorem has_calls (a : Option Addr) (n c : Nat) (l : List Int) (x : Int) (w : World) (h : IntsAt w a n c l) :
    Calls Try.prog 92 #[.slice a n c, .int .i64 x] w fun e w' => e = .returned (.bool (Has l x)) ∧ w = w' := by
  have hn : n ≤ 9223372036854775807 := Nat.le_trans h.le h.small
  go_enter Try.func92, Try.ntmps92
  go_wp2
  go_loop [5] (fun i => ∃ k : Nat, k ≤ n ∧ i = .int .i64 k ∧ ∀ j, j < k → l.getD j 0 ≠ x) (fun i => n - (intOf i).toNat)
  case atStart => exact ⟨0, Nat.zero_le _, rfl, fun _ h => absurd h (by omega)⟩
  case round =>
    obtain ⟨k, hk, rfl, hno⟩ := hrel
    have Hno := hid_ hno; clear hno
    by_cases hlt : k < n
    · obtain ⟨b, off, rfl, hb, hcell⟩ := h.cells k hlt
      generalize hy : l.getD k 0 = y at hcell
      have Hy := hid_ hy; clear hy
      by_cases he : y = x
      · have hq : (y == x) = true := by simpa using he
        have He := hid_ he; clear he
        have Hf : Hid (Has l x = true) := by
          refine hid_ (Has_iff.2 ?_)
          rw [← He.out, ← Hy.out]
          exact getD_mem (by rw [h.len]; exact hlt)
        go_wp2
        go_ret
        exact ⟨retB Hf.out, rfl⟩
      · have hq : (y == x) = false := by simpa using he
        have He := hid_ he; clear he
        go_wp2
        go_round
        case rel => exact ⟨k + 1, by omega, by go_num, lt_snoc Hno.out (by rw [Hy.out]; exact He.out)⟩
        case measure => simp [intOf]; omega
    · have HH : Hid (Has l x = false) := by
        refine hid_ (Bool.eq_false_iff.2 fun hc => ?_)
        obtain ⟨i, hi, hx⟩ := mem_getD (Has_iff.1 hc)
        exact Hno.out i (by have := h.len; omega) hx
      go_wp2
      go_ret
      exact ⟨retB HH.out, rfl⟩

theorem has_as {a : Option Addr} {n c : Nat} {l : List Int} {x : Int} {w : World} {b : Bool} (h : IntsAt w a n c l) (hb : Has l x = b) :
    Calls Try.prog 92 #[.slice a n c, .int .i64 x] w fun e w' => e = .returned (.bool b) ∧ w = w' := by subst hb; exact has_calls a n c l x w h

theorem same_calls (a : Option Addr) (n c : Nat) (l : List Int) (a' : Option Addr) (n' c' : Nat) (l' : List Int) (w : World) (h : IntsAt w a n c l) (h' : IntsAt w a' n' c' l') :
    Calls Try.prog 41 #[.slice a n c, .slice a' n' c'] w fun e w' => e = .returned (.bool (Same l l')) ∧ ∃ q, w' = w.drewN q := by
  have hn : n ≤ 9223372036854775807 := Nat.le_trans h.le h.small
  by_cases hnn : n = n'
  · subst hnn
    have hb1 : ((n : Int) != (n : Int)) = false := by simp
    go_enter Try.func41, Try.ntmps41
    go_wp2
    go_loopw [5] (fun i wr => ∃ k q : Nat, k ≤ n ∧ i = .int .i64 k ∧ wr = w.drewN q ∧ ∀ j, j < k → l.getD j 0 = l'.getD j 0) (fun i _ => n - (intOf i).toNat)
    case atStart => exact ⟨0, 0, Nat.zero_le _, rfl, rfl, fun _ h => absurd h (by omega)⟩
    case round =>
      obtain ⟨k, q, hk, rfl, rfl, hall⟩ := hrel
      have Hall := hid_ hall; clear hall
      by_cases hlt : k < n
      · obtain ⟨b, off, rfl, hb, hcell⟩ := h.cells k hlt
        obtain ⟨b', off', rfl, hb', hcell'⟩ := h'.cells k hlt
        generalize hy : l.getD k 0 = y at hcell
        have Hy := hid_ hy; clear hy
        generalize hy' : l'.getD k 0 = y' at hcell'
        have Hy' := hid_ hy'; clear hy'
        by_cases he : y = y'
        · have hq : (y != y') = false := by simpa using he
          have He := hid_ he; clear he
          go_wp2
          go_quiet (fail)
          go_wp2
          go_roundw
          case rel => exact ⟨k + 1, _, by omega, by go_num, rfl, lt_snoc Hall.out (by rw [Hy.out, Hy'.out]; exact He.out)⟩
          case measure => simp [intOf]; omega
        · have hq : (y != y') = true := by simpa using he
          have Hf : Hid (Same l l' = false) := by
            refine hid_ (decide_eq_false fun e => he ?_)
            rw [← Hy.out, ← Hy'.out, e]
          have He := hid_ he; clear he
          go_wp2
          go_quiet (fail)
          go_wp2
          go_ret
          exact ⟨retB Hf.out, _, drewN2 _ _ _⟩
      · have Hf : Hid (Same l l' = true) := hid_ (decide_eq_true (ext_getD h.len h'.len fun j hj => Hall.out j (by omega)))
        go_wp2
        go_ret
        exact ⟨retB Hf.out, _, rfl⟩
  · have hb1 : ((n : Int) != (n' : Int)) = true := by simp; omega
    have Hf : Hid (Same l l' = false) := hid_ (decide_eq_false fun e => hnn (by rw [← h.len, ← h'.len, e]))
    have Hn := hid_ hnn; clear hnn
    go_enter Try.func41, Try.ntmps41
    go_wp2
    go_ret
    exact ⟨retB Hf.out, 0, rfl⟩

theorem Try.infoInt : (Try.prog.info? 3).map (fun i => (i.zero, i.size, i.bytes)) = some (some (.int .i64 0), 1, 8) := by kernel_rfl

def srt (l : List Int) (k : Nat) : List Int := (six.take k).filter (Has l)
theorem srt_le (l : List Int) (k : Nat) : (srt l k).length ≤ 6 := Nat.le_trans (List.length_filter_le _ _) (by rw [List.length_take]; simp [six]; omega)
theorem six_at {k : Nat} (h : k < 6) : six.getD k 0 = (k : Int) := by
  match k, h with
  | 0, _ => rfl
  | 1, _ => rfl
  | 2, _ => rfl
  | 3, _ => rfl
  | 4, _ => rfl
  | 5, _ => rfl
theorem six_take {k : Nat} (h : k < 6) : six.take (k + 1) = six.take k ++ [(k : Int)] := by rw [take_snoc six 0 k h, six_at h]
theorem srt_hit {l : List Int} {k : Nat} (h : k < 6) (hh : Has l k = true) : srt l (k + 1) = srt l k ++ [(k : Int)] := by simp [srt, six_take h, List.filter_append, hh]
theorem srt_miss {l : List Int} {k : Nat} (h : k < 6) (hh : Has l k = false) : srt l (k + 1) = srt l k := by simp [srt, six_take h, List.filter_append, hh]
theorem srt_all (l : List Int) : srt l 6 = sorted l := rfl

set_option maxRecDepth 100000 in
theorem sorted_calls (a : Option Addr) (n c : Nat) (l : List Int) (w : World) (h : IntsAt w a n c l) :
    Calls Try.prog 75 #[.slice a n c] w fun e w' => ∃ v, e = .returned v ∧ Made 3 w w' v (sorted l) := by
  obtain ⟨i0, hi0, hz0, hz1, hz2⟩ := info_parts Try.infoInt
  go_enter Try.func75, Try.ntmps75
  go_wp2
  go_loopw [3, 4] (fun v i wr => ∃ k : Nat, k ≤ 6 ∧ i = .int .i64 k ∧ wr.ownsRow w.heap.size 3 1 v (srt l k).length ((srt l k).map (Value.int .i64)) ∧ Below w.heap.size w wr) (fun _ i _ => 6 - (intOf i).toNat)
  case atStart => exact ⟨0, by omega, rfl, World.ownsRow_nil _ _ _ _, Below.refl _ _⟩
  case round =>
    obtain ⟨k, hk, rfl, hown, hbel⟩ := hrel
    have hsz := hbel.size
    by_cases hlt : k < 6
    · have hI := h.below hbel (Nat.le_refl _)
      have hle := srt_le l k
      have hs1 : (srt l k).length + 1 ≤ 1000000 := by omega
      by_cases hh : Has l k = true
      · go_wp2_with (first
          | (go_at_call 92; refine (has_calls _ _ _ _ _ _ hI).mono ?_; rintro e w' ⟨rfl, rfl⟩)
          | (at_builtin; refine wpList_append_ints _ rfl (.tmp 12) (.tmp 14) _ rfl w.heap.size 3 i0 Try.underlying23 hi0 hz0 hz1 hz2 _ _ _ rfl (hown.alloc _) _ _ _ _ rfl (IntsAt.one _ _ _) hs1 (le_alloc hsz) ?_; intro v' w1 hown1 hg1 hat1))
        go_roundw
        case rel => exact ⟨k + 1, by omega, by go_num, by rw [srt_hit hlt hh]; simpa using hown1, below_app hbel hsz hown hg1⟩
        case measure => simp [intOf]; omega
      · have hh : Has l k = false := by simpa using hh
        go_wp2_with (go_at_call 92; refine (has_calls _ _ _ _ _ _ hI).mono ?_; rintro e w' ⟨rfl, rfl⟩)
        go_roundw
        case rel => exact ⟨k + 1, by omega, by go_num, by rw [srt_miss hlt hh]; exact hown, hbel⟩
        case measure => simp [intOf]; omega
    · obtain rfl : k = 6 := by omega
      go_wp2
      go_ret
      exact ⟨_, rfl, hown, hbel⟩

end Go.Proofs.Ytoopgmoopmbfnaa
