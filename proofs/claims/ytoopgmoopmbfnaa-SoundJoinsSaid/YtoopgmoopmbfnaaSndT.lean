import Derived.Test.YtoopgmoopmbfnaaSndP
import Derived.Test.YtoopgmoopmbfnaaKitC
namespace Go.Proofs.Ytoopgmoopmbfnaa
open Go.RowKit Go.Proofs.Kv Go.Proofs.Snd

/-! ### rowEnds -/
def endsN (L : List (List Int)) (k : Nat) : List Nat := (List.range k).map fun i => (L.take (i + 1)).flatten.length
def endsI (L : List (List Int)) (k : Nat) : List Int := (endsN L k).map fun x : Nat => (x : Int)
theorem endsN_snoc (L : List (List Int)) (k : Nat) : endsN L (k + 1) = endsN L k ++ [(L.take (k + 1)).flatten.length] := by simp [endsN, List.range_succ]
theorem endsI_snoc (L : List (List Int)) (k : Nat) : endsI L (k + 1) = endsI L k ++ [((L.take (k + 1)).flatten.length : Int)] := by simp [endsI, endsN_snoc]
theorem endsI_len (L : List (List Int)) (k : Nat) : (endsI L k).length = k := by simp [endsI, endsN]
set_option maxRecDepth 100000 in
theorem rowEnds_calls (a : Option Addr) (n c : Nat) (L : List (List Int)) (w : World) (h : ListsAt w a n c L) (hs : L.flatten.length ≤ 100000) (hn : n ≤ 1000) :
    Calls Try.prog 69 #[.slice a n c] w fun e w' => ∃ v, e = .returned v ∧ Made 3 w w' v (endsI L n) := by
  obtain ⟨i0, hi0, hz0, hz1, hz2⟩ := info_parts Try.infoInt
  go_enter Try.func69, Try.ntmps69
  go_wp2
  go_loopw [3, 4, 9] (fun v s i wr => ∃ k : Nat, k ≤ n ∧ i = .int .i64 k ∧ s = .int .i64 ((L.take k).flatten.length : Nat) ∧ wr.ownsRow w.heap.size 3 1 v k ((endsI L k).map (Value.int .i64)) ∧ Below w.heap.size w wr) (fun _ _ i _ => n - (intOf i).toNat)
  case atStart => exact ⟨0, Nat.zero_le _, rfl, rfl, World.ownsRow_nil _ _ _ _, Below.refl _ _⟩
  case round =>
    obtain ⟨k, hk, rfl, rfl, hown, hbel⟩ := hrel
    by_cases hlt : k < n
    · obtain ⟨b, off, a', n', c', rfl, hb, hcell, hrow⟩ := (h.below hbel (Nat.le_refl _)).cells k hlt
      have hf := flat_take_len (L := L) (k := k) (by rw [h.len]; exact hlt)
      rw [hrow.len] at hf
      have hle := flat_take_le L (k + 1)
      have Hs := hid_ (endsI_snoc L k)
      have hns : IntKind.i64.wrap (((L.take k).flatten.length : Nat) + (n' : Int)) = ((L.take (k + 1)).flatten.length : Nat) := by
        rw [IntWalk.i64_in _ (by omega)]; omega
      have hsz := hbel.size
      have hkk : k + 1 ≤ 1000000 := by omega
      have hfz : (((L.take k).flatten.length : Nat) : Int) + (n' : Int) = ((L.take (k + 1)).flatten.length : Nat) := by omega
      have Hfz := hid_ hfz
      have hp1 : (L.take k).flatten.length ≤ 100000 := by have := flat_take_le L k; omega
      have hp2 : n' ≤ 100000 := by omega
      clear hf hle hns hfz
      generalize (L.take k).flatten.length = p at Hfz hp1
      generalize hpp : (L.take (k + 1)).flatten.length = p' at Hfz Hs
      have Hpp := hid_ hpp
      clear hpp
      go_wp2_with (at_builtin; refine wpList_append_ints _ rfl (.tmp 17) (.tmp 19) _ rfl w.heap.size 3 i0 Try.underlying23 hi0 hz0 hz1 hz2 _ k (endsI L k) rfl (hown.alloc _) _ 1 1 [(p : Int) + n'] rfl (IntsAt.one wr ((p : Int) + n') 3) hkk (le_alloc hsz) ?_; intro v' w1 hown1 hg1 hat1)
      go_roundw
      case rel => exact ⟨k + 1, by omega, by go_num, by rw [Hpp.out, Hfz.out], by rw [Hs.out, ← Hfz.out]; exact hown1, (hbel.alloc hsz _).grown hg1 (le_alloc hsz) fun r e => (hown.lt r e).1⟩
      case measure => simp [intOf]; omega
    · obtain rfl : k = n := by omega
      go_wp2
      go_ret
      exact ⟨_, rfl, by rw [endsI_len]; exact hown, hbel⟩

/-! ### cut -/
set_option maxRecDepth 100000 in
theorem cut_calls (b off n c : Nat) (l : List Int) (a' : Option Addr) (n' c' : Nat) (N : List Nat) (w : World) (h : IntsAt w (some ⟨b, off, none⟩) n c l) (h' : IntsAt w a' n' c' (N.map fun x : Nat => (x : Int))) (ha : Asc n 0 N) (hn : n' ≤ 1000) :
    Calls Try.prog 70 #[.slice (some ⟨b, off, none⟩) n c, .slice a' n' c'] w fun e w' => ∃ v, e = .returned v ∧ w'.ownsRow w.heap.size 23 1 v N.length (cutV b off 0 N) ∧ Below w.heap.size w w' := by
  obtain ⟨i0, hi0, hz0, hz1, hz2⟩ := info_parts Try.infoInts
  have hnc := h.le
  have hc9 := h.small
  have hNl : N.length = n' := by simpa using h'.len
  have Hat := hid_ (asc_at ha)
  clear h ha
  go_enter Try.func70, Try.ntmps70
  go_wp2
  go_loopw [5, 6, 11] (fun v f i wr => ∃ k : Nat, k ≤ n' ∧ i = .int .i64 k ∧ f = .int .i64 (lastF 0 (N.take k)) ∧ wr.ownsRow w.heap.size 23 1 v k (cutV b off 0 (N.take k)) ∧ Below w.heap.size w wr) (fun _ _ i _ => n' - (intOf i).toNat)
  case atStart => exact ⟨0, Nat.zero_le _, rfl, rfl, World.ownsRow_nil _ _ _ _, Below.refl _ _⟩
  case round =>
    obtain ⟨k, hk, rfl, rfl, hown, hbel⟩ := hrel
    by_cases hlt : k < n'
    · obtain ⟨b1, off1, rfl, hb1, hc1⟩ := (h'.below hbel (Nat.le_refl _)).cells k hlt
      obtain ⟨g1, g2⟩ := Hat.out k (by omega)
      have hkN : k < N.length := by omega
      have hcast : (N.map fun x : Nat => (x : Int)).getD k 0 = (N.getD k 0 : Nat) := by simp [List.getD, List.getElem?_eq_getElem hkN]
      rw [hcast] at hc1
      have Hsn : Hid (cutV b off 0 (N.take (k + 1)) = cutV b off 0 (N.take k) ++ [.slice (some ⟨b, off + lastF 0 (N.take k), none⟩) (N.getD k 0 - lastF 0 (N.take k)) (N.getD k 0 - lastF 0 (N.take k))]) := hid_ (by
        rw [Kv.take_snoc N 0 k hkN, cutV_snoc])
      have Hl : Hid (lastF 0 (N.take (k + 1)) = N.getD k 0) := hid_ (by rw [Kv.take_snoc N 0 k hkN, lastF_snoc])
      have hsz := hbel.size
      have hkk : k + 1 ≤ 1000000 := by omega
      clear hcast hkN hNl
      generalize lastF 0 (N.take k) = f at g1 Hsn
      generalize N.getD k 0 = e at g1 g2 hc1 Hsn Hl
      have hq1 : f ≤ e := by omega
      have hq2 : e ≤ c := by omega
      have hq3 : ¬ c = f := by omega
      have hq4 : ¬ e = f := by omega
      go_wp2_with (at_builtin; refine wpList_push_val _ rfl (.tmp 15) (.tmp 21) _ rfl w.heap.size 23 i0 Try.underlying22 hi0 hz0 rfl hz1 hz2 (by omega) _ k _ rfl hown (.slice (some ⟨b, off + f, none⟩) (e - f) (e - f)) rfl 23 rfl hkk hsz ?_; intro v' w1 hown1 hg1)
      go_roundw
      case rel => exact ⟨k + 1, by omega, by go_num, by rw [Hl.out], by rw [Hsn.out]; exact hown1, (hbel.alloc hsz _).grown hg1 (le_alloc hsz) fun r e => (hown.lt r e).1⟩
      case measure => simp [intOf]; omega
    · obtain rfl : k = n' := by omega
      rw [List.take_of_length_le (by omega)] at hown
      go_wp2
      go_ret
      exact ⟨_, rfl, by rw [hNl]; exact hown, hbel⟩
end Go.Proofs.Ytoopgmoopmbfnaa
