import Derived.Test.YthmnmpglnaegfaaYd
import Derived.Carry
namespace Go.Proofs.Ythmnmpglnaegfaa
open Go.RowKit Go.Proofs.Kv

/-! ### how many readings there are at a place -/
def colR (T : List (List Int)) (p : Nat) : List Int := T.map fun r => r.getD p 0
def diffR (T : List (List Int)) (p : Nat) : Nat := (uq (colR T p)).length
theorem colR_len (T : List (List Int)) (p : Nat) : (colR T p).length = T.length := by simp [colR]
theorem colR_get {T : List (List Int)} {p k : Nat} (hk : k < T.length) : (colR T p).getD k 0 = (T.getD k []).getD p 0 := by simp [colR, List.getD, List.getElem?_eq_getElem hk]
theorem colR_take {T : List (List Int)} {p k : Nat} (hk : k < T.length) : (colR T p).take (k + 1) = (colR T p).take k ++ [(T.getD k []).getD p 0] := by
  rw [take_snoc _ 0 _ (by rw [colR_len]; exact hk), colR_get hk]
theorem colR_mem {T : List (List Int)} (h : GoodT T) {p : Nat} (hp : p < n0 T) {x : Int} (hx : x ∈ colR T p) : 0 ≤ x ∧ x ≤ 2 := by
  obtain ⟨k, hk, rfl⟩ := mem_getD hx
  rw [colR_len] at hk
  rw [colR_get hk]
  exact h.ok k hk p hp
theorem Try.intLaw : Maps.Keyed Try.prog 3 := Maps.int_keyed Try.underlying3
theorem intKey {x : Int} (h : 0 ≤ x ∧ x ≤ 1000) : ∃ l, keyOf Try.prog 3 (.int .i64 x) = some l := ⟨_, Maps.keyOf_int_mk Try.underlying3 (WalkArith.wf_i64 (by omega))⟩
set_option maxRecDepth 100000 in
theorem stdiff_calls (a : Option Addr) (n c : Nat) (T : List (List Int)) (p : Nat) (w : World) (h : ListsAt w a n c T) (g : GoodT T) (hp : p < n0 T) :
    Calls Try.prog 55 #[.slice a n c, .int .i64 (p : Int)] w fun e w' => e = .returned (.int .i64 (diffR T p : Nat)) ∧ Below w.heap.size w w' := by
  have hn : n ≤ 9223372036854775807 := Nat.le_trans h.le h.small
  have Hlen := hid_ h.len
  have hmm := @run_makeMap Try.prog
  have Hg := hid_ g
  have HD : Hid (diffR T p = (uq (colR T p)).length) := hid_ rfl
  have Hall : Hid ((colR T p).take n = colR T p) := hid_ (List.take_of_length_le (by rw [colR_len, h.len]; omega))
  generalize diffR T p = D at *
  clear g
  go_enter Try.func55, Try.ntmps55
  go_wp2
  go_loopw [11] (fun i wr => ∃ k : Nat, k ≤ n ∧ i = .int .i64 k ∧ KeysAt (Value.int .i64) wr w.heap.size (uq ((colR T p).take k)) ∧ Below w.heap.size w wr) (fun i _ => n - (intOf i).toNat)
  case atStart => exact ⟨0, Nat.zero_le _, rfl, KeysAt.new _ _, below_alloc _ _⟩
  case round =>
    obtain ⟨k, hk, rfl, hks, hb⟩ := hrel
    have Hks := hid_ hks; have Hb := hid_ hb
    by_cases hlt : k < n
    · obtain ⟨b, off, a1, n1, c1, rfl, hb', hcell, hrow⟩ := (h.below hb (Nat.le_refl _)).cells k hlt
      have hl : k < T.length := by rw [Hlen.out]; exact hlt
      have hpn : p < n1 := by rw [← hrow.len, Hg.out.len k hl]; exact hp
      have hrl := Nat.le_trans hrow.le hrow.small
      obtain ⟨b1, off1, rfl, hb1, hcell1⟩ := hrow.cells p hpn
      have hy := Hg.out.ok k hl p hp
      have Ht := hid_ (@colR_take T p k hl)
      have Hin := hid_ (fun z hz => @colR_mem T Hg.out p hp z hz)
      clear hrow hks hb
      generalize (T.getD k []).getD p 0 = y at *
      go_wp2_with (at_mapUpdate; refine wpList_keys_store rfl (.tmp 15) (.tmp 19) (.const (.bool true)) rfl Try.intLaw Try.underlying94 w.heap.size _ rfl Hks.out y rfl (fun z hz => ?_) (fun z _ e => by injection e) ?_; rotate_left; intro w2 hks2 hg2)
      · go_roundw
        case rel => exact ⟨k + 1, by omega, by go_num, by rw [Ht.out, uq_snoc]; exact hks2, Hb.out.grown hg2 Hb.out.size (fun r e => by injection e with e; omega)⟩
        case measure => simp [intOf]; omega
      · rcases hz with hz | rfl
        · have := Hin.out z (List.mem_of_mem_take (mem_uq.1 hz)); exact intKey (by omega)
        · exact intKey (by omega)
    · obtain rfl : n = k := by omega
      rw [Hall.out] at Hks
      go_wp2_with (at_len; refine wpList_keys_len rfl (.tmp 21) rfl Try.underlying94 w.heap.size _ rfl Hks.out ?_)
      go_ret
      exact ⟨by rw [HD.out]; rfl, Hb.out⟩
end Go.Proofs.Ythmnmpglnaegfaa
