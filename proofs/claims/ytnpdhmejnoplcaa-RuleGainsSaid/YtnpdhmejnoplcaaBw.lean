import Derived.Test.YtnpdhmejnoplcaaRf
import Derived.Test.YtnpdhmejnoplcaaKc
import Derived.Shelf.Abstract
import Derived.Shelf.RegionOpen
import Derived.OwnWalkIn
import Derived.TacticsInMore
import Derived.LoopNIn
import Derived.LoopIn
import Derived.Sort.LoopGhostIn
namespace Go.Proofs.Ytnpdhmejnoplcaa
open Go.RowKit Go.Proofs.Kv
attribute [local go_sem] Oper.semAt_some

/-- a number of a list, in a word that the walk leaves alone -/
def nth (l : List Int) (i : Nat) : Int := l.getD i 0
theorem backward_calls (a : Option Addr) (n c : Nat) (w : World) :
    Calls Try.prog 179 #[.slice a n c] w fun e w' => e = .returned (.func (.func 198) #[] #[.pointer (some ⟨w.heap.size, 0, none⟩)]) ∧ w' = w.alloc (.cells #[.slice a n c] 22) := by
  go_enter Try.func179, Try.ntmps179
  go_wp2
  go_ret
  exact ⟨rfl, rfl⟩
set_option maxRecDepth 100000 in
set_option maxHeartbeats 1000000 in
theorem backward_iter (p : Addr) (a : Option Addr) (n c : Nat) (l : List Int) (m : Nat) (hn : n ≤ 9223372036854775807) :
    SeqArgs Fence.wide m Try.prog 198 #[.pointer (some p)] (fun k => #[.int .i64 ((n : Int) - 1 - k), .int .i64 (nth l (n - 1 - k))]) n
      (fun W => W.cell? p = some (.slice a n c) ∧ IntsAt W a n c l) := by
  intro y J Jx W hG hY h0
  have HY := hid_ hY; clear hY
  have HG := hid_ hG; clear hG
  have hc0 := (HG.out _ _ h0).1
  have H0 := hid_ h0; clear h0
  have hw0 : IntKind.i64.wrap ((n : Int) - 1) = (n : Int) - 1 := IntWalk.i64_in _ (by omega)
  refine callsIn_of_wp Try.func198 rfl trivial ?_ rfl
  simp only [Try.ntmps198, List.size_toArray, List.length_cons, List.length_nil, Nat.reduceAdd, Nat.reduceSub, Array.replicate_succ, Array.replicate_zero, List.push_toArray, List.append_toArray, List.nil_append, List.cons_append]
  gi_wp2
  clear hc0
  gi_loopg [3] n (fun g i wr => ∃ k : Nat, k ≤ n ∧ i = .int .i64 ((n : Int) - 1 - k) ∧ g = n - k ∧ J k wr)
  case atStart => exact ⟨0, Nat.zero_le _, by simp, by omega, H0.out⟩
  case round =>
    obtain ⟨k, hk, rfl, hgk, hJ⟩ := hrel
    have Hgk := hid_ hgk; clear hgk
    by_cases hlt : k < n
    · obtain ⟨fn, tmps, assign, body, hy, hround⟩ := HY.out k wr hJ hlt
      obtain ⟨hp, hI⟩ := HG.out _ _ hJ
      have hi0 : (0 : Int) ≤ (n : Int) - 1 - k := by omega
      have hi1 : (n : Int) - 1 - k < (n : Int) := by omega
      have hi2 : ((n : Int) - 1 - k).toNat = n - 1 - k := by omega
      obtain ⟨b, off, rfl, hb, hcell⟩ := hI.cells (n - 1 - k) (by omega)
      have hw1 : IntKind.i64.wrap ((n : Int) - 1 - k - 1) = (n : Int) - 1 - k - 1 := IntWalk.i64_in _ (by omega)
      have hw2 : Hid ((n : Int) - 1 - k - 1 = (n : Int) - 1 - (k + 1 : Nat)) := hid_ (by omega)
      have HI := hid_ hI; clear hI
      have HJ := hid_ hJ; clear hJ
      have Hround := hid_ hround; clear hround
      rw [show l.getD (n - 1 - k) 0 = nth l (n - 1 - k) from rfl] at hcell
      generalize nth l (n - 1 - k) = z at hcell hy
      gi_wp2
      refine ⟨fun h => absurd h (by simp [Fence.wide]), Hround.out.mono ?_⟩
      rintro e W3 (⟨rfl, hJ3⟩ | ⟨rfl, hJx3⟩)
      · have HJ3 := hid_ hJ3; clear hJ3
        clear hp hcell hy
        gi_wp2
        gi_roundg (n - (k + 1))
        case rel => exact ⟨k + 1, hlt, by rw [← hw2.out], rfl, HJ3.out⟩
        case measure => have := Hgk.out; omega
      · have HJx := hid_ hJx3; clear hJx3
        clear hp hcell hy
        gi_wp2
        exact bodyPost_ret (results_none rfl _ _ _) rfl ⟨⟨_, rfl⟩, .inr ⟨k + 1, by omega, HJx.out⟩⟩
    · obtain rfl : k = n := by omega
      have HJ := hid_ hJ; clear hJ
      gi_wp2
      go_end0
      exact ⟨⟨_, rfl⟩, .inl HJ.out⟩
end Go.Proofs.Ytnpdhmejnoplcaa
