import Derived.Test.YtoopgmoopmbfnaaRefF
import Derived.Laws.StructEq
namespace Go.Proofs.Ytoopgmoopmbfnaa
open Go.RowKit Go.Proofs.Kv Go.Proofs.Snd

theorem eqName (x x' y y' : Int) (W : World) : (Op.equalIn 10000 71 (.agg #[.int .i64 x, .int .i64 y]) (.agg #[.int .i64 x', .int .i64 y'])).run Try.prog W = .ok (x == x' && y == y') W := by
  have u3 := Try.underlying3
  have a3 : ∀ w, (isAgg 3).run Try.prog w = .ok false w := fun w => by kernel_rfl
  have z3 : ∀ w, (sizeOf 3).run Try.prog w = .ok 1 w := fun w => by kernel_rfl
  have hS : Try.prog.underlying 71 = some (.struct (Try.prog.fieldsOf 71)) := by kernel_rfl
  have hp : Try.prog.stoodInHeld 71 = false := by kernel_rfl
  rw [show (10000 : Nat) = 9999 + 1 from rfl, run_equalIn_agg W 9999 71 _ _ hS hp]
  simp only [Program.fieldsOf, Try.underlying71]
  go_simp
  by_cases h1 : x = x' <;> by_cases h2 : y = y' <;> simp [h1, h2]
theorem neqName (x x' y y' : Int) (W : World) : (binOp .neq 71 (.agg #[.int .i64 x, .int .i64 y]) (.agg #[.int .i64 x', .int .i64 y'])).run Try.prog W = .ok (.bool (!(x == x' && y == y'))) W := by
  rw [run_neq_struct, eqName]; rfl

/-! ### SameNames -/
def SameN (l m : List (Int × Int)) : Bool := decide (l = m)
theorem ext_getDP {l m : List (Int × Int)} {n : Nat} (h1 : l.length = n) (h2 : m.length = n) (h : ∀ j, j < n → l.getD j (0, 0) = m.getD j (0, 0)) : l = m := by
  refine List.ext_getElem (by omega) fun i h3 h4 => ?_
  have := h i (by omega)
  simpa [List.getD, List.getElem?_eq_getElem h3, List.getElem?_eq_getElem h4] using this

/-! ### names -/
theorem Try.infoName : (Try.prog.info? 71).map (fun i => (i.zero, i.size, i.bytes)) = some (some (.agg #[.int .i64 0, .int .i64 0]), 2, 16) := by kernel_rfl
def partFor (r s : Int) (j : Nat) : List (Int × Int) := ((List.range j).filter fun i : Nat => decide (0 ≤ r) && decide (r ≤ (i : Int))).map fun i : Nat => (s, (i : Int))
def namesFor (L : List (List Int)) (s : Int) : List (Int × Int) := partFor (rowTo L s) s L.length
def namesTo (L : List (List Int)) (k : Nat) : List (Int × Int) := (six.take k).flatMap (namesFor L)
def namesR (L : List (List Int)) : List (Int × Int) := six.flatMap (namesFor L)
theorem partFor_le (r s : Int) (j : Nat) : (partFor r s j).length ≤ j := by
  unfold partFor
  rw [List.length_map]
  exact Nat.le_trans (List.length_filter_le _ _) (by simp)
theorem namesTo_le (L : List (List Int)) (k : Nat) (hk : k ≤ 6) : (namesTo L k).length ≤ k * L.length := by
  induction k with
  | zero => simp [namesTo]
  | succ k ih =>
    have := ih (by omega)
    rw [namesTo, six_take (by omega), List.flatMap_append, List.length_append, Nat.succ_mul]
    have h2 := partFor_le (rowTo L k) k L.length
    simp only [List.flatMap_cons, List.flatMap_nil, List.append_nil]
    unfold namesTo at this
    unfold namesFor at *
    omega
theorem partFor_start {r s : Int} {j : Nat} (h : (j : Int) ≤ r) : partFor r s j = [] := by
  unfold partFor
  rw [List.map_eq_nil_iff, List.filter_eq_nil_iff]
  intro i hi
  simp at hi ⊢
  omega
theorem partFor_no {r s : Int} {j : Nat} (h : r < 0) : partFor r s j = [] := by
  unfold partFor
  rw [List.map_eq_nil_iff, List.filter_eq_nil_iff]
  intro i hi
  simp
  omega
theorem partFor_snoc {r s : Int} {j : Nat} (h0 : 0 ≤ r) (h : r ≤ (j : Int)) : partFor r s (j + 1) = partFor r s j ++ [(s, (j : Int))] := by
  unfold partFor
  rw [List.range_succ, List.filter_append, List.map_append]
  simp [h0, h]
theorem namesTo_snoc (L : List (List Int)) {k : Nat} (hk : k < 6) : namesTo L (k + 1) = namesTo L k ++ namesFor L k := by
  rw [namesTo, six_take hk, List.flatMap_append]; simp [namesTo]
theorem rowTo_lt (L : List (List Int)) (x : Int) : rowTo L x < L.length ∧ -1 ≤ rowTo L x := by
  unfold rowTo; split <;> omega

set_option maxRecDepth 100000 in
theorem names_calls (a : Option Addr) (n c : Nat) (L : List (List Int)) (w : World) (h : ListsAt w a n c L) (hs : n ≤ 100) :
    Calls Try.prog 109 #[.slice a n c] w fun e w' => ∃ v, e = .returned v ∧ MadeP 71 w w' v (namesR L) := by
  obtain ⟨i0, hi0, hz0, hz1, hz2⟩ := info_parts Try.infoName
  have Hlen : Hid (L.length = n) := hid_ h.len
  go_enter Try.func109, Try.ntmps109
  go_wp2
  go_loopw [3, 4] (fun v i wr => ∃ k : Nat, k ≤ 6 ∧ i = .int .i64 k ∧ wr.ownsRow w.heap.size 71 2 v (namesTo L k).length ((namesTo L k).flatMap encN) ∧ Below w.heap.size w wr) (fun _ i _ => 6 - (intOf i).toNat)
  case atStart => exact ⟨0, by omega, rfl, World.ownsRow_nil _ _ _ _, Below.refl _ _⟩
  case round =>
    obtain ⟨k, hk, rfl, hown, hbel⟩ := hrel
    have hsz := hbel.size
    by_cases hlt : k < 6
    · have hI := h.below hbel (Nat.le_refl _)
      have hle := namesTo_le L k hk
      rw [h.len] at hle
      have Hnext := hid_ (namesTo_snoc L hlt)
      have Hle : Hid ((namesTo L k).length ≤ 600) := hid_ (by
        have : k * n ≤ 6 * 100 := Nat.mul_le_mul hk hs
        omega)
      clear hle
      generalize namesTo L k = cur at hown Hnext Hle
      have hrow := row_calls a n c L (k : Int) wr hI
      have hrl := rowTo_lt L k
      rw [h.len] at hrl
      have Hfor : Hid (namesFor L k = partFor (rowTo L k) k n) := hid_ (by rw [namesFor, h.len])
      generalize rowTo L k = r at hrow hrl Hfor
      obtain ⟨hr1, hr2⟩ := hrl
      have Hrow := hid_ hrow; clear hrow
      by_cases hr : 0 ≤ r
      · obtain ⟨r', rfl⟩ := Int.eq_ofNat_of_zero_le hr
        go_wp2_with (go_at_call 134; refine Hrow.out.mono ?_; rintro e w' ⟨rfl, rfl⟩)
        obtain ⟨wo, rfl⟩ : ∃ wo : World, wo = wr := ⟨_, rfl⟩
        go_loopw [3, 6] (fun v i wr => ∃ j : Nat, r' ≤ j ∧ j ≤ n ∧ i = .int .i64 j ∧ wr.ownsRow w.heap.size 71 2 v (cur ++ partFor r' k j).length ((cur ++ partFor r' k j).flatMap encN) ∧ Below w.heap.size w wr) (fun _ i _ => n - (intOf i).toNat)
        case atStart => exact ⟨r', by omega, by omega, rfl, by rw [partFor_start (by omega), List.append_nil]; exact hown, hbel⟩
        case round =>
          obtain ⟨j, hj0, hj, rfl, hown2, hbel2⟩ := hrel
          have hsz2 := hbel2.size
          by_cases hlt2 : j < n
          · have Hs := hid_ (partFor_snoc (r := (r' : Int)) (s := (k : Int)) (j := j) (by omega) (by omega))
            have hs1 : (cur ++ partFor r' k j).length + 1 ≤ 1000000 := by
              have h1 := partFor_le r' k j
              have h2 := Hle.out
              rw [List.length_append]; omega
            go_wp2_with (at_builtin; refine wpList_append_pair _ rfl (.tmp 23) (.tmp 27) _ rfl w.heap.size 71 i0 Try.underlying66 hi0 hz0 hz1 hz2 _ _ _ rfl hown2 _ _ _ rfl hs1 hsz2 ?_; intro v' w1 hown1 hg1)
            go_roundw
            case rel => exact ⟨j + 1, by omega, by omega, by go_num, by rw [Hs.out, ← List.append_assoc, List.length_append]; exact hown1, below_app hbel2 hsz2 hown2 hg1⟩
            case measure => simp [intOf]; omega
          · obtain rfl : j = n := by omega
            go_wp2
            go_roundw
            case rel => exact ⟨k + 1, by omega, by go_num, by rw [Hnext.out, Hfor.out]; exact hown2, hbel2⟩
            case measure => simp [intOf]; omega
      · go_wp2_with (go_at_call 134; refine Hrow.out.mono ?_; rintro e w' ⟨rfl, rfl⟩)
        go_roundw
        case rel => exact ⟨k + 1, by omega, by go_num, by rw [Hnext.out, Hfor.out, partFor_no (by omega), List.append_nil]; exact hown, hbel⟩
        case measure => simp [intOf]; omega
    · obtain rfl : k = 6 := by omega
      go_wp2
      go_ret
      exact ⟨_, rfl, hown, hbel⟩
end Go.Proofs.Ytoopgmoopmbfnaa
