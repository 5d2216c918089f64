import Derived.Test.YtdnlpikfibdjoaaYmg
import Derived.Shelf.Abstract
namespace Go.Proofs.Ytdnlpikfibdjoaa
open Go.RowKit Go.Proofs.Kv Go

/-! ### standTogether -/
def stB (T : List (List Int)) (s : List Int) : Bool := (List.range s.length).all fun i => fitsS T (s.take i) (s.getD i 0).toNat
theorem stB_app (T : List (List Int)) (s : List Int) (x : Int) : stB T (s ++ [x]) = (stB T s && fitsS T s x.toNat) := by
  unfold stB
  rw [List.length_append, List.length_singleton, List.range_succ, List.all_append]
  have h1 : ((List.range s.length).all fun i => fitsS T ((s ++ [x]).take i) ((s ++ [x]).getD i 0).toNat) = (List.range s.length).all fun i => fitsS T (s.take i) (s.getD i 0).toNat := by
    rw [Bool.eq_iff_iff, List.all_eq_true, List.all_eq_true]
    have key : ∀ i, i < s.length → fitsS T ((s ++ [x]).take i) ((s ++ [x]).getD i 0).toNat = fitsS T (s.take i) (s.getD i 0).toNat := fun i hi => by
      rw [List.take_append_of_le_length (by omega)]
      congr 2
      simp [List.getD, List.getElem?_append_left hi]
    exact ⟨fun h i hi => by rw [← key i (List.mem_range.1 hi)]; exact h i hi, fun h i hi => by rw [key i (List.mem_range.1 hi)]; exact h i hi⟩
  rw [h1]
  have h2 : (s ++ [x]).take s.length = s := List.take_left' rfl
  have h3 : (s ++ [x]).getD s.length 0 = x := by simp [List.getD]
  simp only [List.all_cons, List.all_nil, Bool.and_true, h2, h3]
theorem standS_stB (T : List (List Int)) (b : Nat) : ∀ m, standS T m b = stB T (memB m b)
  | 0 => by simp [standS, stB, memB]
  | m + 1 => by
    rw [standS_succ, memB_succ, standS_stB T b m]
    cases b.testBit m with
    | true => rw [if_pos rfl, stB_app, Int.toNat_natCast]; simp
    | false => rw [if_neg (by decide)]; simp
set_option maxRecDepth 100000 in
set_option maxHeartbeats 2000000 in
theorem stand1_calls (tb pb : Nat) (aT : Option Addr) (n c : Nat) (T : List (List Int)) (p q : Nat) (w : World)
    (qt : w.cell? ⟨tb, 0, none⟩ = some (.slice aT n c)) (qp : w.cell? ⟨pb, 0, none⟩ = some (.int .i64 (p : Int))) (hT : ListsAt w aT n c T) (g : GoodT T) (hp : p < n0 T) (hq : q < n0 T) :
    Calls Try.prog 124 #[.int .i64 (q : Int), .pointer (some ⟨tb, 0, none⟩), .pointer (some ⟨pb, 0, none⟩)] w fun e w' => e = .returned (.bool (cfR T p q)) ∧ Below w.heap.size w w' := by
  have HC := hid_ (conflict_calls aT n c T p q w hT g hp hq)
  clear hT g
  go_enter Try.func124, Try.ntmps124
  go_wp2_with (go_at_call 112; (with_reducible refine HC.out.mono ?_); rintro e w2 ⟨rfl, hb⟩)
  go_ret
  exact ⟨rfl, hb⟩
set_option maxRecDepth 100000 in
set_option maxHeartbeats 4000000 in
theorem indexS_calls (tb pb : Nat) (aT : Option Addr) (n c : Nat) (T : List (List Int)) (p : Nat) (a : Option Addr) (k ca : Nat) (s : List Int) (w : World)
    (qt : w.cell? ⟨tb, 0, none⟩ = some (.slice aT n c)) (qp : w.cell? ⟨pb, 0, none⟩ = some (.int .i64 (p : Int))) (hT : ListsAt w aT n c T) (hs : IntsAt w a k ca s) (g : GoodT T) (hp : p < n0 T) (hr : ∀ j, j < k → 0 ≤ s.getD j 0 ∧ s.getD j 0 < n0 T) :
    Calls Try.prog 135 #[.slice a k ca, .func (.func 124) #[] #[.pointer (some ⟨tb, 0, none⟩), .pointer (some ⟨pb, 0, none⟩)]] w fun e w' => ∃ r : Int, e = .returned (.int .i64 r) ∧ decide (0 ≤ r) = s.any (fun x => cfR T p x.toNat) ∧ Below w.heap.size w w' := by
  have hn : k ≤ 9223372036854775807 := Nat.le_trans hs.le hs.small
  have hent : ∀ args W, (callFunc 124 args).run Try.prog W = .ok (.enter 124 args) W := enters_of Try.func124 (by kernel_rfl) rfl
  have hl := hs.len
  have HHi := hid_ (fun j (hj : j < k) (hh : cfR T p (s.getD j 0).toNat = true) => show s.any (fun x => cfR T p x.toNat) = true from List.any_eq_true.2 ⟨_, getD_mem (by omega), hh⟩)
  have HNo := hid_ (fun (hb : ∀ j, j < k → cfR T p (s.getD j 0).toNat = false) => show s.any (fun x => cfR T p x.toNat) = false from List.any_eq_false.2 fun x hx => by
    obtain ⟨j, hj, rfl⟩ := mem_getD hx
    rw [hb j (by omega)]; decide)
  have HL := hid_ hs; have HT := hid_ hT; have Hg := hid_ g; have Hr := hid_ hr
  clear hT hs hr g hl
  generalize s.any (fun x => cfR T p x.toNat) = R at *
  go_enter Try.func135, Try.ntmps135
  go_wp2
  go_loopw [8] (fun i wr => ∃ j : Nat, j ≤ k ∧ i = .int .i64 j ∧ Below w.heap.size w wr ∧ ∀ i, i < j → cfR T p (s.getD i 0).toNat = false) (fun i _ => k - (intOf i).toNat)
  case atStart => exact ⟨0, Nat.zero_le _, rfl, Below.refl _ _, fun _ h => absurd h (by omega)⟩
  case round =>
    obtain ⟨j, hj, rfl, hb, hall⟩ := hrel
    have Hall := hid_ hall; have Hb := hid_ hb
    clear hall
    by_cases hlt : j < k
    · obtain ⟨b, off, rfl, -, hcell⟩ := (HL.out.below hb (Nat.le_refl _)).cells j hlt
      have hrj := Hr.out j hlt
      have hhi := HHi.out j hlt
      have hno := fun hx => lt_snoc (p := fun j => cfR T p (s.getD j 0).toNat = false) Hall.out hx
      obtain ⟨x, hx⟩ := nat_of hrj.1
      rw [hx] at hcell hhi hrj
      have hno' : cfR T p (s.getD j 0).toNat = false → ∀ i, i < j + 1 → cfR T p (s.getD i 0).toNat = false := hno
      rw [hx, Int.toNat_natCast] at hno'
      rw [Int.toNat_natCast] at hhi
      have HC := hid_ (stand1_calls tb pb aT n c T p x wr (cell_below qt hb) (cell_below qp hb) (HT.out.below hb (Nat.le_refl _)) Hg.out hp (by omega))
      clear hb hrj hno hx
      cases hm : cfR T p x with
      | true =>
        rw [hm] at HC
        have HR := hid_ (hhi hm)
        clear hm hhi hno'
        go_wp2_with (go_at_call 124; (with_reducible refine HC.out.mono ?_); rintro e w4 ⟨rfl, hb4⟩)
        go_ret
        exact ⟨_, rfl, by rw [HR.out]; exact decide_eq_true (Int.natCast_nonneg j), Hb.out.trans (hb4.mono Hb.out.size)⟩
      | false =>
        rw [hm] at HC
        have Hf := hid_ (hno' hm)
        clear hm hhi hno'
        go_wp2_with (go_at_call 124; (with_reducible refine HC.out.mono ?_); rintro e w4 ⟨rfl, hb4⟩)
        go_roundw
        case rel => exact ⟨j + 1, by omega, by go_num, Hb.out.trans (hb4.mono Hb.out.size), Hf.out⟩
        case measure => simp [intOf]; omega
    · obtain rfl : k = j := by omega
      have HR := hid_ (HNo.out Hall.out)
      go_wp2
      go_ret
      exact ⟨_, rfl, by rw [HR.out]; rfl, Hb.out⟩
end Go.Proofs.Ytdnlpikfibdjoaa
