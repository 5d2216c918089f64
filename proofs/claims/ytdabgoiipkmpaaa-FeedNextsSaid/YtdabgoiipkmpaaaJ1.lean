import Derived.Test.YtdabgoiipkmpaaaJn
namespace Go.Proofs.Ytdabgoiipkmpaaa
open Go.RowKit Go.Proofs.Kv

/-! ### Steps, IsEnd: the program -/
theorem Try.infoStep : (Try.prog.info? 74).map (fun i => (i.zero, i.size, i.bytes)) = some (some (.agg #[.int .i64 0, .int .i64 0]), 2, 16) := by kernel_rfl
def resSteps (L : List Rl) (l : List Int) : List (Int × Int) := if errSW L [l] = 0 then (movesL L l).map (·.1) else []
theorem movesL_le (L : List Rl) {l : List Int} (h : errSW L [l] = 0) : (movesL L l).length ≤ 54 := by
  obtain ⟨h1, h2⟩ := errSW_ok' h
  have := mvTo_le L (validW_ok h2).1 L.length
  have := (validS_ok h1).1
  rw [movesL]; omega
theorem box3' {w w1 : World} {v0 v1 v2 : Value} {T : TypeId} (hw1 : w.alloc (.cells #[v0, v1, v2] T) = w1) :
    w1.cell? ⟨w.heap.size, 0, none⟩ = some v0 ∧ w1.cell? ⟨w.heap.size, 1, none⟩ = some v1 ∧ w1.cell? ⟨w.heap.size, 2, none⟩ = some v2 := by
  subst hw1
  exact ⟨cells_alloc _ _ _ 0, cells_alloc _ _ _ 1, cells_alloc _ _ _ 2⟩
theorem MovesAt.below {w w' : World} {B : Nat} {a : Option Addr} {n c : Nat} {M : List Mv} (h : MovesAt w B a n c M) (hb : Below w.heap.size w w') : MovesAt w' B a n c M := h.kept (F := fun _ => False) hb.kept fun _ _ _ h => h
set_option maxRecDepth 100000 in
set_option maxHeartbeats 4000000 in
theorem feSteps_calls (A : Option Addr) (N C : Nat) (L : List Rl) (a : Option Addr) (n c : Nat) (l : List Int) (w : World) (h : RulesAt w A N C L) (hI : IntsAt w a n c l) :
    Calls Try.prog 16 #[.slice A N C, .slice a n c] w fun e w' => ∃ v, e = .returned (.tuple #[v, .int .i64 (errSW L [l])]) ∧ MadeP 74 w w' v (resSteps L l) := by
  obtain ⟨w1, hw1⟩ : ∃ w1, w.alloc (.cells #[.slice a n c] 23) = w1 := ⟨_, rfl⟩
  have c01 : Below w.heap.size w w1 := by rw [← hw1]; exact below_alloc _ _
  have HV := hid_ (feValid_calls A N C L _ 1 1 [l] w1 (h.below c01 (Nat.le_refl _)) (ListsAt.one' hw1 hI))
  have H01 := hid_ c01
  by_cases he : errSW L [l] = 0
  · have Hr : Hid (resSteps L l = (movesL L l).map (·.1)) := hid_ (if_pos he)
    obtain ⟨g1, g2⟩ := errSW_ok' he
    have HM := hid_ (fun W (hW : Below w.heap.size w W) => moves_calls A N C L a n c l W (h.below hW (Nat.le_refl _)) (hI.below hW (Nat.le_refl _)) (validS_ok g1).2 (by rw [← h.len]; exact (validS_ok g1).1) g2)
    have Hle := hid_ (movesL_le L he)
    obtain ⟨i0, hi0, hz0, hz1, hz2⟩ := info_parts Try.infoStep
    rw [he] at HV ⊢
    generalize movesL L l = M at *
    clear he g1 g2 h hI c01
    have hM54 := Hle.out
    go_enter Try.func16, Try.ntmps16
    go_wp2_with (first
      | (go_at_call 54; (with_reducible refine HV.out.mono ?_); rintro e w3 ⟨rfl, hb3⟩; have hb3' := H01.out.trans (hb3.mono H01.out.size))
      | (go_at_call 55; (with_reducible refine (HM.out w3 hb3').mono ?_); rintro e w4 ⟨v4, rfl, hM4, hc4⟩; have hb4 := hb3'.trans (hc4.mono hb3'.size); obtain ⟨a4, c4, rfl, hA4⟩ := hM4.at_; have HA4 := hid_ hA4; have Hb4 := hid_ hb4; clear hM4 hA4 hc4 hb4))
    go_loopw [7, 21] (fun v i wr => ∃ k : Nat, k ≤ M.length ∧ i = .int .i64 k ∧ wr.ownsRow w4.heap.size 74 2 v k (((M.take k).map (·.1)).flatMap encN) ∧ Below w4.heap.size w4 wr) (fun _ i _ => M.length - (intOf i).toNat)
    case atStart => exact ⟨0, Nat.zero_le _, rfl, World.ownsRow_nil _ _ _ _, Below.refl _ _⟩
    case round =>
      obtain ⟨k, hk, rfl, hO, hb⟩ := hrel
      by_cases hlt : k < M.length
      · obtain ⟨bm, om, u, rfl, hbm, hbmlt, m0, m1, m2, hu⟩ := (HA4.out.below hb).cells k hlt
        have htk : Hid ((M.take (k + 1)).map (·.1) = (M.take k).map (·.1) ++ [(M.getD k M0).1]) := hid_ (by rw [take_snoc M M0 k hlt, List.map_append]; rfl)
        generalize M.getD k M0 = m at *
        obtain ⟨⟨mr, mp⟩, ml⟩ := m
        simp only at m0 m1 m2
        obtain ⟨a9, n9, c9, rfl, hI9, hd9⟩ := hu
        obtain ⟨w5, hw5⟩ : ∃ w5, wr.alloc (.cells #[.int .i64 mr, .int .i64 mp, .slice a9 n9 c9] 76) = w5 := ⟨_, rfl⟩
        have c5 : Below wr.heap.size wr w5 := by rw [← hw5]; exact below_alloc _ _
        obtain ⟨j0, j1, j2⟩ := box3' hw5
        have hO5 := hid_ (own_grown hO c5)
        have Hb := hid_ (hb.trans (c5.mono hb.size))
        have Hk : Hid (k + 1 ≤ 1000000) := hid_ (by omega)
        clear hO hb hI9 hd9
        go_wp2_with (at_builtin; refine wpList_append_pair w5 rfl (.tmp 25) (.tmp 28) _ rfl w4.heap.size 74 i0 Try.underlying27 hi0 hz0 hz1 hz2 u7 k ((M.take k).map (·.1)) rfl hO5.out mr mp _ rfl Hk.out Hb.out.size ?_; intro v6 w6 hO6 hg6)
        go_roundw
        case rel => exact ⟨k + 1, by omega, by go_num, by rw [htk.out]; exact hO6, below_app Hb.out Hb.out.size hO5.out hg6⟩
        case measure => simp [intOf]; omega
      · obtain rfl : M.length = k := by omega
        have HO := hid_ hO
        have Hb := hid_ hb
        clear hO hb
        go_wp2
        go_ret2
        exact ⟨_, rfl, ⟨by rw [Hr.out, List.length_map]; have := HO.out; rw [List.take_length] at this; exact own_base this Hb4.out.size, Hb4.out.trans (Hb.out.mono Hb4.out.size)⟩⟩
  · have Hr : Hid (resSteps L l = []) := hid_ (if_neg he)
    have hq : (errSW L [l] != 0) = true := by simpa using he
    generalize errSW L [l] = x at *
    clear he h hI c01
    go_enter Try.func16, Try.ntmps16
    go_wp2_with (go_at_call 54; (with_reducible refine HV.out.mono ?_); rintro e w3 ⟨rfl, hb3⟩)
    go_ret2
    exact ⟨_, rfl, by rw [Hr.out]; exact MadeP.none_ _ (H01.out.trans (hb3.mono H01.out.size))⟩
def isEndB (L : List Rl) (l : List Int) : Bool := decide (errSW L [l] = 0) && decide ((movesL L l).length = 0)
set_option maxRecDepth 100000 in
set_option maxHeartbeats 4000000 in
theorem feIsEnd_calls (A : Option Addr) (N C : Nat) (L : List Rl) (a : Option Addr) (n c : Nat) (l : List Int) (w : World) (h : RulesAt w A N C L) (hI : IntsAt w a n c l) :
    Calls Try.prog 18 #[.slice A N C, .slice a n c] w fun e w' => e = .returned (.tuple #[.bool (isEndB L l), .int .i64 (errSW L [l])]) ∧ Below w.heap.size w w' := by
  obtain ⟨w1, hw1⟩ : ∃ w1, w.alloc (.cells #[.slice a n c] 23) = w1 := ⟨_, rfl⟩
  have c01 : Below w.heap.size w w1 := by rw [← hw1]; exact below_alloc _ _
  have HV := hid_ (feValid_calls A N C L _ 1 1 [l] w1 (h.below c01 (Nat.le_refl _)) (ListsAt.one' hw1 hI))
  have H01 := hid_ c01
  by_cases he : errSW L [l] = 0
  · have Hr : Hid (isEndB L l = decide ((movesL L l).length = 0)) := hid_ (by rw [isEndB, decide_eq_true he]; rfl)
    obtain ⟨g1, g2⟩ := errSW_ok' he
    have HM := hid_ (fun W (hW : Below w.heap.size w W) => moves_calls A N C L a n c l W (h.below hW (Nat.le_refl _)) (hI.below hW (Nat.le_refl _)) (validS_ok g1).2 (by rw [← h.len]; exact (validS_ok g1).1) g2)
    rw [he] at HV ⊢
    have hml := movesL_le L he
    generalize movesL L l = M at *
    clear he g1 g2 h hI c01
    obtain ⟨m, hm⟩ : ∃ m, M.length = m := ⟨_, rfl⟩
    rw [hm] at Hr hml
    have HL := hid_ hm
    clear hm
    by_cases h0 : m = 0
    · subst h0
      have hmi : (0 : Int) = 0 := rfl
      go_enter Try.func18, Try.ntmps18
      go_wp2_with (first
        | (go_at_call 54; (with_reducible refine HV.out.mono ?_); rintro e w3 ⟨rfl, hb3⟩; have hb3' := H01.out.trans (hb3.mono H01.out.size))
        | (go_at_call 55; (with_reducible refine (HM.out w3 hb3').mono ?_); rintro e w4 ⟨v4, rfl, hM4, hc4⟩; have hb4 := hb3'.trans (hc4.mono hb3'.size); obtain ⟨a4, c4, rfl, hA4⟩ := hM4.at_; rw [HL.out]; clear hM4 hA4))
      go_ret2
      exact ⟨by rw [Hr.out] <;> rfl, hb4⟩
    · have hmi : ¬ (m : Int) = 0 := by omega
      have hmb : ((m : Int) == 0) = false := by simpa using h0
      go_enter Try.func18, Try.ntmps18
      go_wp2_with (first
        | (go_at_call 54; (with_reducible refine HV.out.mono ?_); rintro e w3 ⟨rfl, hb3⟩; have hb3' := H01.out.trans (hb3.mono H01.out.size))
        | (go_at_call 55; (with_reducible refine (HM.out w3 hb3').mono ?_); rintro e w4 ⟨v4, rfl, hM4, hc4⟩; have hb4 := hb3'.trans (hc4.mono hb3'.size); obtain ⟨a4, c4, rfl, hA4⟩ := hM4.at_; rw [HL.out]; clear hM4 hA4))
      go_ret2
      exact ⟨by rw [Hr.out, decide_eq_false (show ¬ m = 0 by omega)] <;> rfl, hb4⟩
  · have Hr : Hid (isEndB L l = false) := hid_ (by rw [isEndB, decide_eq_false he]; rfl)
    have hq : (errSW L [l] != 0) = true := by simpa using he
    generalize errSW L [l] = x at *
    clear he h hI c01
    go_enter Try.func18, Try.ntmps18
    go_wp2_with (go_at_call 54; (with_reducible refine HV.out.mono ?_); rintro e w3 ⟨rfl, hb3⟩)
    go_ret2
    exact ⟨by rw [Hr.out] <;> rfl, H01.out.trans (hb3.mono H01.out.size)⟩
end Go.Proofs.Ytdabgoiipkmpaaa
