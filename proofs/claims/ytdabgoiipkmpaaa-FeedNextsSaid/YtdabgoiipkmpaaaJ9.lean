import Derived.Test.YtdabgoiipkmpaaaJ8
import Derived.Test.YtdabgoiipkmpaaaJ4
namespace Go.Proofs.Ytdabgoiipkmpaaa
open Go.RowKit Go.Proofs.Kv

/-! ### Next: the document -/
theorem OwnT.ownL {w : World} {B : Nat} {v : Value} {W : List (List Int)} (h : OwnT w B v W) : OwnL 23 w B v W := by
  obtain ⟨vs, h1, h2⟩ := h
  have hvl : vs.length = W.length := by have := h1.1; simpa using this
  refine ⟨vs, h1, fun i hi => ?_⟩
  have hv : vs[i]? = some vs[i] := List.getElem?_eq_getElem (by omega)
  obtain ⟨a, n, c, e, hI, hd⟩ := h2 i _ hv
  refine ⟨a, n, c, by rw [hv, e], hI, fun b off hn ha e' => ?_⟩
  obtain ⟨c1, e1⟩ := hd b off hn ha
  obtain ⟨c2, e2⟩ := own_obj' h1 e'
  rw [e1] at e2; injection e2 with e2; injection e2 with _ e3 _; exact absurd e3 (by decide)
theorem foldI_snoc (W : List (List Int)) {k : Nat} (hk : k < W.length) : foldI (W.take (k + 1)) = insertL (foldI (W.take k)) (W.getD k []) := by
  rw [take_snoc W [] k hk, foldI, List.foldl_append]; rfl
theorem fold_le : ∀ (M : List (List Int)) (acc : List (List Int)), (M.foldl insertL acc).length ≤ acc.length + M.length
  | [], acc => by simp
  | x :: M, acc => by
    have h1 := fold_le M (insertL acc x)
    have h2 := insertL_le acc x
    rw [List.foldl_cons, List.length_cons]; omega
theorem foldI_le (M : List (List Int)) : (foldI M).length ≤ M.length := by have := fold_le M []; rw [foldI]; simpa using this
set_option maxRecDepth 100000 in
set_option maxHeartbeats 4000000 in
theorem r3next_calls (A : Option Addr) (N C : Nat) (L : List Rl) (a : Option Addr) (n c : Nat) (l : List Int) (w : World) (h : RulesAt w A N C L) (hI : IntsAt w a n c l) (he : errSW L [l] = 0) :
    Calls Try.prog 64 #[.slice A N C, .slice a n c] w fun e w' => ∃ v, e = .returned v ∧ OwnL 23 w' 0 v (resNext L l) ∧ Below w.heap.size w w' := by
  have Hr : Hid (resNext L l = foldI ((movesL L l).map (·.2))) := hid_ (if_pos he)
  obtain ⟨g1, g2⟩ := errSW_ok' he
  have HM := hid_ (r3steps_calls A N C L a n c l w h hI (validS_ok g1).2 (by rw [← h.len]; exact (validS_ok g1).1) g2)
  have hle := movesL_le L he
  have hlm : ((movesL L l).map (·.2)).length = (movesL L l).length := List.length_map _
  generalize (movesL L l).map (·.2) = W at *
  have Hle : Hid (W.length ≤ 54) := hid_ (by omega)
  clear he g1 g2 h hI hle hlm
  have hW54 := Hle.out
  go_enter Try.func64, Try.ntmps64
  go_wp2_with (go_at_call 57; (with_reducible refine HM.out.mono ?_); rintro e w3 ⟨v1, v2, rfl, -, hT, hb3⟩; obtain ⟨a2, c2, rfl, hL⟩ := hT.ownL.at_; have HL := hid_ hL; have Hb3 := hid_ hb3; clear hT hL hb3)
  go_loopw [7, 8] (fun v i wr => ∃ k : Nat, k ≤ W.length ∧ i = .int .i64 k ∧ OwnL 23 wr 0 v (foldI (W.take k)) ∧ Below w3.heap.size w3 wr) (fun _ i _ => W.length - (intOf i).toNat)
  case atStart => exact ⟨0, Nat.zero_le _, rfl, OwnL.nil _ _ _, Below.refl _ _⟩
  case round =>
    obtain ⟨k, hk, rfl, hO, hb⟩ := hrel
    by_cases hlt : k < W.length
    · obtain ⟨b, off, a', n', c', rfl, hbl, hcell, hi⟩ := HL.out.cells k hlt
      have hcell' := cell_below hcell hb
      have HIn := hid_ (insertL_calls _ _ a' n' c' _ wr hO (hi.below hb (Nat.le_refl _)) (by have := foldI_le (W.take k); rw [List.length_take] at this; omega))
      have Hn := hid_ (foldI_snoc W hlt)
      have Hb := hid_ hb
      clear hcell hi hO hb
      go_wp2_with (go_at_call 67; (with_reducible refine HIn.out.mono ?_); rintro e w5 ⟨v5, rfl, hO5, hb5⟩)
      go_roundw
      case rel => exact ⟨k + 1, by omega, by go_num, by rw [Hn.out]; exact hO5, Hb.out.trans (hb5.mono Hb.out.size)⟩
      case measure => simp [intOf]; omega
    · obtain rfl : W.length = k := by omega
      rw [List.take_length] at hO
      have HO := hid_ hO
      have Hb := hid_ hb
      clear hO hb
      go_wp2
      go_ret
      exact ⟨_, rfl, by rw [Hr.out]; exact HO.out, Hb3.out.trans (Hb.out.mono Hb3.out.size)⟩
set_option maxRecDepth 100000 in
set_option maxHeartbeats 4000000 in
theorem r3Next_calls (A : Option Addr) (N C : Nat) (L : List Rl) (a : Option Addr) (n c : Nat) (l : List Int) (w : World) (h : RulesAt w A N C L) (hI : IntsAt w a n c l) :
    Calls Try.prog 24 #[.slice A N C, .slice a n c] w fun e w' => ∃ v, e = .returned (.tuple #[v, .int .i64 (errSW L [l])]) ∧ OwnL 23 w' 0 v (resNext L l) ∧ Below w.heap.size w w' := by
  have HV0 := worded_calls A N C L a n c l none 0 0 [] w h hI (IntsAt.nil _ _ _ (by omega))
  rw [errSW_nil] at HV0
  have HV := hid_ HV0
  clear HV0
  by_cases he : errSW L [l] = 0
  · have HM := hid_ (fun W (hW : Below w.heap.size w W) => r3next_calls A N C L a n c l W (h.below hW (Nat.le_refl _)) (hI.below hW (Nat.le_refl _)) he)
    rw [he] at HV ⊢
    generalize resNext L l = M at *
    clear he h hI
    go_enter Try.func24, Try.ntmps24
    go_wp2_with (first
      | (go_at_call 56; (with_reducible refine HV.out.mono ?_); rintro e w3 ⟨rfl, hb3⟩)
      | (go_at_call 64; (with_reducible refine (HM.out w3 hb3).mono ?_); rintro e w4 ⟨v4, rfl, hO4, hc4⟩))
    go_ret2
    exact ⟨_, rfl, hO4, hb3.trans (hc4.mono hb3.size)⟩
  · have Hr : Hid (resNext L l = []) := hid_ (if_neg he)
    have hq : (errSW L [l] != 0) = true := by simpa using he
    generalize errSW L [l] = x at *
    clear he h hI
    go_enter Try.func24, Try.ntmps24
    go_wp2_with (go_at_call 56; (with_reducible refine HV.out.mono ?_); rintro e w3 ⟨rfl, hb3⟩)
    go_ret2
    exact ⟨_, rfl, by rw [Hr.out]; exact OwnL.nil _ _ _, hb3⟩
end Go.Proofs.Ytdabgoiipkmpaaa
