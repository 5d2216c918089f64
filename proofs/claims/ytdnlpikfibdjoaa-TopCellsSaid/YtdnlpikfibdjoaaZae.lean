import Derived.Test.YtdnlpikfibdjoaaZad
import Derived.Shelf.Abstract
namespace Go.Proofs.Ytdnlpikfibdjoaa
open Go.RowKit Go.Proofs.Kv

/-! ### Hull -/
def errHu (P : Par) (L : List (List Int)) : Int := if errC P L = 0 then (if L.length = 0 then 4 else 0) else errC P L
def resHull (P : Par) (L : List (List Int)) : List Int := if errHu P L = 0 then hullL L else []
theorem errC_rows {P : Par} {L : List (List Int)} (h : errC P L = 0) : validP P = 0 ∧ ∀ k, k < L.length → specB P.sizes (L.getD k []) 0 = true := by
  unfold errC at h
  split at h
  · rename_i hv
    refine ⟨hv, fun k hk => ?_⟩
    split at h
    · exact absurd h (by decide)
    · rename_i hn
      have := List.any_eq_false.1 (by simpa using hn : (L.any fun l => !specB P.sizes l 0) = false) (L[k]) (List.getElem_mem hk)
      rw [show L.getD k [] = L[k] by simp [List.getD, List.getElem?_eq_getElem hk]]
      simpa using this
  · rename_i hv; exact absurd h hv
theorem errC_lens {P : Par} {L : List (List Int)} (h : errC P L = 0) : ∀ k, k < L.length → (L.getD k []).length = P.sizes.length := fun k hk => (specB_ok ((errC_rows h).2 k hk)).1
set_option maxRecDepth 100000 in
set_option maxHeartbeats 4000000 in
theorem ceHull_calls (v : Value) (P : Par) (a : Option Addr) (n c : Nat) (L : List (List Int)) (w : World) (h : ParAt w v P) (hl : ListsAt w a n c L) :
    Calls Try.prog 28 #[v, .slice a n c] w fun e w' => ∃ v', e = .returned (.tuple #[v', .int .i64 (errHu P L)]) ∧ Made 3 w w' v' (resHull P L) := by
  have HP := hid_ h
  obtain ⟨a1, n1, c1, a2, n2, c2, rfl, h1, h2⟩ := h
  obtain ⟨w1, hw1⟩ : ∃ w1, w.alloc (.cells #[.slice a1 n1 c1, .slice a2 n2 c2] 25) = w1 := ⟨_, rfl⟩
  have cb : Below w.heap.size w w1 := by rw [← hw1]; exact below_alloc _ _
  have q0 : w1.cell? ⟨w.heap.size, 0, none⟩ = some (.slice a1 n1 c1) := by rw [← hw1]; exact cells_alloc _ _ _ 0
  have q1 : w1.cell? ⟨w.heap.size, 1, none⟩ = some (.slice a2 n2 c2) := by rw [← hw1]; exact cells_alloc _ _ _ 1
  have HP1 := hid_ (HP.out.below cb (Nat.le_refl _)); have Hc1 := hid_ cb
  have hlen := hl.len
  have HL := hid_ (hl.below cb (Nat.le_refl _))
  have HE := hid_ (validateCells_calls _ P a n c L w1 HP1.out HL.out)
  have HU : Hid (errHu P L = if errC P L = 0 then (if n = 0 then 4 else 0) else errC P L) := hid_ (by rw [errHu, hlen])
  have HR : Hid (resHull P L = if errHu P L = 0 then hullL L else []) := hid_ rfl
  clear h1 h2 hl cb
  by_cases he : errC P L = 0
  · by_cases hn : n = 0
    · have Hf : Hid (errHu P L = 4) := hid_ (by rw [HU.out, if_pos he, if_pos hn])
      have Hr : Hid (resHull P L = []) := hid_ (by rw [HR.out, Hf.out]; rfl)
      rw [he] at HE
      rw [Hf.out, Hr.out]
      subst hn
      clear he hlen
      go_enter Try.func28, Try.ntmps28
      go_wp2_with (go_at_call 72; (with_reducible refine HE.out.mono ?_); rintro e w2 ⟨rfl, hb2⟩)
      go_ret2
      exact ⟨_, rfl, Made.none_ _ (Hc1.out.trans (hb2.mono Hc1.out.size))⟩
    · have Hf : Hid (errHu P L = 0) := hid_ (by rw [HU.out, if_pos he, if_neg hn])
      have Hr : Hid (resHull P L = hullL L) := hid_ (by rw [HR.out, Hf.out]; rfl)
      have h3 := (validP_ok (errC_rows he).1).1.2
      have HM := hid_ (fun W (hW : Below w1.heap.size w1 W) => cehull_calls a n c L P.sizes.length W (HL.out.below hW (Nat.le_refl _)) (by omega) (fun k hk => errC_lens he k (by omega)) (by omega))
      have hnz : ((n : Int) == 0) = false := by simpa using hn
      rw [he] at HE
      rw [Hf.out, Hr.out]
      clear he hlen hn h3
      go_enter Try.func28, Try.ntmps28
      go_wp2_with (first
        | (go_at_call 72; (with_reducible refine HE.out.mono ?_); rintro e w2 ⟨rfl, hb2⟩)
        | (go_at_call 73; (with_reducible refine (HM.out _ hb2).mono ?_); rintro e w4 ⟨v4, rfl, hm⟩))
      go_ret2
      exact ⟨_, rfl, hm.after (Hc1.out.trans (hb2.mono Hc1.out.size))⟩
  · have hq : (errC P L != 0) = true := by simpa using he
    have Hf : Hid (errHu P L = errC P L) := hid_ (by rw [HU.out, if_neg he])
    have Hr : Hid (resHull P L = []) := hid_ (by rw [HR.out, Hf.out, if_neg he])
    rw [Hf.out, Hr.out]
    generalize errC P L = x at *
    clear he hlen
    go_enter Try.func28, Try.ntmps28
    go_wp2_with (go_at_call 72; (with_reducible refine HE.out.mono ?_); rintro e w2 ⟨rfl, hb2⟩)
    go_ret2
    exact ⟨_, rfl, Made.none_ _ (Hc1.out.trans (hb2.mono Hc1.out.size))⟩
/-! ### is a cell among the given ones: the program's -/
set_option maxRecDepth 100000 in
set_option maxHeartbeats 2000000 in
theorem equal_calls (a : Option Addr) (n c : Nat) (l : List Int) (a' : Option Addr) (n' c' : Nat) (l' : List Int) (w : World) (h : IntsAt w a n c l) (h' : IntsAt w a' n' c' l') :
    Calls Try.prog 60 #[.slice a n c, .slice a' n' c'] w fun e w' => e = .returned (.bool (Same l l')) ∧ ∃ q, w' = w.drewN q := by
  have hn : n ≤ 9223372036854775807 := Nat.le_trans h.le h.small
  by_cases hnn : n = n'
  · subst hnn
    have hb1 : ((n : Int) != (n : Int)) = false := by simp
    go_enter Try.func60, Try.ntmps60
    go_wp2
    go_loopw [13] (fun i wr => ∃ k q : Nat, k ≤ n ∧ i = .int .i64 k ∧ wr = w.drewN q ∧ ∀ j, j < k → l.getD j 0 = l'.getD j 0) (fun i _ => n - (intOf i).toNat)
    case atStart => exact ⟨0, 0, Nat.zero_le _, rfl, rfl, fun _ h => absurd h (by omega)⟩
    case round =>
      obtain ⟨k, q, hk, rfl, rfl, hall⟩ := hrel
      have Hall := hid_ hall; clear hall
      by_cases hlt : k < n
      · obtain ⟨b, off, rfl, hb, hcell⟩ := h.cells k hlt
        obtain ⟨b', off', rfl, hb', hcell'⟩ := h'.cells k hlt
        generalize hy : l.getD k 0 = y at hcell
        have Hy := hid_ hy; clear hy
        generalize hy' : l'.getD k 0 = y' at hcell'
        have Hy' := hid_ hy'; clear hy'
        by_cases he : y = y'
        · have hq : (y != y') = false := by simpa using he
          have He := hid_ he; clear he
          go_wp2_with fail
          go_quiet (fail)
          go_wp2
          go_roundw
          case rel => exact ⟨k + 1, _, by omega, by go_num, rfl, lt_snoc Hall.out (by rw [Hy.out, Hy'.out]; exact He.out)⟩
          case measure => simp [intOf]; omega
        · have hq : (y != y') = true := by simpa using he
          have Hf : Hid (Same l l' = false) := by
            refine hid_ (decide_eq_false fun e => he ?_)
            rw [← Hy.out, ← Hy'.out, e]
          have He := hid_ he; clear he
          go_wp2_with fail
          go_quiet (fail)
          go_wp2
          go_ret
          exact ⟨retB Hf.out, _, drewN2 _ _ _⟩
      · have Hf : Hid (Same l l' = true) := hid_ (decide_eq_true (ext_getD h.len h'.len fun j hj => Hall.out j (by omega)))
        go_wp2
        go_ret
        exact ⟨retB Hf.out, _, rfl⟩
  · have hb1 : ((n : Int) != (n' : Int)) = true := by simp; omega
    have Hf : Hid (Same l l' = false) := hid_ (decide_eq_false fun e => hnn (by rw [← h.len, ← h'.len, e]))
    have Hn := hid_ hnn; clear hnn
    go_enter Try.func60, Try.ntmps60
    go_wp2
    go_ret
    exact ⟨retB Hf.out, 0, rfl⟩
end Go.Proofs.Ytdnlpikfibdjoaa
