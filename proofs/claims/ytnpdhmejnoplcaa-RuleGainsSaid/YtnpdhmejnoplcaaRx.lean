import Derived.Test.YtnpdhmejnoplcaaRw
import Derived.OwnWalk
namespace Go.Proofs.Kv
open Go Go.RowKit

theorem own_cut {B e size n g cap i : Nat} {w : World} {xs : List Value} (h : w.ownsRow B e size (.slice (some ⟨g, 0, none⟩) n cap) n xs) (hi : i ≤ n) :
    w.ownsRow B e size (.slice (some ⟨g, 0, none⟩) i cap) i (xs.take (i * size)) := by
  have hle : i * size ≤ n * size := Nat.mul_le_mul_right _ hi
  refine ⟨by rw [List.length_take, h.1]; omega, ?_⟩
  rcases h.2 with ⟨h', _⟩ | ⟨g', cap', cur, h', hb, hg, hnc, hcm, hcs, htake⟩
  · simp at h'
  · injection h' with q1 q2 q3
    injection q1 with q1
    injection q1 with q1
    subst q1; subst q3
    refine .inr ⟨g, cap, cur, rfl, hb, hg, by omega, hcm, hcs, ?_⟩
    rw [← htake, List.take_take, Nat.min_eq_left hle]
theorem own_setCells_at {B e size n g cap : Nat} : ∀ (vs : List Value) (o : Nat) {w : World} {xs : List Value}, w.ownsRow B e size (.slice (some ⟨g, 0, none⟩) n cap) n xs → o + vs.length ≤ xs.length →
    (w.setCells g o vs).ownsRow B e size (.slice (some ⟨g, 0, none⟩) n cap) n (xs.take o ++ vs ++ xs.drop (o + vs.length)) ∧ w.grownBy (w.setCells g o vs) (some g)
  | [], o, w, xs, h, _ => ⟨by simpa [World.setCells] using h, World.grownBy.refl w _⟩
  | v :: vs, o, w, xs, h, hl => by
    obtain ⟨h1, h2⟩ := h.stored o v
    rw [List.length_cons] at hl
    obtain ⟨h3, h4⟩ := own_setCells_at vs (o + 1) h1 (by simp; omega)
    refine ⟨?_, h2.trans h4⟩
    have e : (xs.set o v).take (o + 1) ++ vs ++ (xs.set o v).drop (o + 1 + vs.length) = xs.take o ++ v :: vs ++ xs.drop (o + (v :: vs).length) := by
      have e1 : (xs.set o v).take (o + 1) = xs.take o ++ [v] := by
        rw [Kv.take_snoc _ v o (by simp; omega), List.take_set, List.set_eq_of_length_le (by rw [List.length_take]; omega)]
        simp [List.getD, show o < xs.length by omega]
      have e2 : o + (v :: vs).length = o + 1 + vs.length := by rw [List.length_cons]; omega
      rw [e1, List.drop_set_of_lt (by omega), e2]
      simp
    rw [← e]; exact h3
theorem below_setCells {B : Nat} {a w : World} (h : Below B a w) {g : Nat} (hg : B ≤ g) : ∀ (vs : List Value) (o : Nat), Below B a (w.setCells g o vs)
  | [], _ => h
  | v :: vs, o => below_setCells (h.setCell (p := ⟨g, o, none⟩) hg v) hg vs (o + 1)
theorem src_ints {P : Program} {t e : TypeId} (ht : P.underlying t = some (.slice e)) {w : World} {A : Option Addr} {m c : Nat} {vs : List Int} (h : IntsAt w A m c vs) : Src P 1 t (.slice A m c) m (vs.map (Value.int .i64)) w := by
  rcases A with _ | x
  · have hm : m = 0 := by
      rcases Nat.eq_zero_or_pos m with h0 | h0
      · exact h0
      · obtain ⟨_, _, h1, _⟩ := h.cells 0 h0; cases h1
    subst hm
    rw [List.eq_nil_of_length_eq_zero h.len]
    exact Src.ofNil w ht c
  · exact Src.ofSlice w ht x m c _ (by simp [h.len]) h.cellsIn (fun v hv => by obtain ⟨y, _, rfl⟩ := List.mem_map.1 hv; rfl)
end Go.Proofs.Kv
