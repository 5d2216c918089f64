import Derived.Test.YtdnlpikfibdjoaaYb9
import Derived.Test.YtdnlpikfibdjoaaYmb
namespace Go.Proofs.Ytdnlpikfibdjoaa
open Go.RowKit Go.Proofs.Kv Go

/-! ### Build of the program -/
theorem ints_setSlice7 {w : World} {a b : Option Addr} {n c m k : Nat} {l : List Int} {p : Addr} {v : Value} (h : IntsAt w a n c l) (hq : w.cell? p = some (.slice b m k)) : IntsAt (w.setCell p v) a n c l :=
  ⟨h.len, h.le, h.small, fun i hi => by
    obtain ⟨b, off, ha, hb, hc⟩ := h.cells i hi
    refine ⟨b, off, ha, by simpa [World.setCell] using hb, ?_⟩
    rw [World.cell?_setCell_other _ _ _ _ (by intro e; rw [← e, hq] at hc; injection hc with hc; cases hc)]
    exact hc⟩
def resBuild (T : List (List Int)) : Tr := if resCan T = true then buildX (sidesR T) T.length else ⟨[], []⟩
set_option maxRecDepth 100000 in
set_option maxHeartbeats 4000000 in
theorem stBuild_calls (a : Option Addr) (n c : Nat) (T : List (List Int)) (w : World) (h : ListsAt w a n c T) :
    Calls Try.prog 23 #[.slice a n c] w fun e w' => ∃ v, e = .returned (.tuple #[v, .bool (resCan T), .int .i64 (validT T)]) ∧ TreeAt w' v (resBuild T) ∧ Below w.heap.size w w' := by
  obtain ⟨w1, hw1⟩ : ∃ w1, w.alloc (.cells #[.slice none 0 0, .slice none 0 0] 46) = w1 := ⟨_, rfl⟩
  have z1 : w1.heap.size = w.heap.size + 1 := by rw [← hw1]; simp
  have b1 : Below w.heap.size w w1 := by rw [← hw1]; exact below_alloc _ _
  have r0 : w1.cell? ⟨w.heap.size, 0, none⟩ = some (.slice none 0 0) := by rw [← hw1]; exact cells_alloc _ _ _ 0
  have r1 : w1.cell? ⟨w.heap.size, 1, none⟩ = some (.slice none 0 0) := by rw [← hw1]; exact cells_alloc _ _ _ 1
  have f0 : ∀ j, w1.frozen? ⟨w.heap.size, j, none⟩ = false := fun j => by rw [← hw1]; exact World.frozen?_alloc_at _ _ _ _ (by simp)
  have Qf := hid_ (fun W (hW : Below w1.heap.size w1 W) => (⟨cell_below r0 hW, cell_below r1 hW, (hW.frozen (p := ⟨w.heap.size, 0, none⟩) (by show w.heap.size < w1.heap.size; omega)).trans (f0 0), (hW.frozen (p := ⟨w.heap.size, 1, none⟩) (by show w.heap.size < w1.heap.size; omega)).trans (f0 1)⟩ : W.cell? ⟨w.heap.size, 0, none⟩ = some (.slice none 0 0) ∧ W.cell? ⟨w.heap.size, 1, none⟩ = some (.slice none 0 0) ∧ W.frozen? ⟨w.heap.size, 0, none⟩ = false ∧ W.frozen? ⟨w.heap.size, 1, none⟩ = false))
  have HC := hid_ (stCanTree_calls a n c T w1 (h.below b1 (Nat.le_refl _)))
  have Hb1 := hid_ b1
  have HR : Hid (resBuild T = if resCan T = true then buildX (sidesR T) T.length else ⟨[], []⟩) := hid_ rfl
  have hlen := h.len
  cases hc : resCan T with
  | true =>
    have hv := (conf_none hc).1
    have HB := hid_ (fun W (hW : Below w1.heap.size w1 W) => build_calls a n c T W (h.below (b1.trans (hW.mono b1.size)) (Nat.le_refl _)) (validT_ok hv))
    have Hf : Hid (resBuild T = buildX (sidesR T) n) := hid_ (by rw [HR.out, if_pos hc, hlen])
    rw [hc, hv] at HC
    rw [hv, Hf.out]
    generalize buildX (sidesR T) n = X at *
    clear h b1 r0 r1 f0 hc hv HR Hf hlen
    go_enter Try.func23, Try.ntmps23
    go_wp2_with (first
      | (go_at_call 40; (with_reducible refine HC.out.mono ?_); rintro e w2 ⟨rfl, hb2⟩; have HB2 := hid_ (HB.out w2 hb2); have Hb2 := hid_ hb2)
      | (go_at_call 65; (with_reducible refine HB2.out.mono ?_); rintro e w3 ⟨v3, rfl, hT3, hb3⟩; have hb23 := Hb2.out.trans (hb3.mono Hb2.out.size); obtain ⟨a3, n3, c3, a4, n4, c4, rfl, hi3, hi4⟩ := hT3; obtain ⟨y0, y1, y2, y3⟩ := Qf.out _ hb23; have Hi3 := hid_ hi3; have Hi4 := hid_ hi4; have Hb23 := hid_ hb23; clear hi3 hi4 hb3 hb23))
    have t0 : ((w3.setCell ⟨w.heap.size, 0, none⟩ (.slice a3 n3 c3)).setCell ⟨w.heap.size, 1, none⟩ (.slice a4 n4 c4)).cell? ⟨w.heap.size, 0, none⟩ = some (.slice a3 n3 c3) := by rw [World.cell?_setCell_other _ _ _ _ (by simp), World.cell?_setCell_same _ _ _ y0]
    have z1' : (w3.setCell ⟨w.heap.size, 0, none⟩ (.slice a3 n3 c3)).cell? ⟨w.heap.size, 1, none⟩ = some (.slice none 0 0) := by rw [World.cell?_setCell_other _ _ _ _ (by simp)]; exact y1
    have t1 : ((w3.setCell ⟨w.heap.size, 0, none⟩ (.slice a3 n3 c3)).setCell ⟨w.heap.size, 1, none⟩ (.slice a4 n4 c4)).cell? ⟨w.heap.size, 1, none⟩ = some (.slice a4 n4 c4) := World.cell?_setCell_same _ _ _ z1'
    refine bodyPost_ret (v := .tuple #[.agg #[.slice a3 n3 c3, .slice a4 n4 c4], .bool true, .int .i64 0]) ?_ rfl ⟨_, rfl, ⟨_, _, _, _, _, _, rfl, ints_setSlice7 (ints_setSlice7 Hi3.out y0) z1', ints_setSlice7 (ints_setSlice7 Hi4.out y0) z1'⟩, ((Hb1.out.trans (Hb23.out.mono Hb1.out.size)).setCell (p := ⟨w.heap.size, 0, none⟩) (Nat.le_refl _) _).setCell (p := ⟨w.heap.size, 1, none⟩) (Nat.le_refl _) _⟩
    simp [results, Try.results23, go_sem, t0, t1]
  | false =>
    have Hf : Hid (resBuild T = ⟨[], []⟩) := hid_ (by rw [HR.out, hc]; rfl)
    rw [hc] at HC
    rw [Hf.out]
    generalize validT T = x at *
    clear h b1 r0 r1 f0 hc HR Hf hlen
    go_enter Try.func23, Try.ntmps23
    go_wp2_with (go_at_call 40; (with_reducible refine HC.out.mono ?_); rintro e w2 ⟨rfl, hb2⟩; obtain ⟨y0, y1, y2, y3⟩ := Qf.out _ hb2; have Hb2 := hid_ hb2; clear hb2)
    have t0 : ((w2.setCell ⟨w.heap.size, 0, none⟩ (.slice none 0 0)).setCell ⟨w.heap.size, 1, none⟩ (.slice none 0 0)).cell? ⟨w.heap.size, 0, none⟩ = some (.slice none 0 0) := by rw [World.cell?_setCell_other _ _ _ _ (by simp), World.cell?_setCell_same _ _ _ y0]
    have t1 : ((w2.setCell ⟨w.heap.size, 0, none⟩ (.slice none 0 0)).setCell ⟨w.heap.size, 1, none⟩ (.slice none 0 0)).cell? ⟨w.heap.size, 1, none⟩ = some (.slice none 0 0) := World.cell?_setCell_same _ _ _ (by rw [World.cell?_setCell_other _ _ _ _ (by simp)]; exact y1)
    refine bodyPost_ret (v := .tuple #[.agg #[.slice none 0 0, .slice none 0 0], .bool false, .int .i64 x]) ?_ rfl ⟨_, rfl, ⟨_, _, _, _, _, _, rfl, IntsAt.nil _ _ _ (by omega), IntsAt.nil _ _ _ (by omega)⟩, ((Hb1.out.trans (Hb2.out.mono Hb1.out.size)).setCell (p := ⟨w.heap.size, 0, none⟩) (Nat.le_refl _) _).setCell (p := ⟨w.heap.size, 1, none⟩) (Nat.le_refl _) _⟩
    simp [results, Try.results23, go_sem, t0, t1]
end Go.Proofs.Ytdnlpikfibdjoaa
