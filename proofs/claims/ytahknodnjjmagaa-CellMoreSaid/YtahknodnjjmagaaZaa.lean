import Derived.Test.YtahknodnjjmagaaZ9
import Derived.Test.YtahknodnjjmagaaZq
import Derived.Deep.RegionHeld3
namespace Go.Proofs.Ytahknodnjjmagaa
open Go.RowKit Go.Proofs.Kv

/-! ### Meet -/
def resMeet (P : Par) (i j : Int) : List Int × Bool := if errN P [i, j] = 0 then (meetR (sp P i.toNat) (sp P j.toNat), meetB (sp P i.toNat) (sp P j.toNat)) else ([], false)
set_option maxRecDepth 100000 in
set_option maxHeartbeats 4000000 in
theorem ceMeet_calls (v : Value) (P : Par) (i j : Int) (w : World) (h : ParAt w v P) :
    Calls Try.prog 35 #[v, .int .i64 i, .int .i64 j] w fun e w' => ∃ v', e = .returned (.tuple #[v', .bool (resMeet P i j).2, .int .i64 (errN P [i, j])]) ∧ Made 3 w w' v' (resMeet P i j).1 := by
  have HP := hid_ h
  obtain ⟨a1, n1, c1, a2, n2, c2, rfl, h1, h2⟩ := h
  obtain ⟨w1, hw1⟩ : ∃ w1, w.alloc (.cells #[.slice a1 n1 c1, .slice a2 n2 c2] 25) = w1 := ⟨_, rfl⟩
  have cb : Below w.heap.size w w1 := by rw [← hw1]; exact below_alloc _ _
  have q0 : w1.cell? ⟨w.heap.size, 0, none⟩ = some (.slice a1 n1 c1) := by rw [← hw1]; exact cells_alloc _ _ _ 0
  have q1 : w1.cell? ⟨w.heap.size, 1, none⟩ = some (.slice a2 n2 c2) := by rw [← hw1]; exact cells_alloc _ _ _ 1
  have HP1 := hid_ (HP.out.below cb (Nat.le_refl _)); have Hc1 := hid_ cb
  have HE := hid_ (fun T => validateEntries_calls _ P _ 2 2 [i, j] (w1.alloc (.cells #[.int .i64 i, .int .i64 j] T)) (HP1.out.below (below_alloc _ _) (Nat.le_refl _)) (ints_two w1 i j T))
  have HR : Hid (resMeet P i j = if errN P [i, j] = 0 then (meetR (sp P i.toNat) (sp P j.toNat), meetB (sp P i.toNat) (sp P j.toNat)) else ([], false)) := hid_ rfl
  have H2 := hid_ (h2.below cb (Nat.le_refl _))
  have hl2 := h2.len
  clear h1 h2 cb
  by_cases he : errN P [i, j] = 0
  · obtain ⟨hv, hi, hj⟩ := errN_ok he
    obtain ⟨i', rfl, hi'⟩ := isNo_ok hi
    obtain ⟨j', rfl, hj'⟩ := isNo_ok hj
    have Hf : Hid (resMeet P i' j' = (meetR (sp P i') (sp P j'), meetB (sp P i') (sp P j'))) := hid_ (by rw [HR.out, if_pos he, Int.toNat_natCast, Int.toNat_natCast])
    rw [Hf.out]
    dsimp only
    obtain ⟨-, -, h10, hent⟩ := validP_ok hv
    have li := (specB_ok (hent i' hi').1).1; have lj := (specB_ok (hent j' hj').1).1
    have hi2 : i' < n2 := by omega
    have hj2 : j' < n2 := by omega
    have h10' : n2 ≤ 10 := by omega
    have h3 := (validP_ok hv).1.2
    rw [he] at HE ⊢
    have Hl := hid_ (And.intro li lj)
    have hps : P.sizes.length ≤ 1000 := by omega
    have Hps := hid_ hps
    clear he hv hi hj hent h10 li lj h3 hl2 hi' hj' HR hps
    go_enter Try.func35, Try.ntmps35
    go_wp2_with (go_at_call 82; (with_reducible refine (HE.out _).mono ?_); rintro e w2 ⟨rfl, hb2⟩; have hb3 := (below_alloc w1 (.cells #[.int .i64 (i' : Int), .int .i64 (j' : Int)] 3)).trans (hb2.mono (below_alloc w1 (.cells #[.int .i64 (i' : Int), .int .i64 (j' : Int)] 3)).size); have q0b := cell_below q0 hb3; have q1b := cell_below q1 hb3)
    obtain ⟨b, off, a3, n3, c3, rfl, -, k0, -, hri⟩ := (H2.out.below hb3 (Nat.le_refl _)).cells i' hi2
    obtain ⟨b', off', a4, n4, c4, hbe, -, l0, -, hrj⟩ := (H2.out.below hb3 (Nat.le_refl _)).cells j' hj2
    injection hbe with hbe
    injection hbe with e1 e2
    subst e1 e2
    have hn3 : n3 ≤ 1000 := by have := Hps.out; have := Hl.out.1; have := hri.len; have e : sp P i' = (P.ents.getD i' E0).spec := rfl; omega
    have e4 : n4 = n3 := by rw [← hri.len, ← hrj.len]; exact Hl.out.2.trans Hl.out.1.symm
    subst e4
    have HM := hid_ (fun W (hW : Below w2.heap.size w2 W) => cemeet_calls a3 n4 c3 (sp P i') a4 c4 (sp P j') W (hri.below hW (Nat.le_refl _)) (hrj.below hW (Nat.le_refl _)) hn3)
    have HQ := hid_ (fun W (hW : Below w2.heap.size w2 W) => And.intro (cell_below q0b hW) (And.intro (cell_below q1b hW) (And.intro (cell_below k0 hW) (And.intro (cell_below l0 hW) hW))))
    have hbb : Below w2.heap.size w2 w2 := Below.refl _ _
    have Hb3 := hid_ hb3
    clear hri hrj hb2 hb3
    obtain ⟨m, hm⟩ : ∃ m, (meetR (sp P i') (sp P j')).length = m := ⟨_, rfl⟩
    have Hm := hid_ hm
    clear hm
    go_region_held3 (fun W => W.cell? ⟨w.heap.size, 0, none⟩ = some (.slice a1 n1 c1) ∧ W.cell? ⟨w.heap.size, 1, none⟩ = some (.slice (some ⟨b, off, none⟩) n2 c2) ∧ W.cell? ⟨b, off + i' * 2, none⟩ = some (.slice a3 n4 c3) ∧ W.cell? ⟨b, off + j' * 2, none⟩ = some (.slice a4 n4 c4) ∧ Below w2.heap.size w2 W) ((refine HQ.out _ ?_; (repeat (first | assumption | (with_reducible refine Below.alloc ?_ (by first | omega | (simp; done) | (simp; omega)) _) | (with_reducible refine Below.setCell ?_ (by first | omega | (simp; done) | (simp; omega)) _) | (with_reducible refine Below.drew ?_)))))
      (first
        | (go_at_call 86; (with_reducible refine (HM.out _ ?_).mono ?_); (focus (repeat (first | assumption | (with_reducible refine Below.alloc ?_ (by first | omega | (simp; done) | (simp; omega)) _) | (with_reducible refine Below.setCell ?_ (by first | omega | (simp; done) | (simp; omega)) _) | (with_reducible refine Below.drew ?_)))); rintro e w5 ⟨v5, rfl, hm5⟩; obtain ⟨a5, c5, rfl, -⟩ := hm5.at_; have hb5 : Below w2.heap.size w2 w5 := below_then (by (repeat (first | assumption | (with_reducible refine Below.alloc ?_ (by first | omega | (simp; done) | (simp; omega)) _) | (with_reducible refine Below.setCell ?_ (by first | omega | (simp; done) | (simp; omega)) _) | (with_reducible refine Below.drew ?_)))) hm5.bel; have Hm5 := hid_ (hm5.after (by (repeat (first | assumption | (with_reducible refine Below.alloc ?_ (by first | omega | (simp; done) | (simp; omega)) _) | (with_reducible refine Below.setCell ?_ (by first | omega | (simp; done) | (simp; omega)) _) | (with_reducible refine Below.drew ?_))) : Below w2.heap.size w2 _)); clear hm5; rw [Hm.out]))
    go_wp2
    go_ret3
    exact ⟨_, rfl, by have := Hm5.out; rw [Hm.out] at this; exact this.after (Hc1.out.trans (Hb3.out.mono Hc1.out.size))⟩
  · have Hf : Hid (resMeet P i j = ([], false)) := hid_ (by rw [HR.out, if_neg he])
    rw [Hf.out]
    dsimp only
    have hq : (errN P [i, j] != 0) = true := by simpa using he
    generalize errN P [i, j] = x at *
    clear he HR hl2
    go_enter Try.func35, Try.ntmps35
    go_wp2_with (go_at_call 82; (with_reducible refine (HE.out _).mono ?_); rintro e w2 ⟨rfl, hb2⟩; have hb3 := (below_alloc w1 (.cells #[.int .i64 i, .int .i64 j] 3)).trans (hb2.mono (below_alloc w1 (.cells #[.int .i64 i, .int .i64 j] 3)).size))
    go_ret3
    exact ⟨_, rfl, Made.none_ _ (Hc1.out.trans (hb3.mono Hc1.out.size))⟩
end Go.Proofs.Ytahknodnjjmagaa
