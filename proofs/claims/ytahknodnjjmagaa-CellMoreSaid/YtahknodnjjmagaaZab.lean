import Derived.Test.YtahknodnjjmagaaZaa
namespace Go.Proofs.Ytahknodnjjmagaa
open Go.RowKit Go.Proofs.Kv

/-! ### Meet of the document -/
def clash1 (a b : List Int) (i : Nat) : Bool := decide (a.getD i 0 = -1) || (decide (b.getD i 0 = -1) || decide (a.getD i 0 = b.getD i 0))
theorem meetB_yes {a b : List Int} {n : Nat} (hn : a.length = n) (h : ∀ j, j < n → clash1 a b j = true) : meetB a b = true := by
  rw [meetB, hn]; exact List.all_eq_true.2 fun i hi => h i (List.mem_range.1 hi)
theorem meetB_no {a b : List Int} {k : Nat} (hk : k < a.length) (h : clash1 a b k = false) : meetB a b = false := by
  rw [meetB]; exact List.all_eq_false.2 ⟨k, List.mem_range.2 hk, by rw [clash1] at h; rw [h]; simp⟩
theorem meetK_max {a b : List Int} {k : Nat} (h : clash1 a b k = true) (ha : -1 ≤ a.getD k 0) (hb : -1 ≤ b.getD k 0) : meetK a b (k + 1) = meetK a b k ++ [max (a.getD k 0) (b.getD k 0)] := by
  rw [meetK_succ]
  rw [clash1, Bool.or_eq_true, Bool.or_eq_true, decide_eq_true_eq, decide_eq_true_eq, decide_eq_true_eq] at h
  by_cases hx : a.getD k 0 = -1
  · rw [if_pos hx, Int.max_eq_right (by omega)]
  · rw [if_neg hx, Int.max_eq_left (by omega)]
set_option maxRecDepth 100000 in
set_option maxHeartbeats 4000000 in
theorem r6Meet_calls (v : Value) (P : Par) (i j : Int) (w : World) (h : ParAt w v P) :
    Calls Try.prog 36 #[v, .int .i64 i, .int .i64 j] w fun e w' => ∃ v', e = .returned (.tuple #[v', .bool (resMeet P i j).2, .int .i64 (errN P [i, j])]) ∧ Made 3 w w' v' (resMeet P i j).1 := by
  have HP := hid_ h
  obtain ⟨a1, n1, c1, a2, n2, c2, rfl, h1, h2⟩ := h
  obtain ⟨w1, hw1⟩ : ∃ w1, w.alloc (.cells #[.slice a1 n1 c1, .slice a2 n2 c2] 25) = w1 := ⟨_, rfl⟩
  have cb : Below w.heap.size w w1 := by rw [← hw1]; exact below_alloc _ _
  have q0 : w1.cell? ⟨w.heap.size, 0, none⟩ = some (.slice a1 n1 c1) := by rw [← hw1]; exact cells_alloc _ _ _ 0
  have q1 : w1.cell? ⟨w.heap.size, 1, none⟩ = some (.slice a2 n2 c2) := by rw [← hw1]; exact cells_alloc _ _ _ 1
  have HP1 := hid_ (HP.out.below cb (Nat.le_refl _)); have Hc1 := hid_ cb
  have HE := hid_ (numbered_calls _ P i j w1 HP1.out)
  have HR : Hid (resMeet P i j = if errN P [i, j] = 0 then (meetR (sp P i.toNat) (sp P j.toNat), meetB (sp P i.toNat) (sp P j.toNat)) else ([], false)) := hid_ rfl
  have H2 := hid_ (h2.below cb (Nat.le_refl _))
  have hl2 := h2.len
  clear h1 h2 cb
  by_cases he : errN P [i, j] = 0
  · obtain ⟨hv, hi, hj⟩ := errN_ok he
    obtain ⟨i', rfl, hi'⟩ := isNo_ok hi
    obtain ⟨j', rfl, hj'⟩ := isNo_ok hj
    have Hf : Hid (resMeet P i' j' = (meetR (sp P i') (sp P j'), meetB (sp P i') (sp P j'))) := hid_ (by rw [HR.out, if_pos he, Int.toNat_natCast, Int.toNat_natCast])
    rw [Hf.out]
    dsimp only
    obtain ⟨-, -, h10, hent⟩ := validP_ok hv
    obtain ⟨li, ri⟩ := specB_ok (hent i' hi').1; obtain ⟨lj, rj⟩ := specB_ok (hent j' hj').1
    have hi2 : i' < n2 := by omega
    have hj2 : j' < n2 := by omega
    have h10' : n2 ≤ 10 := by omega
    have h3 := (validP_ok hv).1.2
    rw [he] at HE ⊢
    have Hl := hid_ (And.intro li lj)
    have Hps : Hid (P.sizes.length ≤ 3) := hid_ h3
    have HRi := hid_ (fun k (hk : k < (sp P i').length) => show -1 ≤ (sp P i').getD k 0 from (ri k hk).1); have HRj := hid_ (fun k (hk : k < (sp P j').length) => show -1 ≤ (sp P j').getD k 0 from (rj k hk).1)
    clear he hv hi hj hent h10 li lj ri rj h3 hl2 hi' hj' HR
    go_enter Try.func36, Try.ntmps36
    go_wp2_with (go_at_call 84; (with_reducible refine HE.out.mono ?_); rintro e w2 ⟨rfl, hb3⟩; have q0b := cell_below q0 hb3; have q1b := cell_below q1 hb3)
    obtain ⟨b, off, a3, n3, c3, rfl, -, k0, -, hri⟩ := (H2.out.below hb3 (Nat.le_refl _)).cells i' hi2
    obtain ⟨b', off', a4, n4, c4, hbe, -, l0, -, hrj⟩ := (H2.out.below hb3 (Nat.le_refl _)).cells j' hj2
    injection hbe with hbe
    injection hbe with e1 e2
    subst e1 e2
    have hri : IntsAt w2 a3 n3 c3 (sp P i') := hri
    have hrj : IntsAt w2 a4 n4 c4 (sp P j') := hrj
    have hn3 : n3 ≤ 3 := by have := Hps.out; have e : (sp P i').length = P.sizes.length := Hl.out.1; have := hri.len; omega
    have e4 : n4 = n3 := by rw [← hri.len, ← hrj.len]; exact Hl.out.2.trans Hl.out.1.symm
    subst e4
    have hla := hri.len
    have HA := hid_ (fun k (hk : k < n4) => HRi.out k (by rw [hri.len]; exact hk)); have HB := hid_ (fun k (hk : k < n4) => HRj.out k (by rw [hrj.len]; exact hk))
    have HY := hid_ (fun (hh : ∀ j, j < n4 → clash1 (sp P i') (sp P j') j = true) => meetB_yes hla hh)
    have HN := hid_ (fun k (hk : k < n4) (hh : clash1 (sp P i') (sp P j') k = false) => @meetB_no (sp P i') (sp P j') k (by rw [hla]; exact hk) hh)
    have HL : Hid (meetK (sp P i') (sp P j') n4 = meetL (sp P i') (sp P j')) := hid_ (by rw [meetL, hla])
    have HR : Hid (meetR (sp P i') (sp P j') = if meetB (sp P i') (sp P j') then meetL (sp P i') (sp P j') else []) := hid_ rfl
    have HI := hid_ hri; have HJ := hid_ hrj
    have Hb3 := hid_ hb3
    have HKl := hid_ (fun k => meetK_len (sp P i') (sp P j') k)
    clear hri hrj hb3 hla HRi HRj Hl
    go_wp2_with fail
    go_quiet (fail)
    go_wp2
    obtain ⟨wq, hwq⟩ : ∃ wq, w2.drewN nq = wq := ⟨_, rfl⟩
    have HI2 : Hid (IntsAt wq a3 n4 c3 (sp P i')) := hid_ (by rw [← hwq]; exact HI.out.drewN nq)
    have HJ2 : Hid (IntsAt wq a4 n4 c4 (sp P j')) := hid_ (by rw [← hwq]; exact HJ.out.drewN nq)
    have Hbq : Hid (Below w1.heap.size w1 wq) := hid_ (by rw [← hwq]; exact below_drewN Hb3.out nq)
    rw [hwq]
    clear hwq q0b q1b k0 l0 q0 q1
    go_loopw [10, 13] (fun v i wr => ∃ k : Nat, k ≤ n4 ∧ i = .int .i64 k ∧ wr.ownsRow wq.heap.size 3 1 v k ((meetK (sp P i') (sp P j') k).map (Value.int .i64)) ∧ Below wq.heap.size wq wr ∧ ∀ j, j < k → clash1 (sp P i') (sp P j') j = true) (fun _ i _ => n4 - (intOf i).toNat)
    case atStart => exact ⟨0, Nat.zero_le _, rfl, World.ownsRow_nil _ _ _ _, Below.refl _ _, fun _ h => absurd h (by omega)⟩
    case round =>
      obtain ⟨k, hk, rfl, hown, hb, hall⟩ := hrel
      have Hall := hid_ hall; have Hb := hid_ hb
      have hsz := hb.size
      clear hall
      by_cases hlt : k < n4
      · have hs1 : k + 1 ≤ 1000000 := by omega
        obtain ⟨ba, oa, rfl, hba, hcaq⟩ := HI2.out.cells k hlt
        obtain ⟨bb, ob, rfl, hbb2, hcbq⟩ := HJ2.out.cells k hlt
        have hca := cell_below hcaq hb; have hcb := cell_below hcbq hb
        have hax := HA.out k hlt; have hby := HB.out k hlt
        have hno := HN.out k hlt
        have hyes := fun hh => lt_snoc (p := fun j => clash1 (sp P i') (sp P j') j = true) Hall.out hh
        have hmx := fun hh => @meetK_max (sp P i') (sp P j') k hh hax hby
        have hcl : clash1 (sp P i') (sp P j') k = (decide ((sp P i').getD k 0 = -1) || (decide ((sp P j').getD k 0 = -1) || decide ((sp P i').getD k 0 = (sp P j').getD k 0))) := rfl
        have HOw := hid_ (fun W (hW : Below wr.heap.size wr W) => own_below hown hW (Nat.le_refl _))
        have Hlt := hid_ hown.lt
        have HQ := hid_ (fun W (hW : Below wq.heap.size wr W) => And.intro (cell_below hcaq (hb.trans hW)) (And.intro (cell_below hcbq (hb.trans hW)) hW))
        have hbr : Below wr.heap.size wr wr := Below.refl _ _
        clear hb hown hcaq hcbq
        generalize (sp P i').getD k 0 = x at *
        generalize (sp P j').getD k 0 = y at *
        by_cases hx : x = -1
        · have hc := hcl.trans (by rw [decide_eq_true hx, Bool.true_or])
          have Hn := hid_ (hyes hc); have Hs := hid_ (hmx hc)
          subst hx
          clear hno hyes hmx hcl hc hax
          go_wp2_with fail
          go_quiet (fail)
          go_wp2
          go_region_held3 (fun W => W.cell? ⟨ba, oa + k, none⟩ = some (.int .i64 (-1)) ∧ W.cell? ⟨bb, ob + k, none⟩ = some (.int .i64 y) ∧ Below wq.heap.size wr W) ((refine HQ.out _ ?_; (first | assumption | (refine Below.mono ?_ hsz; (repeat (first | assumption | (with_reducible refine Below.alloc ?_ (by first | omega | (simp; done) | (simp; omega)) _) | (with_reducible refine Below.setCell ?_ (by first | omega | (simp; done) | (simp; omega)) _) | (with_reducible refine Below.drew ?_) | (with_reducible refine below_drewN ?_ _)))))))
            (first
              | ((refine step_append_row rfl (.tmp 62) (.tmp 72) rfl wq.heap.size _ _ _ (by rfl) (HOw.out _ ?_) _ 1 1 _ (by rfl) (IntsAt.one _ _ _) hs1 (by first | omega | (simp; omega)) ?_); (focus (repeat (first | assumption | (with_reducible refine Below.alloc ?_ (by first | omega | (simp; done) | (simp; omega)) _) | (with_reducible refine Below.setCell ?_ (by first | omega | (simp; done) | (simp; omega)) _) | (with_reducible refine Below.drew ?_) | (with_reducible refine below_drewN ?_ _)))); intro v6 w6 hown6 hg6 hat6; have hb6 : Below wq.heap.size wr w6 := Below.grown (Below.mono (show Below wr.heap.size wr _ by (repeat (first | assumption | (with_reducible refine Below.alloc ?_ (by first | omega | (simp; done) | (simp; omega)) _) | (with_reducible refine Below.setCell ?_ (by first | omega | (simp; done) | (simp; omega)) _) | (with_reducible refine Below.drew ?_) | (with_reducible refine below_drewN ?_ _)))) hsz) hg6 (by first | omega | (simp; omega)) (fun r e => (Hlt.out r e).1)))
          all_goals
            go_wp2_with fail
            exact ⟨⟨k + 1, by omega, by go_num, by rw [Hs.out]; exact hown6, Hb.out.trans hb6, Hn.out⟩, by simp [intOf]; omega⟩
        · have hx0 : 0 ≤ x := by omega
          by_cases hy : y = -1
          · have hc := hcl.trans (by rw [decide_eq_true hy, Bool.true_or, Bool.or_true])
            have Hn := hid_ (hyes hc); have Hs := hid_ (hmx hc)
            subst hy
            clear hno hyes hmx hcl hc hby hx hax
            go_wp2_with fail
            go_quiet (fail)
            go_wp2
            go_region_held3 (fun W => W.cell? ⟨ba, oa + k, none⟩ = some (.int .i64 x) ∧ W.cell? ⟨bb, ob + k, none⟩ = some (.int .i64 (-1)) ∧ Below wq.heap.size wr W) ((refine HQ.out _ ?_; (first | assumption | (refine Below.mono ?_ hsz; (repeat (first | assumption | (with_reducible refine Below.alloc ?_ (by first | omega | (simp; done) | (simp; omega)) _) | (with_reducible refine Below.setCell ?_ (by first | omega | (simp; done) | (simp; omega)) _) | (with_reducible refine Below.drew ?_) | (with_reducible refine below_drewN ?_ _)))))))
              (first
                | ((refine step_append_row rfl (.tmp 62) (.tmp 72) rfl wq.heap.size _ _ _ (by rfl) (HOw.out _ ?_) _ 1 1 _ (by rfl) (IntsAt.one _ _ _) hs1 (by first | omega | (simp; omega)) ?_); (focus (repeat (first | assumption | (with_reducible refine Below.alloc ?_ (by first | omega | (simp; done) | (simp; omega)) _) | (with_reducible refine Below.setCell ?_ (by first | omega | (simp; done) | (simp; omega)) _) | (with_reducible refine Below.drew ?_) | (with_reducible refine below_drewN ?_ _)))); intro v6 w6 hown6 hg6 hat6; have hb6 : Below wq.heap.size wr w6 := Below.grown (Below.mono (show Below wr.heap.size wr _ by (repeat (first | assumption | (with_reducible refine Below.alloc ?_ (by first | omega | (simp; done) | (simp; omega)) _) | (with_reducible refine Below.setCell ?_ (by first | omega | (simp; done) | (simp; omega)) _) | (with_reducible refine Below.drew ?_) | (with_reducible refine below_drewN ?_ _)))) hsz) hg6 (by first | omega | (simp; omega)) (fun r e => (Hlt.out r e).1)))
            all_goals
              go_wp2_with fail
              exact ⟨⟨k + 1, by omega, by go_num, by rw [Hs.out]; exact hown6, Hb.out.trans hb6, Hn.out⟩, by simp [intOf]; omega⟩
          · have hy0 : 0 ≤ y := by omega
            by_cases hxy : x = y
            · have hc := hcl.trans (by rw [decide_eq_true hxy, Bool.or_true, Bool.or_true])
              have Hn := hid_ (hyes hc); have Hs := hid_ (hmx hc)
              subst hxy
              clear hno hyes hmx hcl hc hby hx hax hy
              go_wp2_with fail
              go_quiet (fail)
              go_wp2
              go_region_held3 (fun W => W.cell? ⟨ba, oa + k, none⟩ = some (.int .i64 x) ∧ W.cell? ⟨bb, ob + k, none⟩ = some (.int .i64 x) ∧ Below wq.heap.size wr W) ((refine HQ.out _ ?_; (first | assumption | (refine Below.mono ?_ hsz; (repeat (first | assumption | (with_reducible refine Below.alloc ?_ (by first | omega | (simp; done) | (simp; omega)) _) | (with_reducible refine Below.setCell ?_ (by first | omega | (simp; done) | (simp; omega)) _) | (with_reducible refine Below.drew ?_) | (with_reducible refine below_drewN ?_ _)))))))
                (first
                  | ((refine step_append_row rfl (.tmp 62) (.tmp 72) rfl wq.heap.size _ _ _ (by rfl) (HOw.out _ ?_) _ 1 1 _ (by rfl) (IntsAt.one _ _ _) hs1 (by first | omega | (simp; omega)) ?_); (focus (repeat (first | assumption | (with_reducible refine Below.alloc ?_ (by first | omega | (simp; done) | (simp; omega)) _) | (with_reducible refine Below.setCell ?_ (by first | omega | (simp; done) | (simp; omega)) _) | (with_reducible refine Below.drew ?_) | (with_reducible refine below_drewN ?_ _)))); intro v6 w6 hown6 hg6 hat6; have hb6 : Below wq.heap.size wr w6 := Below.grown (Below.mono (show Below wr.heap.size wr _ by (repeat (first | assumption | (with_reducible refine Below.alloc ?_ (by first | omega | (simp; done) | (simp; omega)) _) | (with_reducible refine Below.setCell ?_ (by first | omega | (simp; done) | (simp; omega)) _) | (with_reducible refine Below.drew ?_) | (with_reducible refine below_drewN ?_ _)))) hsz) hg6 (by first | omega | (simp; omega)) (fun r e => (Hlt.out r e).1)))
              all_goals
                go_wp2_with fail
                exact ⟨⟨k + 1, by omega, by go_num, by rw [Hs.out, Int.max_self]; exact hown6, Hb.out.trans hb6, Hn.out⟩, by simp [intOf]; omega⟩
            · have hc := hno (hcl.trans (by rw [decide_eq_false hx, decide_eq_false hy, decide_eq_false hxy]; rfl))
              have hne : (x != y) = true := by simpa using hxy
              have Hz := hid_ hc
              have Hr : Hid (meetR (sp P i') (sp P j') = []) := hid_ (by rw [HR.out, hc]; rfl)
              clear hno hyes hmx hcl hc hby hx hax hy hxy
              go_wp2_with fail
              go_quiet (fail)
              go_wp2
              go_ret3
              exact ⟨_, by rw [Hz.out]; rfl, by rw [Hr.out]; exact Made.none_ _ (Hc1.out.trans ((Hbq.out.trans ((below_drewN Hb.out _).mono Hbq.out.size)).mono Hc1.out.size))⟩
      · obtain rfl : n4 = k := by omega
        have Hz := hid_ (HY.out Hall.out)
        have Hr : Hid (meetR (sp P i') (sp P j') = meetL (sp P i') (sp P j')) := hid_ (by rw [HR.out, Hz.out]; rfl)
        go_wp2
        go_ret3
        refine ⟨_, by rw [Hz.out]; rfl, ⟨?_, Hc1.out.trans ((Hbq.out.trans (hb.mono Hbq.out.size)).mono Hc1.out.size)⟩⟩
        rw [Hr.out, ← HL.out, HKl.out]
        exact own_base hown (Nat.le_trans Hc1.out.size Hbq.out.size)
  · have Hf : Hid (resMeet P i j = ([], false)) := hid_ (by rw [HR.out, if_neg he])
    rw [Hf.out]
    dsimp only
    have hq : (errN P [i, j] != 0) = true := by simpa using he
    generalize errN P [i, j] = x at *
    clear he HR hl2
    go_enter Try.func36, Try.ntmps36
    go_wp2_with (go_at_call 84; (with_reducible refine HE.out.mono ?_); rintro e w2 ⟨rfl, hb3⟩)
    go_ret3
    exact ⟨_, rfl, Made.none_ _ (Hc1.out.trans (hb3.mono Hc1.out.size))⟩
end Go.Proofs.Ytahknodnjjmagaa
