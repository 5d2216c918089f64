import Derived.Test.YtdnlpikfibdjoaaZvb
import Derived.Shelf.Abstract
import Derived.Test.YtdnlpikfibdjoaaZ0
import Derived.RegionTactic
import Derived.Deep.RegionHeld3
namespace Go.Proofs.Ytdnlpikfibdjoaa
open Go.RowKit Go.Proofs.Kv

/-! ### more special: the document's -/
set_option maxRecDepth 100000 in
set_option maxHeartbeats 4000000 in
theorem inside_calls (v : Value) (P : Par) (a3 : Option Addr) (n3 c3 : Nat) (x : List Int) (a4 : Option Addr) (n4 c4 : Nat) (y : List Int) (w : World) (h : ParAt w v P) (hx : IntsAt w a3 n3 c3 x) (hy : IntsAt w a4 n4 c4 y) (hv : validP P = 0) (sx : specB P.sizes x (-1) = true) (sy : specB P.sizes y (-1) = true) :
    Calls Try.prog 146 #[v, .slice a3 n3 c3, .slice a4 n4 c4] w fun e w' => e = .returned (.bool (insB P.sizes x y)) ∧ Below w.heap.size w w' := by
  have HP := hid_ h
  obtain ⟨a1, n1, c1, a2, n2, c2, rfl, h1, h2⟩ := h
  obtain ⟨w1, hw1⟩ : ∃ w1, w.alloc (.cells #[.slice a1 n1 c1, .slice a2 n2 c2] 25) = w1 := ⟨_, rfl⟩
  have cb : Below w.heap.size w w1 := by rw [← hw1]; exact below_alloc _ _
  have q0 : w1.cell? ⟨w.heap.size, 0, none⟩ = some (.slice a1 n1 c1) := by rw [← hw1]; exact cells_alloc _ _ _ 0
  have q1 : w1.cell? ⟨w.heap.size, 1, none⟩ = some (.slice a2 n2 c2) := by rw [← hw1]; exact cells_alloc _ _ _ 1
  have HP1 := hid_ (HP.out.below cb (Nat.le_refl _)); have Hc1 := hid_ cb
  have HC := hid_ (r6cells_calls _ P w1 HP1.out hv)
  have HX := hid_ (hx.below cb (Nat.le_refl _)); have HY := hid_ (hy.below cb (Nat.le_refl _))
  have hx3 : n3 = P.sizes.length := by rw [← hx.len, (specB_ok sx).1]
  have hx4 : n4 = P.sizes.length := by rw [← hy.len, (specB_ok sy).1]
  have HGx := hid_ (fun j (hj : j < n3) => ((specB_ok sx).2 j (by rw [hx.len]; exact hj)).1)
  have HGy := hid_ (fun j (hj : j < n4) => ((specB_ok sy).2 j (by rw [hy.len]; exact hj)).1)
  have HLe : Hid (∀ k, k < (cellsL P.sizes).length → ((cellsL P.sizes).getD k []).length = P.sizes.length) := hid_ (fun k hk => (specB_ok (cells_spec hv hk)).1)
  have h27 := (cells_chain hv).2.2.1
  have HYes : Hid ((∀ j, j < (cellsL P.sizes).length → (!hB x ((cellsL P.sizes).getD j []) || hB y ((cellsL P.sizes).getD j [])) = true) → insB P.sizes x y = true) := hid_ (fun hh => by
    rw [insB, List.all_eq_true]
    intro c hc
    obtain ⟨i, hi, rfl⟩ := List.mem_iff_getElem.1 hc
    have := hh i hi
    rwa [show (cellsL P.sizes).getD i [] = (cellsL P.sizes)[i] by simp [List.getD, List.getElem?_eq_getElem hi]] at this)
  have HNo : Hid (∀ j, j < (cellsL P.sizes).length → (!hB x ((cellsL P.sizes).getD j []) || hB y ((cellsL P.sizes).getD j [])) = false → insB P.sizes x y = false) := hid_ (fun j hj hh => by
    rw [insB, List.all_eq_false]
    refine ⟨(cellsL P.sizes)[j], List.getElem_mem hj, ?_⟩
    rw [show (cellsL P.sizes).getD j [] = (cellsL P.sizes)[j] by simp [List.getD, List.getElem?_eq_getElem hj]] at hh
    rw [hh]; simp)
  have Hx3 := hid_ hx3; have Hx4 := hid_ hx4
  clear h1 h2 hx hy sx sy hv cb hx3 hx4
  generalize cellsL P.sizes = L at *
  go_enter Try.func146, Try.ntmps146
  go_wp2_with (go_at_call 107; (with_reducible refine HC.out.mono ?_); rintro e w2 ⟨v2, rfl, hm⟩; obtain ⟨a5, c5, rfl, hL5⟩ := hm.at_; have hb2 := hm.bel)
  have HL := hid_ hL5
  have Hb2 := hid_ hb2
  clear hm hL5 q0 q1
  go_loopw [8] (fun i wr => ∃ k q : Nat, k ≤ L.length ∧ i = .int .i64 k ∧ wr = w2.drewN q ∧ ∀ j, j < k → (!hB x (L.getD j []) || hB y (L.getD j [])) = true) (fun i _ => L.length - (intOf i).toNat)
  case atStart => exact ⟨0, 0, Nat.zero_le _, rfl, rfl, fun _ h => absurd h (by omega)⟩
  case round =>
    obtain ⟨k, q, hk, rfl, hq, hall⟩ := hrel
    have Hall := hid_ hall
    have hbr : Below w2.heap.size w2 wr := by rw [hq]; exact below_drewN (Below.refl _ _) _
    have HbF := hid_ (Hc1.out.trans ((Hb2.out.trans (hbr.mono Hb2.out.size)).mono Hc1.out.size))
    have Hq := hid_ hq
    clear hall hq
    by_cases hlt : k < L.length
    · obtain ⟨b, off, a6, n6, c6, rfl, hbs, hcell, hrow⟩ := (HL.out.below hbr (Nat.le_refl _)).cells k hlt
      have hl6 : n6 = P.sizes.length := by rw [← hrow.len, HLe.out k hlt]
      have hX := (HX.out.below Hb2.out (Nat.le_refl _)).below hbr (Nat.le_refl _)
      have hY := (HY.out.below Hb2.out (Nat.le_refl _)).below hbr (Nat.le_refl _)
      have hno := HNo.out k hlt
      have hyes := fun hh => lt_snoc (p := fun j => (!hB x (L.getD j []) || hB y (L.getD j [])) = true) Hall.out hh
      have HA := hid_ (holds_calls a6 n6 c6 (L.getD k []) a3 n3 c3 x wr hrow hX (by rw [Hx3.out, hl6]; exact Nat.le_refl _) HGx.out)
      have HB := hid_ (fun q => holds_calls a6 n6 c6 (L.getD k []) a4 n4 c4 y (wr.drewN q) (hrow.drewN q) (hY.drewN q) (by rw [Hx4.out, hl6]; exact Nat.le_refl _) HGy.out)
      clear hX hY hrow hl6 hbr
      generalize L.getD k [] = cl at *
      generalize hB x cl = bx at *
      generalize hB y cl = bY at *
      cases bx with
      | false =>
        have Hn := hid_ (hyes rfl)
        clear hno hyes
        go_wp2_with (go_at_call 145; (with_reducible refine HA.out.mono ?_); rintro e w5 ⟨rfl, q1, rfl⟩)
        go_roundw
        case rel => exact ⟨k + 1, _, by omega, by go_num, by rw [Hq.out, drewN2], Hn.out⟩
        case measure => simp [intOf]; omega
      | true =>
        cases bY with
        | false =>
          have Hf := hid_ (hno rfl)
          clear hno hyes
          go_wp2_with (first
            | (go_at_call 145; (with_reducible refine HA.out.mono ?_); rintro e w5 ⟨rfl, q1, rfl⟩)
            | (go_at_call 145; (with_reducible refine (HB.out q1).mono ?_); rintro e w5 ⟨rfl, q2, rfl⟩))
          go_ret
          exact ⟨retB Hf.out, below_drewN HbF.out _⟩
        | true =>
          have Hn := hid_ (hyes rfl)
          clear hno hyes
          go_wp2_with (first
            | (go_at_call 145; (with_reducible refine HA.out.mono ?_); rintro e w5 ⟨rfl, q1, rfl⟩)
            | (go_at_call 145; (with_reducible refine (HB.out q1).mono ?_); rintro e w5 ⟨rfl, q2, rfl⟩))
          go_roundw
          case rel => exact ⟨k + 1, _, by omega, by go_num, by rw [Hq.out, drewN2], Hn.out⟩
          case measure => simp [intOf]; omega
    · obtain rfl : L.length = k := by omega
      have Hf := hid_ (HYes.out Hall.out)
      go_wp2
      go_ret
      exact ⟨retB Hf.out, HbF.out⟩
set_option maxRecDepth 100000 in
set_option maxHeartbeats 4000000 in
theorem r6isMore_calls (v : Value) (P : Par) (i j : Nat) (w : World) (h : ParAt w v P) (hv : validP P = 0) (hi : i < P.ents.length) (hj : j < P.ents.length) :
    Calls Try.prog 139 #[v, .int .i64 (i : Int), .int .i64 (j : Int)] w fun e w' => e = .returned (.bool (moreB (sp P i) (sp P j))) ∧ Below w.heap.size w w' := by
  obtain ⟨-, -, h10, hent⟩ := validP_ok hv
  have si : specB P.sizes (sp P i) (-1) = true := (hent i hi).1
  have sj : specB P.sizes (sp P j) (-1) = true := (hent j hj).1
  have HP := hid_ h
  obtain ⟨a1, n1, c1, a2, n2, c2, rfl, h1, h2⟩ := h
  obtain ⟨w1, hw1⟩ : ∃ w1, w.alloc (.cells #[.slice a1 n1 c1, .slice a2 n2 c2] 25) = w1 := ⟨_, rfl⟩
  have cb : Below w.heap.size w w1 := by rw [← hw1]; exact below_alloc _ _
  have q0 : w1.cell? ⟨w.heap.size, 0, none⟩ = some (.slice a1 n1 c1) := by rw [← hw1]; exact cells_alloc _ _ _ 0
  have q1 : w1.cell? ⟨w.heap.size, 1, none⟩ = some (.slice a2 n2 c2) := by rw [← hw1]; exact cells_alloc _ _ _ 1
  have HP1 := hid_ (HP.out.below cb (Nat.le_refl _)); have Hc1 := hid_ cb
  have hi' : i < n2 := by rw [← h2.len]; exact hi
  have hj' : j < n2 := by rw [← h2.len]; exact hj
  have h10' : n2 ≤ 10 := by rw [← h2.len]; exact h10
  have H2 := h2.below cb (Nat.le_refl _)
  obtain ⟨b, off, a3, n3, c3, rfl, -, k0, k1, hri⟩ := H2.cells i hi'
  obtain ⟨b', off', a4, n4, c4, hbe, -, l0, l1, hrj⟩ := H2.cells j hj'
  injection hbe with hbe
  injection hbe with e1 e2
  subst e1 e2
  have HA := hid_ (fun q => inside_calls _ P a3 n3 c3 (sp P i) a4 n4 c4 (sp P j) (w1.drewN q) (HP1.out.drewN q) (hri.drewN q) (hrj.drewN q) hv si sj)
  have HB := hid_ (fun q W (hW : Below (w1.drewN q).heap.size (w1.drewN q) W) => inside_calls _ P a4 n4 c4 (sp P j) a3 n3 c3 (sp P i) W ((HP1.out.drewN q).below hW (Nat.le_refl _)) ((hrj.drewN q).below hW (Nat.le_refl _)) ((hri.drewN q).below hW (Nat.le_refl _)) hv sj si)
  rw [ins_eq hv si sj] at HA
  rw [ins_eq hv sj si] at HB
  have HM : Hid (moreB (sp P i) (sp P j) = (hB (sp P j) (sp P i) && !hB (sp P i) (sp P j))) := hid_ rfl
  have e0 : ∀ q, (w1.drewN q).cell? ⟨w.heap.size, 0, none⟩ = some (.slice a1 n1 c1) := fun q => q0
  have e1 : ∀ q, (w1.drewN q).cell? ⟨w.heap.size, 1, none⟩ = some (.slice (some ⟨b, off, none⟩) n2 c2) := fun q => q1
  have HP0 := hid_ e0; have HP2 := hid_ e1
  clear hri hrj H2 h1 h2 cb hent hv h10 k1 l1 hi hj si sj e0 e1
  generalize hB (sp P j) (sp P i) = x at *
  generalize hB (sp P i) (sp P j) = y at *
  cases x with
  | false =>
    have Hf : Hid (moreB (sp P i) (sp P j) = false) := hid_ (by rw [HM.out]; rfl)
    go_enter Try.func139, Try.ntmps139
    go_wp2_with fail
    go_quiet (fail)
    go_wp2_with (go_at_call 146; (with_reducible refine (HA.out _).mono ?_); rintro e w3 ⟨rfl, hb3⟩)
    go_ret
    exact ⟨retB Hf.out, Hc1.out.trans (((below_drewN (Below.refl _ _) _).trans hb3).mono Hc1.out.size)⟩
  | true =>
    have Hf : Hid (moreB (sp P i) (sp P j) = !y) := hid_ (by rw [HM.out]; rfl)
    go_enter Try.func139, Try.ntmps139
    go_wp2_with fail
    go_quiet (fail)
    go_wp2_with (first
      | (go_at_call 146; (with_reducible refine (HA.out _).mono ?_); rintro e w3 ⟨rfl, hb3⟩; have q03 := cell_below (HP0.out _) hb3; have q13 := cell_below (HP2.out _) hb3)
      | (go_at_call 146; (with_reducible refine (HB.out _ _ hb3).mono ?_); rintro e w4 ⟨rfl, hb4⟩))
    go_ret
    exact ⟨retB Hf.out, Hc1.out.trans ((((below_drewN (Below.refl _ _) _).trans hb3).trans (hb4.mono hb3.size)).mono Hc1.out.size)⟩
end Go.Proofs.Ytdnlpikfibdjoaa
namespace Go.Proofs.Ytdnlpikfibdjoaa
open Go.RowKit Go.Proofs.Kv

/-! ### the program's test: is there one that is not less special? -/
def stopB (P : Par) (x y : Nat) : Bool := !decide (y = x) && !moreB (sp P x) (sp P y)
set_option maxRecDepth 100000 in
set_option maxHeartbeats 4000000 in
theorem decides1_calls (P : Par) (x y bx pb : Nat) (a1 : Option Addr) (n1 c1 : Nat) (a2 : Option Addr) (n2 c2 : Nat) (w : World) (hx : w.cell? ⟨bx, 0, none⟩ = some (.int .i64 (x : Int)))
    (q0 : w.cell? ⟨pb, 0, none⟩ = some (.slice a1 n1 c1)) (q1 : w.cell? ⟨pb, 1, none⟩ = some (.slice a2 n2 c2)) (h : ParAt w (.agg #[.slice a1 n1 c1, .slice a2 n2 c2]) P) (hv : validP P = 0) (hi : x < P.ents.length) (hj : y < P.ents.length) :
    Calls Try.prog 122 #[.int .i64 (y : Int), .pointer (some ⟨bx, 0, none⟩), .pointer (some ⟨pb, 0, none⟩)] w fun e w' => e = .returned (.bool (stopB P x y)) ∧ Below w.heap.size w w' := by
  have HS : Hid (stopB P x y = (!decide (y = x) && !moreB (sp P x) (sp P y))) := hid_ rfl
  have HM := hid_ (ceisMore_calls _ P x y w h hv hi hj)
  by_cases he : y = x
  · have Hf : Hid (stopB P x y = false) := hid_ (by rw [HS.out, decide_eq_true he]; rfl)
    subst he
    clear h
    go_enter Try.func122, Try.ntmps122
    go_wp2
    go_ret
    exact ⟨retB Hf.out, Below.refl _ _⟩
  · have Hf : Hid (stopB P x y = !moreB (sp P x) (sp P y)) := hid_ (by rw [HS.out, decide_eq_false he]; rfl)
    have he' : ((y : Int) != (x : Int)) = true := by simpa using (show ¬ (y : Int) = x by omega)
    generalize moreB (sp P x) (sp P y) = z at *
    clear h he
    go_enter Try.func122, Try.ntmps122
    go_wp2_with (go_at_call 85; (with_reducible refine HM.out.mono ?_); rintro e w4 ⟨rfl, hb4⟩)
    go_ret
    exact ⟨retB Hf.out, hb4⟩
set_option maxRecDepth 100000 in
set_option maxHeartbeats 4000000 in
theorem indexFunc_calls (a : Option Addr) (n c : Nat) (L : List Int) (u1 u2 : Value) (pr : Int → Bool) (w : World) (h : IntsAt w a n c L)
    (hc : ∀ W, Below w.heap.size w W → ∀ k, k < n → Calls Try.prog 122 #[.int .i64 (L.getD k 0), u1, u2] W fun e w' => e = .returned (.bool (pr (L.getD k 0))) ∧ Below W.heap.size W w') :
    Calls Try.prog 135 #[.slice a n c, .func (.func 122) #[] #[u1, u2]] w fun e w' => ∃ r : Int, e = .returned (.int .i64 r) ∧ decide (0 ≤ r) = L.any pr ∧ Below w.heap.size w w' := by
  have hn : n ≤ 9223372036854775807 := Nat.le_trans h.le h.small
  have hent : ∀ args W, (callFunc 122 args).run Try.prog W = .ok (.enter 122 args) W := enters_of Try.func122 (by kernel_rfl) rfl
  have HNo := hid_ (fun hall => any_no (p := pr) (0 : Int) h.len hall)
  have HHi := hid_ (fun k (hk : k < n) hh => any_hit (p := pr) (k := k) (0 : Int) (by rw [h.len]; exact hk) hh)
  have HC := hid_ hc
  have HL := hid_ h
  clear h hc
  go_enter Try.func135, Try.ntmps135
  go_wp2
  go_loopw [8] (fun i wr => ∃ k : Nat, k ≤ n ∧ i = .int .i64 k ∧ Below w.heap.size w wr ∧ ∀ j, j < k → pr (L.getD j 0) = false) (fun i _ => n - (intOf i).toNat)
  case atStart => exact ⟨0, Nat.zero_le _, rfl, Below.refl _ _, fun _ h => absurd h (by omega)⟩
  case round =>
    obtain ⟨k, hk, rfl, hb, hall⟩ := hrel
    have Hall := hid_ hall; have Hb := hid_ hb
    clear hall
    by_cases hlt : k < n
    · obtain ⟨b, off, rfl, -, hcell⟩ := (HL.out.below hb (Nat.le_refl _)).cells k hlt
      have hhi := HHi.out k hlt
      have hy := fun hx => lt_snoc (p := fun j => pr (L.getD j 0) = false) Hall.out hx
      have HCk := hid_ (HC.out wr hb k hlt)
      generalize L.getD k 0 = x at *
      clear hb
      cases hp : pr x with
      | true =>
        rw [hp] at HCk
        have Hf := hid_ (hhi hp)
        clear hhi hy hp
        go_wp2_with (go_at_call 122; (with_reducible refine HCk.out.mono ?_); rintro e w4 ⟨rfl, hb4⟩)
        go_ret
        exact ⟨_, rfl, by rw [Hf.out]; exact decide_eq_true (Int.natCast_nonneg k), Hb.out.trans (hb4.mono Hb.out.size)⟩
      | false =>
        rw [hp] at HCk
        have Hf := hid_ (hy hp)
        clear hhi hy hp
        go_wp2_with (go_at_call 122; (with_reducible refine HCk.out.mono ?_); rintro e w4 ⟨rfl, hb4⟩)
        go_roundw
        case rel => exact ⟨k + 1, by omega, by go_num, Hb.out.trans (hb4.mono Hb.out.size), Hf.out⟩
        case measure => simp [intOf]; omega
    · obtain rfl : n = k := by omega
      have Hf := hid_ (HNo.out Hall.out)
      go_wp2
      go_ret
      exact ⟨_, rfl, by rw [Hf.out]; rfl, Hb.out⟩
set_option maxRecDepth 100000 in
theorem containsFunc_calls (a : Option Addr) (n c : Nat) (L : List Int) (u1 u2 : Value) (pr : Int → Bool) (w : World) (h : IntsAt w a n c L)
    (hc : ∀ W, Below w.heap.size w W → ∀ k, k < n → Calls Try.prog 122 #[.int .i64 (L.getD k 0), u1, u2] W fun e w' => e = .returned (.bool (pr (L.getD k 0))) ∧ Below W.heap.size W w') :
    Calls Try.prog 121 #[.slice a n c, .func (.func 122) #[] #[u1, u2]] w fun e w' => e = .returned (.bool (L.any pr)) ∧ Below w.heap.size w w' := by
  have HI := hid_ (indexFunc_calls a n c L u1 u2 pr w h hc)
  clear h hc
  go_enter Try.func121, Try.ntmps121
  go_wp2_with (go_at_call 135; (with_reducible refine HI.out.mono ?_); rintro e w4 ⟨r, rfl, hr, hb4⟩)
  all_goals go_ret
  all_goals first
    | exact ⟨by rw [← hr]; simp_all, hb4⟩
    | exact ⟨by rw [← hr], hb4⟩
end Go.Proofs.Ytdnlpikfibdjoaa
namespace Go.Proofs.Ytdnlpikfibdjoaa
open Go.RowKit Go.Proofs.Kv

/-! ### the entry that decides: the program's -/
def goodB (P : Par) (L : List Int) (x : Int) : Bool := !(L.any fun y => stopB P x.toNat y.toNat)
def decP (P : Par) (L : List Int) : Int × Bool := match L.find? (goodB P L) with | some x => (x, true) | none => (0, false)
theorem find_hit {L : List Int} {p : Int → Bool} {k : Nat} (hk : k < L.length) (hb : ∀ j, j < k → p (L.getD j 0) = false) (h : p (L.getD k 0) = true) : L.find? p = some (L.getD k 0) := by
  have e : ∀ j (hj : j < L.length), L.getD j 0 = L[j] := fun j hj => by simp [List.getD, List.getElem?_eq_getElem hj]
  rw [List.find?_eq_some_iff_getElem]
  refine ⟨h, k, hk, (e k hk).symm, fun j hj => ?_⟩
  have := hb j hj
  rw [e j (by omega)] at this
  rw [this]; rfl
theorem find_no {L : List Int} {p : Int → Bool} (hb : ∀ j, j < L.length → p (L.getD j 0) = false) : L.find? p = none := by
  rw [List.find?_eq_none]
  intro x hx
  obtain ⟨i, hi, rfl⟩ := List.mem_iff_getElem.1 hx
  have := hb i hi
  rw [show L.getD i 0 = L[i] by simp [List.getD, List.getElem?_eq_getElem hi]] at this
  rw [this]; simp
theorem mat_at {P : Par} {l : List Int} {k : Nat} (hk : k < (matL P l).length) : ∃ x : Nat, (matL P l).getD k 0 = (x : Int) ∧ x < P.ents.length := by
  rw [show (matL P l).getD k 0 = (matL P l)[k] by simp [List.getD, List.getElem?_eq_getElem hk]]
  have hm := List.getElem_mem hk
  simp only [matL, matK, List.mem_map, List.mem_filter, List.mem_range] at hm
  obtain ⟨x, ⟨hx, -⟩, e⟩ := hm
  exact ⟨x, e.symm, hx⟩
set_option maxRecDepth 100000 in
set_option maxHeartbeats 4000000 in
theorem cedecides_calls (v : Value) (P : Par) (a : Option Addr) (n c : Nat) (l : List Int) (w : World) (h : ParAt w v P) (hl : IntsAt w a n c l) (hv : validP P = 0) (hs : P.sizes.length = n) :
    Calls Try.prog 84 #[v, .slice a n c] w fun e w' => e = .returned (.tuple #[.int .i64 (decP P (matL P l)).1, .bool (decP P (matL P l)).2]) ∧ Below w.heap.size w w' := by
  have HP := hid_ h
  obtain ⟨a1, n1, c1, a2, n2, c2, rfl, h1, h2⟩ := h
  obtain ⟨w1, hw1⟩ : ∃ w1, w.alloc (.cells #[.slice a1 n1 c1, .slice a2 n2 c2] 25) = w1 := ⟨_, rfl⟩
  have cb : Below w.heap.size w w1 := by rw [← hw1]; exact below_alloc _ _
  have q0 : w1.cell? ⟨w.heap.size, 0, none⟩ = some (.slice a1 n1 c1) := by rw [← hw1]; exact cells_alloc _ _ _ 0
  have q1 : w1.cell? ⟨w.heap.size, 1, none⟩ = some (.slice a2 n2 c2) := by rw [← hw1]; exact cells_alloc _ _ _ 1
  have HP1 := hid_ (HP.out.below cb (Nat.le_refl _)); have Hc1 := hid_ cb; have Hv := hid_ hv
  have HM := hid_ (cematches_calls _ P a n c l w1 HP1.out (hl.below cb (Nat.le_refl _)) hv hs)
  have hmf : ∀ (fn : Fn) (first cap : Array Value) (w : World), (Instr.makeFunc fn first cap).run Try.prog w = .ok (.func fn first cap) w := fun _ _ _ _ => rfl
  have HD : Hid (∀ L, decP P L = match L.find? (goodB P L) with | some x => (x, true) | none => (0, false)) := hid_ (fun L => rfl)
  have HG : Hid (∀ L x, goodB P L x = !(L.any fun y => stopB P x.toNat y.toNat)) := hid_ (fun _ _ => rfl)
  have HA := hid_ (fun k (hk : k < (matL P l).length) => @mat_at P l k hk)
  have hle : (matL P l).length ≤ 10 := Nat.le_trans (matK_le P l _) (validP_ok hv).2.2.1
  clear h1 h2 hl cb hv hs
  generalize matL P l = L at *
  go_enter Try.func84, Try.ntmps84
  go_wp2_with (go_at_call 80; (with_reducible refine HM.out.mono ?_); rintro e w2 ⟨v2, rfl, hm⟩; obtain ⟨a5, c5, rfl, hi5⟩ := hm.at_; have q0b := cell_below q0 hm.bel; have q1b := cell_below q1 hm.bel)
  have HL := hid_ hi5; have Hb := hid_ hm.bel
  clear hi5 hm q0 q1
  go_loopw [14] (fun i wr => ∃ k : Nat, k ≤ L.length ∧ i = .int .i64 k ∧ Below w2.heap.size w2 wr ∧ ∀ j, j < k → goodB P L (L.getD j 0) = false) (fun i _ => L.length - (intOf i).toNat)
  case atStart => exact ⟨0, Nat.zero_le _, rfl, Below.refl _ _, fun _ h => absurd h (by omega)⟩
  case round =>
    obtain ⟨k, hk, rfl, hb, hall⟩ := hrel
    have Hall := hid_ hall
    clear hall
    by_cases hlt : k < L.length
    · obtain ⟨b, off, rfl, -, hcell⟩ := (HL.out.below hb (Nat.le_refl _)).cells k hlt
      have hhit := fun hh => @find_hit L (goodB P L) k hlt Hall.out hh
      have hy := fun hx => lt_snoc (p := fun j => goodB P L (L.getD j 0) = false) Hall.out hx
      obtain ⟨x, hx, hxl⟩ := HA.out k hlt
      have hg := HG.out L (x : Int)
      rw [Int.toNat_natCast] at hg
      rw [hx] at hcell hhit hy
      obtain ⟨wb, hwb⟩ : ∃ wb, wr.alloc (.cells #[.int .i64 (x : Int)] 3) = wb := ⟨_, rfl⟩
      have hcb : Below wr.heap.size wr wb := by rw [← hwb]; exact below_alloc _ _
      have u0 : wb.cell? ⟨wr.heap.size, 0, none⟩ = some (.int .i64 (x : Int)) := by rw [← hwb]; exact cells_alloc _ _ _ 0
      have hbb := hb.trans (hcb.mono hb.size)
      have HC := hid_ (containsFunc_calls _ _ _ L (.pointer (some ⟨wr.heap.size, 0, none⟩)) (.pointer (some ⟨w.heap.size, 0, none⟩)) (fun y => stopB P x y.toNat) wb (HL.out.below hbb (Nat.le_refl _)) (fun W hW j hj => by
        obtain ⟨y, hy, hyl⟩ := HA.out j hj
        rw [hy, Int.toNat_natCast]
        exact decides1_calls P x y wr.heap.size w.heap.size a1 n1 c1 a2 n2 c2 W (cell_below u0 hW) (cell_below (cell_below q0b hbb) hW) (cell_below (cell_below q1b hbb) hW) (HP1.out.below (Hb.out.trans ((hbb.trans (hW.mono hbb.size)).mono Hb.out.size)) (Nat.le_refl _)) Hv.out hxl hyl))
      have Hbb := hid_ hbb
      clear hx hxl hb hcb hbb
      generalize (L.any fun y => stopB P x y.toNat) = z at *
      cases z with
      | false =>
        have Hf : Hid (decP P L = ((x : Int), true)) := hid_ (by rw [HD.out, hhit (by rw [hg]; rfl)])
        clear hhit hy hg
        go_wp2_with (go_at_call 121; (with_reducible refine HC.out.mono ?_); rintro e w5 ⟨rfl, hb5⟩; have u5 := cell_below u0 hb5)
        go_ret2
        exact ⟨by rw [Hf.out]; rfl, Hc1.out.trans ((Hb.out.trans ((Hbb.out.trans (hb5.mono Hbb.out.size)).mono Hb.out.size)).mono Hc1.out.size)⟩
      | true =>
        have Hf := hid_ (hy (by rw [hg]; rfl))
        clear hhit hy hg
        go_wp2_with (go_at_call 121; (with_reducible refine HC.out.mono ?_); rintro e w5 ⟨rfl, hb5⟩)
        go_roundw
        case rel => exact ⟨k + 1, by omega, by go_num, Hbb.out.trans (hb5.mono Hbb.out.size), Hf.out⟩
        case measure => simp [intOf]; omega
    · obtain rfl : L.length = k := by omega
      have Hf : Hid (decP P L = (0, false)) := hid_ (by rw [HD.out, find_no Hall.out])
      go_wp2
      go_ret2
      exact ⟨by rw [Hf.out]; rfl, Hc1.out.trans ((Hb.out.trans (hb.mono Hb.out.size)).mono Hc1.out.size)⟩
end Go.Proofs.Ytdnlpikfibdjoaa
namespace Go.Proofs.Ytdnlpikfibdjoaa
open Go.RowKit Go.Proofs.Kv

/-! ### the entry that decides: the document's -/
def decI (P : Par) (L : List Int) : Int := match L.find? (goodB P L) with | some x => x | none => -1
def bestU (P : Par) (L : List Int) (i k : Nat) : Bool := (List.range k).all fun m => decide (m = i) || moreB (sp P (L.getD i 0).toNat) (sp P (L.getD m 0).toNat)
theorem bestU_succ (P : Par) (L : List Int) (i k : Nat) : bestU P L i (k + 1) = (bestU P L i k && (decide (k = i) || moreB (sp P (L.getD i 0).toNat) (sp P (L.getD k 0).toNat))) := by
  simp [bestU, List.range_succ]
theorem mat_asc (P : Par) (l : List Int) : (matL P l).Pairwise (· < ·) := by
  rw [matL, matK, List.pairwise_map]
  refine List.Pairwise.imp (fun h => ?_) (List.Pairwise.filter _ List.pairwise_lt_range)
  exact Int.ofNat_lt.2 h
theorem mat_inj {P : Par} {l : List Int} {i m : Nat} (hi : i < (matL P l).length) (hm : m < (matL P l).length) (h : ((matL P l).getD m 0).toNat = ((matL P l).getD i 0).toNat) : m = i := by
  obtain ⟨x, hx, -⟩ := mat_at hi
  obtain ⟨y, hy, -⟩ := mat_at hm
  have hp := List.pairwise_iff_getElem.1 (mat_asc P l)
  have e1 : (matL P l).getD i 0 = (matL P l)[i] := by simp [List.getD, List.getElem?_eq_getElem hi]
  have e2 : (matL P l).getD m 0 = (matL P l)[m] := by simp [List.getD, List.getElem?_eq_getElem hm]
  rcases Nat.lt_trichotomy m i with h1 | h1 | h1
  · have := hp m i hm hi h1; omega
  · exact h1
  · have := hp i m hi hm h1; omega
theorem bestU_all {P : Par} {l : List Int} {i : Nat} (hi : i < (matL P l).length) : bestU P (matL P l) i (matL P l).length = goodB P (matL P l) ((matL P l).getD i 0) := by
  rw [Bool.eq_iff_iff]
  simp only [bestU, goodB, List.all_eq_true, List.mem_range, Bool.not_eq_true', List.any_eq_false, stopB, Bool.or_eq_true, decide_eq_true_eq, Bool.and_eq_true, decide_eq_false_iff_not, not_and, Bool.not_eq_false]
  constructor
  · intro h y hy hne
    obtain ⟨m, hm, rfl⟩ := List.mem_iff_getElem.1 hy
    have e2 : (matL P l).getD m 0 = (matL P l)[m] := by simp [List.getD, List.getElem?_eq_getElem hm]
    rw [← e2] at hne ⊢
    rcases h m hm with h1 | h1
    · subst h1; exact absurd rfl hne
    · exact h1
  · intro h m hm
    by_cases e : m = i
    · exact .inl e
    · have e2 : (matL P l).getD m 0 = (matL P l)[m] := by simp [List.getD, List.getElem?_eq_getElem hm]
      exact .inr (h ((matL P l).getD m 0) (by rw [e2]; exact List.getElem_mem hm) fun hh => e (mat_inj hi hm hh))
set_option maxRecDepth 100000 in
set_option maxHeartbeats 8000000 in
theorem r6decides_calls (v : Value) (P : Par) (a : Option Addr) (n c : Nat) (l : List Int) (w : World) (h : ParAt w v P) (hl : IntsAt w a n c l) (hv : validP P = 0) (hs : P.sizes.length = n) :
    Calls Try.prog 130 #[v, .slice a n c] w fun e w' => e = .returned (.int .i64 (decI P (matL P l))) ∧ Below w.heap.size w w' := by
  have HP := hid_ h
  obtain ⟨a1, n1, c1, a2, n2, c2, rfl, h1, h2⟩ := h
  obtain ⟨w1, hw1⟩ : ∃ w1, w.alloc (.cells #[.slice a1 n1 c1, .slice a2 n2 c2] 25) = w1 := ⟨_, rfl⟩
  have cb : Below w.heap.size w w1 := by rw [← hw1]; exact below_alloc _ _
  have q0 : w1.cell? ⟨w.heap.size, 0, none⟩ = some (.slice a1 n1 c1) := by rw [← hw1]; exact cells_alloc _ _ _ 0
  have q1 : w1.cell? ⟨w.heap.size, 1, none⟩ = some (.slice a2 n2 c2) := by rw [← hw1]; exact cells_alloc _ _ _ 1
  have HP1 := hid_ (HP.out.below cb (Nat.le_refl _)); have Hc1 := hid_ cb
  have HM := hid_ (r6matches_calls _ P a n c l w1 HP1.out (hl.below cb (Nat.le_refl _)) hv hs)
  have HD : Hid (∀ L, decI P L = match L.find? (goodB P L) with | some x => x | none => -1) := hid_ (fun L => rfl)
  have HA := hid_ (fun k (hk : k < (matL P l).length) => @mat_at P l k hk)
  have HU := hid_ (fun i (hi : i < (matL P l).length) => @bestU_all P l i hi)
  have hle : (matL P l).length ≤ 10 := Nat.le_trans (matK_le P l _) (validP_ok hv).2.2.1
  have Hv := hid_ hv
  clear h1 h2 hl cb hv hs
  generalize matL P l = L at *
  go_enter Try.func130, Try.ntmps130
  go_wp2_with (go_at_call 138; (with_reducible refine HM.out.mono ?_); rintro e w2 ⟨v2, rfl, hm⟩; obtain ⟨a5, c5, rfl, hi5⟩ := hm.at_; have q0b := cell_below q0 hm.bel; have q1b := cell_below q1 hm.bel)
  have HL := hid_ hi5; have Hb := hid_ hm.bel
  clear hi5 hm q0 q1
  go_loopw [6] (fun i wr => ∃ k : Nat, k ≤ L.length ∧ i = .int .i64 k ∧ Below w2.heap.size w2 wr ∧ ∀ j, j < k → goodB P L (L.getD j 0) = false) (fun i _ => L.length - (intOf i).toNat)
  case atStart => exact ⟨0, Nat.zero_le _, rfl, Below.refl _ _, fun _ h => absurd h (by omega)⟩
  case round =>
    obtain ⟨k, hk, rfl, hb, hall⟩ := hrel
    have Hall := hid_ hall
    have Hbk := hid_ hb
    clear hall
    by_cases hlt : k < L.length
    · have hhit := hid_ (fun hh => @find_hit L (goodB P L) k hlt Hall.out hh)
      have hy := hid_ (fun hx => lt_snoc (p := fun j => goodB P L (L.getD j 0) = false) Hall.out hx)
      have HUk := hid_ (HU.out k hlt)
      obtain ⟨x, hx, hxl⟩ := HA.out k hlt
      have hc0 := (HL.out.below hb (Nat.le_refl _)).cells k hlt
      rw [hx] at hc0
      have Hx := hid_ hx
      clear hb hx
      go_wp2
      obtain ⟨wm, rfl⟩ : ∃ wm : World, wm = wr := ⟨_, rfl⟩
      go_loopw [7, 8] (fun b i wr => ∃ m : Nat, m ≤ L.length ∧ i = .int .i64 m ∧ b = .bool (bestU P L k m) ∧ Below w2.heap.size w2 wr) (fun _ i _ => L.length - (intOf i).toNat)
      case atStart => exact ⟨0, Nat.zero_le _, rfl, rfl, Hbk.out⟩
      case round =>
        obtain ⟨m, hm, rfl, rfl, hb2⟩ := hrel
        have Hb2 := hid_ hb2
        by_cases hlm : m < L.length
        · have HS := hid_ (bestU_succ P L k m)
          obtain ⟨y, hy2, hyl⟩ := HA.out m hlm
          obtain ⟨b, off, hae, -, hc2⟩ := (HL.out.below hb2 (Nat.le_refl _)).cells m hlm
          obtain ⟨b', off', hae', -, hc1⟩ := (HL.out.below hb2 (Nat.le_refl _)).cells k hlt
          rw [hae] at hae'
          injection hae' with hae'
          injection hae' with e1 e2
          subst e1 e2 hae
          rw [Hx.out] at hc1
          rw [hy2] at hc2
          have q0r := cell_below q0b hb2; have q1r := cell_below q1b hb2
          have HC := hid_ (fun d os => r6isMore_calls _ P x y (Go.Sort.grow (redrawn wr d) os) (HP1.out.below ((Hb.out.trans (hb2.mono Hb.out.size)).trans ((below_regrown wr d os).mono (Hb.out.trans (hb2.mono Hb.out.size)).size)) (Nat.le_refl _)) Hv.out hxl hyl)
          rw [Hx.out, hy2, Int.toNat_natCast, Int.toNat_natCast] at HS
          have g0 := cell_regrown q0r; have g1 := cell_regrown q1r; have g2 := cell_regrown hc1; have g3 := cell_regrown hc2
          have hkl : (k : Int) < (L.length : Int) := by omega
          have hml : (m : Int) < (L.length : Int) := by omega
          clear hb2 hy2 hxl hyl hc0
          generalize bestU P L k m = z at *
          generalize moreB (sp P x) (sp P y) = mo at *
          cases z with
          | false =>
            have Hn : Hid (bestU P L k (m + 1) = false) := hid_ (by rw [HS.out]; rfl)
            go_wp2_with fail
            refine wp_region_quiet_below (by kernel_rfl) (by kernel_rfl) ?_
            repeat (first | go_big_quiet_skip | (go_big_quiet_want; go_big_quiet_op; first | go_big_quiet_on | go_big_quiet_call (fail)))
            refine wpQuiet_nil ?_
            rintro wq ⟨pq, hpq⟩
            have hbq := below_wq hpq; clear hpq
            go_wp2
            go_roundw
            case rel => exact ⟨m + 1, by omega, by go_num, by rw [Hn.out], Hb2.out.trans (hbq.mono Hb2.out.size)⟩
            case measure => simp [intOf]; omega
          | true =>
            by_cases hmk : m = k
            · have Hn : Hid (bestU P L k (m + 1) = true) := hid_ (by rw [HS.out, decide_eq_true hmk]; rfl)
              subst hmk
              go_wp2_with fail
              refine wp_region_quiet_below (by kernel_rfl) (by kernel_rfl) ?_
              repeat (first | go_big_quiet_skip | (go_big_quiet_want; go_big_quiet_op; first | go_big_quiet_on | go_big_quiet_call (fail)))
              refine wpQuiet_nil ?_
              rintro wq ⟨pq, hpq⟩
              have hbq := below_wq hpq; clear hpq
              go_wp2
              go_roundw
              case rel => exact ⟨m + 1, by omega, by go_num, by rw [Hn.out], Hb2.out.trans (hbq.mono Hb2.out.size)⟩
              case measure => simp [intOf]; omega
            · have Hn : Hid (bestU P L k (m + 1) = mo) := hid_ (by rw [HS.out, decide_eq_false hmk]; rfl)
              have hmk' : ((m : Int) == (k : Int)) = false := by simpa using (show ¬ (m : Int) = k by omega)
              clear hmk
              go_wp2_with fail
              refine wp_region_quiet_below (by kernel_rfl) (by kernel_rfl) ?_
              repeat (first | go_big_quiet_skip | (go_big_quiet_want; go_big_quiet_op; first | go_big_quiet_on | go_big_quiet_call ((go_at_call 139; with_reducible exact Calls.regrown_of (HC.out _ _)))))
              refine wpQuiet_nil ?_
              rintro wq ⟨pq, hpq⟩
              have hbq := below_wq hpq; clear hpq
              go_wp2
              go_roundw
              case rel => exact ⟨m + 1, by omega, by go_num, by rw [Hn.out], Hb2.out.trans (hbq.mono Hb2.out.size)⟩
              case measure => simp [intOf]; omega
        · obtain rfl : L.length = m := by omega
          rw [HUk.out]
          have Hg := hid_ (fun (hh : goodB P L (L.getD k 0) = true) => hhit.out hh)
          obtain ⟨b, off, rfl, -, hc1⟩ := (HL.out.below hb2 (Nat.le_refl _)).cells k hlt
          rw [Hx.out] at hc1
          generalize hz : goodB P L (L.getD k 0) = z at *
          cases z with
          | true =>
            have Hf : Hid (decI P L = (x : Int)) := hid_ (by rw [HD.out, hhit.out rfl, Hx.out])
            go_wp2
            go_ret
            exact ⟨retI Hf.out, Hc1.out.trans ((Hb.out.trans (hb2.mono Hb.out.size)).mono Hc1.out.size)⟩
          | false =>
            have Hn := hid_ (hy.out rfl)
            go_wp2
            go_roundw
            case rel => exact ⟨k + 1, by omega, by go_num, Hb2.out, Hn.out⟩
            case measure => simp [intOf]; omega
    · obtain rfl : L.length = k := by omega
      have Hf : Hid (decI P L = -1) := hid_ (by rw [HD.out, find_no Hall.out])
      go_wp2
      go_ret
      exact ⟨retI Hf.out, Hc1.out.trans ((Hb.out.trans (hb.mono Hb.out.size)).mono Hc1.out.size)⟩
end Go.Proofs.Ytdnlpikfibdjoaa
namespace Go.Proofs.Ytdnlpikfibdjoaa
open Go.RowKit Go.Proofs.Kv

/-! ### Decides, Form -/
def formR (P : Par) (l : List Int) : Int := match (matL P l).find? (goodB P (matL P l)) with | some x => (P.ents.getD x.toNat E0).form | none => -1
theorem dec_cases (P : Par) (l : List Int) :
    (∃ k : Nat, k < P.ents.length ∧ (k : Int) ∈ matL P l ∧ goodB P (matL P l) (k : Int) = true ∧ decI P (matL P l) = (k : Int) ∧ decP P (matL P l) = ((k : Int), true) ∧ formR P l = (P.ents.getD k E0).form) ∨
    ((matL P l).find? (goodB P (matL P l)) = none ∧ decI P (matL P l) = -1 ∧ decP P (matL P l) = (0, false) ∧ formR P l = -1) := by
  unfold decI decP formR
  cases h : (matL P l).find? (goodB P (matL P l)) with
  | none => exact .inr ⟨rfl, rfl, rfl, rfl⟩
  | some x =>
    have hm := List.mem_of_find?_eq_some h
    obtain ⟨i, hi, rfl⟩ := List.mem_iff_getElem.1 hm
    obtain ⟨k, hk, hkl⟩ := mat_at hi
    rw [show (matL P l).getD i 0 = (matL P l)[i] by simp [List.getD, List.getElem?_eq_getElem hi]] at hk
    rw [hk] at h hm ⊢
    have hg := List.find?_some h
    exact .inl ⟨k, hkl, hm, hg, rfl, rfl, by dsimp only; rw [Int.toNat_natCast]⟩
theorem form_ok {P : Par} (hv : validP P = 0) {k : Nat} (hk : k < P.ents.length) : 0 ≤ (P.ents.getD k E0).form ∧ (P.ents.getD k E0).form ≤ 9 := by
  have := ((validP_ok hv).2.2.2 k hk).2
  simpa [Within] using this
set_option maxRecDepth 100000 in
set_option maxHeartbeats 4000000 in
theorem r6form_calls (v : Value) (P : Par) (a : Option Addr) (n c : Nat) (l : List Int) (w : World) (h : ParAt w v P) (hl : IntsAt w a n c l) (hv : validP P = 0) (hs : P.sizes.length = n) :
    Calls Try.prog 108 #[v, .slice a n c] w fun e w' => e = .returned (.int .i64 (formR P l)) ∧ Below w.heap.size w w' := by
  have hd := dec_cases P l
  have HP := hid_ h
  obtain ⟨a1, n1, c1, a2, n2, c2, rfl, h1, h2⟩ := h
  obtain ⟨w1, hw1⟩ : ∃ w1, w.alloc (.cells #[.slice a1 n1 c1, .slice a2 n2 c2] 25) = w1 := ⟨_, rfl⟩
  have cb : Below w.heap.size w w1 := by rw [← hw1]; exact below_alloc _ _
  have q0 : w1.cell? ⟨w.heap.size, 0, none⟩ = some (.slice a1 n1 c1) := by rw [← hw1]; exact cells_alloc _ _ _ 0
  have q1 : w1.cell? ⟨w.heap.size, 1, none⟩ = some (.slice a2 n2 c2) := by rw [← hw1]; exact cells_alloc _ _ _ 1
  have HP1 := hid_ (HP.out.below cb (Nat.le_refl _)); have Hc1 := hid_ cb
  have HM := hid_ (r6decides_calls _ P a n c l w1 HP1.out (hl.below cb (Nat.le_refl _)) hv hs)
  have H2 := hid_ (h2.below cb (Nat.le_refl _))
  rcases hd with ⟨k, hk, -, -, h3, -, h4⟩ | ⟨-, h3, -, h4⟩
  · rw [h3] at HM
    have Hf := hid_ h4
    have hk2 : k < n2 := by rw [← h2.len]; exact hk
    have hn2 : n2 ≤ 9223372036854775807 := Nat.le_trans h2.le h2.small
    clear h1 h2 hl cb hv hs h3 h4 hk
    go_enter Try.func108, Try.ntmps108
    go_wp2_with (go_at_call 130; (with_reducible refine HM.out.mono ?_); rintro e w2 ⟨rfl, hb2⟩; have q0b := cell_below q0 hb2; have q1b := cell_below q1 hb2; obtain ⟨b, off, a3, n3, c3, rfl, -, k0, k1, hri⟩ := (H2.out.below hb2 (Nat.le_refl _)).cells k hk2)
    go_ret
    exact ⟨retI Hf.out, Hc1.out.trans (hb2.mono Hc1.out.size)⟩
  · rw [h3] at HM
    have Hf := hid_ h4
    clear h1 h2 hl cb hv hs h3 h4
    go_enter Try.func108, Try.ntmps108
    go_wp2_with (go_at_call 130; (with_reducible refine HM.out.mono ?_); rintro e w2 ⟨rfl, hb2⟩)
    go_ret
    exact ⟨retI Hf.out, Hc1.out.trans (hb2.mono Hc1.out.size)⟩
set_option maxRecDepth 100000 in
set_option maxHeartbeats 4000000 in
theorem ceformOf_calls (v : Value) (P : Par) (a : Option Addr) (n c : Nat) (l : List Int) (w : World) (h : ParAt w v P) (hl : IntsAt w a n c l) (hv : validP P = 0) (hs : P.sizes.length = n) :
    Calls Try.prog 79 #[v, .slice a n c] w fun e w' => e = .returned (.int .i64 (formR P l)) ∧ Below w.heap.size w w' := by
  have hd := dec_cases P l
  have HP := hid_ h
  obtain ⟨a1, n1, c1, a2, n2, c2, rfl, h1, h2⟩ := h
  obtain ⟨w1, hw1⟩ : ∃ w1, w.alloc (.cells #[.slice a1 n1 c1, .slice a2 n2 c2] 25) = w1 := ⟨_, rfl⟩
  have cb : Below w.heap.size w w1 := by rw [← hw1]; exact below_alloc _ _
  have q0 : w1.cell? ⟨w.heap.size, 0, none⟩ = some (.slice a1 n1 c1) := by rw [← hw1]; exact cells_alloc _ _ _ 0
  have q1 : w1.cell? ⟨w.heap.size, 1, none⟩ = some (.slice a2 n2 c2) := by rw [← hw1]; exact cells_alloc _ _ _ 1
  have HP1 := hid_ (HP.out.below cb (Nat.le_refl _)); have Hc1 := hid_ cb
  have HM := hid_ (cedecides_calls _ P a n c l w1 HP1.out (hl.below cb (Nat.le_refl _)) hv hs)
  have H2 := hid_ (h2.below cb (Nat.le_refl _))
  rcases hd with ⟨k, hk, -, -, -, h3, h4⟩ | ⟨-, -, h3, h4⟩
  · rw [h3] at HM
    have Hf := hid_ h4
    have hk2 : k < n2 := by rw [← h2.len]; exact hk
    have hn2 : n2 ≤ 9223372036854775807 := Nat.le_trans h2.le h2.small
    clear h1 h2 hl cb hv hs h3 h4 hk
    go_enter Try.func79, Try.ntmps79
    go_wp2_with (go_at_call 84; (with_reducible refine HM.out.mono ?_); rintro e w2 ⟨rfl, hb2⟩; have q0b := cell_below q0 hb2; have q1b := cell_below q1 hb2; obtain ⟨b, off, a3, n3, c3, rfl, -, k0, k1, hri⟩ := (H2.out.below hb2 (Nat.le_refl _)).cells k hk2)
    go_ret
    exact ⟨retI Hf.out, Hc1.out.trans (hb2.mono Hc1.out.size)⟩
  · rw [h3] at HM
    have Hf := hid_ h4
    clear h1 h2 hl cb hv hs h3 h4
    go_enter Try.func79, Try.ntmps79
    go_wp2_with (go_at_call 84; (with_reducible refine HM.out.mono ?_); rintro e w2 ⟨rfl, hb2⟩)
    go_ret
    exact ⟨retI Hf.out, Hc1.out.trans (hb2.mono Hc1.out.size)⟩
def resDec (P : Par) (l : List Int) : Int × Bool := if errC P [l] = 0 then decP P (matL P l) else (0, false)
def resForm (P : Par) (l : List Int) : Int × Bool := if errC P [l] = 0 then (if 0 ≤ formR P l then (formR P l, true) else (0, false)) else (0, false)
theorem errC_len {P : Par} {l : List Int} (h : errC P [l] = 0) : P.sizes.length = l.length := (specB_ok (errC_ok h).2).1.symm
set_option maxRecDepth 100000 in
set_option maxHeartbeats 4000000 in
theorem ceDecides_calls (v : Value) (P : Par) (a : Option Addr) (n c : Nat) (l : List Int) (w : World) (h : ParAt w v P) (hl : IntsAt w a n c l) :
    Calls Try.prog 35 #[v, .slice a n c] w fun e w' => e = .returned (.tuple #[.int .i64 (resDec P l).1, .bool (resDec P l).2, .int .i64 (errC P [l])]) ∧ Below w.heap.size w w' := by
  have hls := hl.len
  have HP := hid_ h
  obtain ⟨a1, n1, c1, a2, n2, c2, rfl, h1, h2⟩ := h
  obtain ⟨w1, hw1⟩ : ∃ w1, w.alloc (.cells #[.slice a1 n1 c1, .slice a2 n2 c2] 25) = w1 := ⟨_, rfl⟩
  have cb : Below w.heap.size w w1 := by rw [← hw1]; exact below_alloc _ _
  have q0 : w1.cell? ⟨w.heap.size, 0, none⟩ = some (.slice a1 n1 c1) := by rw [← hw1]; exact cells_alloc _ _ _ 0
  have q1 : w1.cell? ⟨w.heap.size, 1, none⟩ = some (.slice a2 n2 c2) := by rw [← hw1]; exact cells_alloc _ _ _ 1
  have HP1 := hid_ (HP.out.below cb (Nat.le_refl _)); have Hc1 := hid_ cb
  have HL := hid_ (hl.below cb (Nat.le_refl _))
  have HE := hid_ (fun T => validateCells_calls _ P _ 1 1 [l] (w1.alloc (.cells #[.slice a n c] T)) (HP1.out.below (below_alloc _ _) (Nat.le_refl _)) (lists_one HL.out T))
  by_cases he : errC P [l] = 0
  · have Hf : Hid (resDec P l = decP P (matL P l)) := hid_ (if_pos he)
    have HM := hid_ (fun W (hW : Below w1.heap.size w1 W) => cedecides_calls _ P a n c l W (HP1.out.below hW (Nat.le_refl _)) (HL.out.below hW (Nat.le_refl _)) (errC_ok he).1 (by rw [errC_len he, hls]))
    rw [Hf.out]
    rw [he] at HE ⊢
    clear he h1 h2 hl cb hls Hf
    generalize decP P (matL P l) = d at *
    obtain ⟨d1, d2⟩ := d
    go_enter Try.func35, Try.ntmps35
    go_wp2_with (first
      | (go_at_call 72; (with_reducible refine (HE.out _).mono ?_); rintro e w2 ⟨rfl, hb2⟩; have hb3 := (below_alloc w1 (.cells #[.slice a n c] 22)).trans (hb2.mono (below_alloc w1 (.cells #[.slice a n c] 22)).size); have q0b := cell_below q0 hb3; have q1b := cell_below q1 hb3)
      | (go_at_call 84; (with_reducible refine (HM.out _ hb3).mono ?_); rintro e w4 ⟨rfl, hb4⟩))
    go_ret3
    exact ⟨rfl, Hc1.out.trans ((hb3.trans (hb4.mono hb3.size)).mono Hc1.out.size)⟩
  · have Hf : Hid (resDec P l = (0, false)) := hid_ (if_neg he)
    rw [Hf.out]
    have hq : (errC P [l] != 0) = true := by simpa using he
    generalize errC P [l] = x at *
    clear he h1 h2 hl cb Hf
    go_enter Try.func35, Try.ntmps35
    go_wp2_with (go_at_call 72; (with_reducible refine (HE.out _).mono ?_); rintro e w2 ⟨rfl, hb2⟩; have hb3 := (below_alloc w1 (.cells #[.slice a n c] 22)).trans (hb2.mono (below_alloc w1 (.cells #[.slice a n c] 22)).size))
    go_ret3
    exact ⟨rfl, Hc1.out.trans (hb3.mono Hc1.out.size)⟩
end Go.Proofs.Ytdnlpikfibdjoaa
namespace Go.Proofs.Ytdnlpikfibdjoaa
open Go.RowKit Go.Proofs.Kv
/-- append of a slice onto an own row, as one step of a region that draws its order -/
theorem step_append_row {ops : Array Oper} {o : Oper} {a : Act} {w : World} {K : Act → World → Prop} {Q : Exit → Act → World → Prop} {E : Prop} (hg : o.guard = none) (s x : Operand)
    (ho : o.op = .call { callee := .builtin .append, args := #[s, x], argTypes := #[22, 22] }) (base : Nat) (v : Value) (n : Nat) (xs : List Int) (hs : a.eval s = v) (hown : w.ownsRow base 3 1 v n (xs.map (Value.int .i64)))
    (A : Option Addr) (m c : Nat) (ys : List Int) (hx : a.eval x = .slice A m c) (hr : IntsAt w A m c ys) (hsm : n + m ≤ 1000000) (hbase : base ≤ w.heap.size)
    (hK : ∀ v' w', w'.ownsRow base 3 1 v' (n + m) ((xs ++ ys).map (Value.int .i64)) → w.grownBy w' v.ownBlock → (v'.ownBlock = v.ownBlock ∨ v'.ownBlock = some w.heap.size) → K (a.put o.dst v') w') :
    if Region.wanted o (yielded ops a.tmps) = true then Oper.wp Try.prog o a w K Q else E := by
  obtain ⟨i0, hi0, hz0, hz1, hz2⟩ := info_parts Try.infoInt
  have hw : Region.wanted o (yielded ops a.tmps) = true := by simp [Region.wanted, hg]
  rw [if_pos hw]
  obtain ⟨v', w', hrun, h2, h3, h4⟩ := run_append_ints (P := Try.prog) w base 22 o.type 3 i0 Try.underlying22 hi0 hz0 hz1 hz2 v n xs hown A m c ys hr hsm hbase
  unfold Oper.wp
  simp [execOp, ho, resolve, invoke, builtin, hs, hx, hrun, Result.andThen]
  exact hK _ _ h2 h3 h4

theorem step_append_lists {ops : Array Oper} {o : Oper} {a : Act} {w : World} {K : Act → World → Prop} {Q : Exit → Act → World → Prop} {E : Prop} (hg : o.guard = none) (s x : Operand)
    (ho : o.op = .call { callee := .builtin .append, args := #[s, x], argTypes := #[43, 43] }) (base : Nat) (v : Value) (L : List (List Int)) (hs : a.eval s = v) (hown : OwnL 22 w base v L)
    (A : Option Addr) (m c : Nat) (M : List (List Int)) (hx : a.eval x = .slice A m c) (hr : ListsAt w A m c M)
    (hin : ∀ x i a n c, A = some x → i < m → w.cell? (x.add i) = some (.slice a n c) → ∀ b off, 0 < n → a = some ⟨b, off, none⟩ → v.ownBlock ≠ some b)
    (hsm : L.length + m ≤ 1000000) (hbase : base ≤ w.heap.size)
    (hK : ∀ v' w', OwnL 22 w' base v' (L ++ M) → w.grownBy w' v.ownBlock → K (a.put o.dst v') w') :
    if Region.wanted o (yielded ops a.tmps) = true then Oper.wp Try.prog o a w K Q else E := by
  obtain ⟨i0, hi0, hz0, hz1, hz2⟩ := info_parts Try.infoInts
  have hw : Region.wanted o (yielded ops a.tmps) = true := by simp [Region.wanted, hg]
  rw [if_pos hw]
  obtain ⟨v', w', hrun, h2, h3, h4⟩ := run_append_lists (P := Try.prog) w base 43 o.type 22 i0 Try.underlying43 hi0 hz0 hz1 hz2 v L hown A m c M hr hin hsm hbase
  unfold Oper.wp
  simp [execOp, ho, resolve, invoke, builtin, hs, hx, hrun, Result.andThen]
  exact hK _ _ h2 h3

end Go.Proofs.Ytdnlpikfibdjoaa
namespace Go.Proofs.Ytdnlpikfibdjoaa
open Go.RowKit Go.Proofs.Kv

/-! ### IsMore, Cells, Fill of the document -/
def resCells (P : Par) : List (List Int) := if validP P = 0 then cellsL P.sizes else []
def fillK (P : Par) (k : Nat) : List Int := ((cellsL P.sizes).take k).map (formR P)
def fillL (P : Par) : List Int := (cellsL P.sizes).map (formR P)
theorem fillK_succ {P : Par} {k : Nat} (h : k < (cellsL P.sizes).length) : fillK P (k + 1) = fillK P k ++ [formR P ((cellsL P.sizes).getD k [])] := by
  rw [fillK, take_snoc _ [] k h, List.map_append]; rfl
theorem fillK_all (P : Par) : fillK P (cellsL P.sizes).length = fillL P := by rw [fillK, List.take_length]; rfl
theorem fillK_len {P : Par} {k : Nat} (h : k ≤ (cellsL P.sizes).length) : (fillK P k).length = k := by rw [fillK, List.length_map, List.length_take]; omega
set_option maxRecDepth 100000 in
set_option maxHeartbeats 4000000 in
theorem r6fill_calls (v : Value) (P : Par) (w : World) (h : ParAt w v P) (hv : validP P = 0) :
    Calls Try.prog 55 #[v] w fun e w' => ∃ v', e = .returned v' ∧ Made 3 w w' v' (fillL P) := by
  obtain ⟨i0, hi0, hz0, hz1, hz2⟩ := info_parts Try.infoInt
  have HP := hid_ h
  obtain ⟨a1, n1, c1, a2, n2, c2, rfl, h1, h2⟩ := h
  obtain ⟨w1, hw1⟩ : ∃ w1, w.alloc (.cells #[.slice a1 n1 c1, .slice a2 n2 c2] 25) = w1 := ⟨_, rfl⟩
  have cb : Below w.heap.size w w1 := by rw [← hw1]; exact below_alloc _ _
  have q0 : w1.cell? ⟨w.heap.size, 0, none⟩ = some (.slice a1 n1 c1) := by rw [← hw1]; exact cells_alloc _ _ _ 0
  have q1 : w1.cell? ⟨w.heap.size, 1, none⟩ = some (.slice a2 n2 c2) := by rw [← hw1]; exact cells_alloc _ _ _ 1
  have HP1 := hid_ (HP.out.below cb (Nat.le_refl _)); have Hc1 := hid_ cb
  have HC := hid_ (r6cells_calls _ P w1 HP1.out hv)
  have HLe : Hid (∀ k, k < (cellsL P.sizes).length → P.sizes.length = ((cellsL P.sizes).getD k []).length) := hid_ (fun k hk => (specB_ok (cells_spec hv hk)).1.symm)
  have h27 := (cells_chain hv).2.2.1
  have HKs := hid_ (fun k (hk : k < (cellsL P.sizes).length) => @fillK_succ P k hk)
  have HKa := hid_ (fillK_all P)
  have HKl := hid_ (fun k (hk : k ≤ (cellsL P.sizes).length) => @fillK_len P k hk)
  have Hv := hid_ hv
  clear h1 h2 cb hv
  have HK0 : Hid (fillK P 0 = []) := hid_ rfl
  generalize cellsL P.sizes = L at *
  go_enter Try.func55, Try.ntmps55
  go_wp2_with (go_at_call 107; (with_reducible refine HC.out.mono ?_); rintro e w2 ⟨v2, rfl, hm⟩; obtain ⟨a5, c5, rfl, hL5⟩ := hm.at_; have hb2 := hm.bel; have q02 := cell_below q0 hb2; have q12 := cell_below q1 hb2)
  have HL := hid_ hL5
  have Hb2 := hid_ hb2
  clear hm hL5 q0 q1
  go_loopw [3, 5] (fun v i wr => ∃ k : Nat, k ≤ L.length ∧ i = .int .i64 k ∧ wr.ownsRow w2.heap.size 3 1 v k ((fillK P k).map (Value.int .i64)) ∧ Below w2.heap.size w2 wr) (fun _ i _ => L.length - (intOf i).toNat)
  case atStart => exact ⟨0, Nat.zero_le _, rfl, by rw [HK0.out]; exact World.ownsRow_nil _ _ _ _, Below.refl _ _⟩
  case round =>
    obtain ⟨k, hk, rfl, hown, hb⟩ := hrel
    have Hb := hid_ hb
    have hsz := hb.size
    by_cases hlt : k < L.length
    · obtain ⟨b, off, a6, n6, c6, rfl, hbs, hcell, hrow⟩ := HL.out.cells k hlt
      have hls : P.sizes.length = n6 := by rw [HLe.out k hlt, hrow.len]
      have q0r := cell_below q02 hb; have q1r := cell_below q12 hb; have qcr := cell_below hcell hb
      have HF := hid_ (fun W (hW : Below w2.heap.size wr W) => r6form_calls _ P a6 n6 c6 (L.getD k []) W (HP1.out.below (Hb2.out.trans ((hb.trans hW).mono Hb2.out.size)) (Nat.le_refl _)) (hrow.below (hb.trans hW) (Nat.le_refl _)) Hv.out hls)
      have HQ := hid_ (fun W (hW : Below w2.heap.size wr W) => And.intro (cell_below q02 (hb.trans hW)) (And.intro (cell_below q12 (hb.trans hW)) (And.intro (cell_below hcell (hb.trans hW)) hW)))
      have HOw := hid_ (fun W (hW : Below wr.heap.size wr W) => own_below hown hW (Nat.le_refl _))
      have Hs := hid_ (HKs.out k hlt)
      have Hown := hid_ hown
      clear hrow hls hb hown hcell
      generalize formR P (L.getD k []) = y at *
      have hk6 : k + 1 ≤ 1000000 := by omega
      have hbb : Below wr.heap.size wr wr := Below.refl _ _
      go_wp2_with fail
      go_region_held3 (fun W => W.cell? ⟨w.heap.size, 0, none⟩ = some (.slice a1 n1 c1) ∧ W.cell? ⟨w.heap.size, 1, none⟩ = some (.slice a2 n2 c2) ∧ W.cell? ⟨b, off + k, none⟩ = some (.slice a6 n6 c6) ∧ Below w2.heap.size wr W) ((refine HQ.out _ ?_; (first | assumption | (refine Below.mono ?_ hsz; (repeat (first | assumption | (with_reducible refine Below.alloc ?_ (by first | omega | (simp; done) | (simp; omega)) _) | (with_reducible refine Below.setCell ?_ (by first | omega | (simp; done) | (simp; omega)) _) | (with_reducible refine Below.drew ?_)))))))
        (first
          | (go_at_call 108; (with_reducible refine (HF.out _ ?_).mono ?_); (focus (refine Below.mono ?_ hsz; (repeat (first | assumption | (with_reducible refine Below.alloc ?_ (by first | omega | (simp; done) | (simp; omega)) _) | (with_reducible refine Below.setCell ?_ (by first | omega | (simp; done) | (simp; omega)) _) | (with_reducible refine Below.drew ?_))))); rintro e w5 ⟨rfl, hb5⟩; have hb5 : Below wr.heap.size wr w5 := below_then (by (repeat (first | assumption | (with_reducible refine Below.alloc ?_ (by first | omega | (simp; done) | (simp; omega)) _) | (with_reducible refine Below.setCell ?_ (by first | omega | (simp; done) | (simp; omega)) _) | (with_reducible refine Below.drew ?_)))) hb5; have hs5 := hb5.size)
          | ((refine step_append_row rfl (.tmp 14) (.tmp 21) rfl w2.heap.size _ _ _ (by rfl) (HOw.out _ ?_) _ 1 1 _ (by rfl) (IntsAt.one _ _ _) hk6 (by have := hb5.size; first | omega | (simp; omega)) ?_); (focus (repeat (first | assumption | (with_reducible refine Below.alloc ?_ (by first | omega | (simp; done) | (simp; omega)) _) | (with_reducible refine Below.setCell ?_ (by first | omega | (simp; done) | (simp; omega)) _) | (with_reducible refine Below.drew ?_)))); intro v6 w6 hown6 hg6 hat6; have hb6 : Below w2.heap.size wr w6 := Below.grown (Below.mono (show Below wr.heap.size wr _ by (repeat (first | assumption | (with_reducible refine Below.alloc ?_ (by first | omega | (simp; done) | (simp; omega)) _) | (with_reducible refine Below.setCell ?_ (by first | omega | (simp; done) | (simp; omega)) _) | (with_reducible refine Below.drew ?_)))) hsz) hg6 (by have := hb5.size; first | omega | (simp; omega)) (fun r e => (Hown.out.lt r e).1)))
      all_goals
        go_wp2_with fail
        exact ⟨⟨k + 1, by omega, by go_num, by rw [Hs.out]; exact hown6, Hb.out.trans hb6⟩, by simp [intOf]; omega⟩
    · obtain rfl : L.length = k := by omega
      have Hl := hid_ (HKl.out L.length (Nat.le_refl _))
      go_wp2
      go_ret
      refine ⟨_, rfl, ⟨?_, Hc1.out.trans ((Hb2.out.trans (hb.mono Hb2.out.size)).mono Hc1.out.size)⟩⟩
      rw [← HKa.out, Hl.out]
      exact own_base hown (Nat.le_trans Hc1.out.size Hb2.out.size)
def resFill (P : Par) : List Int := if validP P = 0 then fillL P else []
end Go.Proofs.Ytdnlpikfibdjoaa
