import Derived.Test.YtahknodnjjmagaaZae
import Derived.Test.YtahknodnjjmagaaZp
namespace Go.Proofs.Ytahknodnjjmagaa
open Go.RowKit Go.Proofs.Kv

/-! ### IsBox of the document -/
theorem hull_ge {L : List (List Int)} (h : ∀ k, k < L.length → ∀ j, j < (L.getD k []).length → 0 ≤ (L.getD k []).getD j 0) : ∀ k, k ≤ L.length → ∀ j, -1 ≤ (hullK L k).getD j 0
  | 0, _, j => by
    show -1 ≤ (L.getD 0 []).getD j 0
    by_cases hl : 0 < L.length
    · by_cases hj : j < (L.getD 0 []).length
      · have := h 0 hl j hj; omega
      · simp only [List.getD]; rw [List.getElem?_eq_none (by simpa [List.getD] using hj)]; decide
    · have : L = [] := List.eq_nil_of_length_eq_zero (by omega)
      subst this
      simp [List.getD]
  | k + 1, hk, j => by
    have ih := hull_ge h k (by omega) j
    rw [hullK_succ (by omega), hs]
    by_cases hj : j < (hullK L k).length
    · rw [hsK, map_getD _ hj, if_pos hj]
      split
      · exact ih
      · decide
    · simp only [List.getD]; rw [List.getElem?_eq_none (by rw [hsK_len]; omega)]; decide
theorem hull_min {P : Par} {L : List (List Int)} (h : errC P L = 0) (j : Nat) : -1 ≤ (hullL L).getD j 0 :=
  hull_ge (fun k hk j hj => ((specB_ok ((errC_rows h).2 k hk)).2 j hj).1) L.length (Nat.le_refl _) j
theorem hull_len {P : Par} {L : List (List Int)} (h : errC P L = 0) (h0 : 0 < L.length) : (hullL L).length = P.sizes.length := (hullK_len L L.length).trans (errC_lens h 0 h0)
def boxAt (L : List (List Int)) (c : List Int) : Bool := !hB (hullL L) c || hasL L c
def boxB (P : Par) (L : List (List Int)) : Bool := (cellsL P.sizes).all (boxAt L)
def resBox (P : Par) (L : List (List Int)) : Bool := if errC P L = 0 then (if L.length = 0 then false else boxB P L) else false
theorem all_yes {α : Type} {l : List α} {p : α → Bool} {n : Nat} (d : α) (hn : l.length = n) (h : ∀ j, j < n → p (l.getD j d) = true) : l.all p = true := by
  rw [List.all_eq_true]
  intro x hx
  obtain ⟨i, hi, rfl⟩ := List.mem_iff_getElem.1 hx
  have := h i (by omega)
  rwa [show l.getD i d = l[i] by simp [List.getD, List.getElem?_eq_getElem hi]] at this
theorem all_no {α : Type} {l : List α} {p : α → Bool} {k : Nat} (d : α) (hk : k < l.length) (h : p (l.getD k d) = false) : l.all p = false := by
  rw [List.all_eq_false]
  refine ⟨l[k], List.getElem_mem hk, ?_⟩
  rw [show l.getD k d = l[k] by simp [List.getD, List.getElem?_eq_getElem hk]] at h
  rw [h]; simp
set_option maxRecDepth 100000 in
set_option maxHeartbeats 8000000 in
theorem r6IsBox_calls (v : Value) (P : Par) (a : Option Addr) (n c : Nat) (L : List (List Int)) (w : World) (h : ParAt w v P) (hl : ListsAt w a n c L) :
    Calls Try.prog 51 #[v, .slice a n c] w fun e w' => e = .returned (.tuple #[.bool (resBox P L), .int .i64 (errC P L)]) ∧ Below w.heap.size w w' := by
  have HP := hid_ h
  obtain ⟨a1, n1, c1, a2, n2, c2, rfl, h1, h2⟩ := h
  obtain ⟨w1, hw1⟩ : ∃ w1, w.alloc (.cells #[.slice a1 n1 c1, .slice a2 n2 c2] 25) = w1 := ⟨_, rfl⟩
  have cb : Below w.heap.size w w1 := by rw [← hw1]; exact below_alloc _ _
  have q0 : w1.cell? ⟨w.heap.size, 0, none⟩ = some (.slice a1 n1 c1) := by rw [← hw1]; exact cells_alloc _ _ _ 0
  have q1 : w1.cell? ⟨w.heap.size, 1, none⟩ = some (.slice a2 n2 c2) := by rw [← hw1]; exact cells_alloc _ _ _ 1
  have HP1 := hid_ (HP.out.below cb (Nat.le_refl _)); have Hc1 := hid_ cb
  have hlen := hl.len
  have HL := hid_ (hl.below cb (Nat.le_refl _))
  have HE := hid_ (listed_calls _ P a n c L w1 HP1.out HL.out)
  have HR : Hid (resBox P L = if errC P L = 0 then (if n = 0 then false else boxB P L) else false) := hid_ (by rw [resBox, hlen])
  clear h1 h2 hl cb
  by_cases he : errC P L = 0
  · by_cases hn : n = 0
    · have Hr : Hid (resBox P L = false) := hid_ (by rw [HR.out, if_pos he, if_pos hn])
      rw [he] at HE ⊢
      rw [Hr.out]
      subst hn
      clear he hlen
      go_enter Try.func51, Try.ntmps51
      go_wp2_with (go_at_call 97; (with_reducible refine HE.out.mono ?_); rintro e w2 ⟨rfl, hb2⟩)
      go_ret2
      exact ⟨rfl, Hc1.out.trans (hb2.mono Hc1.out.size)⟩
    · have Hr : Hid (resBox P L = boxB P L) := hid_ (by rw [HR.out, if_pos he, if_neg hn])
      have hv := (errC_rows he).1
      have h3 := (validP_ok hv).1.2
      have HM := hid_ (fun W (hW : Below w1.heap.size w1 W) => r6hull_calls a n c L P.sizes.length W (HL.out.below hW (Nat.le_refl _)) (by omega) (fun k hk => errC_lens he k (by omega)) (by omega))
      have HC := hid_ (fun W (hW : Below w1.heap.size w1 W) => r6cells_calls _ P W (HP1.out.below hW (Nat.le_refl _)) hv)
      have hnz : ((n : Int) == 0) = false := by simpa using hn
      have Hhl := hid_ (hull_len he (by omega))
      have Hge := hid_ (fun j => hull_min he j)
      have HLe : Hid (∀ k, k < (cellsL P.sizes).length → ((cellsL P.sizes).getD k []).length = P.sizes.length) := hid_ (fun k hk => (specB_ok (cells_spec hv hk)).1)
      have HY := hid_ (fun (hh : ∀ j, j < (cellsL P.sizes).length → boxAt L ((cellsL P.sizes).getD j []) = true) => all_yes (p := boxAt L) [] rfl hh)
      have HN := hid_ (fun k (hk : k < (cellsL P.sizes).length) (hh : boxAt L ((cellsL P.sizes).getD k []) = false) => all_no (p := boxAt L) [] hk hh)
      have HB : Hid (boxB P L = (cellsL P.sizes).all (boxAt L)) := hid_ rfl
      have HBa : Hid (∀ c, boxAt L c = (!hB (hullL L) c || hasL L c)) := hid_ (fun c => rfl)
      have h27 := (cells_chain hv).2.2.1
      rw [he] at HE ⊢
      rw [Hr.out]
      clear he hlen hn hv
      obtain ⟨nn, hnn⟩ : ∃ nn, P.sizes.length = nn := ⟨_, rfl⟩
      rw [hnn] at HLe Hhl h3
      have Hnn := hid_ hnn
      clear hnn
      have Hrr := hid_ Hr.out
      generalize cellsL P.sizes = CL at *
      go_enter Try.func51, Try.ntmps51
      go_wp2_with (first
        | (go_at_call 97; (with_reducible refine HE.out.mono ?_); rintro e w2 ⟨rfl, hb2⟩; have q02 := cell_below q0 hb2; have q12 := cell_below q1 hb2)
        | (go_at_call 98; (with_reducible refine (HM.out _ hb2).mono ?_); rintro e w3 ⟨v3, rfl, hm3⟩; have hb3 := hb2.trans (hm3.bel.mono hb2.size); have q03 := cell_below q0 hb3; have q13 := cell_below q1 hb3; obtain ⟨a3, c3, rfl, hi3⟩ := hm3.at_; have Hi3 := hid_ hi3; rw [Hhl.out] at Hi3 ⊢; clear hi3 hm3)
        | (go_at_call 70; (with_reducible refine (HC.out _ hb3).mono ?_); rintro e w4 ⟨v4, rfl, hm4⟩; have hb4 := hb3.trans (hm4.bel.mono hb3.size); have Hi34 := hid_ (Hi3.out.below hm4.bel (Nat.le_refl _)); obtain ⟨a4, c4, rfl, hi4⟩ := hm4.at_; have Hi4 := hid_ hi4; clear hi4 hm4))
      have HL4 := hid_ (HL.out.below hb4 (Nat.le_refl _))
      have HbF := hid_ (Hc1.out.trans (hb4.mono Hc1.out.size))
      clear hb2 hb3 hb4 q02 q12 q03 q13
      go_loopw [9] (fun i wr => ∃ k q : Nat, k ≤ CL.length ∧ i = .int .i64 k ∧ wr = w4.drewN q ∧ ∀ j, j < k → boxAt L (CL.getD j []) = true) (fun i _ => CL.length - (intOf i).toNat)
      case atStart => exact ⟨0, 0, Nat.zero_le _, rfl, rfl, fun _ h => absurd h (by omega)⟩
      case round =>
        obtain ⟨k, q, hk, rfl, hq, hall⟩ := hrel
        have Hall := hid_ hall; have Hq := hid_ hq
        have HA := hid_ (show ListsAt wr a4 CL.length c4 CL by rw [hq]; exact Hi4.out.drewN q)
        have HS := hid_ (show IntsAt wr a3 nn c3 (hullL L) by rw [hq]; exact Hi34.out.drewN q)
        have HG := hid_ (show ListsAt wr a n c L by rw [hq]; exact HL4.out.drewN q)
        have HbW : Hid (Below w.heap.size w wr) := hid_ (by rw [hq]; exact below_drewN HbF.out q)
        clear hall hq
        by_cases hlt : k < CL.length
        · obtain ⟨bl, off, a6, n6, c6, rfl, hbs, hcell, hrow⟩ := HA.out.cells k hlt
          have e6 : n6 = nn := by rw [← hrow.len]; exact HLe.out k hlt
          subst e6
          have HH := hid_ (holds_calls a6 n6 c6 (CL.getD k []) a3 n6 c3 (hullL L) wr hrow HS.out (Nat.le_refl _) (fun j hj => Hge.out j))
          have HT := hid_ (fun q => r6has_calls a n c L a6 n6 c6 (CL.getD k []) (wr.drewN q) (HG.out.drewN q) (hrow.drewN q))
          have hno := HN.out k hlt
          have hyes := fun hh => lt_snoc (p := fun j => boxAt L (CL.getD j []) = true) Hall.out hh
          have hba := HBa.out (CL.getD k [])
          clear hrow
          generalize CL.getD k [] = cl at *
          generalize hB (hullL L) cl = x at *
          generalize hasL L cl = y at *
          cases x with
          | false =>
            have Hn := hid_ (hyes (hba.trans rfl))
            clear hno hyes hba
            go_wp2_with (go_at_call 52; (with_reducible refine HH.out.mono ?_); rintro e w5 ⟨rfl, q1, rfl⟩)
            go_roundw
            case rel => exact ⟨k + 1, _, by omega, by go_num, by rw [Hq.out, drewN2], Hn.out⟩
            case measure => simp [intOf]; omega
          | true =>
            cases y with
            | true =>
              have Hn := hid_ (hyes (hba.trans rfl))
              clear hno hyes hba
              go_wp2_with (first
                | (go_at_call 52; (with_reducible refine HH.out.mono ?_); rintro e w5 ⟨rfl, q1, rfl⟩)
                | (go_at_call 103; (with_reducible refine (HT.out _).mono ?_); rintro e w5 ⟨rfl, q2, rfl⟩))
              go_roundw
              case rel => exact ⟨k + 1, _, by omega, by go_num, by rw [Hq.out, drewN2], Hn.out⟩
              case measure => simp [intOf]; omega
            | false =>
              have Hf := hid_ (HB.out.trans (hno (hba.trans rfl)))
              clear hno hyes hba
              go_wp2_with (first
                | (go_at_call 52; (with_reducible refine HH.out.mono ?_); rintro e w5 ⟨rfl, q1, rfl⟩)
                | (go_at_call 103; (with_reducible refine (HT.out _).mono ?_); rintro e w5 ⟨rfl, q2, rfl⟩))
              go_ret2
              exact ⟨by rw [Hf.out]; rfl, below_drewN HbW.out _⟩
        · obtain rfl : CL.length = k := by omega
          have Hf := hid_ (HB.out.trans (HY.out Hall.out))
          go_wp2
          go_ret2
          exact ⟨by rw [Hf.out]; rfl, HbW.out⟩
  · have hq : (errC P L != 0) = true := by simpa using he
    have Hr : Hid (resBox P L = false) := hid_ (by rw [HR.out, if_neg he])
    rw [Hr.out]
    generalize errC P L = x at *
    clear he hlen
    go_enter Try.func51, Try.ntmps51
    go_wp2_with (go_at_call 97; (with_reducible refine HE.out.mono ?_); rintro e w2 ⟨rfl, hb2⟩)
    go_ret2
    exact ⟨rfl, Hc1.out.trans (hb2.mono Hc1.out.size)⟩
end Go.Proofs.Ytahknodnjjmagaa
