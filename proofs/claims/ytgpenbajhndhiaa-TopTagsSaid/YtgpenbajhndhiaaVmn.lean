import Derived.Test.YtgpenbajhndhiaaVmf
namespace Go.Proofs.Ytgpenbajhndhiaa
open Go.RowKit Go.Proofs.Kv Go

/-! ### the smallest costs are a proof -/
def rowP0 (L : Lx) (t : List Int) (i : Nat) : List Int := (List.range L.items.length).map fun j => lstS L t i j
def prf0 (L : Lx) (t : List Int) : List (List Int) := (List.range (t.length + 1)).map (rowP0 L t)
theorem prf0_row (L : Lx) (t : List Int) {i : Nat} (hi : i < t.length + 1) : (prf0 L t).getD i [] = rowP0 L t i := by
  unfold prf0; simp [List.getD, hi]
theorem rowP0_at (L : Lx) (t : List Int) (i : Nat) {j : Nat} (hj : j < L.items.length) : (rowP0 L t i).getD j 0 = lstS L t i j := by
  unfold rowP0; simp [List.getD, hj]
theorem prf0_at (L : Lx) (t : List Int) {i j : Nat} (hi : i < t.length + 1) (hj : j < L.items.length) : pv (prf0 L t) i j = lstS L t i j := by
  unfold pv; rw [prf0_row L t hi, rowP0_at L t i hj]
theorem prf0_rows {L : Lx} {t : List Int} (h : textE L t = 0) : rowsP L t (prf0 L t) = true := by
  obtain ⟨g, h12, -⟩ := textE_ok h
  have hl : (prf0 L t).length = t.length + 1 := by unfold prf0; simp
  unfold rowsP
  rw [rowsB_all hl, decide_eq_true (by omega)]
  intro i hi
  rw [prf0_row L t hi]
  have hr : (rowP0 L t i).length = L.items.length := by unfold rowP0; simp
  refine rowOk_yes hr fun j hj => ?_
  rw [rowP0_at L t i hj]
  have := lstS_in g h12 (i := i) (j := j) (by omega) hj
  simp [Within]; omega
theorem gP_prf0 {L : Lx} (g : GoodL L) {t : List Int} (ht : t.length ≤ 12) {fr j : Nat} (hf : fr ≤ t.length) (hj : j < L.items.length) : ∀ k, k ≤ L.items.length → gP L (prf0 L t) fr j k = minN ((behP L t fr j k).map (sumC L))
  | 0, _ => rfl
  | k + 1, hk => by
    have ih := gP_prf0 g ht hf hj k (by omega)
    by_cases hfo : 0 ≤ follV L k j
    · rw [gP_yes hfo, ih, lst_step g ht hf (by omega) hj hfo, prf0_at L t (by omega) (by omega), Int.add_assoc]
    · rw [gP_no hfo, ih, behP_succ, behL_no (by omega), List.append_nil]
theorem prf0_holds {L : Lx} {t : List Int} (h : textE L t = 0) : holdsB L t (prf0 L t) = true := by
  obtain ⟨g, h12, -⟩ := textE_ok h
  have hl : (prf0 L t).length = t.length + 1 := by unfold prf0; simp
  refine holdsB_yes hl rfl fun i hi j hj => ?_
  unfold okE
  cases he : endB L t i j with
  | false => rfl
  | true =>
    have e := endC_yes g hj he
    have e : lstS L t i j = behM L t (i - ln L j) j := congrArg Prod.snd e
    rw [prf0_at L t hi hj, e, Bool.true_and]
    have hg : greatV L (prf0 L t) (i - ln L j) j = behM L t (i - ln L j) j := by
      unfold greatV behM
      split
      · rfl
      · exact gP_prf0 g h12 (by omega) hj _ (Nat.le_refl _)
    rw [hg, decide_eq_false (by omega)]; rfl
theorem wP_prf0 {L : Lx} (g : GoodL L) {t : List Int} (ht : t.length ≤ 12) : ∀ k, k ≤ L.items.length → ((wP L t (rowP0 L t t.length) k).2 = false → allP L t k = []) ∧ ((wP L t (rowP0 L t t.length) k).2 = true → (wP L t (rowP0 L t t.length) k).1 = minN ((allP L t k).map (sumC L)))
  | 0, _ => ⟨fun _ => rfl, fun h => by cases h⟩
  | k + 1, hk => by
    obtain ⟨i1, i2⟩ := wP_prf0 g ht k (by omega)
    obtain ⟨⟨x, b⟩, hx⟩ : ∃ p, wP L t (rowP0 L t t.length) k = p := ⟨_, rfl⟩
    rw [hx] at i1 i2
    simp only [] at i1 i2
    have hr := rowP0_at L t t.length (show k < L.items.length by omega)
    have hl := (lstS_in g ht (Nat.le_refl t.length) (show k < L.items.length by omega)).2.1
    cases he : endB L t t.length k with
    | false =>
      have hs : S8 L t t.length k = [] := by rw [S8_eq g t t.length k (by omega), if_neg (by rw [he]; decide)]
      rw [wP_no hx he, allP_succ, hs, List.append_nil]
      exact ⟨i1, i2⟩
    | true =>
      have hm : minN ((allP L t (k + 1)).map (sumC L)) = min (minN ((allP L t k).map (sumC L))) (lstS L t t.length k) := by rw [allP_succ, List.map_append, minN_append]; rfl
      cases b with
      | false =>
        rw [wP_yes hx he (.inl rfl), hr]
        refine ⟨fun h => (by cases h), fun _ => ?_⟩
        rw [hm, i1 rfl]; show _ = min 100000 _; omega
      | true =>
        have h2 := i2 rfl
        by_cases hlt : lstS L t t.length k < x
        · rw [wP_yes hx he (.inr (by rw [hr]; exact hlt)), hr]
          refine ⟨fun h => (by cases h), fun _ => ?_⟩
          rw [hm, ← h2]; show lstS L t t.length k = _; omega
        · rw [wP_no' hx (by rw [hr]; exact hlt)]
          refine ⟨fun h => (by cases h), fun _ => ?_⟩
          rw [hm, ← h2]; show x = _; omega
theorem prf0_is {L : Lx} {t : List Int} (h : leastB L t = true) : proofE L t (prf0 L t) = 0 ∧ prfP L t (prf0 L t) = (leastV L t, true) := by
  have hb := h
  unfold leastB at h
  rw [Bool.and_eq_true, decide_eq_true_eq, decide_eq_true_eq] at h
  obtain ⟨g, h12, -⟩ := textE_ok h.1
  obtain ⟨e1, e2⟩ := proofE_0 h.1 (prf0_rows h.1) (prf0_holds h.1)
  refine ⟨e1, ?_⟩
  rw [e2]
  unfold wthP leastV
  rw [if_pos hb]
  by_cases h0 : t.length = 0
  · rw [if_pos h0]; unfold lstA allS; rw [if_pos h0]; rfl
  · rw [if_neg h0, prf0_row L t (by omega)]
    have hA : allS L t = allP L t L.items.length := by unfold allS; rw [if_neg h0]; rfl
    obtain ⟨i1, i2⟩ := wP_prf0 g h12 L.items.length (Nat.le_refl _)
    have hne : allP L t L.items.length ≠ [] := fun e => h.2 (by rw [cntA_ne, hA, e])
    cases hw : (wP L t (rowP0 L t t.length) L.items.length).2 with
    | false => exact absurd (i1 hw) hne
    | true =>
      refine Prod.ext ?_ hw
      rw [i2 hw]; unfold lstA; rw [hA]
end Go.Proofs.Ytgpenbajhndhiaa
namespace Go.Proofs.Kv
open Go.RowKit Go
theorem OwnRw.topKept {E E1 : TypeId} {w w' : World} {B i : Nat} {v u : Value} {us : List Value} {L : List (List Int)} (h : OwnRw E E1 w B v us L) (hu : us[i]? = some u) (hg : w.grownBy w' u.ownBlock) : w'.ownsRow B E 1 v L.length us := by
  refine h.top.kept hg ?_
  by_cases hx : v.ownBlock = none
  · exact .inl hx
  · obtain ⟨b, hb⟩ := Option.ne_none_iff_exists'.1 hx
    exact .inr (by rw [hb]; exact fun q => h.diff hu b q.symm hb)
theorem made_nils (m : Nat) : (madeCells #[.slice none 0 0] m).toList = List.replicate m (Value.slice none 0 0) := by
  apply List.ext_getElem
  · simp [size_madeCells]
  · intro i h1 h2
    simp only [madeCells, Array.getElem_toList, Array.getElem_map, Array.getElem_range, List.getElem_replicate]
    rw [show i % (#[Value.slice none 0 0] : Array Value).size = 0 by show i % 1 = 0; omega]
    rfl
/-- a new list of so many empty rows -/
theorem OwnRw.made {E E1 : TypeId} (w : World) (m : Nat) (hE : E ≠ E1) (hm : m ≤ 1000000) : OwnRw E E1 (w.alloc (.cells (madeCells #[.slice none 0 0] m) E)) w.heap.size (.slice (some ⟨w.heap.size, 0, none⟩) m m) (List.replicate m (Value.slice none 0 0)) (List.replicate m []) := by
  refine ⟨hE, ?_, fun i hi => ?_, fun i j u u' b hij hu hu' hb => ?_⟩
  · have := World.ownsRow_lit (base := w.heap.size) (e := E) (size := 1) w (madeCells #[.slice none 0 0] m) m (Nat.le_refl _) (by unfold maxLen; omega) (by rw [size_madeCells, Nat.mul_one])
    rw [made_nils] at this
    simpa using this
  · rw [List.length_replicate] at hi
    refine ⟨.slice none 0 0, by rw [List.getElem?_replicate, if_pos hi], ?_⟩
    have e : (List.replicate m ([] : List Int)).getD i [] = [] := by simp [List.getD, hi]
    rw [e]
    exact World.ownsRow_nil _ _ _ _
  · rw [List.getElem?_replicate] at hu
    split at hu
    · injection hu with hu; subst hu; simp [Value.ownBlock] at hb
    · cases hu
end Go.Proofs.Kv
namespace Go.Proofs.Ytgpenbajhndhiaa
open Go.RowKit Go.Proofs.Kv Go

/-! ### Proof of the program -/
def prfV (L : Lx) (t : List Int) : List (List Int) := if leastB L t = true then prf0 L t else []
def prfEr (L : Lx) (t : List Int) : Int := if textE L t = 0 then (if leastB L t = true then 0 else 4) else textE L t
/-- the proof when its first p rows are there -/
def prfK (L : Lx) (t : List Int) (m p : Nat) : List (List Int) := (List.range m).map fun i => if i < p then rowP0 L t i else []
theorem prfK_len (L : Lx) (t : List Int) (m p : Nat) : (prfK L t m p).length = m := by simp [prfK]
theorem prfK_zero (L : Lx) (t : List Int) (m : Nat) : prfK L t m 0 = List.replicate m [] := by
  apply List.ext_getElem
  · simp [prfK]
  · intro i h1 h2; simp [prfK]
theorem prfK_full (L : Lx) (t : List Int) {m : Nat} (hm : m = t.length + 1) : prfK L t m m = prf0 L t := by
  subst hm
  unfold prfK prf0
  refine List.map_congr_left fun i hi => ?_
  rw [if_pos (List.mem_range.1 hi)]
theorem prfK_start (L : Lx) (t : List Int) {m p : Nat} (_ : p < m) : (prfK L t m p).set p ((rowP0 L t p).take 0) = prfK L t m p := by
  apply List.ext_getElem
  · simp
  · intro i h1 h2
    rw [List.getElem_set]
    split
    · rename_i e; subst e; simp [prfK]
    · rfl
theorem prfK_next (L : Lx) (t : List Int) {m p n : Nat} (_ : p < m) (hn : n = L.items.length) : (prfK L t m p).set p ((rowP0 L t p).take n) = prfK L t m (p + 1) := by
  have hr : (rowP0 L t p).length = n := by simp [rowP0, hn]
  apply List.ext_getElem
  · simp [prfK]
  · intro i h1 h2
    rw [List.getElem_set]
    split
    · rename_i e; subst e; rw [← hr, List.take_length]; simp [prfK]
    · rename_i e
      simp only [prfK, List.getElem_map, List.getElem_range]
      by_cases h : i < p
      · rw [if_pos h, if_pos (by omega)]
      · rw [if_neg h, if_neg (by omega)]
set_option maxRecDepth 100000 in
set_option maxHeartbeats 8000000 in
theorem taProof_calls (v : Value) (L : Lx) (a : Option Addr) (n c : Nat) (t : List Int) (w : World) (h : LexAt w v L) (ht : IntsAt w a n c t) :
    Calls Try.prog 18 #[v, .slice a n c] w fun e w' => ∃ u us, e = .returned (.tuple #[u, .int .i64 (prfEr L t)]) ∧ OwnRw 26 3 w' w.heap.size u us (prfV L t) ∧ Below w.heap.size w w' := by
  have HP := hid_ h
  obtain ⟨a1, n1, c1, a2, n2, c2, rfl, h1, h2⟩ := h
  obtain ⟨w1, hw1⟩ : ∃ w1, w.alloc (.cells #[.slice a1 n1 c1, .slice a2 n2 c2] 25) = w1 := ⟨_, rfl⟩
  have cb : Below w.heap.size w w1 := by rw [← hw1]; exact below_alloc _ _
  have q0 : w1.cell? ⟨w.heap.size, 0, none⟩ = some (.slice a1 n1 c1) := by rw [← hw1]; exact cells_alloc _ _ _ 0
  have q1 : w1.cell? ⟨w.heap.size, 1, none⟩ = some (.slice a2 n2 c2) := by rw [← hw1]; exact cells_alloc _ _ _ 1
  have HP1 := hid_ (HP.out.below cb (Nat.le_refl _)); have Hc1 := hid_ cb
  have HV := hid_ (tavalidate_calls _ L a n c t w1 HP1.out (ht.below cb (Nat.le_refl _)))
  have HQ := hid_ (fun W (hW : Below w1.heap.size w1 W) => (⟨cell_below q0 hW, cell_below q1 hW⟩ : _ ∧ _))
  have HBv : Hid (leastB L t = (decide (textE L t = 0) && decide (cntA L t ≠ 0))) := hid_ rfl
  have HX : Hid (prfV L t = if leastB L t = true then prf0 L t else []) := hid_ rfl
  have HE : Hid (prfEr L t = if textE L t = 0 then (if leastB L t = true then 0 else 4) else textE L t) := hid_ rfl
  generalize prfV L t = X at *
  generalize prfEr L t = E at *
  by_cases he : textE L t = 0
  · obtain ⟨g, h12, -⟩ := textE_ok he
    have htl := ht.len
    have hl1 := h1.len
    have HEn := hid_ (fun W (hW : Below w1.heap.size w1 W) => endings_calls _ L a n c t W (HP1.out.below hW (Nat.le_refl _)) ((ht.below cb (Nat.le_refl _)).below hW (Nat.le_refl _)) g (by omega))
    have HWh := hid_ (fun W tb (hT : TabRows W tb L.items.length (n + 1) (endC L t)) => whole_calls L t tb (n + 1) W g h12 (by omega) hT)
    rw [he] at HV HBv
    rw [if_pos he] at HE
    have hn12 : n ≤ 12 := by omega
    have hn8 : n1 ≤ 8 := by have := g.le; omega
    by_cases hc0 : cntA L t = 0
    · have hq : (cntA L t == 0) = true := by simp [hc0]
      have hlb : leastB L t = false := by rw [HBv.out, hc0]; rfl
      rw [hlb, if_neg (by decide)] at HX HE
      generalize cntA L t = cn at *
      clear h1 h2 HP HP1 cb ht he g h12 htl hl1 hlb hc0
      have hfield : ∀ W : World, (Instr.field 56 (.agg #[.int .i64 cn, .int .i64 (lstA L t)]) 0).run Try.prog W = .ok (.int .i64 cn) W := fun W => by simp [Instr.field, go_sem, asAgg]
      rw [HX.out, HE.out]
      go_enter Try.func18, Try.ntmps18
      go_wp2_with (first
        | (go_at_call 26; (with_reducible refine HV.out.mono ?_); rintro e w2 ⟨rfl, hb2⟩; obtain ⟨q2, r2⟩ := HQ.out w2 hb2)
        | (go_at_call 28; (with_reducible refine (HEn.out _ hb2).mono ?_); rintro e w3 ⟨tb, rfl, hT3, hb3'⟩; have hb3 := below_then8 hb2 hb3'; have HT3 := hid_ hT3; clear hT3)
        | (go_at_call 27; (with_reducible refine (HWh.out _ _ HT3.out).mono ?_); rintro e w4 ⟨rfl, hb4'⟩; have hb4 := below_then8 hb3 hb4'))
      go_ret2
      exact ⟨_, [], rfl, OwnRw.nil _ _ (by decide), Hc1.out.trans (hb4.mono Hc1.out.size)⟩
    · have hq : (cntA L t == 0) = false := by simpa using hc0
      have hlb : leastB L t = true := by rw [HBv.out, decide_eq_true hc0]; rfl
      rw [hlb, if_pos rfl] at HX HE
      obtain ⟨m, hm⟩ : ∃ m, n + 1 = m := ⟨_, rfl⟩
      have hm13 : m ≤ 13 := by omega
      have hmt : m = t.length + 1 := by omega
      obtain ⟨i0, hi0, hz0, hz1, hz2⟩ := info_parts Try.infoInts
      obtain ⟨i1, hi1, hz3, hz4, hz5⟩ := info_parts Try.infoInt
      have hmk : ∀ W' : World, (Instr.makeSlice 23 (.int .i64 (m : Int)) (.int .i64 (m : Int))).run Try.prog W' = .ok (.slice (some ⟨W'.heap.size, 0, none⟩) m m) (W'.alloc (.cells (madeCells #[.slice none 0 0] m) 26)) := fun W' => by
        have := run_make (P := Try.prog) W' 23 26 i0 (.slice none 0 0) Try.underlying23 hi0 hz0 .i64 .i64 m m (by omega) (by omega) (by rw [hz2]; omega) (by omega)
        rw [this, hz1]; simp [Value.cells]
      have HK0 := hid_ (prfK_zero L t m)
      have HKm := hid_ (prfK_full L t hmt)
      have HKl := hid_ (prfK_len L t m)
      have HKs := hid_ (fun p (hp : p < m) => prfK_start L t hp)
      have HKn := hid_ (fun p (hp : p < m) => prfK_next L t hp hl1.symm)
      have HRl : Hid (∀ p, (rowP0 L t p).length = n1) := hid_ (fun p => by simp [rowP0, hl1])
      have HRa := hid_ (fun p j (hj : j < n1) => rowP0_at L t p (show j < L.items.length by omega))
      have HEc : Hid (∀ i j, (endC L t i j).2 = lstS L t i j) := hid_ (fun _ _ => rfl)
      rw [hl1, hm] at HWh
      simp only [hl1, hm] at HEn
      generalize cntA L t = cn at *
      clear h1 h2 HP HP1 cb ht he g h12 htl hl1 hlb hc0 hmt
      have hfield : ∀ W : World, (Instr.field 56 (.agg #[.int .i64 cn, .int .i64 (lstA L t)]) 0).run Try.prog W = .ok (.int .i64 cn) W := fun W => by simp [Instr.field, go_sem, asAgg]
      rw [HX.out, HE.out]
      go_enter Try.func18, Try.ntmps18
      go_wp2_with (first
        | (go_at_call 26; (with_reducible refine HV.out.mono ?_); rintro e w2 ⟨rfl, hb2⟩; obtain ⟨q2, r2⟩ := HQ.out w2 hb2)
        | (go_at_call 28; (with_reducible refine (HEn.out _ hb2).mono ?_); rintro e w3 ⟨tb, rfl, hT3, hb3'⟩; have hb3 := below_then8 hb2 hb3'; have HT3 := hid_ hT3; clear hT3)
        | (go_at_call 27; (with_reducible refine (HWh.out _ _ HT3.out).mono ?_); rintro e w4 ⟨rfl, hb4'⟩; have hb4 := below_then8 hb3 hb4'; have HT4 := hid_ (HT3.out.below hb4' (Nat.le_refl _)); have Hb4 := hid_ (Hc1.out.trans (hb4.mono Hc1.out.size)); have HO4 := hid_ (OwnRw.made (E := 26) (E1 := 3) w4 m (by decide) (by omega))))
      clear HT3 hb2 hb3 hb4
      rw [← HK0.out] at HO4
      go_loopw [31] (fun i wr => ∃ (p : Nat) (us : List Value), p ≤ m ∧ i = .int .i64 p ∧ OwnRw 26 3 wr w4.heap.size (.slice (some ⟨w4.heap.size, 0, none⟩) m m) us (prfK L t m p) ∧ Below w4.heap.size w4 wr) (fun i _ => m - (intOf i).toNat)
      case atStart => exact ⟨0, _, Nat.zero_le _, rfl, HO4.out, below_alloc _ _⟩
      case round =>
        obtain ⟨p, us, hp, rfl, hO, hbr⟩ := hrel
        by_cases hlt : p < m
        · have hT := HT4.out.below hbr (Nat.le_refl _)
          obtain ⟨rb, k0, -, hrb, hcs⟩ := hT p hlt
          have HO := hid_ hO
          have Hbr := hid_ hbr
          have HCs := hid_ (fun W (hW : Below w4.heap.size w4 W) => (HT4.out.below hW (Nat.le_refl _)) p hlt)
          have Hst := hid_ (HKs.out p hlt)
          have HC4 := HT4.out p hlt
          obtain ⟨rb4, k4, -, hrb4, hcs4⟩ := HC4
          have k0' := (hbr.cell (p := ⟨tb, p, none⟩) (World.block_lt_of_cell? w4 _ k4)).trans k4
          rw [k0] at k0'
          obtain rfl : rb = rb4 := by injection k0' with k0'; injection k0' with k0'; injection k0' with k0'; injection k0'
          have Hcs4 := hid_ hcs4
          clear hO hT hcs k4 k0' hcs4 HCs
          go_wp2
          clear k0
          go_loopw [38] (fun i wi => ∃ (j : Nat) (us : List Value), j ≤ n1 ∧ i = .int .i64 j ∧ OwnRw 26 3 wi w4.heap.size (.slice (some ⟨w4.heap.size, 0, none⟩) m m) us ((prfK L t m p).set p ((rowP0 L t p).take j)) ∧ Below w4.heap.size w4 wi) (fun i _ => n1 - (intOf i).toNat)
          case atStart => exact ⟨0, us, Nat.zero_le _, rfl, by rw [Hst.out]; exact HO.out, Hbr.out⟩
          case round =>
            obtain ⟨j, us, hj, rfl, hO, hbi⟩ := hrel
            have hsz := hbi.size
            by_cases hltj : j < n1
            · obtain ⟨d0, d1, -, -⟩ := Hcs4.out.below hbi hrb4 j hltj
              rw [HEc.out] at d1
              have Htk : Hid ((rowP0 L t p).take (j + 1) = (rowP0 L t p).take j ++ [lstS L t p j]) := hid_ (by rw [Kv.take_snoc _ 0 j (by rw [HRl.out]; exact hltj), HRa.out p j hltj])
              have hjl : ((rowP0 L t p).take j).length = j := by rw [List.length_take, HRl.out]; omega
              have hPl : ((prfK L t m p).set p ((rowP0 L t p).take j)).length = m := by rw [List.length_set, HKl.out]
              have hPp : ((prfK L t m p).set p ((rowP0 L t p).take j)).getD p [] = (rowP0 L t p).take j := by simp [List.getD, HKl.out, hlt]
              have hset : ∀ r, ((prfK L t m p).set p ((rowP0 L t p).take j)).set p r = (prfK L t m p).set p r := fun r => by rw [List.set_set]
              obtain ⟨u, hu, hro⟩ := hO.row p (by rw [hPl]; exact hlt)
              rw [hPp, hjl] at hro
              obtain ⟨a5, c5, rfl, -⟩ := IntsAt.own hro
              generalize (endC L t p j).1 = cc at *
              generalize lstS L t p j = l at *
              generalize (rowP0 L t p).take j = xs at *
              obtain ⟨xs1, hx1⟩ : ∃ x, (rowP0 L t p).take (j + 1) = x := ⟨_, rfl⟩
              rw [hx1] at Htk
              have Hx1 := hid_ hx1
              clear hx1
              have Hset := hid_ hset
              have HPl := hid_ hPl
              have Hxs := hid_ hjl
              generalize (prfK L t m p).set p xs = P at *
              obtain ⟨wb, hwb⟩ : ∃ wb, wr.alloc (.cells #[.int .i64 cc, .int .i64 l] 56) = wb := ⟨_, rfl⟩
              have bb : Below wr.heap.size wr wb := by rw [← hwb]; exact below_alloc _ _
              have s1 : wb.cell? ⟨wr.heap.size, 1, none⟩ = some (.int .i64 l) := by rw [← hwb]; exact cells_alloc _ _ _ 1
              have ht := hO.top
              rw [hPl] at ht
              have hcp : wr.cell? ⟨w4.heap.size, p, none⟩ = some (.slice a5 j c5) := (ht.cellAt p (by omega)).trans hu
              have Hwb := hid_ hwb
              have HOb := hid_ (hO.below bb (Nat.le_refl _))
              have Hrob := hid_ (own_below hro bb (Nat.le_refl _))
              have Hbb := hid_ (hbi.trans (bb.mono hsz))
              have hszb : w4.heap.size ≤ wb.heap.size := Hbb.out.size
              have HS := hid_ (fun W (hW : Below wb.heap.size wb W) => (⟨cell_below (cell_below hcp bb) hW, cell_below s1 hW⟩ : W.cell? ⟨w4.heap.size, p, none⟩ = some (.slice a5 j c5) ∧ W.cell? ⟨wr.heap.size, 1, none⟩ = some (.int .i64 l)))
              have Hu := hid_ hu
              have hrlt : wr.heap.size < wb.heap.size := by rw [← hwb]; simp
              have Hro2 := hid_ (own_below hro bb (Nat.le_refl _)).lt
              have Hne : Hid (∀ k, (Value.slice a5 j c5).ownBlock = some k → k < wr.heap.size) := hid_ (fun k hk => (hro.lt k hk).2)
              clear hO hro ht hPl hPp hset hjl bb s1 hcp hu
              go_wp2
              refine wp_region_last (n := 11) (S := fun W' => W'.cell? ⟨w4.heap.size, p, none⟩ = some (.slice a5 j c5) ∧ W'.cell? ⟨wr.heap.size, 1, none⟩ = some (.int .i64 l)) (by kernel_rfl) (by kernel_rfl) (HS.out _ (Below.drew (Below.refl _ _))) (fun hHeld => ?_)
              refine wpAnyH_take (i := 0) (oi := ?oi0h1) (v := ?v0h1) ?hi0h1 (by kernel_rfl) ?hf0h1 (by kernel_rfl) ?hQ0h1 ?hy0h1 (by assumption) ?rest0h1
              case hi0h1 => (simp only [List.getElem?_toArray, List.getElem?_cons_zero]; rfl)
              case hf0h1 => kernel_rfl
              case hQ0h1 => exact fun _ _ _ h => h
              case hy0h1 => (refine Or.inl ⟨by rfl, ?_⟩; intro W hSw; (try dsimp only at hSw); go_simp; try with_reducible rfl)
              try simp only [Act.put, List.setIfInBounds_toArray, List.set_cons_zero, List.set_cons_succ]
              refine wpAnyH_take (i := 1) (oi := ?oi1h2) (v := ?v1h2) ?hi1h2 (by kernel_rfl) ?hf1h2 (by kernel_rfl) ?hQ1h2 ?hy1h2 (by assumption) ?rest1h2
              case hi1h2 => (simp only [List.getElem?_toArray, List.getElem?_cons_succ, List.getElem?_cons_zero]; rfl)
              case hf1h2 => kernel_rfl
              case hQ1h2 => exact fun _ _ _ h => h
              case hy1h2 => (refine Or.inl ⟨by rfl, ?_⟩; intro W hSw; (try dsimp only at hSw); go_simp; try with_reducible rfl)
              try simp only [Act.put, List.setIfInBounds_toArray, List.set_cons_zero, List.set_cons_succ]
              refine wpAnyH_take (i := 2) (oi := ?oi2h3) (v := ?v2h3) ?hi2h3 (by kernel_rfl) ?hf2h3 (by kernel_rfl) ?hQ2h3 ?hy2h3 (by assumption) ?rest2h3
              case hi2h3 => (simp only [List.getElem?_toArray, List.getElem?_cons_succ, List.getElem?_cons_zero]; rfl)
              case hf2h3 => kernel_rfl
              case hQ2h3 => exact fun _ _ _ h => h
              case hy2h3 => (refine Or.inl ⟨by rfl, ?_⟩; intro W hSw; (try dsimp only at hSw); go_simp; try with_reducible rfl)
              try simp only [Act.put, List.setIfInBounds_toArray, List.set_cons_zero, List.set_cons_succ]
              refine wpAnyH_take (i := 3) (oi := ?oi3h4) (v := ?v3h4) ?hi3h4 (by kernel_rfl) ?hf3h4 (by kernel_rfl) ?hQ3h4 ?hy3h4 (by assumption) ?rest3h4
              case hi3h4 => (simp only [List.getElem?_toArray, List.getElem?_cons_succ, List.getElem?_cons_zero]; rfl)
              case hf3h4 => kernel_rfl
              case hQ3h4 => exact fun _ _ _ h => h
              case hy3h4 => (refine Or.inl ⟨by rfl, ?_⟩; intro W hSw; (try dsimp only at hSw); go_simp; try with_reducible rfl)
              try simp only [Act.put, List.setIfInBounds_toArray, List.set_cons_zero, List.set_cons_succ]
              refine wpAnyH_take (i := 4) (oi := ?oi4h5) (v := ?v4h5) ?hi4h5 (by kernel_rfl) ?hf4h5 (by kernel_rfl) ?hQ4h5 ?hy4h5 (by assumption) ?rest4h5
              case hi4h5 => (simp only [List.getElem?_toArray, List.getElem?_cons_succ, List.getElem?_cons_zero]; rfl)
              case hf4h5 => kernel_rfl
              case hQ4h5 => exact fun _ _ _ h => h
              case hy4h5 => (refine Or.inl ⟨by rfl, ?_⟩; intro W hSw; (try dsimp only at hSw); go_simp; try with_reducible rfl)
              try simp only [Act.put, List.setIfInBounds_toArray, List.set_cons_zero, List.set_cons_succ]
              refine wpAnyH_take (i := 5) (oi := ?oi5h6) (v := ?v5h6) ?hi5h6 (by kernel_rfl) ?hf5h6 (by kernel_rfl) ?hQ5h6 ?hy5h6 (by assumption) ?rest5h6
              case hi5h6 => (simp only [List.getElem?_toArray, List.getElem?_cons_succ, List.getElem?_cons_zero]; rfl)
              case hf5h6 => kernel_rfl
              case hQ5h6 => exact fun _ _ _ h => h
              case hy5h6 => (refine Or.inl ⟨by rfl, ?_⟩; intro W hSw; (try dsimp only at hSw); obtain ⟨g0, g1⟩ := hSw; go_simp; try with_reducible rfl)
              try simp only [Act.put, List.setIfInBounds_toArray, List.set_cons_zero, List.set_cons_succ]
              refine wpAnyH_take (i := 6) (oi := ?oi6h7) (v := ?v6h7) ?hi6h7 (by kernel_rfl) ?hf6h7 (by kernel_rfl) ?hQ6h7 ?hy6h7 (by assumption) ?rest6h7
              case hi6h7 => (simp only [List.getElem?_toArray, List.getElem?_cons_succ, List.getElem?_cons_zero]; rfl)
              case hf6h7 => kernel_rfl
              case hQ6h7 => exact fun _ _ _ h => h
              case hy6h7 => (refine Or.inl ⟨by rfl, ?_⟩; intro W hSw; (try dsimp only at hSw); go_simp; try with_reducible rfl)
              try simp only [Act.put, List.setIfInBounds_toArray, List.set_cons_zero, List.set_cons_succ]
              refine wpAnyH_take (i := 7) (oi := ?oi7h8) (v := ?v7h8) ?hi7h8 (by kernel_rfl) ?hf7h8 (by kernel_rfl) ?hQ7h8 ?hy7h8 (by assumption) ?rest7h8
              case hi7h8 => (simp only [List.getElem?_toArray, List.getElem?_cons_succ, List.getElem?_cons_zero]; rfl)
              case hf7h8 => kernel_rfl
              case hQ7h8 => exact fun _ _ _ h => h
              case hy7h8 => (refine Or.inl ⟨by rfl, ?_⟩; intro W hSw; (try dsimp only at hSw); obtain ⟨g0, g1⟩ := hSw; go_simp; try with_reducible rfl)
              try simp only [Act.put, List.setIfInBounds_toArray, List.set_cons_zero, List.set_cons_succ]
              refine wpAnyH_ready (rs := [8]) (by kernel_rfl) (by simp) ?_
              refine AllReadyH.cons (o := _) (by (simp only [List.getElem?_toArray, List.getElem?_cons_succ, List.getElem?_cons_zero]; rfl)) (fun K hK => ?_) AllReadyH.nil
              go_simp
              refine hK.out _ _ ?_ (fun hHeld => ?_)
              · exact HS.out _ ((Below.drew (Below.refl _ wb)).alloc (Nat.le_refl _) _)
              clear hK K
              try simp only [Act.put, List.setIfInBounds_toArray, List.set_cons_zero, List.set_cons_succ]
              have bw5 : Below wb.heap.size wb (wb.drew.alloc (.cells #[.int .i64 l] 3)) := (Below.drew (Below.refl _ wb)).alloc (Nat.le_refl _) _
              have hO5 := HOb.out.below bw5 (Nat.le_refl _)
              have hr5 := own_below Hrob.out bw5 (Nat.le_refl _)
              have hz5 : w4.heap.size ≤ (wb.drew.alloc (.cells #[.int .i64 l] 3)).heap.size := Nat.le_trans hszb bw5.size
              refine wpAnyH_ready (rs := [9]) (by kernel_rfl) (by simp) ?_
              refine AllReadyH.cons (o := _) (by (simp only [List.getElem?_toArray, List.getElem?_cons_succ, List.getElem?_cons_zero]; rfl)) (fun K hK => ?_) AllReadyH.nil
              refine step_append_row rfl (.tmp 47) (.tmp 50) rfl w4.heap.size _ j xs (by rfl) hr5 (some ⟨wb.heap.size, 0, none⟩) 1 1 [l] (by rfl) (IntsAt.one wb.drew l _) (by omega) hz5 ?_; intro v6 w6 ho6 hg6 hat6; have hlt6 := ho6.lt; obtain ⟨a6, c6, rfl, -⟩ := IntsAt.own ho6
              refine hK.out _ _ ?_ (fun hHeld => ?_)
              · exact ⟨hg6.cell (HS.out _ bw5).1 (fun e => by have := (hr5.lt _ e.symm).1; have := Hne.out _ e.symm; have : w4.heap.size = w4.heap.size := rfl; exact hO5.diff Hu.out _ e.symm rfl), hg6.cell (HS.out _ bw5).2 (fun e => by have := Hne.out _ e.symm; exact absurd this (Nat.lt_irrefl _))⟩
              clear hK K
              try simp only [Act.put, List.setIfInBounds_toArray, List.set_cons_zero, List.set_cons_succ]
              refine wpAnyH_take (i := 10) (oi := ?oi10h9) (v := ?v10h9) ?hi10h9 (by kernel_rfl) ?hf10h9 (by kernel_rfl) ?hQ10h9 ?hy10h9 (by assumption) ?rest10h9
              case hi10h9 => (simp only [List.getElem?_toArray, List.getElem?_cons_succ, List.getElem?_cons_zero]; rfl)
              case hf10h9 => kernel_rfl
              case hQ10h9 => exact fun _ _ _ h => h
              case hy10h9 => (refine Or.inl ⟨by rfl, ?_⟩; intro W hSw; (try dsimp only at hSw); go_simp; try with_reducible rfl)
              try simp only [Act.put, List.setIfInBounds_toArray, List.set_cons_zero, List.set_cons_succ]
              have ht6 := hO5.topKept Hu.out hg6
              have hPl : P.length = m := HPl.out
              rw [hPl] at ht6
              have c6c : w6.cell? ⟨w4.heap.size, p, none⟩ = some (.slice a5 j c5) := (ht6.cellAt p (by omega)).trans Hu.out
              have c6f : w6.frozen? ⟨w4.heap.size, p, none⟩ = false := ht6.frozenAt p
              have HP6 := hid_ (hO5.put (i := p) (r := xs ++ [l]) hPl.symm Hu.out hg6 (by rw [List.length_append, Hxs.out]; exact ho6) (fun b9 hb9 => hat6.elim (fun e => .inl (e.symm.trans hb9)) (fun e => .inr (by have h9 := hb9.symm.trans e; injection h9 with h9; subst h9; simp))))
              have Hb6 := hid_ (Below.setCell (p := ⟨w4.heap.size, p, none⟩) ((Hbb.out.trans (bw5.mono hszb)).grown hg6 hz5 (fun r e => (hr5.lt r e).1)) (Nat.le_refl _) (.slice a6 (j + 1) c6))
              rw [Hset.out, ← Htk.out] at HP6
              clear hO5 hr5 ho6 hg6 hat6 hlt6 ht6 bw5
              refine wpAnyH_done (by kernel_rfl) ?_ _
              clear hHeld
              refine last_of ?_
              refine wpOp_step (o := _) (by (simp only [List.getElem?_toArray, List.getElem?_cons_succ, List.getElem?_cons_zero]; rfl)) (fun K hK => ?_)
              go_simp
              refine hK _ _ ?_
              clear hK K
              try simp only [Act.put, List.setIfInBounds_toArray, List.set_cons_zero, List.set_cons_succ]
              go_wp2
              go_roundw
              case rel => exact ⟨j + 1, _, by omega, by go_num, by rw [Hx1.out]; exact HP6.out, Hb6.out⟩
              case measure => simp [intOf]; omega
            · obtain rfl : j = n1 := by omega
              have hfull := HKn.out p hlt
              rw [hfull] at hO
              have HO := hid_ hO
              clear hO hfull
              go_wp2
              go_roundw
              case rel => exact ⟨p + 1, us, by omega, by go_num, HO.out, hbi⟩
              case measure => simp [intOf]; omega
        · obtain rfl : p = m := by omega
          rw [HKm.out] at hO
          have HO := hid_ hO
          clear hO
          go_wp2
          go_ret2
          exact ⟨_, us, rfl, HO.out.base Hb4.out.size, Hb4.out.trans (hbr.mono Hb4.out.size)⟩
  · have hq : (textE L t != 0) = true := by simpa using he
    rw [if_neg he] at HE
    have hlb : leastB L t = false := by rw [HBv.out, decide_eq_false he]; rfl
    rw [hlb, if_neg (by decide)] at HX
    generalize textE L t = x at *
    clear he h1 h2 HP HP1 cb ht
    rw [HX.out, HE.out]
    go_enter Try.func18, Try.ntmps18
    go_wp2_with (go_at_call 26; (with_reducible refine HV.out.mono ?_); rintro e w2 ⟨rfl, hb2⟩)
    go_ret2
    exact ⟨_, [], rfl, OwnRw.nil _ _ (by decide), Hc1.out.trans (hb2.mono Hc1.out.size)⟩
end Go.Proofs.Ytgpenbajhndhiaa
