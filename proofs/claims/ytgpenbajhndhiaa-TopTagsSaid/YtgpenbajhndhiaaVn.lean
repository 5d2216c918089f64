import Derived.Test.YtgpenbajhndhiaaVm
namespace Go.Proofs.Ytgpenbajhndhiaa
open Go.RowKit Go.Proofs.Kv Go

/-! ### all splits of a text: how many, and the cheapest -/
def allP (L : Lx) (t : List Int) (k : Nat) : List (List Int) := (List.range k).flatMap (S8 L t t.length)
theorem allP_succ (L : Lx) (t : List Int) (k : Nat) : allP L t (k + 1) = allP L t k ++ S8 L t t.length k := by
  unfold allP; rw [List.range_succ, List.flatMap_append]; simp
def cntA (L : Lx) (t : List Int) : Int := ((allS L t).length : Int)
def lstA (L : Lx) (t : List Int) : Int := minN ((allS L t).map (sumC L))
theorem len_allP {L : Lx} (g : GoodL L) (t : List Int) (ht : t.length ≤ 12) : ∀ k, k ≤ L.items.length → (allP L t k).length ≤ k * 68719476736
  | 0, _ => by simp [allP]
  | k + 1, hk => by
    have ih := len_allP g t ht k (by omega)
    have := len_S8' g t (i := t.length) ht (show k < L.items.length by omega)
    rw [allP_succ, List.length_append]; omega
theorem allP_min {L : Lx} (g : GoodL L) (t : List Int) (ht : t.length ≤ 12) : ∀ k, k ≤ L.items.length → 0 ≤ minN ((allP L t k).map (sumC L))
  | 0, _ => by simp [allP, minN]
  | k + 1, hk => by
    have ih := allP_min g t ht k (by omega)
    have := (lstS_in g ht (i := t.length) (Nat.le_refl _) (show k < L.items.length by omega)).1
    rw [allP_succ, List.map_append, minN_append]
    show 0 ≤ min _ (lstS L t t.length k)
    omega
theorem cntA_ne {L : Lx} {t : List Int} : cntA L t = 0 ↔ allS L t = [] := by unfold cntA; rw [← List.length_eq_zero_iff]; omega
set_option maxRecDepth 100000 in
set_option maxHeartbeats 4000000 in
theorem whole_calls (L : Lx) (t : List Int) (tb m : Nat) (w : World) (g : GoodL L) (ht : t.length ≤ 12) (hm : m = t.length + 1) (h : TabRows w tb L.items.length m (endC L t)) :
    Calls Try.prog 27 #[.slice (some ⟨tb, 0, none⟩) m m] w fun e w' => e = .returned (.agg #[.int .i64 (cntA L t), .int .i64 (lstA L t)]) ∧ Below w.heap.size w w' := by
  have hn8 := g.le
  obtain ⟨w1, hw1⟩ : ∃ w1, w.alloc (.cells #[.int .i64 0, .int .i64 0] 56) = w1 := ⟨_, rfl⟩
  have b1 : Below w.heap.size w w1 := by rw [← hw1]; exact below_alloc _ _
  have z1 : w1.heap.size = w.heap.size + 1 := by rw [← hw1]; simp
  have p0 : w1.cell? ⟨w.heap.size, 0, none⟩ = some (.int .i64 0) := by rw [← hw1]; exact cells_alloc _ _ _ 0
  have p1 : w1.cell? ⟨w.heap.size, 1, none⟩ = some (.int .i64 0) := by rw [← hw1]; exact cells_alloc _ _ _ 1
  have f0 : w1.frozen? ⟨w.heap.size, 0, none⟩ = false := by rw [← hw1]; exact World.frozen?_alloc_at _ _ _ _ (by simp)
  have f1 : w1.frozen? ⟨w.heap.size, 1, none⟩ = false := by rw [← hw1]; exact World.frozen?_alloc_at _ _ _ _ (by simp)
  by_cases h0 : t.length = 0
  · have HC : Hid (cntA L t = 1) := hid_ (by unfold cntA allS; rw [if_pos h0]; rfl)
    have HM : Hid (lstA L t = 0) := hid_ (by unfold lstA allS; rw [if_pos h0]; rfl)
    obtain rfl : m = 1 := by omega
    rw [HC.out, HM.out]
    clear h hm h0 ht
    go_enter Try.func27, Try.ntmps27
    go_wp2
    have t1 : ((w1.setCell ⟨w.heap.size, 0, none⟩ (.int .i64 1)).setCell ⟨w.heap.size, 1, none⟩ (.int .i64 0)).cell? ⟨w.heap.size, 1, none⟩ = some (.int .i64 0) := World.cell?_setCell_same _ _ _ (by rw [World.cell?_setCell_other _ _ _ _ (by simp)]; exact p1)
    have t0 : ((w1.setCell ⟨w.heap.size, 0, none⟩ (.int .i64 1)).setCell ⟨w.heap.size, 1, none⟩ (.int .i64 0)).cell? ⟨w.heap.size, 0, none⟩ = some (.int .i64 1) := by
      rw [World.cell?_setCell_other _ _ _ _ (by simp)]; exact World.cell?_setCell_same _ _ _ p0
    refine bodyPost_ret (v := .agg #[.int .i64 1, .int .i64 0]) ?_ rfl ⟨rfl, ?_⟩
    · simp [results, Try.results27, go_sem, t0, t1]
    · exact ((b1).setCell (p := ⟨w.heap.size, 0, none⟩) (Nat.le_refl _) _).setCell (p := ⟨w.heap.size, 1, none⟩) (Nat.le_refl _) _
  · have HC : Hid (cntA L t = ((allP L t L.items.length).length : Int)) := hid_ (by unfold cntA allS; rw [if_neg h0]; rfl)
    have HM : Hid (lstA L t = minN ((allP L t L.items.length).map (sumC L))) := hid_ (by unfold lstA allS; rw [if_neg h0]; rfl)
    obtain ⟨rb, hrc, htr, hrl, hcs⟩ := h t.length (by omega)
    have HPs := hid_ (fun k => allP_succ L t k)
    have HLn := hid_ (fun k (hk : k ≤ L.items.length) => len_allP g t ht k hk)
    have HS := hid_ (fun k (hk : k < L.items.length) => len_S8' g t (i := t.length) (j := k) ht hk)
    have HL := hid_ (fun k (hk : k < L.items.length) => lstS_in g ht (i := t.length) (j := k) (Nat.le_refl _) hk)
    have HE : Hid (∀ k, endC L t t.length k = (((S8 L t t.length k).length : Int), lstS L t t.length k)) := hid_ (fun _ => rfl)
    have HLs : Hid (∀ k, lstS L t t.length k = minN ((S8 L t t.length k).map (sumC L))) := hid_ (fun _ => rfl)
    obtain ⟨w2, hw2⟩ : ∃ w2, w1.alloc (.cells #[.int .i64 0, .int .i64 100000] 56) = w2 := ⟨_, rfl⟩
    have b2 : Below w1.heap.size w1 w2 := by rw [← hw2]; exact below_alloc _ _
    have z2 : w2.heap.size = w.heap.size + 2 := by rw [← hw2]; simp; omega
    have x0 : w2.cell? ⟨w.heap.size + 1, 0, none⟩ = some (.int .i64 0) := by rw [← z1, ← hw2]; exact cells_alloc _ _ _ 0
    have x1 : w2.cell? ⟨w.heap.size + 1, 1, none⟩ = some (.int .i64 100000) := by rw [← z1, ← hw2]; exact cells_alloc _ _ _ 1
    have g0 : w2.frozen? ⟨w.heap.size + 1, 0, none⟩ = false := by rw [← z1, ← hw2]; exact World.frozen?_alloc_at _ _ _ _ (by simp)
    have g1 : w2.frozen? ⟨w.heap.size + 1, 1, none⟩ = false := by rw [← z1, ← hw2]; exact World.frozen?_alloc_at _ _ _ _ (by simp)
    have Hb2 := hid_ (b1.trans (b2.mono b1.size))
    obtain ⟨tl, htl⟩ : ∃ tl, t.length = tl := ⟨_, rfl⟩
    rw [htl] at hrc h0 hm ht HS HL HE HPs HLs hcs
    have hrc2 := cell_below hrc Hb2.out
    have HCs := hid_ (fun W (hW : Below w.heap.size w W) => hcs.below hW hrl)
    obtain ⟨n1, hn1⟩ : ∃ n1, L.items.length = n1 := ⟨_, rfl⟩
    rw [hn1] at hrc2 HLn HS HL HC HM hn8 HCs
    have hwm : IntKind.i64.wrap ((m : Int) - 1) = (tl : Int) := by rw [IntKind.wrap_i64]; omega
    have hmq : ((m : Int) == 1) = false := by simp; omega
    have htm : tl < m := by omega
    clear h hcs g hn1 htl b1 b2 hm h0
    go_enter Try.func27, Try.ntmps27
    go_wp2
    go_loopw [18] (fun k wr => ∃ k' : Nat, k' ≤ n1 ∧ k = .int .i64 k' ∧ Below (w.heap.size + 1) w2 wr ∧ wr.cell? ⟨w.heap.size + 1, 0, none⟩ = some (.int .i64 ((allP L t k').length : Int)) ∧ wr.cell? ⟨w.heap.size + 1, 1, none⟩ = some (.int .i64 (minN ((allP L t k').map (sumC L)))) ∧ wr.frozen? ⟨w.heap.size + 1, 0, none⟩ = false ∧ wr.frozen? ⟨w.heap.size + 1, 1, none⟩ = false) (fun k _ => n1 - (intOf k).toNat)
    case atStart => exact ⟨0, Nat.zero_le _, rfl, Below.refl _ _, x0, x1, g0, g1⟩
    case round =>
      obtain ⟨k, hk, rfl, hbr, y0, y1, e0, e1⟩ := hrel
      have Hbr := hid_ hbr
      have Hwr := hid_ (Hb2.out.trans (hbr.mono (Nat.le_succ _)))
      have hxr : w.heap.size + 1 < wr.heap.size := by have := hbr.size; omega
      clear hbr
      by_cases hlt : k < n1
      · obtain ⟨r0, r1, -, -⟩ := HCs.out wr Hwr.out k hlt
        rw [HE.out k] at r0 r1
        have hs := HS.out k hlt
        obtain ⟨l0, l1, -, -⟩ := HL.out k hlt
        have hps := HPs.out k
        have hln := HLn.out k hk
        have hls := HLs.out k
        obtain ⟨sc, hsc⟩ : ∃ sc, (S8 L t tl k).length = sc := ⟨_, rfl⟩
        obtain ⟨bl, hbl⟩ : ∃ bl, (allP L t k).length = bl := ⟨_, rfl⟩
        obtain ⟨mb, hmb⟩ : ∃ mb, minN ((allP L t k).map (sumC L)) = mb := ⟨_, rfl⟩
        have Hp1 : Hid (((allP L t (k + 1)).length : Int) = (bl : Int) + (sc : Int)) := hid_ (by rw [hps, List.length_append, hsc, hbl]; simp)
        have Hp2 : Hid (minN ((allP L t (k + 1)).map (sumC L)) = min mb (lstS L t tl k + 0)) := hid_ (by rw [hps, List.map_append, minN_append, hmb, Int.add_zero, hls])
        rw [hsc] at r0 hs
        rw [hbl] at y0 hln
        rw [hmb] at y1
        generalize lstS L t tl k = ls at *
        obtain ⟨wb, hwb⟩ : ∃ wb, wr.alloc (.cells #[.int .i64 (sc : Int), .int .i64 ls] 56) = wb := ⟨_, rfl⟩
        have cbb : Below wr.heap.size wr wb := by rw [← hwb]; exact below_alloc _ _
        have s0 : wb.cell? ⟨wr.heap.size, 0, none⟩ = some (.int .i64 (sc : Int)) := by rw [← hwb]; exact cells_alloc _ _ _ 0
        have s1 : wb.cell? ⟨wr.heap.size, 1, none⟩ = some (.int .i64 ls) := by rw [← hwb]; exact cells_alloc _ _ _ 1
        have Hbw := hid_ (Hbr.out.trans (cbb.mono (Nat.le_of_lt hxr)))
        have HAdd := hid_ (add_calls (w.heap.size + 1) (bl : Int) mb (sc : Int) ls 0 wb (cell_below y0 cbb) (cell_below y1 cbb) ((cbb.frozen (p := ⟨w.heap.size + 1, 0, none⟩) hxr).trans e0) ((cbb.frozen (p := ⟨w.heap.size + 1, 1, none⟩) hxr).trans e1) (by omega) (by omega))
        clear hps hsc hbl hmb y0 y1 e0 e1 cbb hls
        go_wp2_with (go_at_call 48; (with_reducible refine HAdd.out.mono ?_); rintro e w5 ⟨rfl, hb5, k0, k1, k2, k3⟩)
        go_roundw
        case rel => exact ⟨k + 1, by omega, by go_num, Hbw.out.trans hb5, by rw [Hp1.out]; exact k0, by rw [Hp2.out]; exact k1, k2, k3⟩
        case measure => simp [intOf]; omega
      · obtain rfl : n1 = k := by omega
        have p0r := (Hbr.out.cell (p := ⟨w.heap.size, 0, none⟩) (Nat.lt_succ_self _)).trans (cell_below p0 (by rw [← hw2]; exact below_alloc _ _))
        have p1r := (Hbr.out.cell (p := ⟨w.heap.size, 1, none⟩) (Nat.lt_succ_self _)).trans (cell_below p1 (by rw [← hw2]; exact below_alloc _ _))
        have f0r := (Hbr.out.frozen (p := ⟨w.heap.size, 0, none⟩) (Nat.lt_succ_self _)).trans ((show Below w1.heap.size w1 w2 by rw [← hw2]; exact below_alloc _ _).frozen (p := ⟨w.heap.size, 0, none⟩) (show w.heap.size < w1.heap.size by omega) |>.trans f0)
        have f1r := (Hbr.out.frozen (p := ⟨w.heap.size, 1, none⟩) (Nat.lt_succ_self _)).trans ((show Below w1.heap.size w1 w2 by rw [← hw2]; exact below_alloc _ _).frozen (p := ⟨w.heap.size, 1, none⟩) (show w.heap.size < w1.heap.size by omega) |>.trans f1)
        generalize ((allP L t n1).length : Int) = X at *
        generalize minN ((allP L t n1).map (sumC L)) = Y at *
        clear f0 f1 p0 p1 e0 e1
        go_wp2
        have t1 : ((wr.setCell ⟨w.heap.size, 0, none⟩ (.int .i64 X)).setCell ⟨w.heap.size, 1, none⟩ (.int .i64 Y)).cell? ⟨w.heap.size, 1, none⟩ = some (.int .i64 Y) := World.cell?_setCell_same _ _ _ (by rw [World.cell?_setCell_other _ _ _ _ (by simp)]; exact p1r)
        have t0 : ((wr.setCell ⟨w.heap.size, 0, none⟩ (.int .i64 X)).setCell ⟨w.heap.size, 1, none⟩ (.int .i64 Y)).cell? ⟨w.heap.size, 0, none⟩ = some (.int .i64 X) := by
          rw [World.cell?_setCell_other _ _ _ _ (by simp)]; exact World.cell?_setCell_same _ _ _ p0r
        refine bodyPost_ret (v := .agg #[.int .i64 X, .int .i64 Y]) ?_ rfl ⟨by rw [HC.out, HM.out], ?_⟩
        · simp [results, Try.results27, go_sem, t0, t1]
        · exact (Hwr.out.setCell (p := ⟨w.heap.size, 0, none⟩) (Nat.le_refl _) _).setCell (p := ⟨w.heap.size, 1, none⟩) (Nat.le_refl _) _
def leastB (L : Lx) (t : List Int) : Bool := decide (textE L t = 0) && decide (cntA L t ≠ 0)
def leastV (L : Lx) (t : List Int) : Int := if leastB L t = true then lstA L t else 0
def countV (L : Lx) (t : List Int) : Int := if textE L t = 0 then cntA L t else 0
set_option maxRecDepth 100000 in
set_option maxHeartbeats 4000000 in
theorem taLeast_calls (v : Value) (L : Lx) (a : Option Addr) (n c : Nat) (t : List Int) (w : World) (h : LexAt w v L) (ht : IntsAt w a n c t) :
    Calls Try.prog 8 #[v, .slice a n c] w fun e w' => e = .returned (.tuple #[.int .i64 (leastV L t), .bool (leastB L t), .int .i64 (textE L t)]) ∧ Below w.heap.size w w' := by
  have HP := hid_ h
  obtain ⟨a1, n1, c1, a2, n2, c2, rfl, h1, h2⟩ := h
  obtain ⟨w1, hw1⟩ : ∃ w1, w.alloc (.cells #[.slice a1 n1 c1, .slice a2 n2 c2] 25) = w1 := ⟨_, rfl⟩
  have cb : Below w.heap.size w w1 := by rw [← hw1]; exact below_alloc _ _
  have q0 : w1.cell? ⟨w.heap.size, 0, none⟩ = some (.slice a1 n1 c1) := by rw [← hw1]; exact cells_alloc _ _ _ 0
  have q1 : w1.cell? ⟨w.heap.size, 1, none⟩ = some (.slice a2 n2 c2) := by rw [← hw1]; exact cells_alloc _ _ _ 1
  have HP1 := hid_ (HP.out.below cb (Nat.le_refl _)); have Hc1 := hid_ cb
  have HV := hid_ (tavalidate_calls _ L a n c t w1 HP1.out (ht.below cb (Nat.le_refl _)))
  have HQ := hid_ (fun W (hW : Below w1.heap.size w1 W) => (⟨cell_below q0 hW, cell_below q1 hW⟩ : _ ∧ _))
  have HBv : Hid (leastB L t = (decide (textE L t = 0) && decide (cntA L t ≠ 0))) := hid_ rfl
  have HVv : Hid (leastV L t = if leastB L t = true then lstA L t else 0) := hid_ rfl
  generalize leastV L t = LV at *
  generalize leastB L t = LB at *
  by_cases he : textE L t = 0
  · obtain ⟨g, h12, -⟩ := textE_ok he
    have htl := ht.len
    have HEn := hid_ (fun W (hW : Below w1.heap.size w1 W) => endings_calls _ L a n c t W (HP1.out.below hW (Nat.le_refl _)) ((ht.below cb (Nat.le_refl _)).below hW (Nat.le_refl _)) g (by omega))
    have HWh := hid_ (fun W tb (hT : TabRows W tb L.items.length (n + 1) (endC L t)) => whole_calls L t tb (n + 1) W g h12 (by omega) hT)
    rw [decide_eq_true he, Bool.true_and] at HBv
    rw [he] at HV ⊢
    generalize cntA L t = C at *
    generalize lstA L t = M at *
    clear h1 h2 HP HP1 cb ht he g h12 htl
    by_cases hc : C = 0
    · subst hc
      have HB' : Hid (LB = false) := hid_ (HBv.out.trans rfl)
      have HV' : Hid (LV = 0) := hid_ (HVv.out.trans (if_neg (by rw [HB'.out]; decide)))
      rw [HB'.out, HV'.out]
      go_enter Try.func8, Try.ntmps8
      go_wp2_with (first
        | (go_at_call 26; (with_reducible refine HV.out.mono ?_); rintro e w2 ⟨rfl, hb2⟩; obtain ⟨q2, r2⟩ := HQ.out w2 hb2)
        | (go_at_call 28; (with_reducible refine (HEn.out _ hb2).mono ?_); rintro e w3 ⟨tb, rfl, htr, hb3⟩; have HWc := hid_ (HWh.out _ _ htr); have Hb3 := hid_ (hb2.trans (hb3.mono hb2.size)); clear htr hb3)
        | (go_at_call 27; (with_reducible refine HWc.out.mono ?_); rintro e w4 ⟨rfl, hb4⟩; have Hb4 := hid_ (Hb3.out.trans (hb4.mono Hb3.out.size))))
      go_ret3
      exact ⟨rfl, Hc1.out.trans ((Hb4.out.alloc Hb4.out.size _).mono Hc1.out.size)⟩
    · have HB' : Hid (LB = true) := hid_ (HBv.out.trans (decide_eq_true hc))
      have HV' : Hid (LV = M) := hid_ (HVv.out.trans (if_pos HB'.out))
      have hq : (C == 0) = false := by simpa using hc
      rw [HB'.out, HV'.out]
      clear hc
      go_enter Try.func8, Try.ntmps8
      go_wp2_with (first
        | (go_at_call 26; (with_reducible refine HV.out.mono ?_); rintro e w2 ⟨rfl, hb2⟩; obtain ⟨q2, r2⟩ := HQ.out w2 hb2)
        | (go_at_call 28; (with_reducible refine (HEn.out _ hb2).mono ?_); rintro e w3 ⟨tb, rfl, htr, hb3⟩; have HWc := hid_ (HWh.out _ _ htr); have Hb3 := hid_ (hb2.trans (hb3.mono hb2.size)); clear htr hb3)
        | (go_at_call 27; (with_reducible refine HWc.out.mono ?_); rintro e w4 ⟨rfl, hb4⟩; have Hb4 := hid_ (Hb3.out.trans (hb4.mono Hb3.out.size))))
      go_ret3
      exact ⟨rfl, Hc1.out.trans ((Hb4.out.alloc Hb4.out.size _).mono Hc1.out.size)⟩
  · have HB' : Hid (LB = false) := hid_ (by rw [HBv.out, decide_eq_false he]; rfl)
    have HV' : Hid (LV = 0) := hid_ (HVv.out.trans (if_neg (by rw [HB'.out]; decide)))
    have hq : (textE L t != 0) = true := by simpa using he
    rw [HB'.out, HV'.out]
    generalize textE L t = x at *
    clear he HBv HVv HP HP1 h1 h2 cb ht
    go_enter Try.func8, Try.ntmps8
    go_wp2_with (go_at_call 26; (with_reducible refine HV.out.mono ?_); rintro e w2 ⟨rfl, hb2⟩)
    go_ret3
    exact ⟨rfl, Hc1.out.trans (hb2.mono Hc1.out.size)⟩
set_option maxRecDepth 100000 in
set_option maxHeartbeats 4000000 in
theorem taCount_calls (v : Value) (L : Lx) (a : Option Addr) (n c : Nat) (t : List Int) (w : World) (h : LexAt w v L) (ht : IntsAt w a n c t) :
    Calls Try.prog 10 #[v, .slice a n c] w fun e w' => e = .returned (.tuple #[.int .i64 (countV L t), .int .i64 (textE L t)]) ∧ Below w.heap.size w w' := by
  have HP := hid_ h
  obtain ⟨a1, n1, c1, a2, n2, c2, rfl, h1, h2⟩ := h
  obtain ⟨w1, hw1⟩ : ∃ w1, w.alloc (.cells #[.slice a1 n1 c1, .slice a2 n2 c2] 25) = w1 := ⟨_, rfl⟩
  have cb : Below w.heap.size w w1 := by rw [← hw1]; exact below_alloc _ _
  have q0 : w1.cell? ⟨w.heap.size, 0, none⟩ = some (.slice a1 n1 c1) := by rw [← hw1]; exact cells_alloc _ _ _ 0
  have q1 : w1.cell? ⟨w.heap.size, 1, none⟩ = some (.slice a2 n2 c2) := by rw [← hw1]; exact cells_alloc _ _ _ 1
  have HP1 := hid_ (HP.out.below cb (Nat.le_refl _)); have Hc1 := hid_ cb
  have HV := hid_ (tavalidate_calls _ L a n c t w1 HP1.out (ht.below cb (Nat.le_refl _)))
  have HQ := hid_ (fun W (hW : Below w1.heap.size w1 W) => (⟨cell_below q0 hW, cell_below q1 hW⟩ : _ ∧ _))
  have HVv : Hid (countV L t = if textE L t = 0 then cntA L t else 0) := hid_ rfl
  generalize countV L t = CV at *
  by_cases he : textE L t = 0
  · obtain ⟨g, h12, -⟩ := textE_ok he
    have htl := ht.len
    have HEn := hid_ (fun W (hW : Below w1.heap.size w1 W) => endings_calls _ L a n c t W (HP1.out.below hW (Nat.le_refl _)) ((ht.below cb (Nat.le_refl _)).below hW (Nat.le_refl _)) g (by omega))
    have HWh := hid_ (fun W tb (hT : TabRows W tb L.items.length (n + 1) (endC L t)) => whole_calls L t tb (n + 1) W g h12 (by omega) hT)
    have HV' : Hid (CV = cntA L t) := hid_ (HVv.out.trans (if_pos he))
    rw [he] at HV ⊢
    rw [HV'.out]
    generalize cntA L t = C at *
    generalize lstA L t = M at *
    clear h1 h2 HP HP1 cb ht he g h12 htl HVv
    have hfield : ∀ W : World, (Instr.field 56 (.agg #[.int .i64 C, .int .i64 M]) 0).run Try.prog W = .ok (.int .i64 C) W := fun W => by simp [Instr.field, go_sem, asAgg]
    go_enter Try.func10, Try.ntmps10
    go_wp2_with (first
      | (go_at_call 26; (with_reducible refine HV.out.mono ?_); rintro e w2 ⟨rfl, hb2⟩; obtain ⟨q2, r2⟩ := HQ.out w2 hb2)
      | (go_at_call 28; (with_reducible refine (HEn.out _ hb2).mono ?_); rintro e w3 ⟨tb, rfl, htr, hb3⟩; have HWc := hid_ (HWh.out _ _ htr); have Hb3 := hid_ (hb2.trans (hb3.mono hb2.size)); clear htr hb3)
      | (go_at_call 27; (with_reducible refine HWc.out.mono ?_); rintro e w4 ⟨rfl, hb4⟩; have Hb4 := hid_ (Hb3.out.trans (hb4.mono Hb3.out.size))))
    go_ret2
    exact ⟨rfl, Hc1.out.trans (Hb4.out.mono Hc1.out.size)⟩
  · have HV' : Hid (CV = 0) := hid_ (HVv.out.trans (if_neg he))
    have hq : (textE L t != 0) = true := by simpa using he
    rw [HV'.out]
    generalize textE L t = x at *
    clear he HVv HP HP1 h1 h2 cb ht
    go_enter Try.func10, Try.ntmps10
    go_wp2_with (go_at_call 26; (with_reducible refine HV.out.mono ?_); rintro e w2 ⟨rfl, hb2⟩)
    go_ret2
    exact ⟨rfl, Hc1.out.trans (hb2.mono Hc1.out.size)⟩
end Go.Proofs.Ytgpenbajhndhiaa
