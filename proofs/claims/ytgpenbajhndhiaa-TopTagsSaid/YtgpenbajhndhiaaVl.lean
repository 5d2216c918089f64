import Derived.Test.YtgpenbajhndhiaaVk
namespace Go.Proofs.Ytgpenbajhndhiaa
open Go.RowKit Go.Proofs.Kv Go

/-! ### the splits behind an item -/
def behC (L : Lx) (t : List Int) (i j : Nat) : Int := if i = 0 then 1 else ((behP L t i j L.items.length).length : Int)
def behM (L : Lx) (t : List Int) (i j : Nat) : Int := if i = 0 then (L.items.getD j I0).cost else minN ((behP L t i j L.items.length).map (sumC L))
def endC (L : Lx) (t : List Int) (i : Nat) (j : Nat) : Int × Int := (((S8 L t i j).length : Int), lstS L t i j)
theorem LexAt.items_ {w : World} {a : Option Addr} {n c : Nat} {a2 : Option Addr} {n2 c2 : Nat} {L : Lx} (h : LexAt w (.agg #[.slice a n c, .slice a2 n2 c2]) L) : ItemsAt w a n c L.items := by
  obtain ⟨b, m, d, b', m', d', e, h1, -⟩ := h
  injection e with e; injection e with e; injection e with e1 e2
  injection e1 with e1 e3 e4
  subst e1; subst e3; subst e4
  exact h1
set_option maxRecDepth 100000 in
set_option maxHeartbeats 4000000 in
theorem behind_calls (v : Value) (L : Lx) (t : List Int) (tb m i j : Nat) (w : World) (h : LexAt w v L) (g : GoodL L) (ht : t.length ≤ 12) (hi : i ≤ t.length) (hj : j < L.items.length)
    (him : i < m) (hrow : 0 < i → ∃ b, w.cell? ⟨tb, i, none⟩ = some (.slice (some ⟨b, 0, none⟩) L.items.length L.items.length) ∧ CellsAt w b L.items.length (endC L t i)) :
    Calls Try.prog 50 #[v, .slice (some ⟨tb, 0, none⟩) m m, .int .i64 (i : Int), .int .i64 (j : Int)] w fun e w' => e = .returned (.agg #[.int .i64 (behC L t i j), .int .i64 (behM L t i j)]) ∧ Below w.heap.size w w' := by
  have HP := hid_ h
  obtain ⟨a1, n1, c1, a2, n2, c2, rfl, h1, h2⟩ := h
  obtain ⟨w1, hw1⟩ : ∃ w1, w.alloc (.cells #[.slice a1 n1 c1, .slice a2 n2 c2] 25) = w1 := ⟨_, rfl⟩
  have cb : Below w.heap.size w w1 := by rw [← hw1]; exact below_alloc _ _
  have q0 : w1.cell? ⟨w.heap.size, 0, none⟩ = some (.slice a1 n1 c1) := by rw [← hw1]; exact cells_alloc _ _ _ 0
  have q1 : w1.cell? ⟨w.heap.size, 1, none⟩ = some (.slice a2 n2 c2) := by rw [← hw1]; exact cells_alloc _ _ _ 1
  have HP1 := hid_ (HP.out.below cb (Nat.le_refl _)); have Hc1 := hid_ cb
  have HC : Hid (behC L t i j = if i = 0 then 1 else ((behP L t i j L.items.length).length : Int)) := hid_ rfl
  have HM : Hid (behM L t i j = if i = 0 then (L.items.getD j I0).cost else minN ((behP L t i j L.items.length).map (sumC L))) := hid_ rfl
  have hl1 := h1.len
  have HF := hid_ (fun W (hW : Below w1.heap.size w1 W) k (hk : k < L.items.length) => tafollow_calls _ L k j W (HP1.out.below hW (Nat.le_refl _)) g hk hj)
  have HI := hid_ (fun W (hW : Below w1.heap.size w1 W) => (LexAt.items_ HP1.out).below hW (Nat.le_refl _))
  have hcj := g.cost j hj
  have HFi := hid_ (fun k (hk : k < L.items.length) => @follV_in L g k j hk hj)
  have HSt := hid_ (fun k (hk : k < L.items.length) hf => @lst_step L g t ht i j k hi hk hj hf)
  have HBs : Hid (∀ k, behP L t i j (k + 1) = behP L t i j k ++ behL L t i j k) := hid_ (fun k => behP_succ L t i j k)
  have HBn := hid_ (fun k (hk : follV L k j < 0) => @behL_no L t i j k hk)
  have HBl := hid_ (fun k (hk : 0 ≤ follV L k j) => @behL_len L t i j k hk)
  have HLn := hid_ (fun k (hk : k ≤ L.items.length) => len_behP g t (i := i) j (by omega) k hk)
  have HS := hid_ (fun k (hk : k < L.items.length) => len_S8' g t (i := i) (j := k) (by omega) hk)
  have HL := hid_ (fun k (hk : k < L.items.length) => lstS_in g ht (i := i) hi hk)
  have hn8 := g.le
  have HE : Hid (∀ k, endC L t i k = (((S8 L t i k).length : Int), lstS L t i k)) := hid_ (fun _ => rfl)
  obtain ⟨w2, hw2⟩ : ∃ w2, w1.alloc (.cells #[.int .i64 0, .int .i64 0] 56) = w2 := ⟨_, rfl⟩
  have b2 : Below w1.heap.size w1 w2 := by rw [← hw2]; exact below_alloc _ _
  have z1 : w1.heap.size = w.heap.size + 1 := by rw [← hw1]; simp
  have z2 : w2.heap.size = w.heap.size + 2 := by rw [← hw2]; simp; omega
  have p0 : w2.cell? ⟨w.heap.size + 1, 0, none⟩ = some (.int .i64 0) := by rw [← z1, ← hw2]; exact cells_alloc _ _ _ 0
  have p1 : w2.cell? ⟨w.heap.size + 1, 1, none⟩ = some (.int .i64 0) := by rw [← z1, ← hw2]; exact cells_alloc _ _ _ 1
  have f0 : w2.frozen? ⟨w.heap.size + 1, 0, none⟩ = false := by rw [← z1, ← hw2]; exact World.frozen?_alloc_at _ _ _ _ (by simp)
  have f1 : w2.frozen? ⟨w.heap.size + 1, 1, none⟩ = false := by rw [← z1, ← hw2]; exact World.frozen?_alloc_at _ _ _ _ (by simp)
  have q0b := cell_below q0 b2; have q1b := cell_below q1 b2
  have hn1 : n1 ≤ 9223372036854775807 := Nat.le_trans h1.le h1.small
  rw [hl1] at hj HF HFi HSt HLn HS HL hn8 hrow HC HM
  clear h1 h2 HP HP1 g hl1
  obtain ⟨bj, offj, aj, nj, cj, rfl, -, j0, j1, j2, -⟩ := (HI.out w2 b2).cells j hj
  by_cases h0 : i = 0
  · have HC' := hid_ (HC.out.trans (if_pos h0)); have HM' := hid_ (HM.out.trans (if_pos h0))
    subst h0
    generalize (L.items.getD j I0).cost = cost at *
    rw [HC'.out, HM'.out]
    clear HC HM
    go_enter Try.func50, Try.ntmps50
    go_wp2
    have t1 : ((w2.setCell ⟨w.heap.size + 1, 0, none⟩ (.int .i64 1)).setCell ⟨w.heap.size + 1, 1, none⟩ (.int .i64 cost)).cell? ⟨w.heap.size + 1, 1, none⟩ = some (.int .i64 cost) := World.cell?_setCell_same _ _ _ (by rw [World.cell?_setCell_other _ _ _ _ (by simp)]; exact p1)
    have t0 : ((w2.setCell ⟨w.heap.size + 1, 0, none⟩ (.int .i64 1)).setCell ⟨w.heap.size + 1, 1, none⟩ (.int .i64 cost)).cell? ⟨w.heap.size + 1, 0, none⟩ = some (.int .i64 1) := by
      rw [World.cell?_setCell_other _ _ _ _ (by simp)]; exact World.cell?_setCell_same _ _ _ p0
    refine bodyPost_ret (v := .agg #[.int .i64 1, .int .i64 cost]) ?_ rfl ⟨rfl, ?_⟩
    · simp [results, Try.results50, go_sem, t0, t1]
    · exact ((Hc1.out.trans (b2.mono Hc1.out.size)).setCell (p := ⟨w.heap.size + 1, 0, none⟩) (by show _ ≤ _ + 1; omega) _).setCell (p := ⟨w.heap.size + 1, 1, none⟩) (by show _ ≤ _ + 1; omega) _
  · have hi0 : 0 < i := by omega
    obtain ⟨rb, hrc, hcs⟩ := hrow hi0
    have hiq : ((i : Int) == 0) = false := by simp; omega
    have HC' := hid_ (HC.out.trans (if_neg h0)); have HM' := hid_ (HM.out.trans (if_neg h0))
    have hrb2 : w2.cell? ⟨tb, i, none⟩ = some (.slice (some ⟨rb, 0, none⟩) n1 n1) := cell_below (cell_below hrc Hc1.out) b2
    obtain ⟨cost, hcost⟩ : ∃ cost, (L.items.getD j I0).cost = cost := ⟨_, rfl⟩
    have Hcost := hid_ hcost
    rw [hcost] at HSt hcj
    clear hcost
    obtain ⟨w3, hw3⟩ : ∃ w3, w2.alloc (.cells #[.int .i64 0, .int .i64 100000] 56) = w3 := ⟨_, rfl⟩
    have b3 : Below w2.heap.size w2 w3 := by rw [← hw3]; exact below_alloc _ _
    have z3 : w3.heap.size = w.heap.size + 3 := by rw [← hw3]; simp; omega
    have x0 : w3.cell? ⟨w.heap.size + 2, 0, none⟩ = some (.int .i64 0) := by rw [← z2, ← hw3]; exact cells_alloc _ _ _ 0
    have x1 : w3.cell? ⟨w.heap.size + 2, 1, none⟩ = some (.int .i64 100000) := by rw [← z2, ← hw3]; exact cells_alloc _ _ _ 1
    have g0 : w3.frozen? ⟨w.heap.size + 2, 0, none⟩ = false := by rw [← z2, ← hw3]; exact World.frozen?_alloc_at _ _ _ _ (by simp)
    have g1 : w3.frozen? ⟨w.heap.size + 2, 1, none⟩ = false := by rw [← z2, ← hw3]; exact World.frozen?_alloc_at _ _ _ _ (by simp)
    have hrb3 := cell_below hrb2 b3
    have hrblt : rb < w.heap.size := by have := (hcs 0 (by omega)).1; exact World.block_lt_of_cell? w _ this
    have HCs := hid_ (fun W (hW : Below w.heap.size w W) => hcs.below hW hrblt)
    have Hxz : Hid (w.heap.size + 2 < w3.heap.size) := hid_ (by omega)
    have H12 : Hid (w1.heap.size ≤ w.heap.size + 2) := hid_ (by omega)
    have Hwz : Hid (w1.heap.size ≤ w3.heap.size) := hid_ (by omega)
    clear HC HM h0 hrow j0 j1 j2 hrb2 hcs
    have Hc3 := hid_ (Hc1.out.trans ((b2.trans (b3.mono b2.size)).mono Hc1.out.size))
    have Hc13 := hid_ (b2.trans (b3.mono b2.size))
    go_enter Try.func50, Try.ntmps50
    go_wp2
    go_loopw [28] (fun k wr => ∃ k' : Nat, k' ≤ n1 ∧ k = .int .i64 k' ∧ Below (w.heap.size + 2) w3 wr ∧ wr.cell? ⟨w.heap.size + 2, 0, none⟩ = some (.int .i64 ((behP L t i j k').length : Int)) ∧ wr.cell? ⟨w.heap.size + 2, 1, none⟩ = some (.int .i64 (minN ((behP L t i j k').map (sumC L)))) ∧ wr.frozen? ⟨w.heap.size + 2, 0, none⟩ = false ∧ wr.frozen? ⟨w.heap.size + 2, 1, none⟩ = false) (fun k _ => n1 - (intOf k).toNat)
    case atStart => exact ⟨0, Nat.zero_le _, rfl, Below.refl _ _, x0, x1, g0, g1⟩
    case round =>
      obtain ⟨k, hk, rfl, hbr, y0, y1, e0, e1⟩ := hrel
      have Hbr := hid_ hbr
      have Hw1r := hid_ (Hc13.out.trans (hbr.mono H12.out))
      have Hwr := hid_ (Hc3.out.trans (hbr.mono (Nat.le_add_right _ 2)))
      have hxr : w.heap.size + 2 < wr.heap.size := Nat.lt_of_lt_of_le Hxz.out hbr.size
      clear hbr
      by_cases hlt : k < n1
      · obtain ⟨r0, r1, -, -⟩ := HCs.out wr Hwr.out k hlt
        have hek := HE.out k
        rw [hek] at r0 r1
        clear hek
        have q0r := cell_below q0 Hw1r.out; have q1r := cell_below q1 Hw1r.out
        have hs := HS.out k hlt
        obtain ⟨l0, l1, -, -⟩ := HL.out k hlt
        have hfi := HFi.out k hlt
        have hst := HSt.out k hlt
        have hbs := HBs.out k
        have hbn := HBn.out k
        have hbl := HBl.out k
        have hln := HLn.out k hk
        have HFo := hid_ (fun W (hW : Below w1.heap.size w1 W) => HF.out W hW k hlt)
        generalize follV L k j = f at *
        obtain ⟨sc, hsc⟩ : ∃ sc, (S8 L t i k).length = sc := ⟨_, rfl⟩
        obtain ⟨bl, hbl2⟩ : ∃ bl, (behP L t i j k).length = bl := ⟨_, rfl⟩
        rw [hsc] at r0 hs hbl
        rw [hbl2] at y0 hln
        generalize lstS L t i k = ls at *
        obtain ⟨mb, hmb⟩ : ∃ mb, minN ((behP L t i j k).map (sumC L)) = mb := ⟨_, rfl⟩
        rw [hmb] at y1 hst
        have Hmb := hid_ hmb
        clear hmb
        obtain ⟨wb, hwb⟩ : ∃ wb, wr.alloc (.cells #[.int .i64 (sc : Int), .int .i64 ls] 56) = wb := ⟨_, rfl⟩
        have cbb : Below wr.heap.size wr wb := by rw [← hwb]; exact below_alloc _ _
        have s0 : wb.cell? ⟨wr.heap.size, 0, none⟩ = some (.int .i64 (sc : Int)) := by rw [← hwb]; exact cells_alloc _ _ _ 0
        have s1 : wb.cell? ⟨wr.heap.size, 1, none⟩ = some (.int .i64 ls) := by rw [← hwb]; exact cells_alloc _ _ _ 1
        have q0w := cell_below q0r cbb; have q1w := cell_below q1r cbb
        have hzr : w1.heap.size ≤ wr.heap.size := Hw1r.out.size
        have Hwb := hid_ (Hw1r.out.trans (cbb.mono hzr))
        have HFw := hid_ (HFo.out wb Hwb.out)
        have Hy0 := hid_ (cell_below y0 cbb); have Hy1 := hid_ (cell_below y1 cbb)
        have He0 := hid_ ((cbb.frozen (p := ⟨w.heap.size + 2, 0, none⟩) hxr).trans e0); have He1 := hid_ ((cbb.frozen (p := ⟨w.heap.size + 2, 1, none⟩) hxr).trans e1)
        have hxb : w.heap.size + 2 < wb.heap.size := Nat.lt_of_lt_of_le hxr cbb.size
        have Hbw := hid_ (Hbr.out.trans (cbb.mono (Nat.le_of_lt hxr)))
        have Hbs := hid_ hbs; have Hbl2 := hid_ hbl2; have Hbn := hid_ hbn; have Hbl := hid_ hbl; have Hst := hid_ hst; have Hsc := hid_ hsc
        clear y0 y1 e0 e1 hbs hbl2 hbn hbl hst hsc cbb
        by_cases hf : f < 0
        · have hfd : decide (f ≥ 0) = false := decide_eq_false (by omega)
          have Hnil := hid_ (Hbn.out hf)
          have Hp : Hid (behP L t i j (k + 1) = behP L t i j k) := hid_ (by rw [Hbs.out, Hnil.out, List.append_nil])
          go_wp2_with (go_at_call 61; (with_reducible refine HFw.out.mono ?_); rintro e w4 ⟨rfl, hb4⟩)
          go_roundw
          case rel => exact ⟨k + 1, by omega, by go_num, Hbw.out.trans (hb4.mono (Nat.le_of_lt hxb)), by rw [Hp.out, Hbl2.out]; exact cell_below Hy0.out hb4, by rw [Hp.out, Hmb.out]; exact cell_below Hy1.out hb4, (hb4.frozen (p := ⟨w.heap.size + 2, 0, none⟩) hxb).trans He0.out, (hb4.frozen (p := ⟨w.heap.size + 2, 1, none⟩) hxb).trans He1.out⟩
          case measure => simp [intOf]; omega
        · have hfd : decide (f ≥ 0) = true := decide_eq_true (by omega)
          have Hp1 := hid_ (Hst.out (by omega))
          have Hp2 : Hid (((behP L t i j (k + 1)).length : Int) = (bl : Int) + (sc : Int)) := hid_ (by rw [Hbs.out, List.length_append, Hbl2.out, Hbl.out (by omega)]; simp)
          have hwfc : IntKind.i64.wrap (f + cost) = f + cost := IntWalk.i64_in _ (by omega)
          obtain ⟨bj2, offj2, aj2, nj2, cj2, e9, -, -, -, jc, -⟩ := (HI.out wb Hwb.out).cells j hj
          injection e9 with e9; injection e9 with e9 e10; subst e9; subst e10
          rw [Hcost.out] at jc
          go_wp2_with (go_at_call 61; (with_reducible refine HFw.out.mono ?_); rintro e w4 ⟨rfl, hb4⟩; have gA := cell_regrown (cell_below s0 hb4); have gB := cell_regrown (cell_below s1 hb4); have gC := cell_regrown (cell_below q0w hb4); have gD := cell_regrown (cell_below jc hb4); have Hb4 := hid_ hb4; clear hb4)
          refine wp_region_tail 9 (by kernel_rfl) (by kernel_rfl) ?_
          simp only [List.take_succ_cons, List.take_zero, List.drop_succ_cons, List.drop_zero]
          repeat (first | go_big_quiet_skip | (go_big_quiet_want; go_big_quiet_op; first | go_big_quiet_on | go_big_quiet_call (fail)))
          refine wpQuiet_nil ?_
          rintro wq ⟨pq, hpq⟩
          have hbq := below_wq hpq
          have Hbq := hid_ (Hb4.out.trans (hbq.mono Hb4.out.size))
          have HAdd := hid_ (add_calls (w.heap.size + 2) (bl : Int) mb (sc : Int) ls (f + cost) wq (cell_below Hy0.out Hbq.out) (cell_below Hy1.out Hbq.out) ((Hbq.out.frozen (p := ⟨w.heap.size + 2, 0, none⟩) hxb).trans He0.out) ((Hbq.out.frozen (p := ⟨w.heap.size + 2, 1, none⟩) hxb).trans He1.out) (by omega) (by omega))
          have Hbwq := hid_ (Hbw.out.trans (Hbq.out.mono (Nat.le_of_lt hxb)))
          clear hpq hbq gA gB gC gD
          go_wp2_with (go_at_call 48; (with_reducible refine HAdd.out.mono ?_); rintro e w5 ⟨rfl, hb5, k0, k1, k2, k3⟩)
          go_roundw
          case rel => exact ⟨k + 1, by omega, by go_num, Hbwq.out.trans hb5, by rw [Hp2.out]; exact k0, by rw [Hp1.out]; exact k1, k2, k3⟩
          case measure => simp [intOf]; omega
      · obtain rfl : n1 = k := by omega
        have p0r := (Hbr.out.cell (p := ⟨w.heap.size + 1, 0, none⟩) (Nat.lt_succ_self _)).trans (cell_below p0 b3)
        have p1r := (Hbr.out.cell (p := ⟨w.heap.size + 1, 1, none⟩) (Nat.lt_succ_self _)).trans (cell_below p1 b3)
        have f0r := (Hbr.out.frozen (p := ⟨w.heap.size + 1, 0, none⟩) (Nat.lt_succ_self _)).trans ((b3.frozen (p := ⟨w.heap.size + 1, 0, none⟩) (by show _ + 1 < _; omega)).trans f0)
        have f1r := (Hbr.out.frozen (p := ⟨w.heap.size + 1, 1, none⟩) (Nat.lt_succ_self _)).trans ((b3.frozen (p := ⟨w.heap.size + 1, 1, none⟩) (by show _ + 1 < _; omega)).trans f1)
        generalize ((behP L t i j n1).length : Int) = X at *
        generalize minN ((behP L t i j n1).map (sumC L)) = Y at *
        clear f0 f1 p0 p1 e0 e1
        go_wp2
        have t1 : ((wr.setCell ⟨w.heap.size + 1, 0, none⟩ (.int .i64 X)).setCell ⟨w.heap.size + 1, 1, none⟩ (.int .i64 Y)).cell? ⟨w.heap.size + 1, 1, none⟩ = some (.int .i64 Y) := World.cell?_setCell_same _ _ _ (by rw [World.cell?_setCell_other _ _ _ _ (by simp)]; exact p1r)
        have t0 : ((wr.setCell ⟨w.heap.size + 1, 0, none⟩ (.int .i64 X)).setCell ⟨w.heap.size + 1, 1, none⟩ (.int .i64 Y)).cell? ⟨w.heap.size + 1, 0, none⟩ = some (.int .i64 X) := by
          rw [World.cell?_setCell_other _ _ _ _ (by simp)]; exact World.cell?_setCell_same _ _ _ p0r
        refine bodyPost_ret (v := .agg #[.int .i64 X, .int .i64 Y]) ?_ rfl ⟨by rw [HC'.out, HM'.out], ?_⟩
        · simp [results, Try.results50, go_sem, t0, t1]
        · exact (Hwr.out.setCell (p := ⟨w.heap.size + 1, 0, none⟩) (by show _ ≤ _ + 1; omega) _).setCell (p := ⟨w.heap.size + 1, 1, none⟩) (by show _ ≤ _ + 1; omega) _
end Go.Proofs.Ytgpenbajhndhiaa
