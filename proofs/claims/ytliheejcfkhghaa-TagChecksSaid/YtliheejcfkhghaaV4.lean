import Derived.Test.YtliheejcfkhghaaV3
namespace Go.Proofs.Ytliheejcfkhghaa
open Go.RowKit Go.Proofs.Kv Go

/-! ### comes -/
theorem IntsAt.midAny {w : World} {a : Option Addr} {n c lo hi : Nat} {l : List Int} (h : IntsAt w a n c l) (h1 : lo ≤ hi) (h2 : hi ≤ n) : IntsAt w (if c = lo then a else a.map (·.add lo)) (hi - lo) (c - lo) ((l.drop lo).take (hi - lo)) :=
  (h.dropAny (show lo ≤ n by omega)).take (by omega)
set_option maxRecDepth 100000 in
set_option maxHeartbeats 4000000 in
theorem comes_calls (v : Value) (L : Lx) (a : Option Addr) (n c : Nat) (t : List Int) (p j : Nat) (w : World) (h : LexAt w v L) (ht : IntsAt w a n c t) (g : GoodL L) (hj : j < L.items.length) (hp : p ≤ n) (hn : n ≤ 1000) :
    Calls Try.prog 78 #[v, .slice a n c, .int .i64 (p : Int), .int .i64 (j : Int)] w fun e w' => e = .returned (.bool (begT (wd L j) (t.drop p))) ∧ Below w.heap.size w w' := by
  have HP := hid_ h
  obtain ⟨a1, n1, c1, a2, n2, c2, rfl, h1, h2⟩ := h
  obtain ⟨w1, hw1⟩ : ∃ w1, w.alloc (.cells #[.slice a1 n1 c1, .slice a2 n2 c2] 25) = w1 := ⟨_, rfl⟩
  have cb : Below w.heap.size w w1 := by rw [← hw1]; exact below_alloc _ _
  have q0 : w1.cell? ⟨w.heap.size, 0, none⟩ = some (.slice a1 n1 c1) := by rw [← hw1]; exact cells_alloc _ _ _ 0
  have q1 : w1.cell? ⟨w.heap.size, 1, none⟩ = some (.slice a2 n2 c2) := by rw [← hw1]; exact cells_alloc _ _ _ 1
  have HP1 := hid_ (HP.out.below cb (Nat.le_refl _)); have Hc1 := hid_ cb
  have hl1 := h1.len
  obtain ⟨b, off, a3, m, c3, rfl, -, k0, k1, k2, hw⟩ := (h1.below cb (Nat.le_refl _)).cells j (by omega)
  have ht1 := ht.below cb (Nat.le_refl _)
  have hw' : IntsAt w1 a3 m c3 (wd L j) := hw
  have htl := ht.len
  have hle := ht.le
  have hsm := ht.small
  have h6 := (g.word j hj).2.1
  rw [hw.len] at h6
  have hj1 : j < n1 := by omega
  have HBv : Hid (begT (wd L j) (t.drop p) = (decide (m ≤ n - p) && decide ((t.drop p).take m = wd L j))) := hid_ (by rw [begT, show (wd L j).length = m from hw.len, List.length_drop, htl])
  have hge : decide ((p : Int) ≥ 0) = true := decide_eq_true (by omega)
  obtain ⟨s, hs⟩ : ∃ s, p + m = s := ⟨_, rfl⟩
  have hwr : IntKind.i64.wrap ((p : Int) + (m : Int)) = (s : Int) := by rw [IntKind.wrap_i64]; omega
  generalize begT (wd L j) (t.drop p) = R at *
  by_cases hsn : s ≤ n
  · have hsn' : (s : Int) ≤ (n : Int) := by omega
    have hps : p ≤ s := by omega
    have hsm' : s - p = m := by omega
    have hi3 := IntsAt.midAny ht1 hps hsn
    have hsl := fun W => run_slice_mid a n c p s hps hsn hle W
    rw [hsm'] at hi3
    simp only [hsm'] at hsl
    generalize (if c = p then a else a.map (·.add p)) = ax at *
    generalize c - p = cx at *
    have HE := hid_ (sameI8_calls _ _ _ _ _ _ _ _ w1 hi3 hw')
    have HB2 := hid_ (HBv.out.trans (by rw [decide_eq_true (show m ≤ n - p by omega), Bool.true_and]))
    clear h1 h2 HP HP1 cb ht ht1 htl hl1 hw hw' hs hi3 HBv g hps hsm' h6 hj hp
    generalize decide (List.take m (List.drop p t) = wd L j) = bb at *
    go_enter Try.func78, Try.ntmps78
    go_wp2_with (go_at_call 37; (with_reducible refine HE.out.mono ?_); rintro e w2 ⟨rfl, q, hw2⟩; have Hb2 := hid_ (show Below w1.heap.size w1 w2 by rw [hw2]; exact below_drewN (Below.refl _ _) _); clear hw2)
    go_ret
    exact ⟨by rw [HB2.out]; rfl, Hc1.out.trans (Hb2.out.mono Hc1.out.size)⟩
  · have hsn' : ¬ (s : Int) ≤ (n : Int) := by omega
    have HB2 := hid_ (HBv.out.trans (by rw [decide_eq_false (show ¬ m ≤ n - p by omega), Bool.false_and]))
    clear h1 h2 HP HP1 cb ht ht1 htl hl1 hw hw' hs HBv g h6 hj hp
    go_enter Try.func78, Try.ntmps78
    go_wp2
    go_ret
    exact ⟨by rw [HB2.out]; rfl, Hc1.out⟩
/-! ### Greedy of the program -/
def grI (L : Lx) (t : List Int) : List Int := if textE L t = 0 then (grA L t).1 else []
def grN (L : Lx) (t : List Int) : Int := if textE L t = 0 then ((grA L t).2 : Int) else 0
def GrPost (L : Lx) (t : List Int) (w : World) (e : Ending) (w' : World) : Prop := ∃ v, e = .returned (.tuple #[v, .int .i64 (grN L t), .int .i64 (textE L t)]) ∧ Made 3 w w' v (grI L t)
set_option maxRecDepth 100000 in
set_option maxHeartbeats 4000000 in
theorem taGreedy_calls (v : Value) (L : Lx) (a : Option Addr) (n c : Nat) (t : List Int) (w : World) (h : LexAt w v L) (ht : IntsAt w a n c t) :
    Calls Try.prog 35 #[v, .slice a n c] w fun e w' => GrPost L t w e w' := by
  have HP := hid_ h
  obtain ⟨a1, n1, c1, a2, n2, c2, rfl, h1, h2⟩ := h
  obtain ⟨w1, hw1⟩ : ∃ w1, w.alloc (.cells #[.slice a1 n1 c1, .slice a2 n2 c2] 25) = w1 := ⟨_, rfl⟩
  have cb : Below w.heap.size w w1 := by rw [← hw1]; exact below_alloc _ _
  have q0 : w1.cell? ⟨w.heap.size, 0, none⟩ = some (.slice a1 n1 c1) := by rw [← hw1]; exact cells_alloc _ _ _ 0
  have q1 : w1.cell? ⟨w.heap.size, 1, none⟩ = some (.slice a2 n2 c2) := by rw [← hw1]; exact cells_alloc _ _ _ 1
  have HP1 := hid_ (HP.out.below cb (Nat.le_refl _)); have Hc1 := hid_ cb
  obtain ⟨i0, hi0, hz0, hz1, hz2⟩ := info_parts Try.infoInt
  have HV := hid_ (tavalidate_calls _ L a n c t w1 HP1.out (ht.below cb (Nat.le_refl _)))
  have HQ := hid_ (fun W (hW : Below w1.heap.size w1 W) => (⟨cell_below q0 hW, cell_below q1 hW⟩ : _ ∧ _))
  have HI : Hid (grI L t = if textE L t = 0 then (grA L t).1 else []) := hid_ rfl
  have HN : Hid (grN L t = if textE L t = 0 then ((grA L t).2 : Int) else 0) := hid_ rfl
  have H1 := hid_ (fun W (hW : Below w1.heap.size w1 W) => (h1.below cb (Nat.le_refl _)).below hW (Nat.le_refl _))
  have HT := hid_ (fun W (hW : Below w1.heap.size w1 W) => (ht.below cb (Nat.le_refl _)).below hW (Nat.le_refl _))
  have HLx := hid_ (fun W (hW : Below w1.heap.size w1 W) => HP1.out.below hW (Nat.le_refl _))
  have hl1 := h1.len
  have htl := ht.len
  have hle := ht.le
  have hsm := ht.small
  clear h1 h2 HP HP1 cb ht
  unfold GrPost
  generalize grI L t = GI at *
  generalize grN L t = GN at *
  by_cases he : textE L t = 0
  · obtain ⟨g, h12, -⟩ := textE_ok he
    rw [if_pos he] at HI HN
    rw [he] at HV ⊢
    have HG := hid_ (fun W (hW : Below w1.heap.size w1 W) p (hp : p ≤ n) => longest_calls _ L _ _ _ _ W (HLx.out W hW) ((HT.out W hW).dropAny hp) g)
    have HIn := hid_ (fun l => bestP_in g l L.items.length (Nat.le_refl _))
    have HGr := hid_ (grL_in g t)
    rw [htl] at h12
    have Hl1 := hid_ hl1; have Htl := hid_ htl
    rw [hl1] at HG HIn
    have Hst := hid_ (fun k => @grA_at L t k)
    have Hgo := hid_ (fun k => @grL_go L t k)
    rw [hl1, htl] at Hst
    rw [hl1] at Hgo
    have hn1 : n1 ≤ 1000 := by have := g.le; omega
    clear he g hl1 htl
    go_enter Try.func35, Try.ntmps35
    go_wp2_with (go_at_call 57; (with_reducible refine HV.out.mono ?_); rintro e w2 ⟨rfl, hb2⟩)
    go_loopw [8, 9] (fun its pl wr => ∃ (k p : Nat) (I : List Int), grL L t k = (I, p) ∧ k ≤ p ∧ p ≤ n ∧ pl = .int .i64 (p : Int) ∧ wr.ownsRow w1.heap.size 3 1 its I.length (I.map (Value.int .i64)) ∧ Below w1.heap.size w1 wr) (fun _ pl _ => n - (intOf pl).toNat)
    case atStart => exact ⟨0, 0, [], rfl, Nat.le_refl _, Nat.zero_le _, rfl, World.ownsRow_nil _ _ _ _, hb2⟩
    case round =>
      obtain ⟨k, p, I, hG, hkp, hpn, rfl, hown, hb⟩ := hrel
      have hIk : I.length ≤ k := by have := (HGr.out k).2; rw [hG] at this; exact this
      obtain ⟨q0r, q1r⟩ := HQ.out wr hb
      obtain ⟨nI, hnI⟩ : ∃ nI, I.length = nI := ⟨_, rfl⟩
      rw [hnI] at hown hIk
      have hst := Hst.out k
      have hgo := Hgo.out k
      simp only [hG] at hst hgo
      have hin := HIn.out (t.drop p)
      have hHG := HG.out
      obtain ⟨bb, m, hB⟩ : ∃ bb m, bestP L (t.drop p) n1 = (bb, m) := ⟨_, _, rfl⟩
      have hcl := fun d os => hHG (Go.Sort.grow (redrawn wr d) os) (hb.trans ((below_regrown wr d os).mono hb.size)) p hpn
      rw [hB] at hin hst hgo
      simp only [hB] at hcl
      simp only [] at hin hst hgo
      obtain ⟨i1, i2, i3, i4⟩ := hin
      rw [List.length_drop, Htl.out] at i2
      have hsl := fun W => run_slice_low a n c p hpn W
      have gA := cell_regrown q0r; have gB := cell_regrown q1r
      generalize (if c = p then a else a.map (·.add p)) = ax at *
      obtain ⟨np, hnp⟩ : ∃ np, n - p = np := ⟨_, rfl⟩
      obtain ⟨cp, hcp⟩ : ∃ cp, c - p = cp := ⟨_, rfl⟩
      simp only [hnp, hcp] at hsl hcl
      rw [hnp] at i2
      have HnI := hid_ hnI; have Hown := hid_ hown; have Hb := hid_ hb; have HG' := hid_ hG
      clear hG hown hB hnI hHG hcp
      by_cases hm : m = 0
      · subst hm
        have hA := hid_ (hst (by omega) rfl)
        have HC := hid_ hcl
        simp only [show decide (0 < 0) = false from rfl] at HC
        clear hst hgo hcl i4
        go_wp2_with fail
        refine wp_region_quiet_below (by kernel_rfl) (by kernel_rfl) ?_
        repeat (first | go_big_quiet_skip | (go_big_quiet_want; go_big_quiet_op; first | go_big_quiet_on | go_big_quiet_call ((go_at_call 79; with_reducible exact Calls.regrown_of (HC.out _ _)))))
        refine wpQuiet_nil ?_
        rintro wq ⟨pq, hpq⟩
        have hbq := below_wq hpq
        have hoq := own_below Hown.out hbq (Nat.le_refl _)
        have Hoq := hid_ hoq; have Hbq := hid_ hbq
        clear hoq hbq hpq gA gB
        go_wp2
        go_ret3
        exact ⟨_, by rw [HN.out, hA.out]; rfl, by rw [HI.out, hA.out]; exact ⟨own_base (by rw [HnI.out]; exact Hoq.out) Hc1.out.size, Hc1.out.trans ((Hb.out.trans (Hbq.out.mono Hb.out.size)).mono Hc1.out.size)⟩⟩
      · have hlt : p + m ≤ n := by omega
        have hgo' := hid_ (hgo hm)
        have hwl := i4 (by omega)
        have HC := hid_ hcl
        simp only [decide_eq_true (show 0 < m by omega)] at HC
        have hwr : IntKind.i64.wrap ((p : Int) + (m : Int)) = ((p + m : Nat) : Int) := by rw [IntKind.wrap_i64]; omega
        clear hst hgo hcl i4
        go_wp2_with fail
        refine wp_region_quiet_below (by kernel_rfl) (by kernel_rfl) ?_
        repeat (first | go_big_quiet_skip | (go_big_quiet_want; go_big_quiet_op; first | go_big_quiet_on | go_big_quiet_call ((go_at_call 79; with_reducible exact Calls.regrown_of (HC.out _ _)))))
        refine wpQuiet_nil ?_
        rintro wq ⟨pq, hpq⟩
        have hbq := below_wq hpq
        have hbw := Hb.out.trans (hbq.mono Hb.out.size)
        have hsz := hbw.size
        have hoq := own_below Hown.out hbq (Nat.le_refl _)
        clear hpq gA gB
        have ho4 := own_below hoq (below_alloc wq (.cells #[.int .i64 (bb : Int)] 3)) (Nat.le_refl _)
        go_wp2_with (at_builtin; refine wpList_append_ints _ rfl (.tmp 30) (.tmp 32) _ rfl w1.heap.size 3 i0 Try.underlying26 hi0 hz0 hz1 hz2 _ _ _ rfl ho4 _ _ _ _ rfl (IntsAt.one _ _ _) (by omega) (by simp; omega) ?_; intro v5 w5 hown5 hg5 hat5; have hb5 : Below w1.heap.size w1 w5 := below_app hbw hsz hoq hg5; obtain ⟨q5, r5⟩ := HQ.out w5 hb5; obtain ⟨b, off, a3, n3, c3, rfl, -, k0, k1, k2, hw⟩ := (H1.out w5 hb5).cells bb (by omega); obtain rfl : n3 = m := hw.len.symm.trans hwl)
        go_roundw
        case rel => exact ⟨k + 1, p + n3, _, hgo'.out, by omega, hlt, by go_num, by rw [List.length_append, HnI.out]; exact hown5, hb5⟩
        case measure => simp [intOf]; omega
  · have hq : (textE L t != 0) = true := by simpa using he
    rw [if_neg he] at HI HN
    generalize textE L t = x at *
    clear he
    go_enter Try.func35, Try.ntmps35
    go_wp2_with (go_at_call 57; (with_reducible refine HV.out.mono ?_); rintro e w2 ⟨rfl, hb2⟩)
    go_ret3
    exact ⟨.slice none 0 0, by rw [HN.out]; rfl, by rw [HI.out]; exact Made.none_ _ (Hc1.out.trans (hb2.mono Hc1.out.size))⟩
end Go.Proofs.Ytliheejcfkhghaa
