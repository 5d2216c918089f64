import Derived.Test.YtliheejcfkhghaaV4
namespace Go.Proofs.Ytliheejcfkhghaa
open Go.RowKit Go.Proofs.Kv Go

/-! ### Greedy of the document -/
set_option maxRecDepth 100000 in
set_option maxHeartbeats 8000000 in
theorem r8Greedy_calls (v : Value) (L : Lx) (a : Option Addr) (n c : Nat) (t : List Int) (w : World) (h : LexAt w v L) (ht : IntsAt w a n c t) :
    Calls Try.prog 36 #[v, .slice a n c] w fun e w' => GrPost L t w e w' := by
  have HP := hid_ h
  obtain ⟨a1, n1, c1, a2, n2, c2, rfl, h1, h2⟩ := h
  obtain ⟨w1, hw1⟩ : ∃ w1, w.alloc (.cells #[.slice a1 n1 c1, .slice a2 n2 c2] 25) = w1 := ⟨_, rfl⟩
  have cb : Below w.heap.size w w1 := by rw [← hw1]; exact below_alloc _ _
  have q0 : w1.cell? ⟨w.heap.size, 0, none⟩ = some (.slice a1 n1 c1) := by rw [← hw1]; exact cells_alloc _ _ _ 0
  have q1 : w1.cell? ⟨w.heap.size, 1, none⟩ = some (.slice a2 n2 c2) := by rw [← hw1]; exact cells_alloc _ _ _ 1
  have HP1 := hid_ (HP.out.below cb (Nat.le_refl _)); have Hc1 := hid_ cb
  obtain ⟨i0, hi0, hz0, hz1, hz2⟩ := info_parts Try.infoInt
  have HV := hid_ (texted_calls _ L a n c t w1 HP1.out (ht.below cb (Nat.le_refl _)))
  have HQ := hid_ (fun W (hW : Below w1.heap.size w1 W) => (⟨cell_below q0 hW, cell_below q1 hW⟩ : _ ∧ _))
  have HI : Hid (grI L t = if textE L t = 0 then (grA L t).1 else []) := hid_ rfl
  have HN : Hid (grN L t = if textE L t = 0 then ((grA L t).2 : Int) else 0) := hid_ rfl
  have H1 := hid_ (fun W (hW : Below w1.heap.size w1 W) => (h1.below cb (Nat.le_refl _)).below hW (Nat.le_refl _))
  have HT := hid_ (fun W (hW : Below w1.heap.size w1 W) => (ht.below cb (Nat.le_refl _)).below hW (Nat.le_refl _))
  have HLx := hid_ (fun W (hW : Below w1.heap.size w1 W) => HP1.out.below hW (Nat.le_refl _))
  have hl1 := h1.len
  have htl := ht.len
  have hle := ht.le
  have hsm := ht.small
  clear h1 h2 HP HP1 cb ht
  unfold GrPost
  generalize grI L t = GI at *
  generalize grN L t = GN at *
  by_cases he : textE L t = 0
  · obtain ⟨g, h12, -⟩ := textE_ok he
    rw [if_pos he] at HI HN
    rw [he] at HV ⊢
    rw [htl] at h12
    have HG := hid_ (fun W (hW : Below w1.heap.size w1 W) p j (hp : p ≤ n) (hj : j < L.items.length) => comes_calls _ L a n c t p j W (HLx.out W hW) (HT.out W hW) g hj hp (by omega))
    have HIn := hid_ (fun l k (hk : k ≤ L.items.length) => bestP_in g l k hk)
    have HGr := hid_ (grL_in g t)
    have Hl1 := hid_ hl1; have Htl := hid_ htl
    rw [hl1] at HG HIn
    have Hst := hid_ (fun k => @grA_at L t k)
    have Hgo := hid_ (fun k => @grL_go L t k)
    rw [hl1, htl] at Hst
    rw [hl1] at Hgo
    have Hge := hid_ (fun j (hj : j < n1) => (g.word j (by omega)).1)
    have hn1 : n1 ≤ 1000 := by have := g.le; omega
    clear he g hl1 htl
    go_enter Try.func36, Try.ntmps36
    go_wp2_with (go_at_call 62; (with_reducible refine HV.out.mono ?_); rintro e w2 ⟨rfl, hb2⟩)
    go_loopw [8, 9] (fun its pl wr => ∃ (k p : Nat) (I : List Int), grL L t k = (I, p) ∧ k ≤ p ∧ p ≤ n ∧ pl = .int .i64 (p : Int) ∧ wr.ownsRow w1.heap.size 3 1 its I.length (I.map (Value.int .i64)) ∧ Below w1.heap.size w1 wr) (fun _ pl _ => n - (intOf pl).toNat)
    case atStart => exact ⟨0, 0, [], rfl, Nat.le_refl _, Nat.zero_le _, rfl, World.ownsRow_nil _ _ _ _, hb2⟩
    case round =>
      obtain ⟨k, p, I, hG, hkp, hpn, rfl, hown, hb⟩ := hrel
      have hIk : I.length ≤ k := by have := (HGr.out k).2; rw [hG] at this; exact this
      obtain ⟨nI, hnI⟩ : ∃ nI, I.length = nI := ⟨_, rfl⟩
      rw [hnI] at hown hIk
      have hst := Hst.out k
      have hgo := Hgo.out k
      simp only [hG] at hst hgo
      have HnI := hid_ hnI; have Hown := hid_ hown; have Hb := hid_ hb; have HG' := hid_ hG
      have Hs := hid_ hst; have Hg := hid_ hgo
      have HBp := hid_ (fun k bb m (hB : bestP L (t.drop p) k = (bb, m)) (hk : k ≤ n1) => (by have := HIn.out (t.drop p) k hk; rw [hB] at this; exact this : m ≤ 6 ∧ m ≤ (t.drop p).length ∧ bb < n1 ∧ (0 < m → (wd L bb).length = m)))
      clear hG hown hnI hst hgo
      go_wp2
      go_loopw [10, 11] (fun bv iv wi => ∃ (i bb m : Nat) (z : Int), i ≤ n1 ∧ bestP L (t.drop p) i = (bb, m) ∧ bv = .int .i64 z ∧ (m = 0 → z = -1) ∧ (0 < m → z = (bb : Int)) ∧ iv = .int .i64 i ∧ Below wr.heap.size wr wi) (fun _ iv _ => n1 - (intOf iv).toNat)
      case atStart => exact ⟨0, 0, 0, -1, Nat.zero_le _, rfl, rfl, fun _ => rfl, fun h => absurd h (by omega), rfl, Below.refl _ _⟩
      case round =>
        obtain ⟨i, bb, m, z, hi, hB, rfl, hz0', hz1', rfl, hbi⟩ := hrel
        obtain ⟨i1, i2, i3, i4⟩ := HBp.out i bb m hB hi
        have hbw := hb.trans (hbi.mono hb.size)
        obtain ⟨q0i, q1i⟩ := HQ.out _ hbw
        have HB := hid_ hB
        clear hB
        by_cases hlt : i < n1
        · obtain ⟨b, off, a3, n3, c3, rfl, -, k0, k1, k2, hw⟩ := (H1.out _ hbw).cells i hlt
          have hwl : (wd L i).length = n3 := hw.len
          have hw1 := hw.le
          have hw2 := hw.small
          have hge := Hge.out i hlt
          change 1 ≤ (wd L i).length at hge
          rw [hwl] at hge
          have hyes := bestP_yes HB.out
          have hno := bestP_no HB.out
          have hno' := bestP_no' HB.out
          rw [hwl] at hyes hno'
          have gA := cell_regrown q0i; have gC := cell_regrown q1i; have gI := cell_regrown k0
          have hcl := fun d os => HG.out (Go.Sort.grow (redrawn wr d) os) (hbw.trans ((below_regrown wr d os).mono hbw.size)) p i hpn hlt
          cases hx : begT (wd L i) (t.drop p) with
          | false =>
            have Hn := hid_ (hno hx)
            rw [hx] at hcl
            have HC := hid_ hcl
            have Hz := hid_ (And.intro hz0' hz1')
            have Hbi := hid_ hbi
            clear hno hno' hyes hx hcl hw k1 k2 hz0' hz1' hbi hbw hwl i4
            go_wp2_with fail
            refine wp_region_quiet_below (by kernel_rfl) (by kernel_rfl) ?_
            repeat (first | go_big_quiet_skip | (go_big_quiet_want; go_big_quiet_op; first | go_big_quiet_on | go_big_quiet_call ((go_at_call 78; with_reducible exact Calls.regrown_of (HC.out _ _)))))
            refine wpQuiet_nil ?_
            rintro wq ⟨pq, hpq⟩
            have Hbq := hid_ (below_wq hpq)
            clear hpq gA gC gI
            go_wp2
            go_roundw
            case rel => exact ⟨i + 1, bb, m, z, by omega, Hn.out, rfl, Hz.out.1, Hz.out.2, by go_num, Hbi.out.trans (Hbq.out.mono Hbi.out.size)⟩
            case measure => simp [intOf]; omega
          | true =>
            rw [hx] at hcl
            have HC := hid_ hcl
            by_cases hm : m = 0
            · have Hn := hid_ (hyes hx (by omega))
              have hzd : decide (z < 0) = true := decide_eq_true (by rw [hz0' hm]; omega)
              have Hbi := hid_ hbi
              clear hno hno' hyes hx hcl hw k1 k2 hz0' hz1' hbi hbw hwl i4
              go_wp2_with fail
              refine wp_region_quiet_below (by kernel_rfl) (by kernel_rfl) ?_
              repeat (first | go_big_quiet_skip | (go_big_quiet_want; go_big_quiet_op; first | go_big_quiet_on | go_big_quiet_call ((go_at_call 78; with_reducible exact Calls.regrown_of (HC.out _ _)))))
              refine wpQuiet_nil ?_
              rintro wq ⟨pq, hpq⟩
              have Hbq := hid_ (below_wq hpq)
              clear hpq gA gC gI
              go_wp2
              go_roundw
              case rel => exact ⟨i + 1, i, n3, i, by omega, Hn.out, rfl, fun h => by omega, fun _ => rfl, by go_num, Hbi.out.trans (Hbq.out.mono Hbi.out.size)⟩
              case measure => simp [intOf]; omega
            · have hzb := hz1' (by omega)
              have hzd : decide (((bb : Nat) : Int) < 0) = false := decide_eq_false (by omega)
              obtain ⟨b', off', a4, n4, c4, e2, -, j0, j1, j2, hw4⟩ := (H1.out _ hbw).cells bb i3
              injection e2 with e2; injection e2 with e2 e3; subst e2; subst e3
              obtain rfl : n4 = m := hw4.len.symm.trans (i4 (by omega))
              have gB := cell_regrown j0
              subst hzb
              have Hbi := hid_ hbi
              by_cases hgt : n4 < n3
              · have Hn := hid_ (hyes hx hgt)
                have hgt' : (n3 : Int) > (n4 : Int) := by omega
                clear hno hno' hyes hx hcl hw hw4 k1 k2 j1 j2 hz0' hz1' hbi hbw hwl i4
                go_wp2_with fail
                refine wp_region_quiet_below (by kernel_rfl) (by kernel_rfl) ?_
                repeat (first | go_big_quiet_skip | (go_big_quiet_want; go_big_quiet_op; first | go_big_quiet_on | go_big_quiet_call ((go_at_call 78; with_reducible exact Calls.regrown_of (HC.out _ _)))))
                refine wpQuiet_nil ?_
                rintro wq ⟨pq, hpq⟩
                have Hbq := hid_ (below_wq hpq)
                clear hpq gA gC gI gB
                go_wp2
                go_roundw
                case rel => exact ⟨i + 1, i, n3, i, by omega, Hn.out, rfl, fun h => by omega, fun _ => rfl, by go_num, Hbi.out.trans (Hbq.out.mono Hbi.out.size)⟩
                case measure => simp [intOf]; omega
              · have Hn := hid_ (hno' hgt)
                have hgt' : ¬ (n3 : Int) > (n4 : Int) := by omega
                clear hno hno' hyes hx hcl hw hw4 k1 k2 j1 j2 hz0' hz1' hbi hbw hwl i4
                go_wp2_with fail
                refine wp_region_quiet_below (by kernel_rfl) (by kernel_rfl) ?_
                repeat (first | go_big_quiet_skip | (go_big_quiet_want; go_big_quiet_op; first | go_big_quiet_on | go_big_quiet_call ((go_at_call 78; with_reducible exact Calls.regrown_of (HC.out _ _)))))
                refine wpQuiet_nil ?_
                rintro wq ⟨pq, hpq⟩
                have Hbq := hid_ (below_wq hpq)
                clear hpq gA gC gI gB
                go_wp2
                go_roundw
                case rel => exact ⟨i + 1, bb, n4, bb, by omega, Hn.out, rfl, fun h => absurd h hm, fun _ => rfl, by go_num, Hbi.out.trans (Hbq.out.mono Hbi.out.size)⟩
                case measure => simp [intOf]; omega
        · obtain rfl : n1 = i := by omega
          have Hs' := Hs.out; have Hg' := Hg.out
          rw [HB.out] at Hs' Hg'
          simp only [] at Hs' Hg'
          rw [List.length_drop, Htl.out] at i2
          have hoq := own_below Hown.out hbi (Nat.le_refl _)
          have hsz := hbw.size
          by_cases hm : m = 0
          · have hzd : decide (z < 0) = true := decide_eq_true (by rw [hz0' hm]; omega)
            have hA := hid_ (Hs' (by omega) hm)
            have Hoq := hid_ hoq; have Hbw := hid_ hbw
            clear hoq hbw Hs' Hg' hz0' hz1' i4 hb hbi
            go_wp2
            go_ret3
            exact ⟨_, by rw [HN.out, hA.out]; rfl, by rw [HI.out, hA.out]; exact ⟨own_base (by rw [HnI.out]; exact Hoq.out) Hc1.out.size, Hc1.out.trans (Hbw.out.mono Hc1.out.size)⟩⟩
          · have hzb := hz1' (by omega)
            subst hzb
            have hzd : decide (((bb : Nat) : Int) < 0) = false := decide_eq_false (by omega)
            have hlt2 : p + m ≤ n := by omega
            have hgo' := hid_ (Hg' hm)
            have hwl := i4 (by omega)
            have hwr : IntKind.i64.wrap ((p : Int) + (m : Int)) = ((p + m : Nat) : Int) := by rw [IntKind.wrap_i64]; omega
            have ho4 := own_below hoq (below_alloc wr (.cells #[.int .i64 (bb : Int)] 3)) (Nat.le_refl _)
            clear Hs' Hg' hz0' hz1' i4
            go_wp2_with (at_builtin; refine wpList_append_ints _ rfl (.tmp 56) (.tmp 58) _ rfl w1.heap.size 3 i0 Try.underlying26 hi0 hz0 hz1 hz2 _ _ _ rfl ho4 _ _ _ _ rfl (IntsAt.one _ _ _) (by omega) (by simp; omega) ?_; intro v5 w5 hown5 hg5 hat5; have hb5 : Below w1.heap.size w1 w5 := below_app hbw hsz hoq hg5; obtain ⟨q5, r5⟩ := HQ.out w5 hb5; obtain ⟨b, off, a3, n3, c3, rfl, -, k0, k1, k2, hw⟩ := (H1.out w5 hb5).cells bb (by omega); obtain rfl : n3 = m := hw.len.symm.trans hwl)
            go_roundw
            case rel => exact ⟨k + 1, p + n3, _, hgo'.out, by omega, hlt2, by go_num, by rw [List.length_append, HnI.out]; exact hown5, hb5⟩
            case measure => simp [intOf]; omega
  · have hq : (textE L t != 0) = true := by simpa using he
    rw [if_neg he] at HI HN
    generalize textE L t = x at *
    clear he
    go_enter Try.func36, Try.ntmps36
    go_wp2_with (go_at_call 62; (with_reducible refine HV.out.mono ?_); rintro e w2 ⟨rfl, hb2⟩)
    go_ret3
    exact ⟨.slice none 0 0, by rw [HN.out]; rfl, by rw [HI.out]; exact Made.none_ _ (Hc1.out.trans (hb2.mono Hc1.out.size))⟩
end Go.Proofs.Ytliheejcfkhghaa
