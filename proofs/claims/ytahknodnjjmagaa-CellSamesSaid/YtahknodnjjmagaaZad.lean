import Derived.Test.YtahknodnjjmagaaZac
import Derived.Test.YtahknodnjjmagaaZ0
namespace Go.Proofs.Ytahknodnjjmagaa
open Go.RowKit Go.Proofs.Kv

/-! ### the smallest spec: the document's -/
set_option maxRecDepth 100000 in
set_option maxHeartbeats 4000000 in
theorem r6hull_calls (a : Option Addr) (m c : Nat) (L : List (List Int)) (n : Nat) (w : World) (h : ListsAt w a m c L) (h0 : 0 < m) (hn : ∀ k, k < m → (L.getD k []).length = n) (hn3 : n ≤ 1000) :
    Calls Try.prog 98 #[.slice a m c] w fun e w' => ∃ v', e = .returned v' ∧ Made 3 w w' v' (hullL L) := by
  obtain ⟨i0, hi0, hz0, hz1, hz2⟩ := info_parts Try.infoInt
  have hm : m ≤ 9223372036854775807 := Nat.le_trans h.le h.small
  obtain ⟨b, off, a1, n1, c1, rfl, hbl0, hc0, hr0⟩ := h.cells 0 h0
  have e1 : n1 = n := by rw [← hr0.len, hn 0 h0]
  subst e1
  have HL := hid_ h
  rw [Nat.add_zero] at hc0
  have HN := hid_ hn
  have HS := hid_ (fun k (hk : k < m) => @hullK_succ L k (by rw [h.len]; exact hk))
  have HK := hid_ (fun k => (hullK_len L k).trans (hn 0 h0))
  have HA : Hid (hullK L m = hullL L) := hid_ (by rw [hullL, h.len])
  have H0 : Hid (hullK L 1 = L.getD 0 []) := hid_ (hullK_one L)
  have hz : (0 : Int) < (m : Int) := by omega
  have Hm := hid_ h0
  have hn2 : 0 + n1 ≤ 1000000 := by omega
  have Hr0 := hid_ hr0
  clear h hn hr0 h0
  go_enter Try.func98, Try.ntmps98
  go_wp2_with (at_builtin; refine wpList_append_ints _ rfl (.tmp 6) (.tmp 9) _ rfl w.heap.size 3 i0 Try.underlying22 hi0 hz0 hz1 hz2 _ 0 [] rfl (World.ownsRow_lit (base := w.heap.size) (e := 3) (size := 1) w #[] 0 (Nat.le_refl _) (by unfold maxLen; omega) rfl) a1 n1 c1 _ rfl (Hr0.out.below ((Below.refl w.heap.size w).alloc (Nat.le_refl _) _) (Nat.le_refl _)) hn2 (by simp) ?_; intro v2 w2 ho2 hg1 hat1; simp only [Nat.zero_add, List.nil_append] at ho2; have hb2 : Below w.heap.size w w2 := ((Below.refl w.heap.size w).alloc (Nat.le_refl _) _).grown hg1 (by simp) fun r e => by cases e; exact Nat.le_refl _)
  obtain ⟨a3, c3, rfl, -⟩ := IntsAt.own ho2
  have Ho2 := hid_ ho2; have Hb2 := hid_ hb2
  clear ho2 hb2 hg1 hat1
  go_loopw [4] (fun i wr => ∃ k : Nat, 1 ≤ k ∧ k ≤ m ∧ i = .int .i64 k ∧ wr.ownsRow w.heap.size 3 1 (.slice a3 n1 c3) n1 ((hullK L k).map (Value.int .i64)) ∧ Below w.heap.size w wr) (fun i _ => m - (intOf i).toNat)
  case atStart => exact ⟨1, Nat.le_refl _, Hm.out, rfl, by rw [H0.out]; exact Ho2.out, Hb2.out⟩
  case round =>
    obtain ⟨k, hk1, hk, rfl, hown, hb⟩ := hrel
    by_cases hlt : k < m
    · obtain ⟨b', off', a4, n4, c4, e, -, hckw, hrk⟩ := HL.out.cells k hlt
      injection e with e
      injection e with e1 e2
      subst e1 e2
      have e4 : n4 = n1 := by rw [← hrk.len]; exact HN.out k hlt
      subst e4
      have Hs := hid_ (HS.out k hlt)
      have hsl := HK.out k
      have hcl : (L.getD k []).length = n4 := HN.out k hlt
      have HRk := hid_ (fun W (hW : Below w.heap.size w W) => hrk.below hW (Nat.le_refl _))
      have HCk := hid_ (fun W (hW : Below w.heap.size w W) => cell_below hckw hW)
      generalize hullK L k = s at *
      generalize L.getD k [] = cl at *
      have HX := hid_ (fun t => @hsK_same s cl t); have HY := hid_ (fun t => @hsK_other s cl t); have HT := hid_ (fun t (ht : t < n4) => @hsK_at s cl t (by omega))
      have HZ := hid_ (hsK_zero s cl)
      have HF : Hid (hsK s cl n4 = hs s cl) := hid_ (by rw [hs, hsl])
      have Hown := hid_ hown; have Hb := hid_ hb
      clear hown hb hrk hsl hcl hckw
      go_wp2
      obtain ⟨wm, rfl⟩ : ∃ wm : World, wm = wr := ⟨_, rfl⟩
      go_loopw [5] (fun i wr => ∃ t : Nat, t ≤ n4 ∧ i = .int .i64 t ∧ wr.ownsRow w.heap.size 3 1 (.slice a3 n4 c3) n4 ((hsK s cl t).map (Value.int .i64)) ∧ Below w.heap.size w wr) (fun i _ => n4 - (intOf i).toNat)
      case atStart => exact ⟨0, Nat.zero_le _, rfl, by rw [HZ.out]; exact Hown.out, Hb.out⟩
      case round =>
        obtain ⟨t, ht, rfl, hown2, hb2⟩ := hrel
        by_cases hlt2 : t < n4
        · rcases own_open hown2 with ⟨-, h0, -⟩ | ⟨g, cap, cur, e, hg, hgl, hgc, hcl2, hnc, hcm, hct⟩
          · omega
          · injection e with e1 _ e2
            subst e1 e2
            have Hput := hid_ (fun x q => own_put (own_drewN hown2 q) t x)
            obtain ⟨ax, cx, ex, hix⟩ := IntsAt.own hown2
            injection ex with e1 _ e2
            subst e1 e2
            obtain ⟨bx, ox, ebx, -, hcell⟩ := hix.cells t hlt2
            injection ebx with ebx
            injection ebx with e1 e2
            subst e1 e2
            rw [HT.out t hlt2, Nat.zero_add] at hcell
            have hfree := row_free hgc t
            have hck := HCk.out wr hb2
            obtain ⟨b4, o4, rfl, -, hc4⟩ := (HRk.out wr hb2).cells t hlt2
            have hX := HX.out t; have hY := HY.out t
            have Hown2 := hid_ hown2; have Hb2' := hid_ hb2
            have hgw : w.heap.size ≤ g := hg
            clear hown2 hb2 hix hgc hct
            generalize cl.getD t 0 = x at *
            generalize s.getD t 0 = y at *
            by_cases hxy : x = y
            · have Hf := hid_ (hX hxy)
              subst hxy
              clear hX hY
              go_wp2_with fail
              go_quiet (fail)
              go_wp2
              go_roundw
              case rel => exact ⟨t + 1, by omega, by go_num, by rw [Hf.out]; exact own_drewN Hown2.out _, below_drewN Hb2'.out _⟩
              case measure => simp [intOf]; omega
            · have Hf := hid_ (hY hxy)
              have hxb : (y != x) = true := by simpa using (fun e => hxy e.symm)
              clear hX hY hxy
              go_wp2_with fail
              go_quiet (fail)
              go_wp2
              go_roundw
              case rel => exact ⟨t + 1, by omega, by go_num, by rw [Hf.out]; exact Hput.out (-1) _, (below_drewN Hb2'.out _).setCell (p := ⟨g, t, none⟩) hgw _⟩
              case measure => simp [intOf]; omega
        · obtain rfl : n4 = t := by omega
          rw [HF.out, ← Hs.out] at hown2
          have Hown2 := hid_ hown2; have Hb2' := hid_ hb2
          clear hown2 hb2
          go_wp2
          go_roundw
          case rel => exact ⟨k + 1, by omega, by omega, by go_num, Hown2.out, Hb2'.out⟩
          case measure => simp [intOf]; omega
    · obtain rfl : m = k := by omega
      rw [HA.out] at hown
      have Hl := hid_ (HK.out m)
      rw [HA.out] at Hl
      go_wp2
      go_ret
      exact ⟨_, rfl, ⟨by rw [Hl.out]; exact hown, hb⟩⟩

/-! ### is a cell in a list -/
def hasL (L : List (List Int)) (c : List Int) : Bool := L.any fun d => Same d c
set_option maxRecDepth 100000 in
set_option maxHeartbeats 4000000 in
theorem r6has_calls (a : Option Addr) (m c : Nat) (L : List (List Int)) (a1 : Option Addr) (n1 c1 : Nat) (l : List Int) (w : World) (h : ListsAt w a m c L) (hl : IntsAt w a1 n1 c1 l) :
    Calls Try.prog 103 #[.slice a m c, .slice a1 n1 c1] w fun e w' => e = .returned (.bool (hasL L l)) ∧ ∃ q, w' = w.drewN q := by
  have hm : m ≤ 9223372036854775807 := Nat.le_trans h.le h.small
  have HNo := hid_ (fun hall => any_no (p := fun d => Same d l) ([] : List Int) h.len hall)
  have HHi := hid_ (fun k (hk : k < m) hh => any_hit (p := fun d => Same d l) (k := k) ([] : List Int) (by rw [h.len]; exact hk) hh)
  have HH : Hid (hasL L l = L.any fun d => Same d l) := hid_ rfl
  go_enter Try.func103, Try.ntmps103
  go_wp2
  go_loopw [5] (fun i wr => ∃ k q : Nat, k ≤ m ∧ i = .int .i64 k ∧ wr = w.drewN q ∧ ∀ j, j < k → Same (L.getD j []) l = false) (fun i _ => m - (intOf i).toNat)
  case atStart => exact ⟨0, 0, Nat.zero_le _, rfl, rfl, fun _ h => absurd h (by omega)⟩
  case round =>
    obtain ⟨k, q, hk, rfl, hq, hall⟩ := hrel
    have Hall := hid_ hall; have Hq := hid_ hq
    have HA := hid_ (show ListsAt wr a m c L by rw [hq]; exact h.drewN q)
    have HB := hid_ (show IntsAt wr a1 n1 c1 l by rw [hq]; exact hl.drewN q)
    clear hall hq
    by_cases hlt : k < m
    · obtain ⟨b, off, a3, n3, c3, rfl, -, hc, hr⟩ := HA.out.cells k hlt
      have hhi := HHi.out k hlt
      have hy := fun hx => lt_snoc (p := fun j => Same (L.getD j []) l = false) Hall.out hx
      have HS := hid_ (same_calls a3 n3 c3 (L.getD k []) a1 n1 c1 l wr hr HB.out)
      clear hr
      generalize Same (L.getD k []) l = z at *
      cases z with
      | true =>
        have Hf := hid_ (HH.out.trans (hhi rfl))
        clear hhi hy
        go_wp2_with (go_at_call 31; (with_reducible refine HS.out.mono ?_); rintro e w5 ⟨rfl, q5, rfl⟩)
        go_ret
        exact ⟨retB Hf.out, _, by rw [Hq.out, drewN2]⟩
      | false =>
        have Hn := hid_ (hy rfl)
        clear hhi hy
        go_wp2_with (go_at_call 31; (with_reducible refine HS.out.mono ?_); rintro e w5 ⟨rfl, q5, rfl⟩)
        go_roundw
        case rel => exact ⟨k + 1, _, by omega, by go_num, by rw [Hq.out, drewN2], Hn.out⟩
        case measure => simp [intOf]; omega
    · obtain rfl : m = k := by omega
      have Hf := hid_ (HH.out.trans (HNo.out Hall.out))
      go_wp2
      go_ret
      exact ⟨retB Hf.out, _, Hq.out⟩
set_option maxRecDepth 100000 in
set_option maxHeartbeats 4000000 in
theorem listed_calls (v : Value) (P : Par) (a : Option Addr) (n c : Nat) (L : List (List Int)) (w : World) (h : ParAt w v P) (hl : ListsAt w a n c L) :
    Calls Try.prog 97 #[v, .slice a n c] w fun e w' => e = .returned (.int .i64 (errC P L)) ∧ Below w.heap.size w w' := by
  have HP := hid_ h
  obtain ⟨a1, n1, c1, a2, n2, c2, rfl, h1, h2⟩ := h
  obtain ⟨w1, hw1⟩ : ∃ w1, w.alloc (.cells #[.slice a1 n1 c1, .slice a2 n2 c2] 25) = w1 := ⟨_, rfl⟩
  have cb : Below w.heap.size w w1 := by rw [← hw1]; exact below_alloc _ _
  have q0 : w1.cell? ⟨w.heap.size, 0, none⟩ = some (.slice a1 n1 c1) := by rw [← hw1]; exact cells_alloc _ _ _ 0
  have q1 : w1.cell? ⟨w.heap.size, 1, none⟩ = some (.slice a2 n2 c2) := by rw [← hw1]; exact cells_alloc _ _ _ 1
  have HP1 := hid_ (HP.out.below cb (Nat.le_refl _)); have Hc1 := hid_ cb
  have hn : n ≤ 9223372036854775807 := Nat.le_trans hl.le hl.small
  have HL := hid_ (hl.below cb (Nat.le_refl _))
  have HV := hid_ (r6Validate_calls _ P w1 HP1.out)
  have HNo := hid_ (fun hall => any_no (p := fun l => !specB P.sizes l 0) ([] : List Int) hl.len hall)
  have HHi := hid_ (fun k (hk : k < n) hh => any_hit (p := fun l => !specB P.sizes l 0) (k := k) ([] : List Int) (by rw [hl.len]; exact hk) hh)
  have HE : Hid (errC P L = if validP P = 0 then (if L.any (fun l => !specB P.sizes l 0) then 1 else 0) else validP P) := hid_ rfl
  clear h1 h2 hl cb
  by_cases hv : validP P = 0
  · have HE2 : Hid (errC P L = if L.any (fun l => !specB P.sizes l 0) then 1 else 0) := hid_ (by rw [HE.out, if_pos hv])
    have Hvs := hid_ (validP_ok hv).2.1
    rw [hv] at HV
    clear hv
    go_enter Try.func97, Try.ntmps97
    go_wp2_with (go_at_call 22; (with_reducible refine HV.out.mono ?_); rintro e w2 ⟨rfl, hb2⟩; have q0b := cell_below q0 hb2; have q1b := cell_below q1 hb2)
    have Hb2 := hid_ hb2
    clear hb2 q0 q1
    go_loopw [6] (fun i wr => ∃ k : Nat, k ≤ n ∧ i = .int .i64 k ∧ Below w2.heap.size w2 wr ∧ ∀ j, j < k → (!specB P.sizes (L.getD j []) 0) = false) (fun i _ => n - (intOf i).toNat)
    case atStart => exact ⟨0, Nat.zero_le _, rfl, Below.refl _ _, fun _ h => absurd h (by omega)⟩
    case round =>
      obtain ⟨k, hk, rfl, hb, hall⟩ := hrel
      have Hall := hid_ hall; have Hb := hid_ hb
      have hb1 := Hb2.out.trans (hb.mono Hb2.out.size)
      have HbF := hid_ (Hc1.out.trans (hb1.mono Hc1.out.size))
      clear hall
      by_cases hlt : k < n
      · obtain ⟨b, off, a3, n3, c3, rfl, hbl, hcell, hrow⟩ := (HL.out.below hb1 (Nat.le_refl _)).cells k hlt
        have hhi := HHi.out k hlt
        have hy := fun hx => lt_snoc (p := fun j => (!specB P.sizes (L.getD j []) 0) = false) Hall.out hx
        have HA := hid_ (fun d os => isSpec_calls _ P a3 n3 c3 (L.getD k []) 0 (Go.Sort.grow (redrawn wr d) os) (HP1.out.below (hb1.trans ((below_regrown wr d os).mono hb1.size)) (Nat.le_refl _)) (hrow.below (below_regrown wr d os) (Nat.le_refl _)) Hvs.out)
        have g0 := cell_regrown (cell_below q0b hb); have g1 := cell_regrown (cell_below q1b hb); have g2 := cell_regrown hcell
        clear hrow hbl hb hb1
        cases hsp : specB P.sizes (L.getD k []) 0 with
        | false =>
          rw [hsp] at HA
          have Hf : Hid (errC P L = 1) := hid_ (by rw [HE2.out, hhi (by rw [hsp]; rfl)]; rfl)
          clear hhi hy hsp
          go_wp2_with fail
          refine wp_region_quiet_below (by kernel_rfl) (by kernel_rfl) ?_
          repeat (first | go_big_quiet_skip | (go_big_quiet_want; go_big_quiet_op; first | go_big_quiet_on | go_big_quiet_call ((go_at_call 74; with_reducible exact Calls.regrown_of (HA.out _ _)))))
          refine wpQuiet_nil ?_
          rintro wq ⟨pq, hpq⟩
          have hbL := below_wq hpq; clear hpq
          go_wp2
          go_ret
          exact ⟨retI Hf.out, HbF.out.trans (hbL.mono HbF.out.size)⟩
        | true =>
          rw [hsp] at HA
          have Hf := hid_ (hy (by rw [hsp]; rfl))
          clear hhi hy hsp
          go_wp2_with fail
          refine wp_region_quiet_below (by kernel_rfl) (by kernel_rfl) ?_
          repeat (first | go_big_quiet_skip | (go_big_quiet_want; go_big_quiet_op; first | go_big_quiet_on | go_big_quiet_call ((go_at_call 74; with_reducible exact Calls.regrown_of (HA.out _ _)))))
          refine wpQuiet_nil ?_
          rintro wq ⟨pq, hpq⟩
          have hbL := below_wq hpq; clear hpq
          go_wp2
          go_roundw
          case rel => exact ⟨k + 1, by omega, by go_num, Hb.out.trans (hbL.mono Hb.out.size), Hf.out⟩
          case measure => simp [intOf]; omega
      · obtain rfl : n = k := by omega
        have Hf : Hid (errC P L = 0) := hid_ (by rw [HE2.out, HNo.out Hall.out]; rfl)
        clear hb hb1
        go_wp2
        go_ret
        exact ⟨retI Hf.out, HbF.out⟩
  · have Hf : Hid (errC P L = validP P) := hid_ (by rw [HE.out, if_neg hv])
    have hq : (validP P != 0) = true := by simpa using hv
    generalize validP P = x at *
    clear hv
    go_enter Try.func97, Try.ntmps97
    go_wp2_with (go_at_call 22; (with_reducible refine HV.out.mono ?_); rintro e w2 ⟨rfl, hb2⟩)
    go_ret
    exact ⟨retI Hf.out, Hc1.out.trans (hb2.mono Hc1.out.size)⟩
end Go.Proofs.Ytahknodnjjmagaa
