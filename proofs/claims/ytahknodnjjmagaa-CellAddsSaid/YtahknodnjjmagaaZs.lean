import Derived.Test.YtahknodnjjmagaaZq
import Derived.Test.YtahknodnjjmagaaZn
namespace Go.Proofs.Ytahknodnjjmagaa
open Go.RowKit Go.Proofs.Kv

/-! ### the entry that decides: the document's -/
def decI (P : Par) (L : List Int) : Int := match L.find? (goodB P L) with | some x => x | none => -1
def bestU (P : Par) (L : List Int) (i k : Nat) : Bool := (List.range k).all fun m => decide (m = i) || moreB (sp P (L.getD i 0).toNat) (sp P (L.getD m 0).toNat)
theorem bestU_succ (P : Par) (L : List Int) (i k : Nat) : bestU P L i (k + 1) = (bestU P L i k && (decide (k = i) || moreB (sp P (L.getD i 0).toNat) (sp P (L.getD k 0).toNat))) := by
  simp [bestU, List.range_succ]
theorem mat_asc (P : Par) (l : List Int) : (matL P l).Pairwise (· < ·) := by
  rw [matL, matK, List.pairwise_map]
  refine List.Pairwise.imp (fun h => ?_) (List.Pairwise.filter _ List.pairwise_lt_range)
  exact Int.ofNat_lt.2 h
theorem mat_inj {P : Par} {l : List Int} {i m : Nat} (hi : i < (matL P l).length) (hm : m < (matL P l).length) (h : ((matL P l).getD m 0).toNat = ((matL P l).getD i 0).toNat) : m = i := by
  obtain ⟨x, hx, -⟩ := mat_at hi
  obtain ⟨y, hy, -⟩ := mat_at hm
  have hp := List.pairwise_iff_getElem.1 (mat_asc P l)
  have e1 : (matL P l).getD i 0 = (matL P l)[i] := by simp [List.getD, List.getElem?_eq_getElem hi]
  have e2 : (matL P l).getD m 0 = (matL P l)[m] := by simp [List.getD, List.getElem?_eq_getElem hm]
  rcases Nat.lt_trichotomy m i with h1 | h1 | h1
  · have := hp m i hm hi h1; omega
  · exact h1
  · have := hp i m hi hm h1; omega
theorem bestU_all {P : Par} {l : List Int} {i : Nat} (hi : i < (matL P l).length) : bestU P (matL P l) i (matL P l).length = goodB P (matL P l) ((matL P l).getD i 0) := by
  rw [Bool.eq_iff_iff]
  simp only [bestU, goodB, List.all_eq_true, List.mem_range, Bool.not_eq_true', List.any_eq_false, stopB, Bool.or_eq_true, decide_eq_true_eq, Bool.and_eq_true, decide_eq_false_iff_not, not_and, Bool.not_eq_false]
  constructor
  · intro h y hy hne
    obtain ⟨m, hm, rfl⟩ := List.mem_iff_getElem.1 hy
    have e2 : (matL P l).getD m 0 = (matL P l)[m] := by simp [List.getD, List.getElem?_eq_getElem hm]
    rw [← e2] at hne ⊢
    rcases h m hm with h1 | h1
    · subst h1; exact absurd rfl hne
    · exact h1
  · intro h m hm
    by_cases e : m = i
    · exact .inl e
    · have e2 : (matL P l).getD m 0 = (matL P l)[m] := by simp [List.getD, List.getElem?_eq_getElem hm]
      exact .inr (h ((matL P l).getD m 0) (by rw [e2]; exact List.getElem_mem hm) fun hh => e (mat_inj hi hm hh))
set_option maxRecDepth 100000 in
set_option maxHeartbeats 8000000 in
theorem r6decides_calls (v : Value) (P : Par) (a : Option Addr) (n c : Nat) (l : List Int) (w : World) (h : ParAt w v P) (hl : IntsAt w a n c l) (hv : validP P = 0) (hs : P.sizes.length = n) :
    Calls Try.prog 80 #[v, .slice a n c] w fun e w' => e = .returned (.int .i64 (decI P (matL P l))) ∧ Below w.heap.size w w' := by
  have HP := hid_ h
  obtain ⟨a1, n1, c1, a2, n2, c2, rfl, h1, h2⟩ := h
  obtain ⟨w1, hw1⟩ : ∃ w1, w.alloc (.cells #[.slice a1 n1 c1, .slice a2 n2 c2] 25) = w1 := ⟨_, rfl⟩
  have cb : Below w.heap.size w w1 := by rw [← hw1]; exact below_alloc _ _
  have q0 : w1.cell? ⟨w.heap.size, 0, none⟩ = some (.slice a1 n1 c1) := by rw [← hw1]; exact cells_alloc _ _ _ 0
  have q1 : w1.cell? ⟨w.heap.size, 1, none⟩ = some (.slice a2 n2 c2) := by rw [← hw1]; exact cells_alloc _ _ _ 1
  have HP1 := hid_ (HP.out.below cb (Nat.le_refl _)); have Hc1 := hid_ cb
  have HM := hid_ (r6matches_calls _ P a n c l w1 HP1.out (hl.below cb (Nat.le_refl _)) hv hs)
  have HD : Hid (∀ L, decI P L = match L.find? (goodB P L) with | some x => x | none => -1) := hid_ (fun L => rfl)
  have HA := hid_ (fun k (hk : k < (matL P l).length) => @mat_at P l k hk)
  have HU := hid_ (fun i (hi : i < (matL P l).length) => @bestU_all P l i hi)
  have hle : (matL P l).length ≤ 10 := Nat.le_trans (matK_le P l _) (validP_ok hv).2.2.1
  have Hv := hid_ hv
  clear h1 h2 hl cb hv hs
  generalize matL P l = L at *
  go_enter Try.func80, Try.ntmps80
  go_wp2_with (go_at_call 78; (with_reducible refine HM.out.mono ?_); rintro e w2 ⟨v2, rfl, hm⟩; obtain ⟨a5, c5, rfl, hi5⟩ := hm.at_; have q0b := cell_below q0 hm.bel; have q1b := cell_below q1 hm.bel)
  have HL := hid_ hi5; have Hb := hid_ hm.bel
  clear hi5 hm q0 q1
  go_loopw [6] (fun i wr => ∃ k : Nat, k ≤ L.length ∧ i = .int .i64 k ∧ Below w2.heap.size w2 wr ∧ ∀ j, j < k → goodB P L (L.getD j 0) = false) (fun i _ => L.length - (intOf i).toNat)
  case atStart => exact ⟨0, Nat.zero_le _, rfl, Below.refl _ _, fun _ h => absurd h (by omega)⟩
  case round =>
    obtain ⟨k, hk, rfl, hb, hall⟩ := hrel
    have Hall := hid_ hall
    have Hbk := hid_ hb
    clear hall
    by_cases hlt : k < L.length
    · have hhit := hid_ (fun hh => @find_hit L (goodB P L) k hlt Hall.out hh)
      have hy := hid_ (fun hx => lt_snoc (p := fun j => goodB P L (L.getD j 0) = false) Hall.out hx)
      have HUk := hid_ (HU.out k hlt)
      obtain ⟨x, hx, hxl⟩ := HA.out k hlt
      have hc0 := (HL.out.below hb (Nat.le_refl _)).cells k hlt
      rw [hx] at hc0
      have Hx := hid_ hx
      clear hb hx
      go_wp2
      obtain ⟨wm, rfl⟩ : ∃ wm : World, wm = wr := ⟨_, rfl⟩
      go_loopw [7, 8] (fun b i wr => ∃ m : Nat, m ≤ L.length ∧ i = .int .i64 m ∧ b = .bool (bestU P L k m) ∧ Below w2.heap.size w2 wr) (fun _ i _ => L.length - (intOf i).toNat)
      case atStart => exact ⟨0, Nat.zero_le _, rfl, rfl, Hbk.out⟩
      case round =>
        obtain ⟨m, hm, rfl, rfl, hb2⟩ := hrel
        have Hb2 := hid_ hb2
        by_cases hlm : m < L.length
        · have HS := hid_ (bestU_succ P L k m)
          obtain ⟨y, hy2, hyl⟩ := HA.out m hlm
          obtain ⟨b, off, hae, -, hc2⟩ := (HL.out.below hb2 (Nat.le_refl _)).cells m hlm
          obtain ⟨b', off', hae', -, hc1⟩ := (HL.out.below hb2 (Nat.le_refl _)).cells k hlt
          rw [hae] at hae'
          injection hae' with hae'
          injection hae' with e1 e2
          subst e1 e2 hae
          rw [Hx.out] at hc1
          rw [hy2] at hc2
          have q0r := cell_below q0b hb2; have q1r := cell_below q1b hb2
          have HC := hid_ (fun d os => r6isMore_calls _ P x y (Go.Sort.grow (redrawn wr d) os) (HP1.out.below ((Hb.out.trans (hb2.mono Hb.out.size)).trans ((below_regrown wr d os).mono (Hb.out.trans (hb2.mono Hb.out.size)).size)) (Nat.le_refl _)) Hv.out hxl hyl)
          rw [Hx.out, hy2, Int.toNat_natCast, Int.toNat_natCast] at HS
          have g0 := cell_regrown q0r; have g1 := cell_regrown q1r; have g2 := cell_regrown hc1; have g3 := cell_regrown hc2
          have hkl : (k : Int) < (L.length : Int) := by omega
          have hml : (m : Int) < (L.length : Int) := by omega
          clear hb2 hy2 hxl hyl hc0
          generalize bestU P L k m = z at *
          generalize moreB (sp P x) (sp P y) = mo at *
          cases z with
          | false =>
            have Hn : Hid (bestU P L k (m + 1) = false) := hid_ (by rw [HS.out]; rfl)
            go_wp2_with fail
            refine wp_region_quiet_below (by kernel_rfl) (by kernel_rfl) ?_
            repeat (first | go_big_quiet_skip | (go_big_quiet_want; go_big_quiet_op; first | go_big_quiet_on | go_big_quiet_call (fail)))
            refine wpQuiet_nil ?_
            rintro wq ⟨pq, hpq⟩
            have hbq := below_wq hpq; clear hpq
            go_wp2
            go_roundw
            case rel => exact ⟨m + 1, by omega, by go_num, by rw [Hn.out], Hb2.out.trans (hbq.mono Hb2.out.size)⟩
            case measure => simp [intOf]; omega
          | true =>
            by_cases hmk : m = k
            · have Hn : Hid (bestU P L k (m + 1) = true) := hid_ (by rw [HS.out, decide_eq_true hmk]; rfl)
              subst hmk
              go_wp2_with fail
              refine wp_region_quiet_below (by kernel_rfl) (by kernel_rfl) ?_
              repeat (first | go_big_quiet_skip | (go_big_quiet_want; go_big_quiet_op; first | go_big_quiet_on | go_big_quiet_call (fail)))
              refine wpQuiet_nil ?_
              rintro wq ⟨pq, hpq⟩
              have hbq := below_wq hpq; clear hpq
              go_wp2
              go_roundw
              case rel => exact ⟨m + 1, by omega, by go_num, by rw [Hn.out], Hb2.out.trans (hbq.mono Hb2.out.size)⟩
              case measure => simp [intOf]; omega
            · have Hn : Hid (bestU P L k (m + 1) = mo) := hid_ (by rw [HS.out, decide_eq_false hmk]; rfl)
              have hmk' : ((m : Int) == (k : Int)) = false := by simpa using (show ¬ (m : Int) = k by omega)
              clear hmk
              go_wp2_with fail
              refine wp_region_quiet_below (by kernel_rfl) (by kernel_rfl) ?_
              repeat (first | go_big_quiet_skip | (go_big_quiet_want; go_big_quiet_op; first | go_big_quiet_on | go_big_quiet_call ((go_at_call 85; with_reducible exact Calls.regrown_of (HC.out _ _)))))
              refine wpQuiet_nil ?_
              rintro wq ⟨pq, hpq⟩
              have hbq := below_wq hpq; clear hpq
              go_wp2
              go_roundw
              case rel => exact ⟨m + 1, by omega, by go_num, by rw [Hn.out], Hb2.out.trans (hbq.mono Hb2.out.size)⟩
              case measure => simp [intOf]; omega
        · obtain rfl : L.length = m := by omega
          rw [HUk.out]
          have Hg := hid_ (fun (hh : goodB P L (L.getD k 0) = true) => hhit.out hh)
          obtain ⟨b, off, rfl, -, hc1⟩ := (HL.out.below hb2 (Nat.le_refl _)).cells k hlt
          rw [Hx.out] at hc1
          generalize hz : goodB P L (L.getD k 0) = z at *
          cases z with
          | true =>
            have Hf : Hid (decI P L = (x : Int)) := hid_ (by rw [HD.out, hhit.out rfl, Hx.out])
            go_wp2
            go_ret
            exact ⟨retI Hf.out, Hc1.out.trans ((Hb.out.trans (hb2.mono Hb.out.size)).mono Hc1.out.size)⟩
          | false =>
            have Hn := hid_ (hy.out rfl)
            go_wp2
            go_roundw
            case rel => exact ⟨k + 1, by omega, by go_num, Hb2.out, Hn.out⟩
            case measure => simp [intOf]; omega
    · obtain rfl : L.length = k := by omega
      have Hf : Hid (decI P L = -1) := hid_ (by rw [HD.out, find_no Hall.out])
      go_wp2
      go_ret
      exact ⟨retI Hf.out, Hc1.out.trans ((Hb.out.trans (hb.mono Hb.out.size)).mono Hc1.out.size)⟩
end Go.Proofs.Ytahknodnjjmagaa
