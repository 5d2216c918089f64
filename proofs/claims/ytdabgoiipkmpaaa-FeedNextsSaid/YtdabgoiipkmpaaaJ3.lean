import Derived.Test.YtdabgoiipkmpaaaJ2
namespace Go.Proofs.Ytdabgoiipkmpaaa
open Go.RowKit Go.Proofs.Kv

theorem mvR_app (k : Nat) (R : Rl) (l P Q : List Int) : mvR k R l (P ++ Q) = mvR k R l P ++ mvR k R l Q := by rw [mvR, List.filterMap_append]; rfl
theorem mvR_step {k : Nat} {R : Rl} {l : List Int} (h : err2 R l = 0) (i : Nat) : mvR k R l (pl (plB R.f R.le R.ri l) (i + 1)) = if errApply R l i = 0 then mvR k R l (pl (plB R.f R.le R.ri l) i) ++ [(((k : Int), (i : Int)), resApply R l i)] else mvR k R l (pl (plB R.f R.le R.ri l) i) := by
  rw [errApply, resApply, if_pos h, if_pos h, apE, apV]
  cases hp : plB R.f R.le R.ri l (i : Int) with
  | false =>
    rw [pl_miss hp]; simp
  | true =>
    rw [pl_hit hp, mvR_app]
    simp only [if_true]
    by_cases he : putErr R [(i : Int)] l = 0
    · rw [if_pos he]; simp [mvR, he]
    · rw [if_neg he]; simp [mvR, he]
theorem mvR_pl_le (k : Nat) (R : Rl) (l : List Int) (i : Nat) : (mvR k R l (pl (plB R.f R.le R.ri l) i)).length ≤ i := Nat.le_trans (mvR_le _ _ _ _) (pl_le _ _)
set_option maxRecDepth 100000 in
set_option maxHeartbeats 8000000 in
theorem r3steps_calls (A : Option Addr) (N C : Nat) (L : List Rl) (a : Option Addr) (n c : Nat) (l : List Int) (w : World) (h : RulesAt w A N C L) (hI : IntsAt w a n c l) (hL : ∀ R ∈ L, validR R = 0) (hN : N ≤ 6) (hl : validW l = 0) :
    Calls Try.prog 57 #[.slice A N C, .slice a n c] w fun e w' => ∃ v1 v2, e = .returned (.tuple #[v1, v2]) ∧ w'.ownsRow w.heap.size 74 2 v1 (movesL L l).length (((movesL L l).map (·.1)).flatMap encN) ∧ OwnT w' w.heap.size v2 ((movesL L l).map (·.2)) ∧ Below w.heap.size w w' := by
  have hn8 : n ≤ 8 := by rw [← hI.len]; exact (validW_ok hl).1
  have HE : Hid (mvTo L l N = movesL L l) := hid_ (by rw [movesL, h.len])
  have HS := hid_ (fun k => mvTo_snoc L l k)
  have HZ : Hid (mvTo L l 0 = []) := hid_ rfl
  have Hle := hid_ (fun k => mvTo_le L (validW_ok hl).1 k)
  have HV : Hid (∀ k, k < N → err2 (L.getD k R0) l = 0) := hid_ (fun k hk => by rw [err2, getD_R0_valid hL (by rw [h.len]; exact hk), if_pos rfl, hl])
  have HPl : Hid (∀ R, pl (plB R.f R.le R.ri l) (n + 1) = plP R l) := hid_ (fun R => by rw [plP, hI.len])
  obtain ⟨i0, hi0, hz0, hz1, hz2⟩ := info_parts Try.infoStep
  clear hL hl
  go_enter Try.func57, Try.ntmps57
  go_wp2
  go_loopw [6, 7, 8] (fun v1 v2 i wr => ∃ k : Nat, k ≤ N ∧ i = .int .i64 k ∧ wr.ownsRow w.heap.size 74 2 v1 (mvTo L l k).length (((mvTo L l k).map (·.1)).flatMap encN) ∧ OwnT wr w.heap.size v2 ((mvTo L l k).map (·.2)) ∧ Below w.heap.size w wr) (fun _ _ i _ => N - (intOf i).toNat)
  case atStart => exact ⟨0, Nat.zero_le _, rfl, by rw [HZ.out]; exact World.ownsRow_nil _ _ _ _, by rw [HZ.out]; exact OwnT.nil _ _, Below.refl _ _⟩
  case round =>
    obtain ⟨k, hk, rfl, hO, hT, hb⟩ := hrel
    by_cases hlt : k < N
    · obtain ⟨b, off, a1, n1, c1, a2, n2, c2, a3, n3, c3, rfl, hbl, j0, j1, j2, j3, hr⟩ := h.at_ hlt
      have hv := HV.out k hlt
      have hs := HS.out k
      have hle0 := Hle.out k
      change w.cell? _ = some (.int .i64 (L.getD k R0).f) at j0
      change RuleAt w (.agg #[.int .i64 (L.getD k R0).f, _, _, _]) (L.getD k R0) at hr
      generalize L.getD k R0 = R at *
      have hst := fun i => mvR_step (k := k) hv i
      have hpl := HPl.out R
      have hz : mvR k R l (pl (plB R.f R.le R.ri l) 0) = [] := rfl
      have hml := fun i => mvR_pl_le k R l i
      have HA := hid_ (fun W (hW : Below w.heap.size w W) (i : Nat) => refApply_calls _ R a n c l i W (hr.below hW (Nat.le_refl _)) (hI.below hW (Nat.le_refl _)))
      generalize hT0 : mvTo L l k = T at *
      have Hst := hid_ hst; have Hz := hid_ hz; have Hml := hid_ hml; have Hle0 := hid_ hle0
      have HO := hid_ hO; have HT := hid_ hT; have Hb := hid_ hb
      have Hfull : Hid (mvTo L l (k + 1) = T ++ mvR k R l (pl (plB R.f R.le R.ri l) (n + 1))) := hid_ (by rw [hs, hpl])
      have HJ := hid_ (fun W (hW : Below w.heap.size w W) => show W.cell? ⟨b, off + k * 4, none⟩ = _ ∧ W.cell? ⟨b, off + k * 4 + 1, none⟩ = _ ∧ W.cell? ⟨b, off + k * 4 + 2, none⟩ = _ ∧ W.cell? ⟨b, off + k * 4 + 3, none⟩ = _ from ⟨cell_below j0 hW, cell_below j1 hW, cell_below j2 hW, cell_below j3 hW⟩)
      clear hst hz hml hle0 hO hT hb hs hpl hv hT0 hr j0 j1 j2 j3
      go_wp2
      go_loopw [6, 7, 9] (fun v1 v2 i wr => ∃ (j : Nat) (M : List Mv), j ≤ n + 1 ∧ i = .int .i64 j ∧ M = T ++ mvR k R l (pl (plB R.f R.le R.ri l) j) ∧ wr.ownsRow w.heap.size 74 2 v1 M.length ((M.map (·.1)).flatMap encN) ∧ OwnT wr w.heap.size v2 (M.map (·.2)) ∧ Below w.heap.size w wr) (fun _ _ i _ => n + 1 - (intOf i).toNat)
      case atStart => exact ⟨0, T, by omega, rfl, by rw [Hz.out, List.append_nil], HO.out, HT.out, Hb.out⟩
      case round =>
        obtain ⟨j, M, hj, rfl, hM, hOi, hTi, hbi⟩ := hrel
        by_cases hlt2 : j ≤ n
        · have hji : (j : Int) ≤ (n : Int) := by omega
          have HA2 := hid_ (HA.out wr hbi j)
          have hst := Hst.out j
          obtain ⟨k0, k1, k2, k3⟩ := HJ.out wr hbi
          have hM1 : M.length ≤ 1000 := by rw [hM, List.length_append]; have := Hml.out j; have := Hle0.out; omega
          have HM1 := hid_ hM1
          have HM2 : Hid (M.length + 1 ≤ 1000000) := hid_ (by omega)
          have HM3 : Hid ((M.map (·.2)).length ≤ 1000) := hid_ (by rw [List.length_map]; exact hM1)
          have HM := hid_ hM
          have HOi := hid_ hOi; have HTi := hid_ hTi; have Hbi := hid_ hbi
          generalize resApply R l (j : Int) = rv at *
          generalize R.f = f at *
          by_cases hae : errApply R l (j : Int) = 0
          · rw [if_pos hae] at hst
            have Hst2 := hid_ hst
            rw [hae] at HA2
            clear hst hae hM hM1 hOi hTi hbi
            go_wp2_with (first
              | (go_at_call 72; (with_reducible refine HA2.out.mono ?_); rintro e w5 ⟨v5, rfl, hm5⟩; have hw5 := hid_ (Made.wordT hm5); have hb5 := hm5.bel; have hB5 := hid_ (Nat.le_trans Hbi.out.size hb5.size); have hO5 := hid_ (own_grown HOi.out hb5); have hT5 := hid_ (HTi.out.next hb5); obtain ⟨a5, c5, rfl, hi5⟩ := hm5.at_)
              | (at_builtin; refine wpList_append_pair w5 rfl (.tmp 36) (.tmp 40) _ rfl w.heap.size 74 i0 Try.underlying27 hi0 hz0 hz1 hz2 u6 M.length (M.map (·.1)) rfl hO5.out (k : Int) (j : Int) _ rfl HM2.out hB5.out ?_; intro v6 w6 hO6 hg6; have hc56 := below_alloc w5 (.cells #[.int .i64 (k : Int), .int .i64 (j : Int)] 74); have hT6 := hid_ ((hT5.out.next hc56).beside (own_grown hO5.out hc56) hg6); have hb56 := hid_ (below_app (Below.refl w.heap.size w5) hB5.out hO5.out hg6); have hw6 := hid_ ((hw5.out.next hc56).beside (own_grown hO5.out hc56) hg6); have hO6' := hid_ hO6; have hB6 := hid_ (Nat.le_trans hB5.out hb56.out.size); clear hO6 hg6 hc56)
              | (at_builtin; refine wpList_push_word rfl (.tmp 42) (.tmp 44) rfl w.heap.size u7 (M.map (·.2)) rfl hT6.out hB6.out hw6.out _ rfl HM3.out hO6'.out ?_; intro v7 w7 hT7 hO7 hb7))
            go_roundw
            case rel => exact ⟨j + 1, M ++ [(((k : Int), (j : Int)), rv)], by omega, by go_num, by rw [Hst2.out, HM.out, List.append_assoc], by rw [List.length_append, List.map_append]; exact hO7, by rw [List.map_append]; exact hT7, Hbi.out.trans ((hb5.mono Hbi.out.size).trans (hb56.out.trans hb7))⟩
            case measure => simp [intOf]; omega
          · rw [if_neg hae] at hst
            have Hst2 := hid_ hst
            have hq : (errApply R l (j : Int) == 0) = false := by simpa using hae
            generalize errApply R l (j : Int) = ea at *
            clear hst hae hM hM1 hOi hTi hbi
            go_wp2_with (go_at_call 72; (with_reducible refine HA2.out.mono ?_); rintro e w5 ⟨v5, rfl, hm5⟩)
            go_roundw
            case rel => exact ⟨j + 1, M, by omega, by go_num, by rw [Hst2.out]; exact HM.out, own_grown HOi.out hm5.bel, HTi.out.next hm5.bel, Hbi.out.trans (hm5.bel.mono Hbi.out.size)⟩
            case measure => simp [intOf]; omega
        · obtain rfl : j = n + 1 := by omega
          have hni : ¬ ((n + 1 : Nat) : Int) ≤ (n : Int) := by omega
          have hM' : M = mvTo L l (k + 1) := by rw [hM, Hfull.out]
          subst hM'
          have HO2 := hid_ hOi; have HT2 := hid_ hTi
          clear hM hOi hTi
          go_wp2
          go_roundw
          case rel => exact ⟨k + 1, by omega, by go_num, HO2.out, HT2.out, hbi⟩
          case measure => simp [intOf]; omega
    · obtain rfl : N = k := by omega
      rw [HE.out] at hO hT
      have HO := hid_ hO; have HT := hid_ hT
      clear hO hT
      go_wp2
      go_ret2
      exact ⟨_, _, rfl, HO.out, HT.out, hb⟩
end Go.Proofs.Ytdabgoiipkmpaaa
