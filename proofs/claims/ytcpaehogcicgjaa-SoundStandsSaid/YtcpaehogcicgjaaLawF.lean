import Derived.Test.YtcpaehogcicgjaaRefO
import Derived.Test.YtcpaehogcicgjaaLawB
namespace Go.Proofs.Ytcpaehogcicgjaa
open Go.RowKit Go.Proofs.Kv Go.Proofs.Snd

theorem getD_pair {l : List Int} {k : Nat} (hp : l.Pairwise (· < ·)) (h0 : 0 < k) (hk : k < l.length) : l.getD (k - 1) 0 < l.getD k 0 := by
  have := List.pairwise_iff_getElem.1 hp (k - 1) k (by omega) hk (by omega)
  simpa [List.getD, List.getElem?_eq_getElem hk, List.getElem?_eq_getElem (show k - 1 < l.length by omega)] using this
theorem sorted_set (l : List Int) : IsSet (Go.Proofs.Snd.sorted l) 0 5 = true := by
  refine IsSet_yes rfl fun j hj => ?_
  have hm := Go.Proofs.Snd.mem_sorted.1 (getD_mem hj)
  unfold setBad Within
  by_cases h0 : 0 < j
  · have hlt := getD_pair (sorted_pairwise l) h0 hj
    generalize (Go.Proofs.Snd.sorted l).getD j 0 = u at hm hlt ⊢
    generalize (Go.Proofs.Snd.sorted l).getD (j - 1) 0 = v at hlt ⊢
    simp [hm.2.1, hm.2.2, h0, hlt]
  · generalize (Go.Proofs.Snd.sorted l).getD j 0 = u at hm ⊢
    simp [hm.2.1, hm.2.2, h0]
theorem filter_one {α : Type} {q : α → Bool} {x : α} : ∀ {l : List α}, l.Nodup → x ∈ l → q x = true → (∀ y ∈ l, q y = true → y = x) → l.filter q = [x]
  | [], _, h, _, _ => by simp at h
  | z :: l, hn, h, hx, hu => by
    obtain ⟨h1, h2⟩ := List.nodup_cons.1 hn
    by_cases hz : z = x
    · subst hz
      rw [List.filter_cons_of_pos hx]
      congr 1
      rw [List.filter_eq_nil_iff]
      intro y hy hq
      exact h1 (hu y (by simp [hy]) hq ▸ hy)
    · have hq : ¬ q z = true := fun hq => hz (hu z (by simp) hq)
      rw [List.filter_cons_of_neg hq]
      refine filter_one h2 ?_ hx fun y hy => hu y (by simp [hy])
      rcases List.mem_cons.1 h with e | e
      · exact absurd e.symm hz
      · exact e
theorem stand_named {L : List (List Int)} {x y : Int} (h : standErr L x y = 0) : namedErr L (standRes L x y) = 0 ∧ namedRes L (standRes L x y) = [(x, y)] := by
  have hv : validT L = 0 := by
    by_cases hv : validT L = 0
    · exact hv
    · rw [standErr, if_neg hv] at h; exact absurd h hv
  have hg := good_of hv
  have hr : standRes L x y = standL L x y := if_pos h
  have he : namedErr L (standL L x y) = 0 := by rw [namedErr, if_pos hv, standL, sorted_set]; rfl
  rw [hr]
  refine ⟨he, ?_⟩
  rw [namedRes, if_pos he, namedL]
  rw [standErr, if_pos hv] at h
  by_cases hn : rowTo L x < 0
  · rw [if_pos hn] at h; cases h
  rw [if_neg hn] at h
  obtain ⟨i, hri, hil, hxi⟩ := rowTo_has (show 0 ≤ rowTo L x by omega)
  have hw : Within y (rowTo L x) ((L.length : Int) - 1) = true := by
    cases hw : Within y (rowTo L x) ((L.length : Int) - 1) with
    | true => rfl
    | false => rw [hw] at h; cases h
  rw [hri] at hw
  simp [Within] at hw
  obtain ⟨y', rfl⟩ := Int.eq_ofNat_of_zero_le (show 0 ≤ y by omega)
  have hm : (x, (y' : Int)) ∈ namesR L := (mem_namesR hg).2 (mem_rkTo.2 ⟨i, hil, x, hxi, y', by omega, by omega, rfl⟩)
  refine filter_one (nodup_namesR L) hm (decide_eq_true rfl) fun p hp hq => ?_
  exact stand_inj hg hp hm (of_decide_eq_true hq)

/-! ### SoundNamed -/
set_option maxRecDepth 100000 in
theorem soundNamed_calls (a : Option Addr) (n c : Nat) (L : List (List Int)) (a' : Option Addr) (n' c' : Nat) (s : List Int) (w : World) (h : ListsAt w a n c L) (h' : IntsAt w a' n' c' s) :
    Calls Try.prog 6 #[.slice a n c, .slice a' n' c'] w fun e w' => e = .returned (.bool true) ∧ Below w.heap.size w w' := by
  have HLong0 := hid_ (long_calls a n c L w h)
  have Hlarge1 := hid_ (large_calls a' n' c' s w h')
  have Hk := hid_ known_calls
  cases hbig0 : bigL L with
  | true =>
    rw [hbig0] at HLong0
    have HLong0' := hid_ HLong0
    clear hbig0 HLong0
    go_enter Try.func6, Try.ntmps6
    go_wp2_with (first
      | (go_at_call 16; refine HLong0'.out.out.mono ?_; rintro e w1 ⟨rfl, rfl⟩)
      | (go_at_call 17; refine (Hk.out _).mono ?_; rintro e w2 ⟨rfl, hb2⟩))
    go_ret
    exact ⟨rfl, hb2⟩
  | false =>
    cases hbig1 : bigOne s with
    | true =>
      rw [hbig0] at HLong0
      have HLong0' := hid_ HLong0
      rw [hbig1] at Hlarge1
      have Hlarge1' := hid_ Hlarge1
      clear hbig0 HLong0 hbig1 Hlarge1
      go_enter Try.func6, Try.ntmps6
      go_wp2_with (first
        | (go_at_call 16; refine HLong0'.out.out.mono ?_; rintro e w1 ⟨rfl, rfl⟩)
        | (go_at_call 34; refine Hlarge1'.out.out.mono ?_; rintro e w1 ⟨rfl, rfl⟩)
        | (go_at_call 17; refine (Hk.out _).mono ?_; rintro e w2 ⟨rfl, hb2⟩))
      go_ret
      exact ⟨rfl, hb2⟩
    | false =>
      rw [hbig0] at HLong0
      have HLong0' := hid_ HLong0
      rw [hbig1] at Hlarge1
      have Hlarge1' := hid_ Hlarge1
      have hs := bigL_flat hbig0
      clear hbig0 HLong0 hbig1 Hlarge1
      have Hsn : Hid (SameN (namedRes L s) (namedRes L s) = true) := hid_ (decide_eq_true rfl)
      go_enter Try.func6, Try.ntmps6
      have G1 := hid_ (sndNamed_calls a n c L a' n' c' s w h h')
      go_wp2_with (first
          | (go_at_call 16; refine HLong0'.out.out.mono ?_; rintro e w1 ⟨rfl, rfl⟩)
          | (go_at_call 34; refine Hlarge1'.out.out.mono ?_; rintro e w1 ⟨rfl, rfl⟩)
          | fail)
      refine G1.out.mono ?_
      rintro e w1 ⟨v1, rfl, hm1⟩
      have hb1 := hm1.bel
      obtain ⟨a1, c1, rfl, hI1⟩ := hm1.at_
      clear hm1
      have hB1 := hb1
      have h_1 := h.below hb1 (Nat.le_refl _)
      have h2_1 := h'.below hb1 (Nat.le_refl _)
      clear h h' G1 hb1
      have G2 := hid_ (refNamed_calls a n c L a' n' c' s w1 h_1 h2_1 hs)
      go_wp2_with fail
      refine G2.out.mono ?_
      rintro e w2 ⟨v2, rfl, hm2⟩
      have hb2 := hm2.bel
      obtain ⟨a2, c2, rfl, hI2⟩ := hm2.at_
      clear hm2
      have hB2 := below_then hB1 hb2
      have h_2 := h_1.below hb2 (Nat.le_refl _)
      have h2_2 := h2_1.below hb2 (Nat.le_refl _)
      have n1_2 := hI1.below hb2 (Nat.le_refl _)
      clear hB1 h_1 h2_1 hI1 G2 hb2
      generalize namedErr L s = er
      have G3 := hid_ (show Calls Try.prog 28 _ w2 fun e w' => e = .returned (.bool true) ∧ ∃ q, w' = w2.drewN q from by rw [← Hsn.out]; exact sameN_calls _ _ _ _ _ _ _ _ w2 n1_2 hI2)
      go_wp2_with fail
      refine G3.out.mono ?_
      rintro e w3 ⟨rfl, q3, hq3⟩
      have hb3 : Below w2.heap.size w2 w3 := by rw [hq3]; exact below_drewN (Below.refl _ _) _
      clear hq3
      have hB3 := below_then hB2 hb3
      have h_3 := h_2.below hb3 (Nat.le_refl _)
      have h2_3 := h2_2.below hb3 (Nat.le_refl _)
      have n1_3 := n1_2.below hb3 (Nat.le_refl _)
      have n2_3 := hI2.below hb3 (Nat.le_refl _)
      clear hB2 h_2 h2_2 n1_2 hI2 G3 hb3
      have G4 := hid_ (Hk.out w3)
      go_wp2_with fail
      refine G4.out.mono ?_
      rintro e w4 ⟨rfl, hb4⟩
      have hB4 := below_then hB3 hb4
      have h_4 := h_3.below hb4 (Nat.le_refl _)
      have h2_4 := h2_3.below hb4 (Nat.le_refl _)
      have n1_4 := n1_3.below hb4 (Nat.le_refl _)
      have n2_4 := n2_3.below hb4 (Nat.le_refl _)
      clear hB3 h_3 h2_3 n1_3 n2_3 G4 hb4
      go_wp2
      go_ret
      exact ⟨rfl, hB4⟩

/-! ### SoundStands -/
set_option maxRecDepth 100000 in
theorem soundStands_calls (a : Option Addr) (n c : Nat) (L : List (List Int)) (x y : Int) (w : World) (h : ListsAt w a n c L) :
    Calls Try.prog 4 #[.slice a n c, .agg #[.int .i64 x, .int .i64 y]] w fun e w' => e = .returned (.bool true) ∧ Below w.heap.size w w' := by
  obtain ⟨w0, hw0⟩ : ∃ w0, w.alloc (.cells #[.int .i64 x, .int .i64 y] 35) = w0 := ⟨_, rfl⟩
  have hB0 : Below w.heap.size w w0 := by rw [← hw0]; exact (Below.refl _ w).alloc (Nat.le_refl _) _
  have k0 : w0.cell? ⟨w.heap.size, 0, none⟩ = some (.int .i64 x) := by rw [← hw0, World.cell?_alloc_at _ _ _ _ rfl]; rfl
  have k1 : w0.cell? ⟨w.heap.size, 1, none⟩ = some (.int .i64 y) := by rw [← hw0, World.cell?_alloc_at _ _ _ _ rfl]; rfl
  have h0 := h.below hB0 (Nat.le_refl _)
  clear h
  have HLong0 := hid_ (long_calls a n c L w0 h0)
  have Hk := hid_ known_calls
  cases hbig0 : bigL L with
  | true =>
    rw [hbig0] at HLong0
    have HLong0' := hid_ HLong0
    clear hbig0 HLong0
    go_enter Try.func4, Try.ntmps4
    go_wp2_with (first
      | (go_at_call 16; refine HLong0'.out.out.mono ?_; rintro e w1 ⟨rfl, rfl⟩)
      | (go_at_call 17; refine (Hk.out _).mono ?_; rintro e w2 ⟨rfl, hb2⟩))
    go_ret
    exact ⟨rfl, below_then hB0 hb2⟩
  | false =>
    rw [hbig0] at HLong0
    have HLong0' := hid_ HLong0
    have hs := bigL_flat hbig0
    clear hbig0 HLong0
    have Hsi : Hid (Same (standRes L x y) (standRes L x y) = true) := hid_ (decide_eq_true rfl)
    have Hsn : Hid (SameN [(x, y)] [(x, y)] = true) := hid_ (decide_eq_true rfl)
    by_cases he : standErr L x y = 0
    ·
      have H1 := hid_ (fun W h => sndStandX_calls a n c L x y W h hs)
      have H2 := hid_ (fun W h => refStand_calls a n c L x y W h hs)
      rw [he] at H1 H2
      have Hn := hid_ (stand_named he)
      have H1' := hid_ H1.out
      have H2' := hid_ H2.out
      clear H1 H2 he
      go_enter Try.func4, Try.ntmps4
      have G1 := hid_ (H1'.out w0 h0)
      go_wp2_with (first
          | (go_at_call 16; refine HLong0'.out.out.mono ?_; rintro e w1 ⟨rfl, rfl⟩)
          | fail)
      refine G1.out.mono ?_
      rintro e w1 ⟨v1, rfl, hm1⟩
      have hb1 := hm1.bel
      obtain ⟨a1, c1, rfl, hI1⟩ := hm1.at_
      clear hm1
      have hB1 := below_then hB0 hb1
      have h_1 := h0.below hb1 (Nat.le_refl _)
      have k0_1 := cell_below k0 hb1
      have k1_1 := cell_below k1 hb1
      clear hB0 h0 k0 k1 G1 hb1
      clear hw0
      have G2 := hid_ (H2'.out w1 h_1)
      go_wp2_with fail
      refine G2.out.mono ?_
      rintro e w2 ⟨v2, rfl, hm2⟩
      have hb2 := hm2.bel
      obtain ⟨a2, c2, rfl, hI2⟩ := hm2.at_
      clear hm2
      have hB2 := below_then hB1 hb2
      have h_2 := h_1.below hb2 (Nat.le_refl _)
      have k0_2 := cell_below k0_1 hb2
      have k1_2 := cell_below k1_1 hb2
      have s1_2 := hI1.below hb2 (Nat.le_refl _)
      clear hB1 h_1 k0_1 k1_1 hI1 G2 hb2
      have G3 := hid_ (show Calls Try.prog 24 _ w2 fun e w' => e = .returned (.bool true) ∧ ∃ q, w' = w2.drewN q from by rw [← Hsi.out]; exact same_calls _ _ _ _ _ _ _ _ w2 s1_2 hI2)
      go_wp2_with fail
      refine G3.out.mono ?_
      rintro e w3 ⟨rfl, q3, hq3⟩
      have hb3 : Below w2.heap.size w2 w3 := by rw [hq3]; exact below_drewN (Below.refl _ _) _
      clear hq3
      have hB3 := below_then hB2 hb3
      have h_3 := h_2.below hb3 (Nat.le_refl _)
      have k0_3 := cell_below k0_2 hb3
      have k1_3 := cell_below k1_2 hb3
      have s1_3 := s1_2.below hb3 (Nat.le_refl _)
      have s2_3 := hI2.below hb3 (Nat.le_refl _)
      clear hB2 h_2 k0_2 k1_2 s1_2 hI2 G3 hb3
      have G4 := hid_ (show Calls Try.prog 27 _ w3 fun e w' => ∃ v, e = .returned (.tuple #[v, .int .i64 0]) ∧ MadeP 35 w3 w' v [(x, y)] from by rw [← Hn.out.2]; have := sndNamed_calls a n c L _ _ _ (standRes L x y) w3 h_3 s1_3; rwa [Hn.out.1] at this)
      go_wp2_with fail
      refine G4.out.mono ?_
      rintro e w4 ⟨v4, rfl, hm4⟩
      have hb4 := hm4.bel
      obtain ⟨a4, c4, rfl, hI4⟩ := hm4.at_
      clear hm4
      have hB4 := below_then hB3 hb4
      have h_4 := h_3.below hb4 (Nat.le_refl _)
      have k0_4 := cell_below k0_3 hb4
      have k1_4 := cell_below k1_3 hb4
      have s1_4 := s1_3.below hb4 (Nat.le_refl _)
      have s2_4 := s2_3.below hb4 (Nat.le_refl _)
      clear hB3 h_3 k0_3 k1_3 s1_3 s2_3 G4 hb4
      have hone := PairsAt.one w4 x y 35
      have hba : Below w4.heap.size w4 (w4.alloc (.cells #[.int .i64 x, .int .i64 y] 35)) := (Below.refl _ _).alloc (Nat.le_refl _) _
      have hn1 := hI4.below hba (Nat.le_refl _)
      have hsm := sameN_calls _ _ _ _ _ _ _ _ _ hn1 hone
      rw [Hsn.out] at hsm
      have Hsm := hid_ hsm
      have Hba := hid_ hba
      clear hsm hone hn1 hba
      go_wp2_with fail
      refine Hsm.out.mono ?_
      rintro e wz ⟨rfl, qz, hqz⟩
      have Hbz : Hid (Below w.heap.size w wz) := hid_ (by rw [hqz]; exact below_drewN (below_then hB4 Hba.out) qz)
      clear hqz Hsm
      go_wp2_with fail
      refine (Hk.out wz).mono ?_
      rintro e wy ⟨rfl, hby⟩
      go_wp2
      go_ret
      exact ⟨rfl, below_then Hbz.out hby⟩
    ·
      have H1 := hid_ (fun W h => sndStandX_calls a n c L x y W h hs)
      have H2 := hid_ (fun W h => refStand_calls a n c L x y W h hs)
      generalize standErr L x y = er at he H1 H2
      have hne : (er != 0) = true := by simpa using he
      have H1' := hid_ H1.out
      have H2' := hid_ H2.out
      clear H1 H2 he
      go_enter Try.func4, Try.ntmps4
      have G1 := hid_ (H1'.out w0 h0)
      go_wp2_with (first
          | (go_at_call 16; refine HLong0'.out.out.mono ?_; rintro e w1 ⟨rfl, rfl⟩)
          | fail)
      refine G1.out.mono ?_
      rintro e w1 ⟨v1, rfl, hm1⟩
      have hb1 := hm1.bel
      obtain ⟨a1, c1, rfl, hI1⟩ := hm1.at_
      clear hm1
      have hB1 := below_then hB0 hb1
      have h_1 := h0.below hb1 (Nat.le_refl _)
      have k0_1 := cell_below k0 hb1
      have k1_1 := cell_below k1 hb1
      clear hB0 h0 k0 k1 G1 hb1
      clear hw0
      have G2 := hid_ (H2'.out w1 h_1)
      go_wp2_with fail
      refine G2.out.mono ?_
      rintro e w2 ⟨v2, rfl, hm2⟩
      have hb2 := hm2.bel
      obtain ⟨a2, c2, rfl, hI2⟩ := hm2.at_
      clear hm2
      have hB2 := below_then hB1 hb2
      have h_2 := h_1.below hb2 (Nat.le_refl _)
      have k0_2 := cell_below k0_1 hb2
      have k1_2 := cell_below k1_1 hb2
      have s1_2 := hI1.below hb2 (Nat.le_refl _)
      clear hB1 h_1 k0_1 k1_1 hI1 G2 hb2
      have G3 := hid_ (show Calls Try.prog 24 _ w2 fun e w' => e = .returned (.bool true) ∧ ∃ q, w' = w2.drewN q from by rw [← Hsi.out]; exact same_calls _ _ _ _ _ _ _ _ w2 s1_2 hI2)
      go_wp2_with fail
      refine G3.out.mono ?_
      rintro e w3 ⟨rfl, q3, hq3⟩
      have hb3 : Below w2.heap.size w2 w3 := by rw [hq3]; exact below_drewN (Below.refl _ _) _
      clear hq3
      have hB3 := below_then hB2 hb3
      have h_3 := h_2.below hb3 (Nat.le_refl _)
      have k0_3 := cell_below k0_2 hb3
      have k1_3 := cell_below k1_2 hb3
      have s1_3 := s1_2.below hb3 (Nat.le_refl _)
      have s2_3 := hI2.below hb3 (Nat.le_refl _)
      clear hB2 h_2 k0_2 k1_2 s1_2 hI2 G3 hb3
      have G4 := hid_ (sndNamed_calls a n c L _ _ _ (standRes L x y) w3 h_3 s1_3)
      go_wp2_with fail
      refine G4.out.mono ?_
      rintro e w4 ⟨v4, rfl, hm4⟩
      have hb4 := hm4.bel
      obtain ⟨a4, c4, rfl, hI4⟩ := hm4.at_
      clear hm4
      have hB4 := below_then hB3 hb4
      have h_4 := h_3.below hb4 (Nat.le_refl _)
      have k0_4 := cell_below k0_3 hb4
      have k1_4 := cell_below k1_3 hb4
      have s1_4 := s1_3.below hb4 (Nat.le_refl _)
      have s2_4 := s2_3.below hb4 (Nat.le_refl _)
      clear hB3 h_3 k0_3 k1_3 s1_3 s2_3 G4 hb4
      have G5 := hid_ (Hk.out w4)
      go_wp2_with fail
      refine G5.out.mono ?_
      rintro e w5 ⟨rfl, hb5⟩
      have hB5 := below_then hB4 hb5
      have h_5 := h_4.below hb5 (Nat.le_refl _)
      have k0_5 := cell_below k0_4 hb5
      have k1_5 := cell_below k1_4 hb5
      have s1_5 := s1_4.below hb5 (Nat.le_refl _)
      have s2_5 := s2_4.below hb5 (Nat.le_refl _)
      have n1_5 := hI4.below hb5 (Nat.le_refl _)
      clear hB4 h_4 k0_4 k1_4 s1_4 s2_4 hI4 G5 hb5
      go_wp2
      go_ret
      exact ⟨rfl, hB5⟩
end Go.Proofs.Ytcpaehogcicgjaa
