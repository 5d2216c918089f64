import Derived.Test.YtoopgmoopmbfnaaGreatTab
import Derived.Test.YtoopgmoopmbfnaaGreatKno
namespace Go.Proofs.YtoopgmoopmbfnaaGreat
open Go.RowKit Go.Proofs.Kv Go.Proofs.Snd

/-! ### SoundMakes -/
theorem big_no {L : List (List Int)} (h1 : L.length ≤ 6) (h2 : ∀ s ∈ L, s.length ≤ 6) : bigL L = false := by
  unfold bigL
  rw [Bool.or_eq_false_iff]
  refine ⟨decide_eq_false (by omega), ?_⟩
  rw [Bool.eq_false_iff]
  intro h
  obtain ⟨s, hs, hb⟩ := List.any_eq_true.1 h
  have := h2 s hs
  unfold bigOne at hb
  have := of_decide_eq_true hb
  omega
set_option maxRecDepth 100000 in
theorem soundMakes_calls (m : Int) (a : Option Addr) (n c : Nat) (F : List (List Int)) (w : World) (h : ListsAt w a n c F) :
    Calls Tryz.prog 3 #[.int .i64 m, .slice a n c] w fun e w' => e = .returned (.bool true) ∧ Below w.heap.size w w' := by
  have HLong0 := hid_ (long_calls a n c F w h)
  have Hk := hid_ known_calls
  cases hbig0 : bigL F with
  | true =>
    rw [hbig0] at HLong0
    have HLong0' := hid_ HLong0
    clear hbig0 HLong0
    go_enter Tryz.func3, Tryz.ntmps3
    go_wp2_with (first
      | (go_at_call 4; (with_reducible refine HLong0'.out.out.mono ?_); rintro e w1 ⟨rfl, rfl⟩)
      | (go_at_call 5; (with_reducible refine (Hk.out _).mono ?_); rintro e w2 ⟨rfl, hb2⟩))
    go_ret
    exact ⟨rfl, hb2⟩
  | false =>
    rw [hbig0] at HLong0
    have HLong0' := hid_ HLong0
    clear hbig0 HLong0
    have H1 := hid_ (fun W h => sndTable_calls m a n c F W h)
    have H2 := hid_ (fun W h => refFewest_calls m a n c F W h)
    have Hf := hid_ (@table_facts m F)
    by_cases hpos : 0 < fewV m F
    · obtain ⟨f1, f2, f3, f4, f5⟩ := Hf.out hpos
      have hfe : famErr m F = 0 := by
        rcases Classical.em (famErr m F = 0) with h' | h'
        · exact h'
        · rw [fewV, if_neg h'] at hpos; omega
      rw [decide_eq_true hpos, hfe] at H1 H2
      have Hb := hid_ (big_no f3 f4)
      have Hck := hid_ (fun a' n' c' W h h' => refCheck_calls m a n c F a' n' c' (tableV m F) W h h' (by omega))
      rw [f1] at Hck
      have hln := f2
      clear f1 f2 f3 f4 f5 hpos hfe Hf
      generalize fewV m F = R at *
      generalize tableV m F = T at *
      obtain ⟨N, hN⟩ : ∃ N, T.length = N := ⟨_, rfl⟩
      rw [hN] at hln
      have HN := hid_ hN
      clear hN
      have H1' := hid_ H1.out
      have H2' := hid_ H2.out
      have Hck' := hid_ Hck.out
      clear H1 H2 Hck
      subst hln
      go_enter Tryz.func3, Tryz.ntmps3
      have G1 := hid_ (H1'.out w h)
      go_wp2_with (first
          | (go_at_call 4; (with_reducible refine HLong0'.out.out.mono ?_); rintro e w1 ⟨rfl, rfl⟩)
          | fail)
      refine G1.out.mono ?_
      rintro e w1 ⟨v1, rfl, hm1⟩
      have hb1 := hm1.bel
      obtain ⟨a1, c1, rfl, hI1⟩ := hm1.at_
      clear hm1
      have hB1 := hb1
      have h_1 := h.below hb1 (Nat.le_refl _)
      clear h G1 hb1
      rw [HN.out] at hI1 ⊢
      have G2 := hid_ (H2'.out w1 h_1)
      go_wp2_with fail
      refine G2.out.mono ?_
      rintro e w2 ⟨rfl, hb2⟩
      have hB2 := below_then hB1 hb2
      have h_2 := h_1.below hb2 (Nat.le_refl _)
      have t_2 := hI1.below hb2 (Nat.le_refl _)
      clear hB1 h_1 hI1 G2 hb2
      have G3 := hid_ (show Calls Tryz.prog 4 _ w2 fun e w' => e = .returned (.bool false) ∧ w2 = w' from by rw [← Hb.out]; exact long_calls _ _ _ T w2 t_2)
      go_wp2_with fail
      refine G3.out.mono ?_
      rintro e w3 ⟨rfl, hq3⟩
      have hb3 : Below w2.heap.size w2 w3 := by rw [← hq3]; exact Below.refl _ _
      clear hq3
      have hB3 := below_then hB2 hb3
      have h_3 := h_2.below hb3 (Nat.le_refl _)
      have t_3 := t_2.below hb3 (Nat.le_refl _)
      clear hB2 h_2 t_2 G3 hb3
      have G4 := hid_ (Hck'.out _ _ _ w3 h_3 t_3)
      go_wp2_with fail
      refine G4.out.mono ?_
      rintro e w4 ⟨rfl, hb4⟩
      have hB4 := below_then hB3 hb4
      have h_4 := h_3.below hb4 (Nat.le_refl _)
      have t_4 := t_3.below hb4 (Nat.le_refl _)
      clear hB3 h_3 t_3 G4 hb4
      have G5 := hid_ (Hk.out w4)
      go_wp2_with fail
      refine G5.out.mono ?_
      rintro e w5 ⟨rfl, hb5⟩
      have hB5 := below_then hB4 hb5
      have h_5 := h_4.below hb5 (Nat.le_refl _)
      have t_5 := t_4.below hb5 (Nat.le_refl _)
      clear hB4 h_4 t_4 G5 hb5
      go_wp2
      go_ret
      exact ⟨rfl, hB5⟩
    · have f1 := table_no hpos
      rw [decide_eq_false hpos, f1] at H1
      rw [decide_eq_false hpos] at H2
      clear f1 hpos Hf
      generalize fewV m F = R at *
      generalize famErr m F = er at *
      have H1' := hid_ H1.out
      have H2' := hid_ H2.out
      clear H1 H2
      go_enter Tryz.func3, Tryz.ntmps3
      have G1 := hid_ (H1'.out w h)
      go_wp2_with (first
          | (go_at_call 4; (with_reducible refine HLong0'.out.out.mono ?_); rintro e w1 ⟨rfl, rfl⟩)
          | fail)
      refine G1.out.mono ?_
      rintro e w1 ⟨v1, rfl, hm1⟩
      have hb1 := hm1.bel
      obtain ⟨a1, c1, rfl, hI1⟩ := hm1.at_
      clear hm1
      have hB1 := hb1
      have h_1 := h.below hb1 (Nat.le_refl _)
      clear h G1 hb1
      have G2 := hid_ (H2'.out w1 h_1)
      go_wp2_with fail
      refine G2.out.mono ?_
      rintro e w2 ⟨rfl, hb2⟩
      have hB2 := below_then hB1 hb2
      have h_2 := h_1.below hb2 (Nat.le_refl _)
      have t_2 := hI1.below hb2 (Nat.le_refl _)
      clear hB1 h_1 hI1 G2 hb2
      have G3 := hid_ (Hk.out w2)
      go_wp2_with fail
      refine G3.out.mono ?_
      rintro e w3 ⟨rfl, hb3⟩
      have hB3 := below_then hB2 hb3
      have h_3 := h_2.below hb3 (Nat.le_refl _)
      have t_3 := t_2.below hb3 (Nat.le_refl _)
      clear hB2 h_2 t_2 G3 hb3
      go_wp2
      go_ret
      exact ⟨rfl, hB3⟩
end Go.Proofs.YtoopgmoopmbfnaaGreat
