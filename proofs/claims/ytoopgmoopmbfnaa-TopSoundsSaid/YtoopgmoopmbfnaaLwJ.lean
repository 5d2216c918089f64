import Derived.Test.YtoopgmoopmbfnaaSn6
import Derived.Test.YtoopgmoopmbfnaaLwI
import Derived.Test.YtoopgmoopmbfnaaKno
import Derived.Test.YtoopgmoopmbfnaaSn5
namespace Go.Proofs.Ytoopgmoopmbfnaa
open Go.RowKit Go.Proofs.Kv Go.Proofs.Snd

/-! ### SoundJoins -/
theorem sameL_as {a : Option Addr} {n c : Nat} {L : List (List Int)} {a' : Option Addr} {n' c' : Nat} {M : List (List Int)} {w : World} {b : Bool} (h : ListsAt w a n c L) (h' : ListsAt w a' n' c' M) (hb : SameL L M = b) :
    Calls Try.prog 23 #[.slice a n c, .slice a' n' c'] w fun e w' => e = .returned (.bool b) ∧ ∃ q, w' = w.drewN q := by subst hb; exact sameL_calls a n c L a' n' c' M w h h'
theorem sameL_refl (L : List (List Int)) : SameL L L = true := decide_eq_true rfl
theorem join_facts {L : List (List Int)} {r : Int} (h : joinErr L r = 0) : validT L = 0 ∧ validT (joinRes L r) = 0 ∧ insideB (classesRes (joinRes L r)) (classesRes L) = true := by
  obtain ⟨hv, k, rfl, hk⟩ := joinErr_ok h
  have hg := good_of hv
  have e : joinRes L (k : Int) = joinL L k := by rw [joinRes, if_pos h]; rfl
  have hv2 : validT (joinL L k) = 0 := valid_of (good_join hg hk)
  rw [e]
  refine ⟨hv, hv2, inside_yes fun c hc => ?_⟩
  unfold classesRes at hc ⊢
  rw [if_pos hv2] at hc
  rw [if_pos hv]
  exact join_classes hg hk c hc
set_option maxRecDepth 100000 in
theorem soundJoins_calls (a : Option Addr) (n c : Nat) (L : List (List Int)) (r : Int) (w : World) (h : ListsAt w a n c L) :
    Calls Try.prog 7 #[.slice a n c, .int .i64 r] w fun e w' => e = .returned (.bool true) ∧ Below w.heap.size w w' := by
  have HLong0 := hid_ (long_calls a n c L w h)
  have Hk := hid_ known_calls
  cases hbig0 : bigL L with
  | true =>
    rw [hbig0] at HLong0
    have HLong0' := hid_ HLong0
    clear hbig0 HLong0
    go_enter Try.func7, Try.ntmps7
    go_wp2_with (first
      | (go_at_call 11; refine HLong0'.out.out.mono ?_; rintro e w1 ⟨rfl, rfl⟩)
      | (go_at_call 13; refine (Hk.out _).mono ?_; rintro e w2 ⟨rfl, hb2⟩))
    go_ret
    exact ⟨rfl, hb2⟩
  | false =>
    rw [hbig0] at HLong0
    have HLong0' := hid_ HLong0
    have hs := bigL_flat hbig0
    clear hbig0 HLong0
    have H1 := hid_ (fun W h => sndJoin_calls a n c L r W h)
    have H2 := hid_ (fun W h => refJoin_calls a n c L r W h hs)
    have Hf := hid_ (@join_facts L r)
    by_cases he : joinErr L r = 0
    · obtain ⟨f1, f2, f3⟩ := Hf.out he
      rw [he] at H1 H2
      have Hv1 := hid_ f1
      have Hv2 := hid_ f2
      have Hin := hid_ f3
      clear f1 f2 f3 he Hf hs
      have H1' := hid_ H1.out
      have H2' := hid_ H2.out
      clear H1 H2
      go_enter Try.func7, Try.ntmps7
      have G1 := hid_ (H1'.out w h)
      go_wp2_with (first
          | (go_at_call 11; refine HLong0'.out.out.mono ?_; rintro e w1 ⟨rfl, rfl⟩)
          | fail)
      refine G1.out.mono ?_
      rintro e w1 ⟨v1, rfl, hm1⟩
      have hb1 := hm1.bel
      obtain ⟨a1, c1, rfl, hI1⟩ := hm1.at_
      clear hm1
      have hB1 := hb1
      have h_1 := h.below hb1 (Nat.le_refl _)
      clear h G1 hb1
      have G2 := hid_ (H2'.out w1 h_1)
      go_wp2_with fail
      refine G2.out.mono ?_
      rintro e w2 ⟨v2, rfl, hm2⟩
      have hb2 := hm2.bel
      obtain ⟨a2, c2, rfl, hI2⟩ := hm2.at_
      clear hm2
      have hB2 := below_then hB1 hb2
      have h_2 := h_1.below hb2 (Nat.le_refl _)
      have o1_2 := hI1.below hb2 (Nat.le_refl _)
      clear hB1 h_1 hI1 G2 hb2
      have G3 := hid_ (sameL_as o1_2 hI2 (sameL_refl _))
      go_wp2_with fail
      refine G3.out.mono ?_
      rintro e w3 ⟨rfl, q3, hq3⟩
      have hb3 : Below w2.heap.size w2 w3 := by rw [hq3]; exact below_drewN (Below.refl _ _) _
      clear hq3
      have hB3 := below_then hB2 hb3
      have h_3 := h_2.below hb3 (Nat.le_refl _)
      have o1_3 := o1_2.below hb3 (Nat.le_refl _)
      have o2_3 := hI2.below hb3 (Nat.le_refl _)
      clear hB2 h_2 o1_2 hI2 G3 hb3
      have G4 := hid_ (show Calls Try.prog 25 _ w3 fun e w' => ∃ v, e = .returned (.tuple #[v, .int .i64 0]) ∧ MadeL 23 w3 w' v (classesRes L) from by rw [← Hv1.out]; exact sndClasses_calls a n c L w3 h_3)
      go_wp2_with fail
      refine G4.out.mono ?_
      rintro e w4 ⟨v4, rfl, hm4⟩
      have hb4 := hm4.bel
      obtain ⟨a4, c4, rfl, hI4⟩ := hm4.at_
      clear hm4
      have hB4 := below_then hB3 hb4
      have h_4 := h_3.below hb4 (Nat.le_refl _)
      have o1_4 := o1_3.below hb4 (Nat.le_refl _)
      clear hB3 h_3 o1_3 G4 hb4
      have G5 := hid_ (show Calls Try.prog 25 _ w4 fun e w' => ∃ v, e = .returned (.tuple #[v, .int .i64 0]) ∧ MadeL 23 w4 w' v (classesRes (joinRes L r)) from by rw [← Hv2.out]; exact sndClasses_calls _ _ _ _ w4 o1_4)
      go_wp2_with fail
      refine G5.out.mono ?_
      rintro e w5 ⟨v5, rfl, hm5⟩
      have hb5 := hm5.bel
      obtain ⟨a5, c5, rfl, hI5⟩ := hm5.at_
      clear hm5
      have hB5 := below_then hB4 hb5
      have h_5 := h_4.below hb5 (Nat.le_refl _)
      have o1_5 := o1_4.below hb5 (Nat.le_refl _)
      have x_5 := hI4.below hb5 (Nat.le_refl _)
      clear hB4 h_4 o1_4 hI4 G5 hb5
      have G6 := hid_ (inside_calls _ _ _ _ _ _ _ _ w5 hI5 x_5 Hin.out)
      go_wp2_with fail
      refine G6.out.mono ?_
      rintro e w6 ⟨rfl, q6, hq6⟩
      have hb6 : Below w5.heap.size w5 w6 := by rw [hq6]; exact below_drewN (Below.refl _ _) _
      clear hq6
      have hB6 := below_then hB5 hb6
      have h_6 := h_5.below hb6 (Nat.le_refl _)
      have o1_6 := o1_5.below hb6 (Nat.le_refl _)
      have x_6 := x_5.below hb6 (Nat.le_refl _)
      have y_6 := hI5.below hb6 (Nat.le_refl _)
      clear hB5 h_5 o1_5 x_5 hI5 G6 hb6
      have G7 := hid_ (Hk.out w6)
      go_wp2_with fail
      refine G7.out.mono ?_
      rintro e w7 ⟨rfl, hb7⟩
      have hB7 := below_then hB6 hb7
      have h_7 := h_6.below hb7 (Nat.le_refl _)
      have o1_7 := o1_6.below hb7 (Nat.le_refl _)
      have x_7 := x_6.below hb7 (Nat.le_refl _)
      have y_7 := y_6.below hb7 (Nat.le_refl _)
      clear hB6 h_6 o1_6 x_6 y_6 G7 hb7
      go_wp2
      go_ret
      exact ⟨rfl, hB7⟩
    · generalize joinErr L r = er at he H1 H2
      have hq : (er != 0) = true := by simpa using he
      clear he Hf hs
      have H1' := hid_ H1.out
      have H2' := hid_ H2.out
      clear H1 H2
      go_enter Try.func7, Try.ntmps7
      have G1 := hid_ (H1'.out w h)
      go_wp2_with (first
          | (go_at_call 11; refine HLong0'.out.out.mono ?_; rintro e w1 ⟨rfl, rfl⟩)
          | fail)
      refine G1.out.mono ?_
      rintro e w1 ⟨v1, rfl, hm1⟩
      have hb1 := hm1.bel
      obtain ⟨a1, c1, rfl, hI1⟩ := hm1.at_
      clear hm1
      have hB1 := hb1
      have h_1 := h.below hb1 (Nat.le_refl _)
      clear h G1 hb1
      have G2 := hid_ (H2'.out w1 h_1)
      go_wp2_with fail
      refine G2.out.mono ?_
      rintro e w2 ⟨v2, rfl, hm2⟩
      have hb2 := hm2.bel
      obtain ⟨a2, c2, rfl, hI2⟩ := hm2.at_
      clear hm2
      have hB2 := below_then hB1 hb2
      have h_2 := h_1.below hb2 (Nat.le_refl _)
      have o1_2 := hI1.below hb2 (Nat.le_refl _)
      clear hB1 h_1 hI1 G2 hb2
      have G3 := hid_ (sameL_as o1_2 hI2 (sameL_refl _))
      go_wp2_with fail
      refine G3.out.mono ?_
      rintro e w3 ⟨rfl, q3, hq3⟩
      have hb3 : Below w2.heap.size w2 w3 := by rw [hq3]; exact below_drewN (Below.refl _ _) _
      clear hq3
      have hB3 := below_then hB2 hb3
      have h_3 := h_2.below hb3 (Nat.le_refl _)
      have o1_3 := o1_2.below hb3 (Nat.le_refl _)
      have o2_3 := hI2.below hb3 (Nat.le_refl _)
      clear hB2 h_2 o1_2 hI2 G3 hb3
      have G4 := hid_ (sndClasses_calls a n c L w3 h_3)
      go_wp2_with fail
      refine G4.out.mono ?_
      rintro e w4 ⟨v4, rfl, hm4⟩
      have hb4 := hm4.bel
      obtain ⟨a4, c4, rfl, hI4⟩ := hm4.at_
      clear hm4
      have hB4 := below_then hB3 hb4
      have h_4 := h_3.below hb4 (Nat.le_refl _)
      have o1_4 := o1_3.below hb4 (Nat.le_refl _)
      clear hB3 h_3 o1_3 G4 hb4
      have G5 := hid_ (sndClasses_calls _ _ _ _ w4 o1_4)
      go_wp2_with fail
      refine G5.out.mono ?_
      rintro e w5 ⟨v5, rfl, hm5⟩
      have hb5 := hm5.bel
      obtain ⟨a5, c5, rfl, hI5⟩ := hm5.at_
      clear hm5
      have hB5 := below_then hB4 hb5
      have h_5 := h_4.below hb5 (Nat.le_refl _)
      have o1_5 := o1_4.below hb5 (Nat.le_refl _)
      have x_5 := hI4.below hb5 (Nat.le_refl _)
      clear hB4 h_4 o1_4 hI4 G5 hb5
      have G6 := hid_ (Hk.out w5)
      go_wp2_with fail
      refine G6.out.mono ?_
      rintro e w6 ⟨rfl, hb6⟩
      have hB6 := below_then hB5 hb6
      have h_6 := h_5.below hb6 (Nat.le_refl _)
      have o1_6 := o1_5.below hb6 (Nat.le_refl _)
      have x_6 := x_5.below hb6 (Nat.le_refl _)
      have y_6 := hI5.below hb6 (Nat.le_refl _)
      clear hB5 h_5 o1_5 x_5 hI5 G6 hb6
      go_wp2
      go_ret
      exact ⟨rfl, hB6⟩
end Go.Proofs.Ytoopgmoopmbfnaa
