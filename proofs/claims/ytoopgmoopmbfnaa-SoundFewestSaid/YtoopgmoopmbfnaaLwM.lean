import Derived.Test.YtoopgmoopmbfnaaFy
import Derived.Test.YtoopgmoopmbfnaaKno
namespace Go.Proofs.Ytoopgmoopmbfnaa
open Go.RowKit Go.Proofs.Kv Go.Proofs.Snd

/-! ### SoundFewest -/
set_option maxRecDepth 100000 in
theorem soundFewest_calls (m : Int) (a : Option Addr) (n c : Nat) (F : List (List Int)) (w : World) (h : ListsAt w a n c F) :
    Calls Try.prog 4 #[.int .i64 m, .slice a n c] w fun e w' => e = .returned (.bool true) ∧ Below w.heap.size w w' := by
  have HLong0 := hid_ (long_calls a n c F w h)
  have Hk := hid_ known_calls
  cases hbig0 : bigL F with
  | true =>
    rw [hbig0] at HLong0
    have HLong0' := hid_ HLong0
    clear hbig0 HLong0
    go_enter Try.func4, Try.ntmps4
    go_wp2_with (first
      | (go_at_call 11; refine HLong0'.out.out.mono ?_; rintro e w1 ⟨rfl, rfl⟩)
      | (go_at_call 13; refine (Hk.out _).mono ?_; rintro e w2 ⟨rfl, hb2⟩))
    go_ret
    exact ⟨rfl, hb2⟩
  | false =>
    rw [hbig0] at HLong0
    have HLong0' := hid_ HLong0
    clear hbig0 HLong0
    have H1 := hid_ (fun W h => sndFewest_calls m a n c F W h)
    have H2 := hid_ (fun W h => refFewest_calls m a n c F W h)
    generalize fewV m F = R at *
    generalize famErr m F = er at *
    generalize decide (0 < R) = d at *
    cases d with
    | true =>
      have H1' := hid_ H1.out
      have H2' := hid_ H2.out
      clear H1 H2
      go_enter Try.func4, Try.ntmps4
      have G1 := hid_ (H1'.out w h)
      go_wp2_with (first
          | (go_at_call 11; refine HLong0'.out.out.mono ?_; rintro e w1 ⟨rfl, rfl⟩)
          | fail)
      refine G1.out.mono ?_
      rintro e w1 ⟨rfl, hb1⟩
      have hB1 := hb1
      have h_1 := h.below hb1 (Nat.le_refl _)
      clear h G1 hb1
      have G2 := hid_ (H2'.out w1 h_1)
      go_wp2_with fail
      refine G2.out.mono ?_
      rintro e w2 ⟨rfl, hb2⟩
      have hB2 := below_then hB1 hb2
      have h_2 := h_1.below hb2 (Nat.le_refl _)
      clear hB1 h_1 G2 hb2
      have G3 := hid_ (Hk.out w2)
      go_wp2_with fail
      refine G3.out.mono ?_
      rintro e w3 ⟨rfl, hb3⟩
      have hB3 := below_then hB2 hb3
      have h_3 := h_2.below hb3 (Nat.le_refl _)
      clear hB2 h_2 G3 hb3
      go_wp2
      go_ret
      exact ⟨rfl, hB3⟩
    | false =>
      have H1' := hid_ H1.out
      have H2' := hid_ H2.out
      clear H1 H2
      go_enter Try.func4, Try.ntmps4
      have G1 := hid_ (H1'.out w h)
      go_wp2_with (first
          | (go_at_call 11; refine HLong0'.out.out.mono ?_; rintro e w1 ⟨rfl, rfl⟩)
          | fail)
      refine G1.out.mono ?_
      rintro e w1 ⟨rfl, hb1⟩
      have hB1 := hb1
      have h_1 := h.below hb1 (Nat.le_refl _)
      clear h G1 hb1
      have G2 := hid_ (H2'.out w1 h_1)
      go_wp2_with fail
      refine G2.out.mono ?_
      rintro e w2 ⟨rfl, hb2⟩
      have hB2 := below_then hB1 hb2
      have h_2 := h_1.below hb2 (Nat.le_refl _)
      clear hB1 h_1 G2 hb2
      have G3 := hid_ (Hk.out w2)
      go_wp2_with fail
      refine G3.out.mono ?_
      rintro e w3 ⟨rfl, hb3⟩
      have hB3 := below_then hB2 hb3
      have h_3 := h_2.below hb3 (Nat.le_refl _)
      clear hB2 h_2 G3 hb3
      go_wp2
      go_ret
      exact ⟨rfl, hB3⟩

/-! ### SoundMarks -/
set_option maxRecDepth 100000 in
theorem soundMarks_calls (m : Int) (a : Option Addr) (n c : Nat) (F : List (List Int)) (a' : Option Addr) (n' c' : Nat) (o : List Int) (w : World) (h : ListsAt w a n c F) (h' : IntsAt w a' n' c' o) :
    Calls Try.prog 3 #[.int .i64 m, .slice a n c, .slice a' n' c'] w fun e w' => e = .returned (.bool true) ∧ Below w.heap.size w w' := by
  have HLong0 := hid_ (long_calls a n c F w h)
  have Hlarge1 := hid_ (large_calls a' n' c' o w h')
  have Hk := hid_ known_calls
  cases hbig0 : bigL F with
  | true =>
    rw [hbig0] at HLong0
    have HLong0' := hid_ HLong0
    clear hbig0 HLong0
    go_enter Try.func3, Try.ntmps3
    go_wp2_with (first
      | (go_at_call 11; refine HLong0'.out.out.mono ?_; rintro e w1 ⟨rfl, rfl⟩)
      | (go_at_call 13; refine (Hk.out _).mono ?_; rintro e w2 ⟨rfl, hb2⟩))
    go_ret
    exact ⟨rfl, hb2⟩
  | false =>
    cases hbig1 : bigOne o with
    | true =>
      rw [hbig0] at HLong0
      have HLong0' := hid_ HLong0
      rw [hbig1] at Hlarge1
      have Hlarge1' := hid_ Hlarge1
      clear hbig0 HLong0 hbig1 Hlarge1
      go_enter Try.func3, Try.ntmps3
      go_wp2_with (first
        | (go_at_call 11; refine HLong0'.out.out.mono ?_; rintro e w1 ⟨rfl, rfl⟩)
        | (go_at_call 12; refine Hlarge1'.out.out.mono ?_; rintro e w1 ⟨rfl, rfl⟩)
        | (go_at_call 13; refine (Hk.out _).mono ?_; rintro e w2 ⟨rfl, hb2⟩))
      go_ret
      exact ⟨rfl, hb2⟩
    | false =>
      rw [hbig0] at HLong0
      have HLong0' := hid_ HLong0
      rw [hbig1] at Hlarge1
      have Hlarge1' := hid_ Hlarge1
      have ho : n' ≤ 100 := by have : ¬ 100 < o.length := by simpa [bigOne] using hbig1
                               rw [h'.len] at this; omega
      clear hbig0 HLong0 hbig1 Hlarge1
      have H1 := hid_ (fun W h h' => sndMarksX_calls m a n c F a' n' c' o W h h')
      have H2 := hid_ (fun W h h' => refMarksX_calls m a n c F a' n' c' o W h h' (by omega))
      have H3 := hid_ (fun W h => sndFewest_calls m a n c F W h)
      have Hf := hid_ (@mark_facts m F o)
      by_cases he : markErr m F o = 0
      · obtain ⟨f1, f2, f3, f4⟩ := Hf.out he
        rw [he, f4] at H1 H2
        rw [f1, show decide (0 < fewV m F) = true by simp [f2]] at H3
        clear f1 f2 f4 he Hf
        generalize fewV m F = R at *
        generalize marksR F o = M at *
        have hRM : (R : Int) ≤ (M : Int) := by omega
        have H1' := hid_ H1.out
        have H2' := hid_ H2.out
        have H3' := hid_ H3.out
        clear H1 H2 H3 ho
        go_enter Try.func3, Try.ntmps3
        have G1 := hid_ (H1'.out w h h')
        go_wp2_with (first
            | (go_at_call 11; refine HLong0'.out.out.mono ?_; rintro e w1 ⟨rfl, rfl⟩)
            | (go_at_call 12; refine Hlarge1'.out.out.mono ?_; rintro e w1 ⟨rfl, rfl⟩)
            | fail)
        refine G1.out.mono ?_
        rintro e w1 ⟨rfl, hb1⟩
        have hB1 := hb1
        have h_1 := h.below hb1 (Nat.le_refl _)
        have o_1 := h'.below hb1 (Nat.le_refl _)
        clear h h' G1 hb1
        have G2 := hid_ (H2'.out w1 h_1 o_1)
        go_wp2_with fail
        refine G2.out.mono ?_
        rintro e w2 ⟨rfl, q2, hq2⟩
        have hb2 : Below w1.heap.size w1 w2 := by rw [hq2]; exact below_drewN (Below.refl _ _) _
        clear hq2
        have hB2 := below_then hB1 hb2
        have h_2 := h_1.below hb2 (Nat.le_refl _)
        have o_2 := o_1.below hb2 (Nat.le_refl _)
        clear hB1 h_1 o_1 G2 hb2
        have G3 := hid_ (H3'.out w2 h_2)
        go_wp2_with fail
        refine G3.out.mono ?_
        rintro e w3 ⟨rfl, hb3⟩
        have hB3 := below_then hB2 hb3
        have h_3 := h_2.below hb3 (Nat.le_refl _)
        have o_3 := o_2.below hb3 (Nat.le_refl _)
        clear hB2 h_2 o_2 G3 hb3
        have G4 := hid_ (Hk.out w3)
        go_wp2_with fail
        refine G4.out.mono ?_
        rintro e w4 ⟨rfl, hb4⟩
        have hB4 := below_then hB3 hb4
        have h_4 := h_3.below hb4 (Nat.le_refl _)
        have o_4 := o_3.below hb4 (Nat.le_refl _)
        clear hB3 h_3 o_3 G4 hb4
        go_wp2
        go_ret
        exact ⟨rfl, hB4⟩
      · generalize markErr m F o = er at *
        generalize markRes m F o = M at *
        have hq : (er != 0) = true := by simpa using he
        have H1' := hid_ H1.out
        have H2' := hid_ H2.out
        have H3' := hid_ H3.out
        clear H1 H2 H3 he Hf ho
        go_enter Try.func3, Try.ntmps3
        have G1 := hid_ (H1'.out w h h')
        go_wp2_with (first
            | (go_at_call 11; refine HLong0'.out.out.mono ?_; rintro e w1 ⟨rfl, rfl⟩)
            | (go_at_call 12; refine Hlarge1'.out.out.mono ?_; rintro e w1 ⟨rfl, rfl⟩)
            | fail)
        refine G1.out.mono ?_
        rintro e w1 ⟨rfl, hb1⟩
        have hB1 := hb1
        have h_1 := h.below hb1 (Nat.le_refl _)
        have o_1 := h'.below hb1 (Nat.le_refl _)
        clear h h' G1 hb1
        have G2 := hid_ (H2'.out w1 h_1 o_1)
        go_wp2_with fail
        refine G2.out.mono ?_
        rintro e w2 ⟨rfl, q2, hq2⟩
        have hb2 : Below w1.heap.size w1 w2 := by rw [hq2]; exact below_drewN (Below.refl _ _) _
        clear hq2
        have hB2 := below_then hB1 hb2
        have h_2 := h_1.below hb2 (Nat.le_refl _)
        have o_2 := o_1.below hb2 (Nat.le_refl _)
        clear hB1 h_1 o_1 G2 hb2
        have G3 := hid_ (H3'.out w2 h_2)
        go_wp2_with fail
        refine G3.out.mono ?_
        rintro e w3 ⟨rfl, hb3⟩
        have hB3 := below_then hB2 hb3
        have h_3 := h_2.below hb3 (Nat.le_refl _)
        have o_3 := o_2.below hb3 (Nat.le_refl _)
        clear hB2 h_2 o_2 G3 hb3
        have G4 := hid_ (Hk.out w3)
        go_wp2_with fail
        refine G4.out.mono ?_
        rintro e w4 ⟨rfl, hb4⟩
        have hB4 := below_then hB3 hb4
        have h_4 := h_3.below hb4 (Nat.le_refl _)
        have o_4 := o_3.below hb4 (Nat.le_refl _)
        clear hB3 h_3 o_3 G4 hb4
        go_wp2
        go_ret
        exact ⟨rfl, hB4⟩
end Go.Proofs.Ytoopgmoopmbfnaa
