import Derived.Test.YtoopgmoopmbfnaaCkt
import Derived.Test.YtoopgmoopmbfnaaKno
namespace Go.Proofs.Ytoopgmoopmbfnaa
open Go.RowKit Go.Proofs.Kv Go.Proofs.Snd

/-! ### SoundChecks -/
set_option maxRecDepth 100000 in
theorem soundChecks_calls (m : Int) (a : Option Addr) (n c : Nat) (F : List (List Int)) (a' : Option Addr) (n' c' : Nat) (L : List (List Int)) (w : World) (h : ListsAt w a n c F) (h' : ListsAt w a' n' c' L) :
    Calls Try.prog 5 #[.int .i64 m, .slice a n c, .slice a' n' c'] w fun e w' => e = .returned (.bool true) ∧ Below w.heap.size w w' := by
  have HLong0 := hid_ (long_calls a n c F w h)
  have HLong1 := hid_ (long_calls a' n' c' L w h')
  have Hk := hid_ known_calls
  cases hbig0 : bigL F with
  | true =>
    rw [hbig0] at HLong0
    have HLong0' := hid_ HLong0
    clear hbig0 HLong0
    go_enter Try.func5, Try.ntmps5
    go_wp2_with (first
      | (go_at_call 11; (with_reducible refine HLong0'.out.out.mono ?_); rintro e w1 ⟨rfl, rfl⟩)
      | (go_at_call 13; (with_reducible refine (Hk.out _).mono ?_); rintro e w2 ⟨rfl, hb2⟩))
    go_ret
    exact ⟨rfl, hb2⟩
  | false =>
    cases hbig1 : bigL L with
    | true =>
      rw [hbig0] at HLong0
      have HLong0' := hid_ HLong0
      rw [hbig1] at HLong1
      have HLong1' := hid_ HLong1
      clear hbig0 HLong0 hbig1 HLong1
      go_enter Try.func5, Try.ntmps5
      go_wp2_with (first
        | (go_at_call 11; (with_reducible refine HLong0'.out.out.mono ?_); rintro e w1 ⟨rfl, rfl⟩)
        | (go_at_call 11; (with_reducible refine HLong1'.out.out.mono ?_); rintro e w1 ⟨rfl, rfl⟩)
        | (go_at_call 13; (with_reducible refine (Hk.out _).mono ?_); rintro e w2 ⟨rfl, hb2⟩))
      go_ret
      exact ⟨rfl, hb2⟩
    | false =>
      rw [hbig0] at HLong0
      have HLong0' := hid_ HLong0
      rw [hbig1] at HLong1
      have HLong1' := hid_ HLong1
      have hs := bigL_flat hbig1
      clear hbig0 HLong0 hbig1 HLong1
      have H1 := hid_ (fun W h h' => sndCheck_calls m a n c F a' n' c' L W h h')
      have H2 := hid_ (fun W h h' => refCheck_calls m a n c F a' n' c' L W h h' hs)
      generalize checkErr m F L = er at *
      have H1' := hid_ H1.out
      have H2' := hid_ H2.out
      clear H1 H2 hs
      go_enter Try.func5, Try.ntmps5
      have G1 := hid_ (H1'.out w h h')
      go_wp2_with (first
          | (go_at_call 11; (with_reducible refine HLong0'.out.out.mono ?_); rintro e w1 ⟨rfl, rfl⟩)
          | (go_at_call 11; (with_reducible refine HLong1'.out.out.mono ?_); rintro e w1 ⟨rfl, rfl⟩)
          | fail)
      refine G1.out.mono ?_
      rintro e w1 ⟨rfl, hb1⟩
      have hB1 := hb1
      have h_1 := h.below hb1 (Nat.le_refl _)
      have t_1 := h'.below hb1 (Nat.le_refl _)
      clear h h' G1 hb1
      have G2 := hid_ (H2'.out w1 h_1 t_1)
      go_wp2_with fail
      refine G2.out.mono ?_
      rintro e w2 ⟨rfl, hb2⟩
      have hB2 := below_then hB1 hb2
      have h_2 := h_1.below hb2 (Nat.le_refl _)
      have t_2 := t_1.below hb2 (Nat.le_refl _)
      clear hB1 h_1 t_1 G2 hb2
      have G3 := hid_ (Hk.out w2)
      go_wp2_with fail
      refine G3.out.mono ?_
      rintro e w3 ⟨rfl, hb3⟩
      have hB3 := below_then hB2 hb3
      have h_3 := h_2.below hb3 (Nat.le_refl _)
      have t_3 := t_2.below hb3 (Nat.le_refl _)
      clear hB2 h_2 t_2 G3 hb3
      go_wp2
      go_ret
      exact ⟨rfl, hB3⟩
end Go.Proofs.Ytoopgmoopmbfnaa
