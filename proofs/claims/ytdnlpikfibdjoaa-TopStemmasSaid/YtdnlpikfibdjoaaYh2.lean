import Derived.Test.YtdnlpikfibdjoaaYh1
import Derived.Test.YtdnlpikfibdjoaaYmc
import Derived.Test.YtdnlpikfibdjoaaYmf
import Derived.Test.YtdnlpikfibdjoaaY6
import Derived.Test.YtdnlpikfibdjoaaYme
import Derived.Test.YtdnlpikfibdjoaaYy
namespace Go.Proofs.Ytdnlpikfibdjoaa
open Go.RowKit Go.Proofs.Kv Go

/-! ### the law StemmaBuilds -/
theorem builds_ok {T : List (List Int)} (h : resCan T = true) : validT T = 0 ∧ GoodT T ∧ validX (resBuild T) = 0 ∧ (resBuild T).at_.length = T.length ∧
    ∀ p, p < n0 T → placesE T [(p : Int)] = 0 ∧ (resDiff T (p : Int) = 2 → fewR T (resBuild T) (p : Int) = 1 ∧ okRead T (resBuild T) (p : Int) = true ∧ errA T (resBuild T) (p : Int) = 0) := by
  have hv := (conf_none h).1
  have g := validT_ok hv
  have hX : resBuild T = buildX (sidesR T) T.length := by unfold resBuild; rw [if_pos h]
  rw [hX]
  refine ⟨hv, g, build_valid g (sides_good T), by unfold buildX; simp, fun p hp => ?_⟩
  have hpl : placesE T [(p : Int)] = 0 := by
    unfold placesE numE isNum
    rw [if_pos hv, if_pos]
    simp; omega
  refine ⟨hpl, fun hd => ?_⟩
  unfold resDiff at hd
  rw [if_pos hpl, Int.toNat_natCast] at hd
  have hs : splR T p = true := by unfold splR; exact decide_eq_true (by omega)
  obtain ⟨h1, h2, h3⟩ := build_few g (sides_good T) h hp hs
  exact ⟨h3, h2, h1⟩
set_option maxRecDepth 100000 in
set_option maxHeartbeats 8000000 in
theorem stemmaBuilds_calls (a : Option Addr) (n c : Nat) (T : List (List Int)) (w : World) (h : ListsAt w a n c T) :
    Calls Try.prog 5 #[.slice a n c] w fun e w' => e = .returned (.bool true) ∧ Below w.heap.size w w' := by
  have HK := hid_ sane_calls
  have HG := hid_ (long_calls a n c T w h)
  have HL := hid_ (fun W (hW : Below w.heap.size w W) => h.below hW (Nat.le_refl _))
  have hlen := h.len
  have Hl0 := hid_ h
  clear h
  cases hg : longT T with
  | true =>
    rw [hg] at HG
    go_enter Try.func5, Try.ntmps5
    go_wp2_with (first
      | (go_at_call 21; (with_reducible refine HG.out.mono ?_); rintro e w3 ⟨rfl, rfl⟩)
      | (go_at_call 22; (with_reducible refine (HK.out _).mono ?_); rintro e wk ⟨rfl, hbk⟩))
    go_ret
    exact ⟨rfl, hbk⟩
  | false =>
    rw [hg] at HG
    clear hg
    have HB := hid_ (stBuild_calls a n c T w (HL.out _ (Below.refl _ _)))
    have HC := hid_ (fun W (hW : Below w.heap.size w W) => r7CanTree_calls a n c T W (HL.out W hW))
    have HR : Hid (resCan T = false → resBuild T = ⟨[], []⟩) := hid_ (fun e => by unfold resBuild; rw [e]; rfl)
    have Hok := hid_ (@builds_ok T)
    have hvv : (validT T != validT T) = false := by simp
    cases hc : resCan T with
    | true =>
      obtain ⟨hv, g, hX, hat, hp⟩ := Hok.out hc
      have hw6 := g.w6
      have hge := g.ge
      obtain ⟨b, off, a1, m1, c1, rfl, hb', hcell, hrow⟩ := Hl0.out.cells 0 (by omega)
      rw [Nat.add_zero] at hcell
      have hm : m1 = n0 T := by rw [← hrow.len]; rfl
      subst hm
      have HD := hid_ (fun W (hW : Below w.heap.size w W) p => r7Different_calls _ n c T p W (HL.out W hW))
      have HF := hid_ (fun W (hW : Below w.heap.size w W) v X p (h : TreeAt W v X) => r7Fewest_calls _ n c T v X p W (HL.out W hW) h)
      have HV := hid_ (fun W v X (h : TreeAt W v X) => r7Tree_calls v X W h)
      rw [hc, hv] at HB HC
      have Hp := hid_ hp
      have HX := hid_ hX
      have Hat := hid_ (hat.trans hlen)
      clear hc hv g hX hat hp hrow hvv hb' HR Hok
      generalize resBuild T = X at *
      generalize n0 T = m at *
      go_enter Try.func5, Try.ntmps5
      go_wp2_with (first
        | (go_at_call 21; (with_reducible refine HG.out.mono ?_); rintro e w3 ⟨rfl, rfl⟩)
        | (go_at_call 23; (with_reducible refine HB.out.mono ?_); rintro e w4 ⟨v4, rfl, hT4, hb4⟩; obtain ⟨a4, n4, c4, a5, n5, c5, rfl, hi4, hi5⟩ := hT4; obtain rfl : n5 = n := hi5.len.symm.trans Hat.out; have HT4 := hid_ (show TreeAt w4 (.agg #[.slice a4 n4 c4, .slice a5 n5 c5]) X from ⟨_, _, _, _, _, _, rfl, hi4, hi5⟩); obtain ⟨W4, hW4⟩ : ∃ W4, w4.alloc (.cells #[.slice a4 n4 c4, .slice a5 n5 c5] 46) = W4 := ⟨_, rfl⟩; have bW4 : Below w4.heap.size w4 W4 := (by rw [← hW4]; exact below_alloc _ _); have bB4 := hb4.trans (bW4.mono hb4.size); have s0 : W4.cell? ⟨w4.heap.size, 0, none⟩ = some (.slice a4 n4 c4) := (by rw [← hW4]; exact cells_alloc _ _ _ 0); have s1 : W4.cell? ⟨w4.heap.size, 1, none⟩ = some (.slice a5 n5 c5) := (by rw [← hW4]; exact cells_alloc _ _ _ 1); have HT4w := hid_ (HT4.out.below bW4 (Nat.le_refl _)); clear hi4 hi5)
        | (go_at_call 24; (with_reducible refine (HC.out W4 bB4).mono ?_); rintro e w5 ⟨rfl, hb5⟩; have bB5 := bB4.trans (hb5.mono bB4.size); have s05 := cell_below s0 hb5; have s15 := cell_below s1 hb5; have HT5 := hid_ (HT4w.out.below hb5 (Nat.le_refl _)); have HV5 := hid_ (HV.out w5 _ _ HT5.out); rw [HX.out] at HV5)
        | (go_at_call 25; (with_reducible refine HV5.out.mono ?_); rintro e w6 ⟨rfl, hb6⟩; have bB6 := bB5.trans (hb6.mono bB5.size); have s06 := cell_below s05 hb6; have s16 := cell_below s15 hb6; have HT6 := hid_ (HT5.out.below hb6 (Nat.le_refl _))))
      have Hb6 := hid_ bB6
      clear s0 s1 s05 s15
      generalize w4.heap.size = D at *
      go_loopw [8] (fun iv wr => ∃ k : Nat, k ≤ m ∧ iv = .int .i64 (k : Int) ∧ Below w6.heap.size w6 wr) (fun iv _ => m - (intOf iv).toNat)
      case atStart => exact ⟨0, Nat.zero_le _, rfl, Below.refl _ _⟩
      case round =>
        obtain ⟨k, hk, rfl, hb⟩ := hrel
        have hbw := Hb6.out.trans (hb.mono Hb6.out.size)
        have s0 := cell_below s06 hb; have s1 := cell_below s16 hb; have hc0 := cell_below hcell hbw
        have Hb := hid_ hb
        have Hbw := hid_ hbw
        by_cases hlt : k < m
        · obtain ⟨hp1, hp2⟩ := Hp.out k hlt
          have HDk := hid_ (HD.out wr hbw (k : Int))
          rw [hp1] at HDk
          have HFk := hid_ (fun W (hW : Below wr.heap.size wr W) => HF.out W (hbw.trans (hW.mono hbw.size)) _ X (k : Int) (HT6.out.below (hb.trans (hW.mono hb.size)) (Nat.le_refl _)))
          generalize resDiff T (k : Int) = dd at *
          by_cases hd : dd = 2
          · subst hd
            obtain ⟨p1, p2, p3⟩ := hp2 rfl
            rw [p1, p2, p3] at HFk
            clear p1 p2 p3 hp1 hp2 hb hbw
            go_wp2_with (first
              | (go_at_call 26; (with_reducible refine HDk.out.mono ?_); rintro e w7 ⟨rfl, hb7⟩; have t0 := cell_below s0 hb7; have t1 := cell_below s1 hb7; have HF7 := hid_ (HFk.out w7 hb7); have Hb7 := hid_ hb7; clear hb7)
              | (go_at_call 27; (with_reducible refine HF7.out.mono ?_); rintro e w8 ⟨rfl, hb8⟩; have Hb8 := hid_ (Hb.out.trans ((Hb7.out.trans (hb8.mono Hb7.out.size)).mono Hb.out.size)); clear hb8))
            go_roundw
            case rel => exact ⟨k + 1, by omega, by go_num, Hb8.out⟩
            case measure => (simp [intOf]; try omega)
          · have hd' : (dd != 2) = true := by simpa using hd
            clear hp1 hp2 hd hb hbw
            go_wp2_with (go_at_call 26; (with_reducible refine HDk.out.mono ?_); rintro e w7 ⟨rfl, hb7⟩; have Hb7 := hid_ (Hb.out.trans (hb7.mono Hb.out.size)); clear hb7)
            go_roundw
            case rel => exact ⟨k + 1, by omega, by go_num, Hb7.out⟩
            case measure => (simp [intOf]; try omega)
        · obtain rfl : k = m := by omega
          clear hb hbw
          go_wp2_with (go_at_call 22; (with_reducible refine (HK.out _).mono ?_); rintro e wk ⟨rfl, hbk⟩)
          go_ret
          exact ⟨rfl, Hbw.out.trans (hbk.mono Hbw.out.size)⟩
    | false =>
      have hX := HR.out hc
      rw [hc] at HB HC
      rw [hX] at HB
      generalize validT T = x at *
      clear hc hX HR Hok
      go_enter Try.func5, Try.ntmps5
      go_wp2_with (first
        | (go_at_call 21; (with_reducible refine HG.out.mono ?_); rintro e w3 ⟨rfl, rfl⟩)
        | (go_at_call 23; (with_reducible refine HB.out.mono ?_); rintro e w4 ⟨v4, rfl, hT4, hb4⟩; obtain ⟨a4, n4, c4, a5, n5, c5, rfl, hi4, hi5⟩ := hT4; obtain rfl : n4 = 0 := hi4.len.symm; obtain rfl : n5 = 0 := hi5.len.symm; obtain ⟨W4, hW4⟩ : ∃ W4, w4.alloc (.cells #[.slice a4 0 c4, .slice a5 0 c5] 46) = W4 := ⟨_, rfl⟩; have bW4 : Below w4.heap.size w4 W4 := (by rw [← hW4]; exact below_alloc _ _); have bB4 := hb4.trans (bW4.mono hb4.size); have s0 : W4.cell? ⟨w4.heap.size, 0, none⟩ = some (.slice a4 0 c4) := (by rw [← hW4]; exact cells_alloc _ _ _ 0); have s1 : W4.cell? ⟨w4.heap.size, 1, none⟩ = some (.slice a5 0 c5) := (by rw [← hW4]; exact cells_alloc _ _ _ 1); clear hi4 hi5)
        | (go_at_call 24; (with_reducible refine (HC.out W4 bB4).mono ?_); rintro e w5 ⟨rfl, hb5⟩; have bB5 := bB4.trans (hb5.mono bB4.size); have s05 := cell_below s0 hb5; have s15 := cell_below s1 hb5)
        | (go_at_call 22; (with_reducible refine (HK.out _).mono ?_); rintro e wk ⟨rfl, hbk⟩))
      go_ret
      exact ⟨rfl, bB5.trans (hbk.mono bB5.size)⟩
end Go.Proofs.Ytdnlpikfibdjoaa
