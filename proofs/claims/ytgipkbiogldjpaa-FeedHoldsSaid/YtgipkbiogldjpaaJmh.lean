import Derived.Test.YtgipkbiogldjpaaJl
import Derived.Test.YtgipkbiogldjpaaJuc
namespace Go.Proofs.Ytgipkbiogldjpaa
open Go.RowKit Go.Proofs.Kv

set_option maxRecDepth 100000 in
set_option maxHeartbeats 8000000 in
theorem feedHolds_calls (A : Option Addr) (N C : Nat) (L : List Rl) (a : Option Addr) (n c : Nat) (ws : List Int) (a' : Option Addr) (n' c' : Nat) (l : List Int) (w : World) (h : RulesAt w A N C L) (hW : IntsAt w a n c ws) (hI : IntsAt w a' n' c' l) :
    Calls Try.prog 5 #[.slice A N C, .slice a n c, .slice a' n' c'] w fun e w' => e = .returned (.bool true) ∧ Below w.heap.size w w' := by
  have HK := hid_ known3_calls
  have HG := hid_ (long3_calls A N C L w h)
  have HB1 := hid_ (fun W (hb : Below w.heap.size w W) => large3_calls a n c ws W (hW.below hb (Nat.le_refl _)))
  have HB2 := hid_ (fun W (hb : Below w.heap.size w W) => large3_calls a' n' c' l W (hI.below hb (Nat.le_refl _)))
  have HC1 := hid_ (fun W (hb : Below w.heap.size w W) => feCheckW_calls A N C L a n c ws W (h.below hb (Nat.le_refl _)) (hW.below hb (Nat.le_refl _)))
  have HC2 := hid_ (fun W (hb : Below w.heap.size w W) => r3CheckW_calls A N C L a n c ws W (h.below hb (Nat.le_refl _)) (hW.below hb (Nat.le_refl _)))
  have HE1 := hid_ (fun W (hb : Below w.heap.size w W) => feWeighE_calls a n c ws a' n' c' l W (hW.below hb (Nat.le_refl _)) (hI.below hb (Nat.le_refl _)))
  have HE2 := hid_ (fun W (hb : Below w.heap.size w W) => r3WeighE_calls a n c ws a' n' c' l W (hW.below hb (Nat.le_refl _)) (hI.below hb (Nat.le_refl _)))
  have HLo := hid_ (fun W (hb : Below w.heap.size w W) => feLongest_calls A N C L a' n' c' l W (h.below hb (Nat.le_refl _)) (hI.below hb (Nat.le_refl _)))
  have HR := hid_ (fun W (hb : Below w.heap.size w W) => h.below hb (Nat.le_refl _))
  have HIw := hid_ (fun W (hb : Below w.heap.size w W) => hW.below hb (Nat.le_refl _))
  have Hlen := hid_ hW.len
  clear h hW hI
  cases hg : bigS L with
  | true =>
    rw [hg] at HG
    go_enter Try.func5, Try.ntmps5
    go_wp2_with (first
      | (go_at_call 8; (with_reducible refine HG.out.mono ?_); rintro e w2 ⟨rfl, hb2⟩)
      | (go_at_call 10; (with_reducible refine (HK.out _).mono ?_); rintro e w3 ⟨rfl, hb3⟩))
    go_ret
    exact ⟨rfl, hb2.trans (hb3.mono hb2.size)⟩
  | false =>
    rw [hg] at HG
    cases hl : bigOne3 ws with
    | true =>
      rw [hl] at HB1
      go_enter Try.func5, Try.ntmps5
      go_wp2_with (first
        | (go_at_call 8; (with_reducible refine HG.out.mono ?_); rintro e w2 ⟨rfl, hb2⟩)
        | (go_at_call 9; (with_reducible refine (HB1.out w2 hb2).mono ?_); rintro e w3 ⟨rfl, rfl⟩)
        | (go_at_call 10; (with_reducible refine (HK.out _).mono ?_); rintro e w3 ⟨rfl, hb3⟩))
      go_ret
      exact ⟨rfl, hb2.trans (hb3.mono hb2.size)⟩
    | false =>
      rw [hl] at HB1
      cases hl2 : bigOne3 l with
      | true =>
        rw [hl2] at HB2
        go_enter Try.func5, Try.ntmps5
        go_wp2_with (first
          | (go_at_call 8; (with_reducible refine HG.out.mono ?_); rintro e w2 ⟨rfl, hb2⟩)
          | (go_at_call 9; (with_reducible refine (HB1.out w2 hb2).mono ?_); rintro e w3 ⟨rfl, rfl⟩)
          | (go_at_call 9; (with_reducible refine (HB2.out w2 hb2).mono ?_); rintro e w3 ⟨rfl, rfl⟩)
          | (go_at_call 10; (with_reducible refine (HK.out _).mono ?_); rintro e w3 ⟨rfl, hb3⟩))
        go_ret
        exact ⟨rfl, hb2.trans (hb3.mono hb2.size)⟩
      | false =>
        rw [hl2] at HB2
        clear hg hl hl2
        by_cases hz : errCW L ws = 0
        · have hs : validS L = 0 := by
            unfold errCW at hz
            by_cases q : validS L = 0
            · exact q
            · rw [if_neg q] at hz; exact absurd hz q
          have hwb : wtB ws = true := by
            unfold errCW at hz
            rw [if_pos hs] at hz
            cases q : wtB ws with
            | true => rfl
            | false => rw [q] at hz; simp at hz
          have hhb : holdB L ws = true := by
            unfold errCW at hz
            rw [if_pos hs, hwb] at hz
            cases q : holdB L ws with
            | true => rfl
            | false => rw [q] at hz; simp at hz
          have hwt := wtB_ok.1 hwb
          have HWt : Hid (∀ W, Below w.heap.size w W → Calls Try.prog 23 #[.slice A N C] W fun e w' => ∃ u a c, e = .returned (.tuple #[.slice a 6 c, .bool true, .int .i64 0]) ∧ IntsAt w' a 6 c u ∧ LeW u ws ∧ Below W.heap.size W w') := hid_ (fun W hb => (feWeights_calls A N C L W (HR.out W hb) hs).mono fun e w' hp => by
            obtain ⟨r, v, hr, he, hm⟩ := hp
            obtain ⟨u, rfl, h1, h2⟩ := hr.least (LeW.zero hwt) WtL.zero hwt hhb (fun R hR => (validR_ok ((validS_ok hs).2 R hR)).2.1)
            obtain ⟨a, c, rfl, hi⟩ := hm.at_
            simp only [Option.getD_some] at hi
            rw [h2.1] at hi
            exact ⟨u, a, c, by rw [he]; simp [h2.1], hi, h1, hm.bel⟩)
          have hlb := @longest_bound L ws l hwt hhb
          have h6 : n = 6 := by rw [← Hlen.out]; exact hwt.1
          subst h6
          rw [hz] at HC1 HC2
          have hrw : errWg ws l = 0 → resWg ws l = wtOf ws l := fun q => by rw [resWg, if_pos q]
          clear hz hs hwb hhb hwt
          by_cases he : errWg ws l = 0
          · have hn := hrw he
            rw [he, hn] at HE1 HE2
            by_cases hg : errWeb L l = 0
            · obtain ⟨hlb1, hlb2⟩ := hlb hg
              rw [hg, hlb1] at HLo
              generalize (resLongest L l).1 = kk at *
              generalize wtOf ws l = tt at *
              clear hg hlb hlb1 he hn hrw
              go_enter Try.func5, Try.ntmps5
              go_wp2_with (first
                | (go_at_call 8; (with_reducible refine HG.out.mono ?_); rintro e w2 ⟨rfl, hb2⟩)
                | (go_at_call 9; (with_reducible refine (HB1.out w2 hb2).mono ?_); rintro e w3 ⟨rfl, rfl⟩)
                | (go_at_call 9; (with_reducible refine (HB2.out w2 hb2).mono ?_); rintro e w3 ⟨rfl, rfl⟩)
                | (go_at_call 19; (with_reducible refine (HC1.out w2 hb2).mono ?_); rintro e w3 ⟨rfl, hc3⟩; have hb3 := hb2.trans (hc3.mono hb2.size))
                | (go_at_call 20; (with_reducible refine (HE1.out w3 hb3).mono ?_); rintro e w4 ⟨rfl, rfl⟩)
                | (go_at_call 21; (with_reducible refine (HE2.out w3 hb3).mono ?_); rintro e w4 ⟨rfl, rfl⟩)
                | (go_at_call 22; (with_reducible refine (HC2.out w3 hb3).mono ?_); rintro e w4 ⟨rfl, hc4⟩; have hb4 := hb3.trans (hc4.mono hb3.size))
                | (go_at_call 23; (with_reducible refine (HWt.out w4 hb4).mono ?_); rintro e w5 ⟨u, a5, c5, rfl, hi5, hle, hc5⟩; have hb5 := hb4.trans (hc5.mono hb4.size)))
              have Hi5 := hid_ hi5; have Hle := hid_ hle; have Hw5 := hid_ (HIw.out w5 hb5)
              have Hb5 := hid_ hb5
              clear hi5 hle hc3 hc4 hc5 hb3 hb4 hb5
              go_loopw [15] (fun i wr => ∃ k q : Nat, k ≤ 6 ∧ i = .int .i64 k ∧ wr = w5.drewN q) (fun i _ => 6 - (intOf i).toNat)
              case atStart => exact ⟨0, 0, Nat.zero_le _, rfl, rfl⟩
              case round =>
                obtain ⟨k, q, hk, rfl, hq⟩ := hrel
                have Hq := hid_ hq
                have HA := hid_ (show IntsAt wr a5 6 c5 u by rw [hq]; exact Hi5.out.drewN q)
                have HB := hid_ (show IntsAt wr a 6 c ws by rw [hq]; exact Hw5.out.drewN q)
                clear hq
                by_cases hlt : k < 6
                · obtain ⟨b1, o1, rfl, -, q1⟩ := HA.out.cells k hlt
                  obtain ⟨b2, o2, rfl, -, q2⟩ := HB.out.cells k hlt
                  have hle := Hle.out k
                  generalize u.getD k 0 = x1 at *
                  generalize ws.getD k 0 = x2 at *
                  have hle' : ¬ x2 < x1 := by omega
                  clear hle
                  go_wp2_with fail
                  go_quiet (fail)
                  go_wp2
                  go_roundw
                  case rel => exact ⟨k + 1, _, by omega, by go_num, by rw [Hq.out, drewN2]⟩
                  case measure => simp [intOf]; omega
                · obtain rfl : 6 = k := by omega
                  have hbr : Below w.heap.size w wr := by rw [Hq.out]; exact below_drewN Hb5.out q
                  clear HA HB
                  go_wp2_with (first
                    | (go_at_call 24; (with_reducible refine (HLo.out wr hbr).mono ?_); rintro e w7 ⟨rfl, hc7⟩; have hb7 := hbr.trans (hc7.mono hbr.size))
                    | (go_at_call 10; (with_reducible refine (HK.out _).mono ?_); rintro e wk ⟨rfl, hbk⟩))
                  go_ret
                  exact ⟨rfl, hb7.trans (hbk.mono hb7.size)⟩
            · have hq : (errWeb L l != 0) = true := by simpa using hg
              generalize (resLongest L l).1 = kk at *
              generalize (resLongest L l).2 = kb at *
              generalize wtOf ws l = tt at *
              generalize errWeb L l = z at *
              clear hg hlb he hn hrw
              go_enter Try.func5, Try.ntmps5
              go_wp2_with (first
                | (go_at_call 8; (with_reducible refine HG.out.mono ?_); rintro e w2 ⟨rfl, hb2⟩)
                | (go_at_call 9; (with_reducible refine (HB1.out w2 hb2).mono ?_); rintro e w3 ⟨rfl, rfl⟩)
                | (go_at_call 9; (with_reducible refine (HB2.out w2 hb2).mono ?_); rintro e w3 ⟨rfl, rfl⟩)
                | (go_at_call 19; (with_reducible refine (HC1.out w2 hb2).mono ?_); rintro e w3 ⟨rfl, hc3⟩; have hb3 := hb2.trans (hc3.mono hb2.size))
                | (go_at_call 20; (with_reducible refine (HE1.out w3 hb3).mono ?_); rintro e w4 ⟨rfl, rfl⟩)
                | (go_at_call 21; (with_reducible refine (HE2.out w3 hb3).mono ?_); rintro e w4 ⟨rfl, rfl⟩)
                | (go_at_call 22; (with_reducible refine (HC2.out w3 hb3).mono ?_); rintro e w4 ⟨rfl, hc4⟩; have hb4 := hb3.trans (hc4.mono hb3.size))
                | (go_at_call 23; (with_reducible refine (HWt.out w4 hb4).mono ?_); rintro e w5 ⟨u, a5, c5, rfl, hi5, hle, hc5⟩; have hb5 := hb4.trans (hc5.mono hb4.size)))
              have Hi5 := hid_ hi5; have Hle := hid_ hle; have Hw5 := hid_ (HIw.out w5 hb5)
              have Hb5 := hid_ hb5
              clear hi5 hle hc3 hc4 hc5 hb3 hb4 hb5
              go_loopw [15] (fun i wr => ∃ k q : Nat, k ≤ 6 ∧ i = .int .i64 k ∧ wr = w5.drewN q) (fun i _ => 6 - (intOf i).toNat)
              case atStart => exact ⟨0, 0, Nat.zero_le _, rfl, rfl⟩
              case round =>
                obtain ⟨k, q, hk, rfl, hq⟩ := hrel
                have Hq := hid_ hq
                have HA := hid_ (show IntsAt wr a5 6 c5 u by rw [hq]; exact Hi5.out.drewN q)
                have HB := hid_ (show IntsAt wr a 6 c ws by rw [hq]; exact Hw5.out.drewN q)
                clear hq
                by_cases hlt : k < 6
                · obtain ⟨b1, o1, rfl, -, q1⟩ := HA.out.cells k hlt
                  obtain ⟨b2, o2, rfl, -, q2⟩ := HB.out.cells k hlt
                  have hle := Hle.out k
                  generalize u.getD k 0 = x1 at *
                  generalize ws.getD k 0 = x2 at *
                  have hle' : ¬ x2 < x1 := by omega
                  clear hle
                  go_wp2_with fail
                  go_quiet (fail)
                  go_wp2
                  go_roundw
                  case rel => exact ⟨k + 1, _, by omega, by go_num, by rw [Hq.out, drewN2]⟩
                  case measure => simp [intOf]; omega
                · obtain rfl : 6 = k := by omega
                  have hbr : Below w.heap.size w wr := by rw [Hq.out]; exact below_drewN Hb5.out q
                  clear HA HB
                  go_wp2_with (first
                    | (go_at_call 24; (with_reducible refine (HLo.out wr hbr).mono ?_); rintro e w7 ⟨rfl, hc7⟩; have hb7 := hbr.trans (hc7.mono hbr.size))
                    | (go_at_call 10; (with_reducible refine (HK.out _).mono ?_); rintro e wk ⟨rfl, hbk⟩))
                  go_ret
                  exact ⟨rfl, hb7.trans (hbk.mono hb7.size)⟩
          · have hq : (errWg ws l != 0) = true := by simpa using he
            generalize (resLongest L l).1 = kk at *
            generalize (resLongest L l).2 = kb at *
            generalize errWeb L l = z at *
            generalize resWg ws l = tt at *
            generalize errWg ws l = ff at *
            clear he hlb hrw
            go_enter Try.func5, Try.ntmps5
            go_wp2_with (first
              | (go_at_call 8; (with_reducible refine HG.out.mono ?_); rintro e w2 ⟨rfl, hb2⟩)
              | (go_at_call 9; (with_reducible refine (HB1.out w2 hb2).mono ?_); rintro e w3 ⟨rfl, rfl⟩)
              | (go_at_call 9; (with_reducible refine (HB2.out w2 hb2).mono ?_); rintro e w3 ⟨rfl, rfl⟩)
              | (go_at_call 19; (with_reducible refine (HC1.out w2 hb2).mono ?_); rintro e w3 ⟨rfl, hc3⟩; have hb3 := hb2.trans (hc3.mono hb2.size))
              | (go_at_call 20; (with_reducible refine (HE1.out w3 hb3).mono ?_); rintro e w4 ⟨rfl, rfl⟩)
              | (go_at_call 21; (with_reducible refine (HE2.out w3 hb3).mono ?_); rintro e w4 ⟨rfl, rfl⟩)
              | (go_at_call 22; (with_reducible refine (HC2.out w3 hb3).mono ?_); rintro e w4 ⟨rfl, hc4⟩; have hb4 := hb3.trans (hc4.mono hb3.size))
              | (go_at_call 23; (with_reducible refine (HWt.out w4 hb4).mono ?_); rintro e w5 ⟨u, a5, c5, rfl, hi5, hle, hc5⟩; have hb5 := hb4.trans (hc5.mono hb4.size)))
            have Hi5 := hid_ hi5; have Hle := hid_ hle; have Hw5 := hid_ (HIw.out w5 hb5)
            have Hb5 := hid_ hb5
            clear hi5 hle hc3 hc4 hc5 hb3 hb4 hb5
            go_loopw [15] (fun i wr => ∃ k q : Nat, k ≤ 6 ∧ i = .int .i64 k ∧ wr = w5.drewN q) (fun i _ => 6 - (intOf i).toNat)
            case atStart => exact ⟨0, 0, Nat.zero_le _, rfl, rfl⟩
            case round =>
              obtain ⟨k, q, hk, rfl, hq⟩ := hrel
              have Hq := hid_ hq
              have HA := hid_ (show IntsAt wr a5 6 c5 u by rw [hq]; exact Hi5.out.drewN q)
              have HB := hid_ (show IntsAt wr a 6 c ws by rw [hq]; exact Hw5.out.drewN q)
              clear hq
              by_cases hlt : k < 6
              · obtain ⟨b1, o1, rfl, -, q1⟩ := HA.out.cells k hlt
                obtain ⟨b2, o2, rfl, -, q2⟩ := HB.out.cells k hlt
                have hle := Hle.out k
                generalize u.getD k 0 = x1 at *
                generalize ws.getD k 0 = x2 at *
                have hle' : ¬ x2 < x1 := by omega
                clear hle
                go_wp2_with fail
                go_quiet (fail)
                go_wp2
                go_roundw
                case rel => exact ⟨k + 1, _, by omega, by go_num, by rw [Hq.out, drewN2]⟩
                case measure => simp [intOf]; omega
              · obtain rfl : 6 = k := by omega
                have hbr : Below w.heap.size w wr := by rw [Hq.out]; exact below_drewN Hb5.out q
                clear HA HB
                go_wp2_with (first
                  | (go_at_call 24; (with_reducible refine (HLo.out wr hbr).mono ?_); rintro e w7 ⟨rfl, hc7⟩; have hb7 := hbr.trans (hc7.mono hbr.size))
                  | (go_at_call 10; (with_reducible refine (HK.out _).mono ?_); rintro e wk ⟨rfl, hbk⟩))
                go_ret
                exact ⟨rfl, hb7.trans (hbk.mono hb7.size)⟩
        · have hq : (errCW L ws != 0) = true := by simpa using hz
          generalize errCW L ws = z at *
          generalize resWg ws l = tt at *
          generalize errWg ws l = ff at *
          clear hz
          go_enter Try.func5, Try.ntmps5
          go_wp2_with (first
            | (go_at_call 8; (with_reducible refine HG.out.mono ?_); rintro e w2 ⟨rfl, hb2⟩)
            | (go_at_call 9; (with_reducible refine (HB1.out w2 hb2).mono ?_); rintro e w3 ⟨rfl, rfl⟩)
            | (go_at_call 9; (with_reducible refine (HB2.out w2 hb2).mono ?_); rintro e w3 ⟨rfl, rfl⟩)
            | (go_at_call 19; (with_reducible refine (HC1.out w2 hb2).mono ?_); rintro e w3 ⟨rfl, hc3⟩; have hb3 := hb2.trans (hc3.mono hb2.size))
            | (go_at_call 20; (with_reducible refine (HE1.out w3 hb3).mono ?_); rintro e w4 ⟨rfl, rfl⟩)
            | (go_at_call 21; (with_reducible refine (HE2.out w3 hb3).mono ?_); rintro e w4 ⟨rfl, rfl⟩)
            | (go_at_call 22; (with_reducible refine (HC2.out w3 hb3).mono ?_); rintro e w4 ⟨rfl, hc4⟩; have hb4 := hb3.trans (hc4.mono hb3.size))
            | (go_at_call 10; (with_reducible refine (HK.out _).mono ?_); rintro e wk ⟨rfl, hbk⟩))
          go_ret
          exact ⟨rfl, hb4.trans (hbk.mono hb4.size)⟩
end Go.Proofs.Ytgipkbiogldjpaa
