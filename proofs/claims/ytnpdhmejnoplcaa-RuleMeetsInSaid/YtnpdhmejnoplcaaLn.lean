import Derived.Test.YtnpdhmejnoplcaaLk

namespace Go.Proofs.Ytnpdhmejnoplcaa
open Go.RowKit Go.Proofs.Kv

set_option maxRecDepth 100000 in
set_option maxHeartbeats 4000000 in
theorem ruleMeetsIn_calls (v : Value) (R S : Rl) (a : Option Addr) (n c : Nat) (l : List Int) (w : World) (hx : TwoAt w v R S) (h : IntsAt w a n c l) :
    Calls Try.prog 11 #[v, .slice a n c] w fun e w' => e = .returned (.bool true) ∧ Below w.heap.size w w' := by
  obtain ⟨x0, x1, x2, x3, x4, x5, x6, x7, rfl, hr, hs⟩ := hx
  have Hr := hid_ hr
  have Hs := hid_ hs
  obtain ⟨a1, n1, c1, a2, n2, c2, a3, n3, c3, e1, h1, h2, h3⟩ := hr
  obtain ⟨b1, m1, d1, b2, m2, d2, b3, m3, d3, e2, h4, h5, h6⟩ := hs
  clear h1 h2 h3 h4 h5 h6
  injection e1 with e1; injection e1 with e1; injection e1 with y0 e1; injection e1 with y1 e1; injection e1 with y2 e1; injection e1 with y3 e1
  injection e2 with e2; injection e2 with e2; injection e2 with y4 e2; injection e2 with y5 e2; injection e2 with y6 e2; injection e2 with y7 e2
  subst y0 y1 y2 y3 y4 y5 y6 y7
  clear e1 e2
  obtain ⟨w1, hw1⟩ : ∃ w1, w.alloc (.cells #[.int .i64 R.f, .slice a1 n1 c1, .slice a2 n2 c2, .slice a3 n3 c3, .int .i64 S.f, .slice b1 m1 d1, .slice b2 m2 d2, .slice b3 m3 d3] 43) = w1 := ⟨_, rfl⟩
  have Hb1 : Hid (Below w.heap.size w w1) := hid_ (by rw [← hw1]; exact below_alloc _ _)
  have HW1 := hid_ hw1
  have HQ := hid_ (fun W (hW : Below w1.heap.size w1 W) => box8 HW1.out hW)
  have HR := hid_ (fun W (hW : Below w1.heap.size w1 W) => (Hr.out.below Hb1.out (Nat.le_refl _)).below hW (Nat.le_refl _))
  have HS := hid_ (fun W (hW : Below w1.heap.size w1 W) => (Hs.out.below Hb1.out (Nat.le_refl _)).below hW (Nat.le_refl _))
  have HK := hid_ known_calls
  have hb1 : Below w1.heap.size w1 w1 := Below.refl _ _
  obtain ⟨q0, q1, q2, q3, q4, q5, q6, q7⟩ := HQ.out w1 hb1
  have HI := hid_ (fun W (hW : Below w1.heap.size w1 W) => (h.below Hb1.out (Nat.le_refl _)).below hW (Nat.le_refl _))
  clear h
  have HG0 : Hid (∀ W, Below w1.heap.size w1 W → Calls Try.prog 28 #[.agg #[.int .i64 R.f, .slice a1 n1 c1, .slice a2 n2 c2, .slice a3 n3 c3]] W fun e w' => e = .returned (.bool (bigR R)) ∧ Below W.heap.size W w') := hid_ (fun W hW => long_calls _ R W (HR.out W hW))
  have HG1 : Hid (∀ W, Below w1.heap.size w1 W → Calls Try.prog 28 #[.agg #[.int .i64 S.f, .slice b1 m1 d1, .slice b2 m2 d2, .slice b3 m3 d3]] W fun e w' => e = .returned (.bool (bigR S)) ∧ Below W.heap.size W w') := hid_ (fun W hW => long_calls _ S W (HS.out W hW))
  have HG2 : Hid (∀ W, Below w1.heap.size w1 W → Calls Try.prog 29 #[.slice a n c] W fun e w' => e = .returned (.bool (bigOne l)) ∧ Below W.heap.size W w') := hid_ (fun W hW => (large_calls a n c l W (HI.out W hW)).mono (fun _ _ ⟨he, hm⟩ => ⟨he, below_same hm⟩))
  cases hg0 : bigR R with
  | true =>
    rw [hg0] at HG0
    go_enter Try.func11, Try.ntmps11
    go_wp2_with (first
      | (go_at_call 28; (with_reducible refine (HG0.out _ hb1).mono ?_); rintro e wg0 ⟨rfl, hcg0⟩; have hbg0 := hcg0)
      | (go_at_call 30; refine (HK.out _).mono ?_; rintro e wk ⟨rfl, hck⟩))
    go_ret
    exact ⟨rfl, Hb1.out.trans ((hbg0.trans (hck.mono hbg0.size)).mono Hb1.out.size)⟩
  | false =>
    rw [hg0] at HG0
    cases hg1 : bigR S with
    | true =>
      rw [hg1] at HG1
      go_enter Try.func11, Try.ntmps11
      go_wp2_with (first
        | (go_at_call 28; (with_reducible refine (HG0.out _ hb1).mono ?_); rintro e wg0 ⟨rfl, hcg0⟩; have hbg0 := hcg0; obtain ⟨q0, q1, q2, q3, q4, q5, q6, q7⟩ := HQ.out wg0 hbg0)
        | (go_at_call 28; (with_reducible refine (HG1.out _ hbg0).mono ?_); rintro e wg1 ⟨rfl, hcg1⟩; have hbg1 := hbg0.trans (hcg1.mono hbg0.size))
        | (go_at_call 30; refine (HK.out _).mono ?_; rintro e wk ⟨rfl, hck⟩))
      go_ret
      exact ⟨rfl, Hb1.out.trans ((hbg1.trans (hck.mono hbg1.size)).mono Hb1.out.size)⟩
    | false =>
      rw [hg1] at HG1
      cases hg2 : bigOne l with
      | true =>
        rw [hg2] at HG2
        go_enter Try.func11, Try.ntmps11
        go_wp2_with (first
          | (go_at_call 28; (with_reducible refine (HG0.out _ hb1).mono ?_); rintro e wg0 ⟨rfl, hcg0⟩; have hbg0 := hcg0; obtain ⟨q0, q1, q2, q3, q4, q5, q6, q7⟩ := HQ.out wg0 hbg0)
          | (go_at_call 28; (with_reducible refine (HG1.out _ hbg0).mono ?_); rintro e wg1 ⟨rfl, hcg1⟩; have hbg1 := hbg0.trans (hcg1.mono hbg0.size); obtain ⟨q0, q1, q2, q3, q4, q5, q6, q7⟩ := HQ.out wg1 hbg1)
          | (go_at_call 29; (with_reducible refine (HG2.out _ hbg1).mono ?_); rintro e wg2 ⟨rfl, hcg2⟩; have hbg2 := hbg1.trans (hcg2.mono hbg1.size))
          | (go_at_call 30; refine (HK.out _).mono ?_; rintro e wk ⟨rfl, hck⟩))
        go_ret
        exact ⟨rfl, Hb1.out.trans ((hbg2.trans (hck.mono hbg2.size)).mono Hb1.out.size)⟩
      | false =>
        rw [hg2] at HG2
        by_cases hf : R.f = S.f
        · have hfq : (R.f != S.f) = false := by simpa using hf
          have HA := hid_ (fun W hW => ruPlaces_calls _ R a n c l W (HR.out W hW) (HI.out W hW))
          have HB := hid_ (fun W hW => ruPlaces_calls _ S a n c l W (HS.out W hW) (HI.out W hW))
          have HC := hid_ (fun W hW => ruCanMeet_calls _ _ R S W (HR.out W hW) (HS.out W hW))
          have HM := hid_ (fun x => @meet_in R S l x hf)
          have HT := hid_ (@errTwo_of R S l)
          clear hf
          by_cases he : err2 R l = 0
          · by_cases hg : err2 S l = 0
            · have ht := HT.out he hg
              have p1 : resPlaces R l = plP R l := if_pos he
              have p2 : resPlaces S l = plP S l := if_pos hg
              have HM2 := hid_ (fun x hx hy => HM.out x he hg hx hy)
              rw [he, p1] at HA
              rw [hg, p2] at HB
              rw [ht] at HC
              clear he hg p1 p2 ht HM HT
              generalize plP R l = P1 at *
              generalize plP S l = P2 at *
              generalize isBoth R S = z0 at *
              go_enter Try.func11, Try.ntmps11
              go_wp2_with (first
                | (go_at_call 28; (with_reducible refine (HG0.out _ hb1).mono ?_); rintro e wg0 ⟨rfl, hcg0⟩; have hbg0 := hcg0; obtain ⟨q0, q1, q2, q3, q4, q5, q6, q7⟩ := HQ.out wg0 hbg0)
                | (go_at_call 28; (with_reducible refine (HG1.out _ hbg0).mono ?_); rintro e wg1 ⟨rfl, hcg1⟩; have hbg1 := hbg0.trans (hcg1.mono hbg0.size); obtain ⟨q0, q1, q2, q3, q4, q5, q6, q7⟩ := HQ.out wg1 hbg1)
                | (go_at_call 29; (with_reducible refine (HG2.out _ hbg1).mono ?_); rintro e wg2 ⟨rfl, hcg2⟩; have hbg2 := hbg1.trans (hcg2.mono hbg1.size); obtain ⟨q0, q1, q2, q3, q4, q5, q6, q7⟩ := HQ.out wg2 hbg2)
                | (go_at_call 31; (with_reducible refine (HA.out _ hbg2).mono ?_); rintro e w6 ⟨v6, rfl, hm6⟩; have hb6 : Below w1.heap.size w1 w6 := hbg2.trans (hm6.bel.mono hbg2.size); obtain ⟨q0, q1, q2, q3, q4, q5, q6, q7⟩ := HQ.out w6 hb6; obtain ⟨ax, cx, rfl, hix⟩ := hm6.at_; have Hx := hid_ hix; clear hix)
                | (go_at_call 31; (with_reducible refine (HB.out _ hb6).mono ?_); rintro e w7 ⟨v7, rfl, hm7⟩; have hb7 : Below w1.heap.size w1 w7 := hb6.trans (hm7.bel.mono hb6.size); obtain ⟨q0, q1, q2, q3, q4, q5, q6, q7⟩ := HQ.out w7 hb7; obtain ⟨ay, cy, rfl, hiy⟩ := hm7.at_; have Hy := hid_ hiy; clear hiy)
                | (go_at_call 53; (with_reducible refine (HC.out _ hb7).mono ?_); rintro e w8 ⟨rfl, hc8⟩; have hb8 : Below w1.heap.size w1 w8 := hb7.trans (hc8.mono hb7.size); obtain ⟨q0, q1, q2, q3, q4, q5, q6, q7⟩ := HQ.out w8 hb8))
              clear q0 q1 q2 q3 q4 q5 q6 q7
              have Hxa := hid_ (Hx.out.below (hm7.bel.trans (hc8.mono hm7.bel.size)) (Nat.le_refl _))
              have Hya := hid_ (Hy.out.below hc8 (Nat.le_refl _))
              have hP : P1.length ≤ 9223372036854775807 := Nat.le_trans Hx.out.le Hx.out.small
              generalize hN : P1.length = N at *
              have HN := hid_ hN; clear hN
              generalize P2.length = N2 at *
              go_loopw [11] (fun i wr => ∃ k : Nat, k ≤ N ∧ i = .int .i64 k ∧ Below w8.heap.size w8 wr) (fun i _ => N - (intOf i).toNat)
              case atStart => exact ⟨0, Nat.zero_le _, rfl, Below.refl _ _⟩
              case round =>
                obtain ⟨k, hk, rfl, hbr⟩ := hrel
                by_cases hlt : k < N
                · obtain ⟨b, off, rfl, hbl, hcell⟩ := (Hxa.out.below hbr (Nat.le_refl _)).cells k hlt
                  have hcell1 : wr.cell? ⟨b, off + k, none⟩ = some (.int .i64 (P1.getD k 0)) := hcell
                  have HM3 := hid_ (HM2.out (P1.getD k 0) (getD_mem (by rw [HN.out]; exact hlt)))
                  generalize P1.getD k 0 = y at *
                  have HPt := hid_ (part_calls _ 1 1 [y] _ _ _ P2 (wr.alloc (.cells #[.int .i64 y] 3)) (IntsAt.one wr y 3) ((Hya.out.below hbr (Nat.le_refl _)).below (below_alloc wr _) (Nat.le_refl _)))
                  have hpb : partB [y] P2 = Has P2 y := by simp [partB]
                  rw [hpb] at HPt; clear hpb
                  cases hh : Has P2 y with
                  | false =>
                    rw [hh] at HPt
                    clear hh HM3 hcell
                    go_wp2_with (go_at_call 50; (refine HPt.out.mono ?_); rintro e w9 ⟨rfl, hw9⟩)
                    subst hw9
                    go_roundw
                    case rel => exact ⟨k + 1, by omega, by go_num, hbr.trans ((below_alloc wr _).mono hbr.size)⟩
                    case measure => simp [intOf]; omega
                  | true =>
                    rw [hh] at HPt
                    have hz : z0 = true := HM3.out hh
                    subst hz
                    clear hh HM3 hcell
                    go_wp2_with (go_at_call 50; (refine HPt.out.mono ?_); rintro e w9 ⟨rfl, hw9⟩)
                    subst hw9
                    go_roundw
                    case rel => exact ⟨k + 1, by omega, by go_num, hbr.trans ((below_alloc wr _).mono hbr.size)⟩
                    case measure => simp [intOf]; omega
                · obtain rfl : k = N := by omega
                  have hbw := hb8.trans (hbr.mono hb8.size)
                  go_wp2_with (go_at_call 30; (refine (HK.out _).mono ?_); rintro e wk ⟨rfl, hck⟩)
                  go_ret
                  exact ⟨rfl, Hb1.out.trans ((hbw.trans (hck.mono hbw.size)).mono Hb1.out.size)⟩
            · have hq : (err2 S l != 0) = true := by simpa using hg
              rw [he] at HA
              clear HM HT
              generalize resPlaces R l = P1 at *
              generalize resPlaces S l = P2 at *
              generalize errTwo R S = z1 at *
              generalize isBoth R S = z0 at *
              clear he
              clear hg
              generalize err2 S l = z3 at *
              go_enter Try.func11, Try.ntmps11
              go_wp2_with (first
                | (go_at_call 28; (with_reducible refine (HG0.out _ hb1).mono ?_); rintro e wg0 ⟨rfl, hcg0⟩; have hbg0 := hcg0; obtain ⟨q0, q1, q2, q3, q4, q5, q6, q7⟩ := HQ.out wg0 hbg0)
                | (go_at_call 28; (with_reducible refine (HG1.out _ hbg0).mono ?_); rintro e wg1 ⟨rfl, hcg1⟩; have hbg1 := hbg0.trans (hcg1.mono hbg0.size); obtain ⟨q0, q1, q2, q3, q4, q5, q6, q7⟩ := HQ.out wg1 hbg1)
                | (go_at_call 29; (with_reducible refine (HG2.out _ hbg1).mono ?_); rintro e wg2 ⟨rfl, hcg2⟩; have hbg2 := hbg1.trans (hcg2.mono hbg1.size); obtain ⟨q0, q1, q2, q3, q4, q5, q6, q7⟩ := HQ.out wg2 hbg2)
                | (go_at_call 31; (with_reducible refine (HA.out _ hbg2).mono ?_); rintro e w6 ⟨v6, rfl, hm6⟩; have hb6 : Below w1.heap.size w1 w6 := hbg2.trans (hm6.bel.mono hbg2.size); obtain ⟨q0, q1, q2, q3, q4, q5, q6, q7⟩ := HQ.out w6 hb6; obtain ⟨ax, cx, rfl, hix⟩ := hm6.at_; have Hx := hid_ hix; clear hix)
                | (go_at_call 31; (with_reducible refine (HB.out _ hb6).mono ?_); rintro e w7 ⟨v7, rfl, hm7⟩; have hb7 : Below w1.heap.size w1 w7 := hb6.trans (hm7.bel.mono hb6.size); obtain ⟨q0, q1, q2, q3, q4, q5, q6, q7⟩ := HQ.out w7 hb7; obtain ⟨ay, cy, rfl, hiy⟩ := hm7.at_; have Hy := hid_ hiy; clear hiy)
                | (go_at_call 53; (with_reducible refine (HC.out _ hb7).mono ?_); rintro e w8 ⟨rfl, hc8⟩; have hb8 : Below w1.heap.size w1 w8 := hb7.trans (hc8.mono hb7.size); obtain ⟨q0, q1, q2, q3, q4, q5, q6, q7⟩ := HQ.out w8 hb8)
                | (go_at_call 30; (refine (HK.out _).mono ?_); rintro e wk ⟨rfl, hck⟩))
              go_ret
              exact ⟨rfl, Hb1.out.trans ((hb8.trans (hck.mono hb8.size)).mono Hb1.out.size)⟩
          · have hq : (err2 R l != 0) = true := by simpa using he
            clear HM HT
            generalize resPlaces R l = P1 at *
            generalize resPlaces S l = P2 at *
            generalize errTwo R S = z1 at *
            generalize isBoth R S = z0 at *
            generalize err2 R l = z2 at *
            clear he
            generalize err2 S l = z3 at *
            go_enter Try.func11, Try.ntmps11
            go_wp2_with (first
              | (go_at_call 28; (with_reducible refine (HG0.out _ hb1).mono ?_); rintro e wg0 ⟨rfl, hcg0⟩; have hbg0 := hcg0; obtain ⟨q0, q1, q2, q3, q4, q5, q6, q7⟩ := HQ.out wg0 hbg0)
              | (go_at_call 28; (with_reducible refine (HG1.out _ hbg0).mono ?_); rintro e wg1 ⟨rfl, hcg1⟩; have hbg1 := hbg0.trans (hcg1.mono hbg0.size); obtain ⟨q0, q1, q2, q3, q4, q5, q6, q7⟩ := HQ.out wg1 hbg1)
              | (go_at_call 29; (with_reducible refine (HG2.out _ hbg1).mono ?_); rintro e wg2 ⟨rfl, hcg2⟩; have hbg2 := hbg1.trans (hcg2.mono hbg1.size); obtain ⟨q0, q1, q2, q3, q4, q5, q6, q7⟩ := HQ.out wg2 hbg2)
              | (go_at_call 31; (with_reducible refine (HA.out _ hbg2).mono ?_); rintro e w6 ⟨v6, rfl, hm6⟩; have hb6 : Below w1.heap.size w1 w6 := hbg2.trans (hm6.bel.mono hbg2.size); obtain ⟨q0, q1, q2, q3, q4, q5, q6, q7⟩ := HQ.out w6 hb6; obtain ⟨ax, cx, rfl, hix⟩ := hm6.at_; have Hx := hid_ hix; clear hix)
              | (go_at_call 31; (with_reducible refine (HB.out _ hb6).mono ?_); rintro e w7 ⟨v7, rfl, hm7⟩; have hb7 : Below w1.heap.size w1 w7 := hb6.trans (hm7.bel.mono hb6.size); obtain ⟨q0, q1, q2, q3, q4, q5, q6, q7⟩ := HQ.out w7 hb7; obtain ⟨ay, cy, rfl, hiy⟩ := hm7.at_; have Hy := hid_ hiy; clear hiy)
              | (go_at_call 53; (with_reducible refine (HC.out _ hb7).mono ?_); rintro e w8 ⟨rfl, hc8⟩; have hb8 : Below w1.heap.size w1 w8 := hb7.trans (hc8.mono hb7.size); obtain ⟨q0, q1, q2, q3, q4, q5, q6, q7⟩ := HQ.out w8 hb8)
              | (go_at_call 30; (refine (HK.out _).mono ?_); rintro e wk ⟨rfl, hck⟩))
            go_ret
            exact ⟨rfl, Hb1.out.trans ((hb8.trans (hck.mono hb8.size)).mono Hb1.out.size)⟩
        · have hfq : (R.f != S.f) = true := by simpa using hf
          clear hf
          go_enter Try.func11, Try.ntmps11
          go_wp2_with (first
            | (go_at_call 28; (with_reducible refine (HG0.out _ hb1).mono ?_); rintro e wg0 ⟨rfl, hcg0⟩; have hbg0 := hcg0; obtain ⟨q0, q1, q2, q3, q4, q5, q6, q7⟩ := HQ.out wg0 hbg0)
            | (go_at_call 28; (with_reducible refine (HG1.out _ hbg0).mono ?_); rintro e wg1 ⟨rfl, hcg1⟩; have hbg1 := hbg0.trans (hcg1.mono hbg0.size); obtain ⟨q0, q1, q2, q3, q4, q5, q6, q7⟩ := HQ.out wg1 hbg1)
            | (go_at_call 29; (with_reducible refine (HG2.out _ hbg1).mono ?_); rintro e wg2 ⟨rfl, hcg2⟩; have hbg2 := hbg1.trans (hcg2.mono hbg1.size); obtain ⟨q0, q1, q2, q3, q4, q5, q6, q7⟩ := HQ.out wg2 hbg2)
            | (go_at_call 30; (refine (HK.out _).mono ?_); rintro e wk ⟨rfl, hck⟩))
          go_ret
          exact ⟨rfl, Hb1.out.trans ((hbg2.trans (hck.mono hbg2.size)).mono Hb1.out.size)⟩
end Go.Proofs.Ytnpdhmejnoplcaa
