import Derived.Test.YteaggabafeedhaaLa
import Derived.Test.YteaggabafeedhaaLe
import Derived.Test.YteaggabafeedhaaLd
import Derived.Test.YteaggabafeedhaaRm
namespace Go.Proofs.Yteaggabafeedhaa
open Go.RowKit Go.Proofs.Kv

theorem all_facts {R : Rl} {l : List Int} (h : errAll R l = 0) : err2 R l = 0 ∧ (plP R l = [] → resAll R l = l) := by
  by_cases he : err2 R l = 0
  · refine ⟨he, fun hp => ?_⟩
    rw [errAll, if_pos he, hp] at h
    rw [resAll, if_pos he, hp]
    unfold putErr at h
    unfold putRes
    by_cases h8 : 8 < (putAll R [] l).length
    · rw [if_pos h8] at h; cases h
    · rw [if_neg h8]; rfl
  · rw [errAll, if_neg he] at h
    exact absurd h he

set_option maxRecDepth 100000 in
set_option maxHeartbeats 4000000 in
theorem ruleAll_calls (v : Value) (R : Rl) (a : Option Addr) (n c : Nat) (l : List Int) (w : World) (hr : RuleAt w v R) (h : IntsAt w a n c l) :
    Calls Try.prog 6 #[v, .slice a n c] w fun e w' => e = .returned (.bool true) ∧ Below w.heap.size w w' := by
  have Hr := hid_ hr
  obtain ⟨a1, n1, c1, a2, n2, c2, a3, n3, c3, rfl, h1, h2, h3⟩ := hr
  clear h1 h2 h3
  obtain ⟨w1, hw1⟩ : ∃ w1, w.alloc (.cells #[.int .i64 R.f, .slice a1 n1 c1, .slice a2 n2 c2, .slice a3 n3 c3] 24) = w1 := ⟨_, rfl⟩
  have Hb1 : Hid (Below w.heap.size w w1) := hid_ (by rw [← hw1]; exact below_alloc _ _)
  have HW1 := hid_ hw1
  have HQ := hid_ (fun W (hW : Below w1.heap.size w1 W) => box4 HW1.out hW)
  have HR := hid_ (fun W (hW : Below w1.heap.size w1 W) => (Hr.out.below Hb1.out (Nat.le_refl _)).below hW (Nat.le_refl _))
  have HK := hid_ known_calls
  have hb1 : Below w1.heap.size w1 w1 := Below.refl _ _
  obtain ⟨q0, q1, q2, q3⟩ := HQ.out w1 hb1
  have HLn := hid_ h.len
  have HI := hid_ (fun W (hW : Below w1.heap.size w1 W) => (h.below Hb1.out (Nat.le_refl _)).below hW (Nat.le_refl _))
  clear h
  have HG0 : Hid (∀ W, Below w1.heap.size w1 W → Calls Try.prog 18 #[.agg #[.int .i64 R.f, .slice a1 n1 c1, .slice a2 n2 c2, .slice a3 n3 c3]] W fun e w' => e = .returned (.bool (bigR R)) ∧ Below W.heap.size W w') := hid_ (fun W hW => long_calls _ R W (HR.out W hW))
  have HG1 : Hid (∀ W, Below w1.heap.size w1 W → Calls Try.prog 19 #[.slice a n c] W fun e w' => e = .returned (.bool (bigOne l)) ∧ Below W.heap.size W w') := hid_ (fun W hW => (large_calls a n c l W (HI.out W hW)).mono (fun _ _ ⟨he, hm⟩ => ⟨he, below_same hm⟩))
  cases hg0 : bigR R with
  | true =>
    rw [hg0] at HG0
    go_enter Try.func6, Try.ntmps6
    go_wp2_with (first
      | (go_at_call 18; refine (HG0.out _ hb1).mono ?_; rintro e wg0 ⟨rfl, hcg0⟩; have hbg0 := hcg0)
      | (go_at_call 20; refine (HK.out _).mono ?_; rintro e wk ⟨rfl, hck⟩))
    go_ret
    exact ⟨rfl, Hb1.out.trans ((hbg0.trans (hck.mono hbg0.size)).mono Hb1.out.size)⟩
  | false =>
    rw [hg0] at HG0
    cases hg1 : bigOne l with
    | true =>
      rw [hg1] at HG1
      go_enter Try.func6, Try.ntmps6
      go_wp2_with (first
        | (go_at_call 18; refine (HG0.out _ hb1).mono ?_; rintro e wg0 ⟨rfl, hcg0⟩; have hbg0 := hcg0; obtain ⟨q0, q1, q2, q3⟩ := HQ.out wg0 hbg0)
        | (go_at_call 19; refine (HG1.out _ hbg0).mono ?_; rintro e wg1 ⟨rfl, hcg1⟩; have hbg1 := hbg0.trans (hcg1.mono hbg0.size))
        | (go_at_call 20; refine (HK.out _).mono ?_; rintro e wk ⟨rfl, hck⟩))
      go_ret
      exact ⟨rfl, Hb1.out.trans ((hbg1.trans (hck.mono hbg1.size)).mono Hb1.out.size)⟩
    | false =>
      rw [hg1] at HG1
      have hn100 : n ≤ 100 := by have := bigOne_no hg1; have := HLn.out; omega
      have HA := hid_ (fun W hW a n c (hi : IntsAt W a n c l) => ruAtAll_calls _ R a n c l W (HR.out W hW) hi)
      have HF := hid_ (fun W hW => refAtAll_calls _ R a n c l W (HR.out W hW) (HI.out W hW))
      have HP := hid_ (fun W hW => ruPlaces_calls _ R a n c l W (HR.out W hW) (HI.out W hW))
      have HSm := hid_ (fun W a n c l a' n' c' h h' => sameT_calls a n c l a' n' c' W h h')
      have HSl := hid_ (fun W hW A N C (hi : IntsAt W A N C l) => sameT_calls A N C l a n c W hi (HI.out W hW))
      have HY := hid_ (@all_facts R l)
      have HPl : Hid (err2 R l = 0 → resPlaces R l = plP R l) := hid_ (fun h => if_pos h)
      by_cases h0 : errAll R l = 0
      · obtain ⟨y1, y2⟩ := HY.out h0
        rw [HPl.out y1, y1] at HP
        rw [h0] at HA HF
        clear HY HPl y1 h0
        cases hP : plP R l with
        | nil =>
          have hm := y2 hP
          rw [hP] at HP
          clear hP y2
          have HSx := hid_ (fun W hW A N C (hi : IntsAt W A N C (resAll R l)) => sameT_calls A N C (resAll R l) a n c W hi (by rw [hm]; exact HI.out W hW))
          clear hm
          generalize resAll R l = m at *
          go_enter Try.func6, Try.ntmps6
          go_wp2_with (first
            | (go_at_call 18; refine (HG0.out _ hb1).mono ?_; rintro e wg0 ⟨rfl, hcg0⟩; have hbg0 := hcg0; obtain ⟨q0, q1, q2, q3⟩ := HQ.out wg0 hbg0)
            | (go_at_call 19; refine (HG1.out _ hbg0).mono ?_; rintro e wg1 ⟨rfl, hcg1⟩; have hbg1 := hbg0.trans (hcg1.mono hbg0.size); obtain ⟨q0, q1, q2, q3⟩ := HQ.out wg1 hbg1)
            | (at_builtin; refine wpList_copy_ints _ rfl (.tmp 21) (.tmp 22) rfl rfl _ _ _ _ rfl (HI.out _ hbg1) (by omega) ?_; intro v3 w3 hm3; have hb3 : Below w1.heap.size w1 w3 := hbg1.trans (hm3.bel.mono hbg1.size); obtain ⟨q0, q1, q2, q3⟩ := HQ.out w3 hb3; obtain ⟨ao, co, rfl, hio⟩ := hm3.at_; have Ho := hid_ hio; clear hio)
            | (go_at_call 32; refine (HA.out _ hb3 _ _ _ Ho.out).mono ?_; rintro e w4 ⟨v4, rfl, hm4⟩; have hb4 : Below w1.heap.size w1 w4 := hb3.trans (hm4.bel.mono hb3.size); obtain ⟨q0, q1, q2, q3⟩ := HQ.out w4 hb4; have HM4 := hid_ hm4; obtain ⟨ax, cx, rfl, hix⟩ := hm4.at_; have Hx := hid_ hix; clear hix hm4; have hxs : m.length ≤ 9223372036854775807 := Nat.le_trans Hx.out.le Hx.out.small)
            | (go_at_call 33; refine (HF.out _ hb4).mono ?_; rintro e w5 ⟨v5, rfl, hm5⟩; have hb5 : Below w1.heap.size w1 w5 := hb4.trans (hm5.bel.mono hb4.size); obtain ⟨q0, q1, q2, q3⟩ := HQ.out w5 hb5; obtain ⟨ay, cy, rfl, hiy⟩ := hm5.at_; have Hy := hid_ hiy; clear hiy)
            | (go_at_call 27; with_reducible refine (HSm.out _ _ _ _ _ _ _ _ (Hx.out.below hm5.bel (Nat.le_refl _)) Hy.out).mono ?_; rintro e w6 ⟨rfl, hc6⟩; have hb6 := hb5.trans (hc6.mono hb5.size); obtain ⟨q0, q1, q2, q3⟩ := HQ.out w6 hb6)
            | (go_at_call 21; refine (HP.out _ hb6).mono ?_; rintro e w7 ⟨v7, rfl, hm7⟩; have hb7 : Below w1.heap.size w1 w7 := hb6.trans (hm7.bel.mono hb6.size); obtain ⟨q0, q1, q2, q3⟩ := HQ.out w7 hb7; obtain ⟨az, cz, rfl, hiz⟩ := hm7.at_; have Hz := hid_ hiz; clear hiz)
            | (go_at_call 27; with_reducible refine (HSx.out _ hb7 _ _ _ (((Hx.out.below hm5.bel (Nat.le_refl _)).below hc6 (Nat.le_refl _)).below hm7.bel (Nat.le_refl _))).mono ?_; rintro e w8 ⟨rfl, hc8⟩; have hb8 := hb7.trans (hc8.mono hb7.size); obtain ⟨q0, q1, q2, q3⟩ := HQ.out w8 hb8))
          generalize hnx : m.length = nx at *
          have h47 : Below w4.heap.size w4 w8 := hm5.bel.trans ((hc6.trans ((hm7.bel.trans (hc8.mono hm7.bel.size)).mono hc6.size)).mono hm5.bel.size)
          have hb36 : Below w3.heap.size w3 w8 := HM4.out.bel.trans (h47.mono HM4.out.bel.size)
          have hblk : nx = 0 ∨ ∃ g cur, ax = some ⟨g, 0, none⟩ ∧ w3.heap.size ≤ g ∧ w8.heap[g]? = some (.cells cur 3 (0, 0)) ∧ nx ≤ cur.size := by
            rcases own_block (own_below HM4.out.own h47 (Nat.le_refl _)) with ⟨h, _⟩ | h
            · exact .inl h
            · exact .inr h
          have Hb36 := hid_ hb36; clear hb36 q0 q1 q2 q3 h47
          rcases hblk with h0 | ⟨g, cur0, rfl, hg3, hcur, hlen⟩
          · subst h0
            go_loopw [13] (fun i wr => i = .int .i64 0 ∧ wr = w8) (fun i _ => 0)
            case atStart => exact ⟨rfl, rfl⟩
            case round =>
              obtain ⟨rfl, rfl⟩ := hrel
              go_wp2_with (first
                | (go_at_call 27; with_reducible refine (HSl.out _ hb8 _ _ _ (Ho.out.below Hb36.out (Nat.le_refl _))).mono ?_; rintro e w9 ⟨rfl, hc9⟩; have hb9 := hb8.trans (hc9.mono hb8.size))
                | (go_at_call 20; refine (HK.out _).mono ?_; rintro e wk ⟨rfl, hck⟩))
              go_ret
              exact ⟨rfl, Hb1.out.trans ((hb9.trans (hck.mono hb9.size)).mono Hb1.out.size)⟩
          · go_loopw [13] (fun i wr => ∃ (k : Nat) (cur : Array Value), k ≤ nx ∧ i = .int .i64 k ∧ wr.heap[g]? = some (.cells cur 3 (0, 0)) ∧ nx ≤ cur.size ∧ Below w3.heap.size w3 wr ∧ Below w1.heap.size w1 wr) (fun i _ => nx - (intOf i).toNat)
            case atStart => exact ⟨0, cur0, Nat.zero_le _, rfl, hcur, hlen, Hb36.out, hb8⟩
            case round =>
              obtain ⟨k, cur, hk, rfl, hc, hl, hb3r, hb1r⟩ := hrel
              have Hc := hid_ hc; clear hc
              by_cases hlt : k < nx
              · have hkc : (k : Int) < (nx : Int) := by omega
                have hcell : wr.cell? ⟨g, k, none⟩ = some cur[k] := by rw [Go.Joins.cell_of_block Hc.out]; exact Array.getElem?_eq_getElem (by omega)
                have hfro : wr.frozen? ⟨g, k, none⟩ = false := Go.Joins.unfrozen_of_block Hc.out k
                go_wp2
                go_roundw
                case rel => exact ⟨k + 1, cur.setIfInBounds k (.int .i64 (-1)), by omega, by go_num, Go.Joins.block_setCell Hc.out _, by simpa using hl, Below.setCell hb3r hg3 _, Below.setCell hb1r (Nat.le_trans hb3.size hg3) _⟩
                case measure => simp [intOf]; omega
              · obtain rfl : k = nx := by omega
                go_wp2_with (first
                  | (go_at_call 27; with_reducible refine (HSl.out _ hb1r _ _ _ (Ho.out.below hb3r (Nat.le_refl _))).mono ?_; rintro e w9 ⟨rfl, hc9⟩; have hb9 := hb1r.trans (hc9.mono hb1r.size))
                  | (go_at_call 20; refine (HK.out _).mono ?_; rintro e wk ⟨rfl, hck⟩))
                go_ret
                exact ⟨rfl, Hb1.out.trans ((hb9.trans (hck.mono hb9.size)).mono Hb1.out.size)⟩
        | cons p P =>
          rw [hP] at HP
          clear hP y2
          have hln2 : (0 : Int) < (((p :: P).length : Nat) : Int) := by simp only [List.length_cons]; omega
          generalize resAll R l = m at *
          go_enter Try.func6, Try.ntmps6
          go_wp2_with (first
            | (go_at_call 18; refine (HG0.out _ hb1).mono ?_; rintro e wg0 ⟨rfl, hcg0⟩; have hbg0 := hcg0; obtain ⟨q0, q1, q2, q3⟩ := HQ.out wg0 hbg0)
            | (go_at_call 19; refine (HG1.out _ hbg0).mono ?_; rintro e wg1 ⟨rfl, hcg1⟩; have hbg1 := hbg0.trans (hcg1.mono hbg0.size); obtain ⟨q0, q1, q2, q3⟩ := HQ.out wg1 hbg1)
            | (at_builtin; refine wpList_copy_ints _ rfl (.tmp 21) (.tmp 22) rfl rfl _ _ _ _ rfl (HI.out _ hbg1) (by omega) ?_; intro v3 w3 hm3; have hb3 : Below w1.heap.size w1 w3 := hbg1.trans (hm3.bel.mono hbg1.size); obtain ⟨q0, q1, q2, q3⟩ := HQ.out w3 hb3; obtain ⟨ao, co, rfl, hio⟩ := hm3.at_; have Ho := hid_ hio; clear hio)
            | (go_at_call 32; refine (HA.out _ hb3 _ _ _ Ho.out).mono ?_; rintro e w4 ⟨v4, rfl, hm4⟩; have hb4 : Below w1.heap.size w1 w4 := hb3.trans (hm4.bel.mono hb3.size); obtain ⟨q0, q1, q2, q3⟩ := HQ.out w4 hb4; have HM4 := hid_ hm4; obtain ⟨ax, cx, rfl, hix⟩ := hm4.at_; have Hx := hid_ hix; clear hix hm4; have hxs : m.length ≤ 9223372036854775807 := Nat.le_trans Hx.out.le Hx.out.small)
            | (go_at_call 33; refine (HF.out _ hb4).mono ?_; rintro e w5 ⟨v5, rfl, hm5⟩; have hb5 : Below w1.heap.size w1 w5 := hb4.trans (hm5.bel.mono hb4.size); obtain ⟨q0, q1, q2, q3⟩ := HQ.out w5 hb5; obtain ⟨ay, cy, rfl, hiy⟩ := hm5.at_; have Hy := hid_ hiy; clear hiy)
            | (go_at_call 27; with_reducible refine (HSm.out _ _ _ _ _ _ _ _ (Hx.out.below hm5.bel (Nat.le_refl _)) Hy.out).mono ?_; rintro e w6 ⟨rfl, hc6⟩; have hb6 := hb5.trans (hc6.mono hb5.size); obtain ⟨q0, q1, q2, q3⟩ := HQ.out w6 hb6)
            | (go_at_call 21; refine (HP.out _ hb6).mono ?_; rintro e w7 ⟨v7, rfl, hm7⟩; have hb7 : Below w1.heap.size w1 w7 := hb6.trans (hm7.bel.mono hb6.size); obtain ⟨q0, q1, q2, q3⟩ := HQ.out w7 hb7; obtain ⟨az, cz, rfl, hiz⟩ := hm7.at_; have Hz := hid_ hiz; clear hiz; generalize hN : (p :: P).length = N at *))
          generalize hnx : m.length = nx at *
          have h47 : Below w4.heap.size w4 w7 := hm5.bel.trans ((hc6.trans ((hm7.bel).mono hc6.size)).mono hm5.bel.size)
          have hb36 : Below w3.heap.size w3 w7 := HM4.out.bel.trans (h47.mono HM4.out.bel.size)
          have hblk : nx = 0 ∨ ∃ g cur, ax = some ⟨g, 0, none⟩ ∧ w3.heap.size ≤ g ∧ w7.heap[g]? = some (.cells cur 3 (0, 0)) ∧ nx ≤ cur.size := by
            rcases own_block (own_below HM4.out.own h47 (Nat.le_refl _)) with ⟨h, _⟩ | h
            · exact .inl h
            · exact .inr h
          have Hb36 := hid_ hb36; clear hb36 q0 q1 q2 q3 h47
          rcases hblk with h0 | ⟨g, cur0, rfl, hg3, hcur, hlen⟩
          · subst h0
            go_loopw [13] (fun i wr => i = .int .i64 0 ∧ wr = w7) (fun i _ => 0)
            case atStart => exact ⟨rfl, rfl⟩
            case round =>
              obtain ⟨rfl, rfl⟩ := hrel
              go_wp2_with (first
                | (go_at_call 27; with_reducible refine (HSl.out _ hb7 _ _ _ (Ho.out.below Hb36.out (Nat.le_refl _))).mono ?_; rintro e w9 ⟨rfl, hc9⟩; have hb9 := hb7.trans (hc9.mono hb7.size))
                | (go_at_call 20; refine (HK.out _).mono ?_; rintro e wk ⟨rfl, hck⟩))
              go_ret
              exact ⟨rfl, Hb1.out.trans ((hb9.trans (hck.mono hb9.size)).mono Hb1.out.size)⟩
          · go_loopw [13] (fun i wr => ∃ (k : Nat) (cur : Array Value), k ≤ nx ∧ i = .int .i64 k ∧ wr.heap[g]? = some (.cells cur 3 (0, 0)) ∧ nx ≤ cur.size ∧ Below w3.heap.size w3 wr ∧ Below w1.heap.size w1 wr) (fun i _ => nx - (intOf i).toNat)
            case atStart => exact ⟨0, cur0, Nat.zero_le _, rfl, hcur, hlen, Hb36.out, hb7⟩
            case round =>
              obtain ⟨k, cur, hk, rfl, hc, hl, hb3r, hb1r⟩ := hrel
              have Hc := hid_ hc; clear hc
              by_cases hlt : k < nx
              · have hkc : (k : Int) < (nx : Int) := by omega
                have hcell : wr.cell? ⟨g, k, none⟩ = some cur[k] := by rw [Go.Joins.cell_of_block Hc.out]; exact Array.getElem?_eq_getElem (by omega)
                have hfro : wr.frozen? ⟨g, k, none⟩ = false := Go.Joins.unfrozen_of_block Hc.out k
                go_wp2
                go_roundw
                case rel => exact ⟨k + 1, cur.setIfInBounds k (.int .i64 (-1)), by omega, by go_num, Go.Joins.block_setCell Hc.out _, by simpa using hl, Below.setCell hb3r hg3 _, Below.setCell hb1r (Nat.le_trans hb3.size hg3) _⟩
                case measure => simp [intOf]; omega
              · obtain rfl : k = nx := by omega
                go_wp2_with (first
                  | (go_at_call 27; with_reducible refine (HSl.out _ hb1r _ _ _ (Ho.out.below hb3r (Nat.le_refl _))).mono ?_; rintro e w9 ⟨rfl, hc9⟩; have hb9 := hb1r.trans (hc9.mono hb1r.size))
                  | (go_at_call 20; refine (HK.out _).mono ?_; rintro e wk ⟨rfl, hck⟩))
                go_ret
                exact ⟨rfl, Hb1.out.trans ((hb9.trans (hck.mono hb9.size)).mono Hb1.out.size)⟩
      · clear HY HPl
        generalize resAll R l = m at *
        generalize errAll R l = e0 at *
        generalize resPlaces R l = PP at *
        generalize err2 R l = e2 at *
        have hq : (e0 != 0) = true := by simpa using h0
        clear h0
        go_enter Try.func6, Try.ntmps6
        go_wp2_with (first
          | (go_at_call 18; refine (HG0.out _ hb1).mono ?_; rintro e wg0 ⟨rfl, hcg0⟩; have hbg0 := hcg0; obtain ⟨q0, q1, q2, q3⟩ := HQ.out wg0 hbg0)
          | (go_at_call 19; refine (HG1.out _ hbg0).mono ?_; rintro e wg1 ⟨rfl, hcg1⟩; have hbg1 := hbg0.trans (hcg1.mono hbg0.size); obtain ⟨q0, q1, q2, q3⟩ := HQ.out wg1 hbg1)
          | (at_builtin; refine wpList_copy_ints _ rfl (.tmp 21) (.tmp 22) rfl rfl _ _ _ _ rfl (HI.out _ hbg1) (by omega) ?_; intro v3 w3 hm3; have hb3 : Below w1.heap.size w1 w3 := hbg1.trans (hm3.bel.mono hbg1.size); obtain ⟨q0, q1, q2, q3⟩ := HQ.out w3 hb3; obtain ⟨ao, co, rfl, hio⟩ := hm3.at_; have Ho := hid_ hio; clear hio)
          | (go_at_call 32; refine (HA.out _ hb3 _ _ _ Ho.out).mono ?_; rintro e w4 ⟨v4, rfl, hm4⟩; have hb4 : Below w1.heap.size w1 w4 := hb3.trans (hm4.bel.mono hb3.size); obtain ⟨q0, q1, q2, q3⟩ := HQ.out w4 hb4; have HM4 := hid_ hm4; obtain ⟨ax, cx, rfl, hix⟩ := hm4.at_; have Hx := hid_ hix; clear hix hm4; have hxs : m.length ≤ 9223372036854775807 := Nat.le_trans Hx.out.le Hx.out.small)
          | (go_at_call 33; refine (HF.out _ hb4).mono ?_; rintro e w5 ⟨v5, rfl, hm5⟩; have hb5 : Below w1.heap.size w1 w5 := hb4.trans (hm5.bel.mono hb4.size); obtain ⟨q0, q1, q2, q3⟩ := HQ.out w5 hb5; obtain ⟨ay, cy, rfl, hiy⟩ := hm5.at_; have Hy := hid_ hiy; clear hiy)
          | (go_at_call 27; with_reducible refine (HSm.out _ _ _ _ _ _ _ _ (Hx.out.below hm5.bel (Nat.le_refl _)) Hy.out).mono ?_; rintro e w6 ⟨rfl, hc6⟩; have hb6 := hb5.trans (hc6.mono hb5.size); obtain ⟨q0, q1, q2, q3⟩ := HQ.out w6 hb6)
          | (go_at_call 21; refine (HP.out _ hb6).mono ?_; rintro e w7 ⟨v7, rfl, hm7⟩; have hb7 : Below w1.heap.size w1 w7 := hb6.trans (hm7.bel.mono hb6.size); obtain ⟨q0, q1, q2, q3⟩ := HQ.out w7 hb7; obtain ⟨az, cz, rfl, hiz⟩ := hm7.at_; have Hz := hid_ hiz; clear hiz))
        generalize hnx : m.length = nx at *
        have h47 : Below w4.heap.size w4 w7 := hm5.bel.trans ((hc6.trans ((hm7.bel).mono hc6.size)).mono hm5.bel.size)
        have hb36 : Below w3.heap.size w3 w7 := HM4.out.bel.trans (h47.mono HM4.out.bel.size)
        have hblk : nx = 0 ∨ ∃ g cur, ax = some ⟨g, 0, none⟩ ∧ w3.heap.size ≤ g ∧ w7.heap[g]? = some (.cells cur 3 (0, 0)) ∧ nx ≤ cur.size := by
          rcases own_block (own_below HM4.out.own h47 (Nat.le_refl _)) with ⟨h, _⟩ | h
          · exact .inl h
          · exact .inr h
        have Hb36 := hid_ hb36; clear hb36 q0 q1 q2 q3 h47
        rcases hblk with h0 | ⟨g, cur0, rfl, hg3, hcur, hlen⟩
        · subst h0
          go_loopw [13] (fun i wr => i = .int .i64 0 ∧ wr = w7) (fun i _ => 0)
          case atStart => exact ⟨rfl, rfl⟩
          case round =>
            obtain ⟨rfl, rfl⟩ := hrel
            go_wp2_with (first
              | (go_at_call 27; with_reducible refine (HSl.out _ hb7 _ _ _ (Ho.out.below Hb36.out (Nat.le_refl _))).mono ?_; rintro e w9 ⟨rfl, hc9⟩; have hb9 := hb7.trans (hc9.mono hb7.size))
              | (go_at_call 20; refine (HK.out _).mono ?_; rintro e wk ⟨rfl, hck⟩))
            go_ret
            exact ⟨rfl, Hb1.out.trans ((hb9.trans (hck.mono hb9.size)).mono Hb1.out.size)⟩
        · go_loopw [13] (fun i wr => ∃ (k : Nat) (cur : Array Value), k ≤ nx ∧ i = .int .i64 k ∧ wr.heap[g]? = some (.cells cur 3 (0, 0)) ∧ nx ≤ cur.size ∧ Below w3.heap.size w3 wr ∧ Below w1.heap.size w1 wr) (fun i _ => nx - (intOf i).toNat)
          case atStart => exact ⟨0, cur0, Nat.zero_le _, rfl, hcur, hlen, Hb36.out, hb7⟩
          case round =>
            obtain ⟨k, cur, hk, rfl, hc, hl, hb3r, hb1r⟩ := hrel
            have Hc := hid_ hc; clear hc
            by_cases hlt : k < nx
            · have hkc : (k : Int) < (nx : Int) := by omega
              have hcell : wr.cell? ⟨g, k, none⟩ = some cur[k] := by rw [Go.Joins.cell_of_block Hc.out]; exact Array.getElem?_eq_getElem (by omega)
              have hfro : wr.frozen? ⟨g, k, none⟩ = false := Go.Joins.unfrozen_of_block Hc.out k
              go_wp2
              go_roundw
              case rel => exact ⟨k + 1, cur.setIfInBounds k (.int .i64 (-1)), by omega, by go_num, Go.Joins.block_setCell Hc.out _, by simpa using hl, Below.setCell hb3r hg3 _, Below.setCell hb1r (Nat.le_trans hb3.size hg3) _⟩
              case measure => simp [intOf]; omega
            · obtain rfl : k = nx := by omega
              go_wp2_with (first
                | (go_at_call 27; with_reducible refine (HSl.out _ hb1r _ _ _ (Ho.out.below hb3r (Nat.le_refl _))).mono ?_; rintro e w9 ⟨rfl, hc9⟩; have hb9 := hb1r.trans (hc9.mono hb1r.size))
                | (go_at_call 20; refine (HK.out _).mono ?_; rintro e wk ⟨rfl, hck⟩))
              go_ret
              exact ⟨rfl, Hb1.out.trans ((hb9.trans (hck.mono hb9.size)).mono Hb1.out.size)⟩
end Go.Proofs.Yteaggabafeedhaa
