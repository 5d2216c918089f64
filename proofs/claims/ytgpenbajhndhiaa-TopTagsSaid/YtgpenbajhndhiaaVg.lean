import Derived.Test.YtgpenbajhndhiaaVf
namespace Go.Proofs.Ytgpenbajhndhiaa
open Go.RowKit Go.Proofs.Kv Go

/-! ### CheckSplit -/
def splitE (L : Lx) (t s : List Int) : Int := if textE L t = 0 then (if 12 < s.length then 3 else if itemsB L s = true then (if wordsL L s = t then (if okF L s = true then 0 else 6) else 7) else 4) else textE L t
def splitC (L : Lx) (t s : List Int) : Int := if splitE L t s = 0 then sumC L s else 0
set_option maxRecDepth 100000 in
set_option maxHeartbeats 4000000 in
theorem taCheckSplit_calls (v : Value) (L : Lx) (a : Option Addr) (n c : Nat) (t : List Int) (a' : Option Addr) (n' c' : Nat) (s : List Int) (w : World) (h : LexAt w v L) (ht : IntsAt w a n c t) (hs : IntsAt w a' n' c' s) :
    Calls Try.prog 17 #[v, .slice a n c, .slice a' n' c'] w fun e w' => e = .returned (.tuple #[.int .i64 (splitC L t s), .int .i64 (splitE L t s)]) ∧ Below w.heap.size w w' := by
  have HP := hid_ h
  obtain ⟨a1, n1, c1, a2, n2, c2, rfl, h1, h2⟩ := h
  obtain ⟨w1, hw1⟩ : ∃ w1, w.alloc (.cells #[.slice a1 n1 c1, .slice a2 n2 c2] 25) = w1 := ⟨_, rfl⟩
  have cb : Below w.heap.size w w1 := by rw [← hw1]; exact below_alloc _ _
  have q0 : w1.cell? ⟨w.heap.size, 0, none⟩ = some (.slice a1 n1 c1) := by rw [← hw1]; exact cells_alloc _ _ _ 0
  have q1 : w1.cell? ⟨w.heap.size, 1, none⟩ = some (.slice a2 n2 c2) := by rw [← hw1]; exact cells_alloc _ _ _ 1
  have HP1 := hid_ (HP.out.below cb (Nat.le_refl _)); have Hc1 := hid_ cb
  have HE : Hid (splitE L t s = if textE L t = 0 then (if 12 < n' then 3 else if itemsB L s = true then (if wordsL L s = t then (if okF L s = true then 0 else 6) else 7) else 4) else textE L t) := hid_ (by rw [splitE, hs.len])
  have HC : Hid (splitC L t s = if splitE L t s = 0 then sumC L s else 0) := hid_ rfl
  have Ht := hid_ (fun W (hW : Below w1.heap.size w1 W) => (ht.below cb (Nat.le_refl _)).below hW (Nat.le_refl _))
  have Hs := hid_ (fun W (hW : Below w1.heap.size w1 W) => (hs.below cb (Nat.le_refl _)).below hW (Nat.le_refl _))
  have HLx := hid_ (fun W (hW : Below w1.heap.size w1 W) => HP1.out.below hW (Nat.le_refl _))
  have HA := hid_ (tavalidate_calls _ L a n c t w1 HP1.out (ht.below cb (Nat.le_refl _)))
  have Hq := hid_ (fun W (hW : Below w1.heap.size w1 W) => (⟨cell_below q0 hW, cell_below q1 hW⟩ : _ ∧ _))
  have hlt := ht.len
  have hls := hs.len
  clear cb h1 h2 HP HP1 ht hs
  generalize splitC L t s = C at *
  generalize splitE L t s = E at *
  by_cases he : textE L t = 0
  · obtain ⟨g, -, -⟩ := textE_ok he
    rw [he, if_pos rfl] at HE
    rw [he] at HA
    clear he
    by_cases h12 : 12 < n'
    · rw [if_pos h12] at HE
      have HE' : Hid (E = 3) := hid_ HE.out
      have HC' : Hid (C = 0) := hid_ (HC.out.trans (if_neg (by rw [HE'.out]; decide)))
      rw [HE'.out, HC'.out]
      clear HE HC g
      go_enter Try.func17, Try.ntmps17
      go_wp2_with (go_at_call 26; (with_reducible refine HA.out.mono ?_); rintro e w2 ⟨rfl, hb2⟩)
      go_ret2
      exact ⟨rfl, Hc1.out.trans (hb2.mono Hc1.out.size)⟩
    · rw [if_neg h12] at HE
      have HB := hid_ (fun W (hW : Below w1.heap.size w1 W) => areItems_calls _ L a' n' c' s W (HLx.out W hW) (Hs.out W hW) (by have := g.le; omega))
      cases hib : itemsB L s with
      | false =>
        rw [hib] at HE HB
        have HE' : Hid (E = 4) := hid_ (HE.out.trans (if_neg (by decide)))
        have HC' : Hid (C = 0) := hid_ (HC.out.trans (if_neg (by rw [HE'.out]; decide)))
        rw [HE'.out, HC'.out]
        clear HE HC g
        go_enter Try.func17, Try.ntmps17
        go_wp2_with (first
          | (go_at_call 26; (with_reducible refine HA.out.mono ?_); rintro e w2 ⟨rfl, hb2⟩; obtain ⟨q2, r2⟩ := Hq.out w2 hb2)
          | (go_at_call 36; (with_reducible refine (HB.out _ hb2).mono ?_); rintro e w3 ⟨rfl, hb3⟩))
        go_ret2
        exact ⟨rfl, Hc1.out.trans ((hb2.trans (hb3.mono hb2.size)).mono Hc1.out.size)⟩
      | true =>
        rw [hib, if_pos rfl] at HE
        rw [hib] at HB
        have HW := hid_ (fun W (hW : Below w1.heap.size w1 W) => tawords_calls _ L a' n' c' s W (HLx.out W hW) (Hs.out W hW) g hib (by omega))
        by_cases hw : wordsL L s = t
        · rw [if_pos hw] at HE
          have HK := hid_ (fun W (hW : Below w1.heap.size w1 W) => tacost_calls _ L a' n' c' s W (HLx.out W hW) (Hs.out W hW) g hib (by omega))
          have HV : Hid (costV L s = if okF L s = true then sumC L s else 0) := hid_ rfl
          generalize costV L s = CV at *
          cases hok : okF L s with
          | true =>
            rw [hok, if_pos rfl] at HE HV
            rw [hok] at HK
            have HE' : Hid (E = 0) := hid_ HE.out
            have HC' : Hid (C = CV) := hid_ ((HC.out.trans (if_pos HE'.out)).trans HV.out.symm)
            rw [HE'.out, HC'.out]
            clear HE HC g HV
            go_enter Try.func17, Try.ntmps17
            go_wp2_with (first
              | (go_at_call 26; (with_reducible refine HA.out.mono ?_); rintro e w2 ⟨rfl, hb2⟩; obtain ⟨q2, r2⟩ := Hq.out w2 hb2)
              | (go_at_call 36; (with_reducible refine (HB.out _ hb2).mono ?_); rintro e w3 ⟨rfl, hb3⟩; have hb3' := hb2.trans (hb3.mono hb2.size); obtain ⟨q3, r3⟩ := Hq.out w3 hb3')
              | (go_at_call 38; (with_reducible refine (HW.out _ hb3').mono ?_); rintro e w4 ⟨v4, rfl, hm4⟩; obtain ⟨a4, c4, rfl, hi4⟩ := hm4.at_; have hb4 := hb3'.trans (hm4.bel.mono hb3'.size); obtain ⟨q4, r4⟩ := Hq.out w4 hb4; have HQ := hid_ (equal8_calls a4 _ c4 _ a n c t w4 hi4 (Ht.out w4 hb4)); have Hb4 := hid_ hb4; clear hi4 hm4; obtain ⟨lw, hlw⟩ : ∃ lw, (wordsL L s).length = lw := ⟨_, rfl⟩; rw [hlw] at HQ ⊢; clear hlw)
              | (go_at_call 37; (with_reducible refine HQ.out.mono ?_); rintro e w5 ⟨rfl, q5, rfl⟩; rw [decide_eq_true hw]; have hb5 := below_drewN Hb4.out q5; obtain ⟨q6, r6⟩ := Hq.out _ hb5)
              | (go_at_call 39; (with_reducible refine (HK.out _ hb5).mono ?_); rintro e w7 ⟨rfl, hb7⟩))
            go_ret2
            exact ⟨rfl, Hc1.out.trans ((hb5.trans (hb7.mono hb5.size)).mono Hc1.out.size)⟩
          | false =>
            rw [hok] at HE HV
            rw [hok] at HK
            have HE' : Hid (E = 6) := hid_ (HE.out.trans (if_neg (by decide)))
            have HC' : Hid (C = 0) := hid_ (HC.out.trans (if_neg (by rw [HE'.out]; decide)))
            rw [HE'.out, HC'.out]
            clear HE HC g HV
            go_enter Try.func17, Try.ntmps17
            go_wp2_with (first
              | (go_at_call 26; (with_reducible refine HA.out.mono ?_); rintro e w2 ⟨rfl, hb2⟩; obtain ⟨q2, r2⟩ := Hq.out w2 hb2)
              | (go_at_call 36; (with_reducible refine (HB.out _ hb2).mono ?_); rintro e w3 ⟨rfl, hb3⟩; have hb3' := hb2.trans (hb3.mono hb2.size); obtain ⟨q3, r3⟩ := Hq.out w3 hb3')
              | (go_at_call 38; (with_reducible refine (HW.out _ hb3').mono ?_); rintro e w4 ⟨v4, rfl, hm4⟩; obtain ⟨a4, c4, rfl, hi4⟩ := hm4.at_; have hb4 := hb3'.trans (hm4.bel.mono hb3'.size); obtain ⟨q4, r4⟩ := Hq.out w4 hb4; have HQ := hid_ (equal8_calls a4 _ c4 _ a n c t w4 hi4 (Ht.out w4 hb4)); have Hb4 := hid_ hb4; clear hi4 hm4; obtain ⟨lw, hlw⟩ : ∃ lw, (wordsL L s).length = lw := ⟨_, rfl⟩; rw [hlw] at HQ ⊢; clear hlw)
              | (go_at_call 37; (with_reducible refine HQ.out.mono ?_); rintro e w5 ⟨rfl, q5, rfl⟩; rw [decide_eq_true hw]; have hb5 := below_drewN Hb4.out q5; obtain ⟨q6, r6⟩ := Hq.out _ hb5)
              | (go_at_call 39; (with_reducible refine (HK.out _ hb5).mono ?_); rintro e w7 ⟨rfl, hb7⟩))
            go_ret2
            exact ⟨rfl, Hc1.out.trans ((hb5.trans (hb7.mono hb5.size)).mono Hc1.out.size)⟩
        · rw [if_neg hw] at HE
          have HE' : Hid (E = 7) := hid_ HE.out
          have HC' : Hid (C = 0) := hid_ (HC.out.trans (if_neg (by rw [HE'.out]; decide)))
          rw [HE'.out, HC'.out]
          clear HE HC g
          go_enter Try.func17, Try.ntmps17
          go_wp2_with (first
            | (go_at_call 26; (with_reducible refine HA.out.mono ?_); rintro e w2 ⟨rfl, hb2⟩; obtain ⟨q2, r2⟩ := Hq.out w2 hb2)
            | (go_at_call 36; (with_reducible refine (HB.out _ hb2).mono ?_); rintro e w3 ⟨rfl, hb3⟩; have hb3' := hb2.trans (hb3.mono hb2.size); obtain ⟨q3, r3⟩ := Hq.out w3 hb3')
            | (go_at_call 38; (with_reducible refine (HW.out _ hb3').mono ?_); rintro e w4 ⟨v4, rfl, hm4⟩; obtain ⟨a4, c4, rfl, hi4⟩ := hm4.at_; have hb4 := hb3'.trans (hm4.bel.mono hb3'.size); obtain ⟨q4, r4⟩ := Hq.out w4 hb4; have HQ := hid_ (equal8_calls a4 _ c4 _ a n c t w4 hi4 (Ht.out w4 hb4)); have Hb4 := hid_ hb4; clear hi4 hm4; obtain ⟨lw, hlw⟩ : ∃ lw, (wordsL L s).length = lw := ⟨_, rfl⟩; rw [hlw] at HQ ⊢; clear hlw)
            | (go_at_call 37; (with_reducible refine HQ.out.mono ?_); rintro e w5 ⟨rfl, q5, rfl⟩; rw [decide_eq_false hw]; have hb5 := below_drewN Hb4.out q5))
          go_ret2
          exact ⟨rfl, Hc1.out.trans (hb5.mono Hc1.out.size)⟩
  · have hq : (textE L t != 0) = true := by simpa using he
    rw [if_neg he] at HE
    have HC' : Hid (C = 0) := hid_ (HC.out.trans (if_neg (by rw [HE.out]; exact he)))
    rw [HE.out, HC'.out]
    generalize textE L t = x at *
    clear HE HC he
    go_enter Try.func17, Try.ntmps17
    go_wp2_with (go_at_call 26; (with_reducible refine HA.out.mono ?_); rintro e w2 ⟨rfl, hb2⟩)
    go_ret2
    exact ⟨rfl, Hc1.out.trans (hb2.mono Hc1.out.size)⟩
end Go.Proofs.Ytgpenbajhndhiaa
