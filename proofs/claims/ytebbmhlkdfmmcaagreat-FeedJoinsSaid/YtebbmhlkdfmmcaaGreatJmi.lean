import Derived.Test.YtebbmhlkdfmmcaaGreatJk4
import Derived.Test.YtebbmhlkdfmmcaaGreatJme
namespace Go.Proofs.YtebbmhlkdfmmcaaGreat
open Go.RowKit Go.Proofs.Kv Go

/-! ### the law FeedJoins -/
theorem errJn_ok {L : List Rl} {u v : List Int} (h : errJn L u v = 0) : errWeb L u = 0 ∧ errWeb L v = 0 := by
  unfold errJn at h
  by_cases he : errSW L [u, v] = 0
  · rw [if_pos he] at h
    by_cases h1 : errWeb L u = 0
    · rw [if_pos h1] at h; exact ⟨h1, h⟩
    · rw [if_neg h1] at h; exact absurd h h1
  · rw [if_neg he] at h; exact absurd h he
theorem join_part {L : List Rl} {u v : List Int} (h : errJn L u v = 0) (hp : partL [v] (resReach L u) = true) : joinB L u v = true := by
  obtain ⟨h1, h2⟩ := errJn_ok h
  unfold joinB
  rw [decide_eq_true h, Bool.true_and]
  unfold partL at hp
  exact meetB_iff.2 ⟨v, reach_self h2, of_decide_eq_true hp v (by simp)⟩
set_option maxRecDepth 100000 in
set_option maxHeartbeats 8000000 in
theorem feedJoins_calls (A : Option Addr) (N C : Nat) (L : List Rl) (a : Option Addr) (n c : Nat) (u : List Int) (a' : Option Addr) (n' c' : Nat) (v : List Int) (w : World) (h : RulesAt w A N C L) (hu : IntsAt w a n c u) (hv : IntsAt w a' n' c' v) :
    Calls Tryz.prog 5 #[.slice A N C, .slice a n c, .slice a' n' c'] w fun e w' => e = .returned (.bool true) ∧ Below w.heap.size w w' := by
  have HK := hid_ known3_calls
  have HG := hid_ (long3_calls A N C L w h)
  have HBu := hid_ (fun W (hW : Below w.heap.size w W) => large3_calls a n c u W (hu.below hW (Nat.le_refl _)))
  have HBv := hid_ (fun W (hW : Below w.heap.size w W) => large3_calls a' n' c' v W (hv.below hW (Nat.le_refl _)))
  have HP := hid_ (fun W (hW : Below w.heap.size w W) => feReach_calls A N C L a n c u W (h.below hW (Nat.le_refl _)) (hu.below hW (Nat.le_refl _)))
  have HA := hid_ (fun W (hW : Below w.heap.size w W) => feJoin_calls A N C L a n c u a' n' c' v W (h.below hW (Nat.le_refl _)) (hu.below hW (Nat.le_refl _)) (hv.below hW (Nat.le_refl _)))
  have HR := hid_ (fun W (hW : Below w.heap.size w W) => r3Join_calls A N C L a n c u a' n' c' v W (h.below hW (Nat.le_refl _)) (hu.below hW (Nat.le_refl _)) (hv.below hW (Nat.le_refl _)))
  have HV := hid_ (fun W (hW : Below w.heap.size w W) => hv.below hW (Nat.le_refl _))
  clear h hu hv
  cases hg : bigS L with
  | true =>
    rw [hg] at HG
    go_enter Tryz.func5, Tryz.ntmps5
    go_wp2_with (first
      | (go_at_call 7; (with_reducible refine HG.out.mono ?_); rintro e w2 ⟨rfl, hb2⟩)
      | (go_at_call 9; (with_reducible refine (HK.out _).mono ?_); rintro e w3 ⟨rfl, hb3⟩))
    go_ret
    exact ⟨rfl, hb2.trans (hb3.mono hb2.size)⟩
  | false =>
    rw [hg] at HG
    cases hl : bigOne3 u with
    | true =>
      rw [hl] at HBu
      go_enter Tryz.func5, Tryz.ntmps5
      go_wp2_with (first
        | (go_at_call 7; (with_reducible refine HG.out.mono ?_); rintro e w2 ⟨rfl, hb2⟩)
        | (go_at_call 8; (with_reducible refine (HBu.out w2 hb2).mono ?_); rintro e w3 ⟨rfl, rfl⟩)
        | (go_at_call 9; (with_reducible refine (HK.out _).mono ?_); rintro e w3 ⟨rfl, hb3⟩))
      go_ret
      exact ⟨rfl, hb2.trans (hb3.mono hb2.size)⟩
    | false =>
      rw [hl] at HBu
      cases hl2 : bigOne3 v with
      | true =>
        rw [hl2] at HBv
        go_enter Tryz.func5, Tryz.ntmps5
        go_wp2_with (first
          | (go_at_call 7; (with_reducible refine HG.out.mono ?_); rintro e w2 ⟨rfl, hb2⟩)
          | (go_at_call 8; (with_reducible refine (HBu.out w2 hb2).mono ?_); rintro e w3 ⟨rfl, rfl⟩)
          | (go_at_call 8; (with_reducible refine (HBv.out _ hb2).mono ?_); rintro e w3 ⟨rfl, rfl⟩)
          | (go_at_call 9; (with_reducible refine (HK.out _).mono ?_); rintro e w3 ⟨rfl, hb3⟩))
        go_ret
        exact ⟨rfl, hb2.trans (hb3.mono hb2.size)⟩
      | false =>
        rw [hl2] at HBv
        clear hg hl hl2
        have hjp := @join_part L u v
        have hj1 := @errJn_ok L u v
        by_cases hj : errJn L u v = 0
        · have hjp := hjp hj
          obtain ⟨hw1, -⟩ := hj1 hj
          rw [hj] at HA HR
          rw [hw1] at HP
          have Hjp := hid_ hjp
          clear hjp hj1 hj hw1
          generalize resReach L u = S at *
          generalize joinB L u v = jb at *
          obtain ⟨m, hm⟩ : ∃ m, S.length = m := ⟨_, rfl⟩
          have HL := hid_ hm
          clear hm
          have HPt := hid_ (fun a n c a' n' c' W (h1 : ListsAt W a n c [v]) (h2 : ListsAt W a' n' c' S) => show Calls Tryz.prog 15 #[.slice a n c, .slice a' n' c'] W fun e w' => e = .returned (.bool (partL [v] S)) ∧ Below W.heap.size W w' from
            (partL_calls a n c [v] a' n' c' S W h1 h2).mono fun e w' ⟨he, hq⟩ => ⟨he, below_drew hq⟩)
          cases hp : partL [v] S with
          | true =>
            have hb1 := Hjp.out hp
            subst hb1
            rw [hp] at HPt
            clear hp
            go_enter Tryz.func5, Tryz.ntmps5
            go_wp2_with (first
              | (go_at_call 7; (with_reducible refine HG.out.mono ?_); rintro e w2 ⟨rfl, hb2⟩)
              | (go_at_call 8; (with_reducible refine (HBu.out w2 hb2).mono ?_); rintro e w3 ⟨rfl, rfl⟩)
              | (go_at_call 8; (with_reducible refine (HBv.out _ hb2).mono ?_); rintro e w3 ⟨rfl, rfl⟩)
              | (go_at_call 19; (with_reducible refine (HA.out _ hb2).mono ?_); rintro e w4 ⟨rfl, hb4'⟩; have hb4 := hb2.trans (hb4'.mono hb2.size))
              | (go_at_call 20; (with_reducible refine (HR.out _ hb4).mono ?_); rintro e w5 ⟨rfl, hb5'⟩; have hb5 := hb4.trans (hb5'.mono hb4.size))
              | (go_at_call 13; (with_reducible refine (HP.out _ hb5).mono ?_); rintro e w6 ⟨v6, rfl, hO6, hb6'⟩; have hb6 := hb5.trans (hb6'.mono hb5.size); obtain ⟨a6, c6, rfl, hi6⟩ := hO6.at_; rw [HL.out] at hi6 ⊢; have Hi6 := hid_ hi6; have HV6 := hid_ (HV.out _ hb6); clear hO6 hi6)
              | (go_at_call 15; (with_reducible refine (HPt.out _ _ _ _ _ _ _ (ListsAt.one rfl HV6.out) (Hi6.out.below (below_alloc _ _) (Nat.le_refl _))).mono ?_); rintro e w10 ⟨rfl, hc10⟩; have hb10 := hb6.trans (((below_alloc w6 _).trans (hc10.mono (by simp))).mono hb6.size))
              | (go_at_call 9; (with_reducible refine (HK.out _).mono ?_); rintro e wk ⟨rfl, hbk⟩))
            go_ret
            exact ⟨rfl, hb10.trans (hbk.mono hb10.size)⟩
          | false =>
            rw [hp] at HPt
            clear hp
            go_enter Tryz.func5, Tryz.ntmps5
            go_wp2_with (first
              | (go_at_call 7; (with_reducible refine HG.out.mono ?_); rintro e w2 ⟨rfl, hb2⟩)
              | (go_at_call 8; (with_reducible refine (HBu.out w2 hb2).mono ?_); rintro e w3 ⟨rfl, rfl⟩)
              | (go_at_call 8; (with_reducible refine (HBv.out _ hb2).mono ?_); rintro e w3 ⟨rfl, rfl⟩)
              | (go_at_call 19; (with_reducible refine (HA.out _ hb2).mono ?_); rintro e w4 ⟨rfl, hb4'⟩; have hb4 := hb2.trans (hb4'.mono hb2.size))
              | (go_at_call 20; (with_reducible refine (HR.out _ hb4).mono ?_); rintro e w5 ⟨rfl, hb5'⟩; have hb5 := hb4.trans (hb5'.mono hb4.size))
              | (go_at_call 13; (with_reducible refine (HP.out _ hb5).mono ?_); rintro e w6 ⟨v6, rfl, hO6, hb6'⟩; have hb6 := hb5.trans (hb6'.mono hb5.size); obtain ⟨a6, c6, rfl, hi6⟩ := hO6.at_; rw [HL.out] at hi6 ⊢; have Hi6 := hid_ hi6; have HV6 := hid_ (HV.out _ hb6); clear hO6 hi6)
              | (go_at_call 15; (with_reducible refine (HPt.out _ _ _ _ _ _ _ (ListsAt.one rfl HV6.out) (Hi6.out.below (below_alloc _ _) (Nat.le_refl _))).mono ?_); rintro e w10 ⟨rfl, hc10⟩; have hb10 := hb6.trans (((below_alloc w6 _).trans (hc10.mono (by simp))).mono hb6.size))
              | (go_at_call 9; (with_reducible refine (HK.out _).mono ?_); rintro e wk ⟨rfl, hbk⟩))
            go_ret
            exact ⟨rfl, hb10.trans (hbk.mono hb10.size)⟩
        · have hq : (errJn L u v != 0) = true := by simpa using hj
          clear hjp hj1 hj
          generalize errJn L u v = x at *
          generalize resReach L u = S at *
          generalize joinB L u v = jb at *
          generalize errWeb L u = y at *
          obtain ⟨m, hm⟩ : ∃ m, S.length = m := ⟨_, rfl⟩
          have HL := hid_ hm
          clear hm
          go_enter Tryz.func5, Tryz.ntmps5
          go_wp2_with (first
            | (go_at_call 7; (with_reducible refine HG.out.mono ?_); rintro e w2 ⟨rfl, hb2⟩)
            | (go_at_call 8; (with_reducible refine (HBu.out w2 hb2).mono ?_); rintro e w3 ⟨rfl, rfl⟩)
            | (go_at_call 8; (with_reducible refine (HBv.out _ hb2).mono ?_); rintro e w3 ⟨rfl, rfl⟩)
            | (go_at_call 19; (with_reducible refine (HA.out _ hb2).mono ?_); rintro e w4 ⟨rfl, hb4'⟩; have hb4 := hb2.trans (hb4'.mono hb2.size))
            | (go_at_call 20; (with_reducible refine (HR.out _ hb4).mono ?_); rintro e w5 ⟨rfl, hb5'⟩; have hb5 := hb4.trans (hb5'.mono hb4.size))
            | (go_at_call 13; (with_reducible refine (HP.out _ hb5).mono ?_); rintro e w6 ⟨v6, rfl, hO6, hb6'⟩; have hb6 := hb5.trans (hb6'.mono hb5.size); obtain ⟨a6, c6, rfl, -⟩ := hO6.at_; rw [HL.out]; clear hO6)
            | (go_at_call 9; (with_reducible refine (HK.out _).mono ?_); rintro e wk ⟨rfl, hbk⟩))
          go_ret
          exact ⟨rfl, hb6.trans (hbk.mono hb6.size)⟩
end Go.Proofs.YtebbmhlkdfmmcaaGreat
