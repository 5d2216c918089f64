import Derived.Test.YtoopgmoopmbfnaaRn4
namespace Go.Proofs.Ytoopgmoopmbfnaa
open Go.RowKit Go.Proofs.Kv

/-! ### Spell -/
def errSp (l t : List Int) : Int := if validW l = 0 then (if IsOrd t 6 then 0 else 1) else validW l
def resSp (l t : List Int) : List Int := if errSp l t = 0 then l.map (nsV t) else []
theorem word_range {l : List Int} (h : isWord l = true) : ∀ x ∈ l, -1 ≤ x ∧ x ≤ 5 := by
  intro x hx
  rw [isWord, List.all_eq_true] at h
  have := h x hx
  simp [Within] at this
  omega
set_option maxRecDepth 100000 in
theorem ruSpell_calls (a : Option Addr) (n c : Nat) (l : List Int) (a' : Option Addr) (n' c' : Nat) (t : List Int) (w : World) (h : IntsAt w a n c l) (h' : IntsAt w a' n' c' t) :
    Calls Try.prog 38 #[.slice a n c, .slice a' n' c'] w fun e w' => ∃ v', e = .returned (.tuple #[v', .int .i64 (errSp l t)]) ∧ Made 3 w w' v' (resSp l t) := by
  have HV := hid_ (ruValidateWord_calls a n c l w h)
  by_cases he : validW l = 0
  · obtain ⟨g1, g2⟩ := validW_ok he
    have hn8 : n ≤ 8 := by rw [← h.len]; exact g1
    have HO := hid_ (hasEachOnce_calls a' n' c' t w h')
    rw [he] at HV
    cases ho : IsOrd t 6 with
    | true =>
      have h6 : n' = 6 := by rw [← h'.len]; exact (ord_iff.1 ho).1
      have hE : errSp l t = 0 := by rw [errSp, if_pos he, ho]; rfl
      have hR : resSp l t = l.map (nsV t) := if_pos hE
      rw [ho] at HO
      rw [hE, hR]
      have HN := hid_ (fun W (hW : Below w.heap.size w W) => newSounds_calls a n c l a' n' c' t W (h.below hW (Nat.le_refl _)) (h'.below hW (Nat.le_refl _)) (by omega) h6 (word_range g2))
      generalize l.map (nsV t) = m at *
      clear h h' hE hR ho h6 g1 g2 he
      go_enter Try.func38, Try.ntmps38
      go_wp2_with (first
        | (go_at_call 86; refine (HV.out).mono ?_; rintro e w' ⟨rfl, rfl⟩)
        | (go_at_call 79; (with_reducible refine HO.out.mono ?_); rintro e w3 ⟨rfl, hb3⟩)
        | (go_at_call 81; (with_reducible refine (HN.out _ hb3).mono ?_); rintro e w4 ⟨v4, rfl, hm4⟩))
      go_ret2
      exact ⟨_, rfl, hm4.after hb3⟩
    | false =>
      have hE : errSp l t = 1 := by rw [errSp, if_pos he, ho]; rfl
      have hR : resSp l t = [] := by rw [resSp, hE]; rfl
      rw [ho] at HO
      rw [hE, hR]
      clear h h' hE hR ho g1 g2 he
      go_enter Try.func38, Try.ntmps38
      go_wp2_with (first
        | (go_at_call 86; refine (HV.out).mono ?_; rintro e w' ⟨rfl, rfl⟩)
        | (go_at_call 79; (with_reducible refine HO.out.mono ?_); rintro e w3 ⟨rfl, hb3⟩))
      go_ret2
      exact ⟨_, rfl, Made.none_ _ hb3⟩
  · have hE : errSp l t = validW l := if_neg he
    have hR : resSp l t = [] := by rw [resSp, hE, if_neg he]
    have hq : (validW l != 0) = true := by simpa using he
    rw [hE, hR]
    generalize validW l = x1 at *
    clear he h hE hR
    go_enter Try.func38, Try.ntmps38
    go_wp2_with (go_at_call 86; refine (HV.out).mono ?_; rintro e w' ⟨rfl, rfl⟩)
    go_ret2
    exact ⟨_, rfl, Made.none_ _ (Below.refl _ _)⟩
set_option maxRecDepth 100000 in
theorem r2Spell_calls (a : Option Addr) (n c : Nat) (l : List Int) (a' : Option Addr) (n' c' : Nat) (t : List Int) (w : World) (h : IntsAt w a n c l) (h' : IntsAt w a' n' c' t) :
    Calls Try.prog 39 #[.slice a n c, .slice a' n' c'] w fun e w' => ∃ v', e = .returned (.tuple #[v', .int .i64 (errSp l t)]) ∧ Made 3 w w' v' (resSp l t) := by
  have HV := hid_ (validateWord_calls a n c l w h)
  by_cases he : validW l = 0
  · obtain ⟨g1, g2⟩ := validW_ok he
    have hn8 : n ≤ 8 := by rw [← h.len]; exact g1
    have HO := hid_ (refIsOrder_calls a' n' c' t w h')
    rw [he] at HV
    cases ho : IsOrd t 6 with
    | true =>
      have h6 : n' = 6 := by rw [← h'.len]; exact (ord_iff.1 ho).1
      have hE : errSp l t = 0 := by rw [errSp, if_pos he, ho]; rfl
      have hR : resSp l t = l.map (nsV t) := if_pos hE
      rw [ho] at HO
      rw [hE, hR]
      have HN := hid_ (fun W (hW : Below w.heap.size w W) => refSpell_calls a n c l a' n' c' t W (h.below hW (Nat.le_refl _)) (h'.below hW (Nat.le_refl _)) (by omega) (fun x hx => by have := word_range g2 x hx; omega))
      generalize l.map (nsV t) = m at *
      clear h h' hE hR ho h6 g1 g2 he
      go_enter Try.func39, Try.ntmps39
      go_wp2_with (first
        | (go_at_call 87; refine (HV.out).mono ?_; rintro e w' ⟨rfl, rfl⟩)
        | (go_at_call 30; (with_reducible refine HO.out.mono ?_); rintro e w3 ⟨rfl, rfl⟩; have hb3 : Below w.heap.size w w := Below.refl _ _)
        | (go_at_call 84; (with_reducible refine (HN.out _ hb3).mono ?_); rintro e w4 ⟨v4, rfl, hm4⟩))
      go_ret2
      exact ⟨_, rfl, hm4.after hb3⟩
    | false =>
      have hE : errSp l t = 1 := by rw [errSp, if_pos he, ho]; rfl
      have hR : resSp l t = [] := by rw [resSp, hE]; rfl
      rw [ho] at HO
      rw [hE, hR]
      clear h h' hE hR ho g1 g2 he
      go_enter Try.func39, Try.ntmps39
      go_wp2_with (first
        | (go_at_call 87; refine (HV.out).mono ?_; rintro e w' ⟨rfl, rfl⟩)
        | (go_at_call 30; (with_reducible refine HO.out.mono ?_); rintro e w3 ⟨rfl, rfl⟩; have hb3 : Below w.heap.size w w := Below.refl _ _))
      go_ret2
      exact ⟨_, rfl, Made.none_ _ hb3⟩
  · have hE : errSp l t = validW l := if_neg he
    have hR : resSp l t = [] := by rw [resSp, hE, if_neg he]
    have hq : (validW l != 0) = true := by simpa using he
    rw [hE, hR]
    generalize validW l = x1 at *
    clear he h hE hR
    go_enter Try.func39, Try.ntmps39
    go_wp2_with (go_at_call 87; refine (HV.out).mono ?_; rintro e w' ⟨rfl, rfl⟩)
    go_ret2
    exact ⟨_, rfl, Made.none_ _ (Below.refl _ _)⟩
end Go.Proofs.Ytoopgmoopmbfnaa
