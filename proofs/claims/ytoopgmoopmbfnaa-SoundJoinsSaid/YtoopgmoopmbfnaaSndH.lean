import Derived.Test.YtoopgmoopmbfnaaSndG
namespace Go.Proofs.Ytoopgmoopmbfnaa
open Go.RowKit Go.Proofs.Kv Go.Proofs.Snd
attribute [local go_sem] Oper.semAt_some

/-! ### the fits of a right order are the reference's -/
theorem endsTo_first {o s : List Int} : ∀ {k j : Nat}, j < k → Has s (o.getD j 0) = true → 0 ≤ (endsTo o s k).1
  | k + 1, j, hj, h => by
    have bd := endsTo_bd o s k
    simp only [endsTo]
    by_cases e : j = k
    · subst e
      rw [h]
      simp only [if_true]
      split <;> omega
    · have := endsTo_first (k := k) (by omega) h
      split
      · split <;> simp only <;> omega
      · exact this
theorem IsSet_mem {s : List Int} {lo hi : Int} (h : IsSet s lo hi = true) : ∀ x ∈ s, lo ≤ x ∧ x ≤ hi := by
  intro x hx
  obtain ⟨i, hi', e⟩ := List.mem_iff_getElem.1 hx
  simp only [IsSet, List.all_eq_true, List.mem_range] at h
  have := h i hi'
  simp [setBad, Within, List.getElem?_eq_getElem hi', e] at this
  omega
theorem famErr_ok {m : Int} {F : List (List Int)} (h : famErr m F = 0) : (1 ≤ m ∧ m ≤ 6) ∧ F.length ≤ 6 ∧ ∀ s ∈ F, s ≠ [] ∧ ∀ x ∈ s, 0 ≤ x ∧ x ≤ m - 1 := by
  unfold famErr at h
  cases hw : Within m 1 6 with
  | false => rw [hw] at h; simp at h
  | true =>
    rw [hw] at h
    simp only [Bool.true_eq_false, if_false] at h
    by_cases h6 : 6 < F.length
    · rw [if_pos h6] at h; cases h
    · rw [if_neg h6] at h
      cases ha : F.all (famGood m) with
      | false => rw [ha] at h; simp at h
      | true =>
        refine ⟨by simpa [Within] using hw, by omega, fun s hs => ?_⟩
        have := List.all_eq_true.1 ha s hs
        simp only [famGood, Bool.and_eq_true, Bool.not_eq_true'] at this
        exact ⟨by intro e; rw [e] at this; simp at this, IsSet_mem this.2⟩
theorem fit_eq {m : Int} {F : List (List Int)} {o : List Int} (h : famErr m F = 0) (ho : IsOrd o m = true) : fitsP F o = fitsB F o := by
  obtain ⟨⟨h1, h6⟩, -, hs⟩ := famErr_ok h
  have key : ∀ s ∈ F, fitP o s = fitOne o s := by
    intro s hs'
    obtain ⟨hne, hb⟩ := hs s hs'
    obtain ⟨x, hx⟩ := List.exists_mem_of_ne_nil s hne
    have hx' := hb x hx
    simp only [IsOrd, Bool.and_eq_true, decide_eq_true_eq, List.all_eq_true, List.mem_range] at ho
    have hox := ho.2 x.toNat (by omega)
    rw [Int.toNat_of_nonneg hx'.1, Has_iff] at hox
    obtain ⟨j, hj, e⟩ := List.mem_iff_getElem.1 hox
    have hH : Has s (o.getD j 0) = true := by rw [List.getD, List.getElem?_eq_getElem hj, Option.getD_some, e]; exact Has_iff.2 hx
    have h0 : 0 ≤ (ends o s).1 := endsTo_first hj hH
    have : sp1 o.length (ends o s).1 = (ends o s).1 := if_neg (by omega)
    simp only [fitP, fitOne, spanL, this]
    congr 1
    omega
  rw [fitsP, fitsB]
  rw [Bool.eq_iff_iff, List.all_eq_true, List.all_eq_true]
  exact ⟨fun H s hs' => by rw [← key s hs']; exact H s hs', fun H s hs' => by rw [key s hs']; exact H s hs'⟩

/-! ### validateOrder, Fits -/
set_option maxRecDepth 100000 in
theorem validateOrder_calls (m : Int) (a : Option Addr) (n c : Nat) (F : List (List Int)) (a' : Option Addr) (n' c' : Nat) (o : List Int) (w : World) (h : ListsAt w a n c F) (h' : IntsAt w a' n' c' o) :
    Calls Try.prog 49 #[.int .i64 m, .slice a n c, .slice a' n' c'] w fun e w' => e = .returned (.int .i64 (ordErr m F o)) ∧ Below w.heap.size w w' := by
  have hfe := sndFamily_calls m a n c F w h
  by_cases he : famErr m F = 0
  · have hm6 := (famErr_ok he).1.2
    rw [he] at hfe
    have Hv := hid_ hfe; clear hfe
    cases ho : IsOrd o m with
    | true =>
      have Hf : Hid (ordErr m F o = 0) := hid_ (by rw [ordErr, if_pos he, ho]; rfl)
      clear he
      go_enter Try.func49, Try.ntmps49
      go_wp2_with fail
      refine Hv.out.mono ?_
      rintro e w1 ⟨rfl, q, rfl⟩
      have hc := sndIsOrder_calls _ _ _ _ m _ (h'.drewN q) hm6
      rw [ho] at hc
      have Hc := hid_ hc; clear hc
      have Hb1 : Hid (Below w.heap.size w (w.drewN q)) := hid_ (below_drewN (Below.refl _ _) q)
      have Hsz : Hid ((w.drewN q).heap.size = w.heap.size) := hid_ rfl
      generalize w.drewN q = w1 at Hc Hb1 Hsz
      go_wp2_with (go_at_call 60; refine Hc.out.mono ?_; rintro e w2 ⟨rfl, hb2⟩)
      go_ret
      exact ⟨retI Hf.out, Hb1.out.trans (by rw [← Hsz.out]; exact hb2)⟩
    | false =>
      have Hf : Hid (ordErr m F o = 1) := hid_ (by rw [ordErr, if_pos he, ho]; rfl)
      clear he
      go_enter Try.func49, Try.ntmps49
      go_wp2_with fail
      refine Hv.out.mono ?_
      rintro e w1 ⟨rfl, q, rfl⟩
      have hc := sndIsOrder_calls _ _ _ _ m _ (h'.drewN q) hm6
      rw [ho] at hc
      have Hc := hid_ hc; clear hc
      have Hb1 : Hid (Below w.heap.size w (w.drewN q)) := hid_ (below_drewN (Below.refl _ _) q)
      have Hsz : Hid ((w.drewN q).heap.size = w.heap.size) := hid_ rfl
      generalize w.drewN q = w1 at Hc Hb1 Hsz
      go_wp2_with (go_at_call 60; refine Hc.out.mono ?_; rintro e w2 ⟨rfl, hb2⟩)
      go_ret
      exact ⟨retI Hf.out, Hb1.out.trans (by rw [← Hsz.out]; exact hb2)⟩
  · have Hf : Hid (ordErr m F o = famErr m F) := hid_ (by rw [ordErr, if_neg he])
    generalize famErr m F = er at hfe he Hf
    have hq : (er != 0) = true := by simpa using he
    have Hv := hid_ hfe; clear hfe he
    go_enter Try.func49, Try.ntmps49
    go_wp2_with fail
    refine Hv.out.mono ?_
    rintro e w1 ⟨rfl, q, rfl⟩
    go_wp2
    go_ret
    exact ⟨retI Hf.out, below_drewN (Below.refl _ _) q⟩

theorem ordErr_ok {m : Int} {F : List (List Int)} {o : List Int} (h : ordErr m F o = 0) : famErr m F = 0 ∧ IsOrd o m = true := by
  unfold ordErr at h
  by_cases he : famErr m F = 0
  · rw [if_pos he] at h
    refine ⟨he, ?_⟩
    cases ho : IsOrd o m with
    | true => rfl
    | false => rw [ho] at h; simp at h
  · rw [if_neg he] at h; exact absurd h he
theorem ordErr_len {m : Int} {F : List (List Int)} {o : List Int} (h : ordErr m F o = 0) : o.length ≤ 6 := by
  obtain ⟨h1, h2⟩ := ordErr_ok h
  have := (famErr_ok h1).1
  simp only [IsOrd, Bool.and_eq_true, decide_eq_true_eq] at h2
  omega

set_option maxRecDepth 100000 in
theorem sndFitsX_calls (m : Int) (a : Option Addr) (n c : Nat) (F : List (List Int)) (a' : Option Addr) (n' c' : Nat) (o : List Int) (w : World) (h : ListsAt w a n c F) (h' : IntsAt w a' n' c' o) :
    Calls Try.prog 45 #[.int .i64 m, .slice a n c, .slice a' n' c'] w fun e w' => e = .returned (.tuple #[.bool (fitsRes m F o), .int .i64 (ordErr m F o)]) ∧ Below w.heap.size w w' := by
  have hfe := validateOrder_calls m a n c F a' n' c' o w h h'
  by_cases he : ordErr m F o = 0
  · have Hf : Hid (fitsRes m F o = fitsP F o) := hid_ ((if_pos he).trans (fit_eq (ordErr_ok he).1 (ordErr_ok he).2).symm)
    have hsm : n' ≤ 1000000 := by have := ordErr_len he; rw [h'.len] at this; omega
    rw [he] at hfe ⊢
    have Hv := hid_ hfe; clear hfe he
    go_enter Try.func45, Try.ntmps45
    go_wp2_with fail
    refine Hv.out.mono ?_
    rintro e w1 ⟨rfl, hb1⟩
    go_wp2_with (go_at_call 50; refine (sndFits_calls _ _ _ _ _ _ _ _ _ (h.below hb1 (Nat.le_refl _)) (h'.below hb1 (Nat.le_refl _)) hsm).mono ?_; rintro e w' ⟨rfl, rfl⟩)
    go_ret2
    exact ⟨by rw [Hf.out]; rfl, hb1⟩
  · have Hf : Hid (fitsRes m F o = false) := hid_ (if_neg he)
    generalize ordErr m F o = er at hfe he ⊢
    have hq : (er != 0) = true := by simpa using he
    have Hv := hid_ hfe; clear hfe he
    go_enter Try.func45, Try.ntmps45
    go_wp2_with fail
    refine Hv.out.mono ?_
    rintro e w1 ⟨rfl, hb1⟩
    go_wp2
    go_ret2
    exact ⟨by rw [Hf.out]; rfl, hb1⟩
end Go.Proofs.Ytoopgmoopmbfnaa
