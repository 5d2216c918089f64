import Derived.Test.YtnpdhmejnoplcaaPg
import Derived.Deep.RegionHeld3
namespace Go.Proofs.Ytnpdhmejnoplcaa
open Go.RowKit Go.Proofs.Kv

/-! ### what is valid -/
def err2 (R : Rl) (l : List Int) : Int := if validR R = 0 then validW l else validR R
theorem validR_ok {R : Rl} (h : validR R = 0) : -1 ≤ R.f ∧ R.f ≤ 5 ∧ R.o.length ≤ 2 ∧ isWord R.o = true ∧ setN R.le = true ∧ setN R.ri = true := by
  unfold validR at h
  cases h1 : Within R.f (-1) 5 with
  | false => rw [h1] at h; simp at h
  | true =>
    by_cases h2 : 2 < R.o.length
    · rw [h1] at h; simp [h2] at h
    · cases h3 : isWord R.o with
      | false => rw [h1, h3] at h; simp [h2] at h
      | true =>
        cases h4 : setN R.le with
        | false => rw [h1, h3, h4] at h; simp [h2] at h
        | true =>
          cases h5 : setN R.ri with
          | false => rw [h1, h3, h4, h5] at h; simp [h2] at h
          | true => simp [Within] at h1; exact ⟨h1.1, h1.2, by omega, rfl, rfl, rfl⟩
theorem validW_ok {l : List Int} (h : validW l = 0) : l.length ≤ 8 ∧ isWord l = true := by
  unfold validW at h
  by_cases h1 : 8 < l.length
  · rw [if_pos h1] at h; cases h
  · rw [if_neg h1] at h
    cases h2 : isWord l with
    | false => rw [h2] at h; simp at h
    | true => exact ⟨by omega, rfl⟩
theorem err2_ok {R : Rl} {l : List Int} (h : err2 R l = 0) : validR R = 0 ∧ validW l = 0 := by
  unfold err2 at h
  by_cases h1 : validR R = 0
  · rw [if_pos h1] at h; exact ⟨h1, h⟩
  · rw [if_neg h1] at h; exact absurd h h1
theorem orL2 (a b : Int) : orL [a, b] = if a = 0 then b else a := by
  simp only [orL]
  by_cases ha : a = 0 <;> by_cases hb : b = 0 <;> simp [ha, hb]
/-- numbers that were just laid down -/
theorem IntsAt.lit (w : World) (l : List Int) (cs : Array Value) (n : Nat) (T : TypeId) (hcs : cs = (l.map (Value.int .i64)).toArray) (hn : l.length = n) (hs : n ≤ 1000) : IntsAt (w.alloc (.cells cs T)) (some ⟨w.heap.size, 0, none⟩) n n l :=
  ⟨hn, Nat.le_refl _, by omega, fun i hi => ⟨w.heap.size, 0, rfl, by simp, by
    rw [cells_alloc, hcs, Nat.zero_add]
    simp [List.getD, show i < l.length by omega]⟩⟩
theorem or2_calls (a b : Int) (w : World) (T : TypeId) :
    Calls Try.prog 109 #[.slice (some ⟨w.heap.size, 0, none⟩) 2 2] (w.alloc (.cells #[.int .i64 a, .int .i64 b] T)) fun e w' => e = .returned (.int .i64 (if a = 0 then b else a)) ∧ w.alloc (.cells #[.int .i64 a, .int .i64 b] T) = w' := by
  have := or_calls _ 2 2 [a, b] _ (IntsAt.lit w [a, b] _ 2 T rfl rfl (by omega))
  rwa [orL2] at this
theorem plP_ok {R : Rl} {l : List Int} : PutOk R (plP R l) l := by
  refine ⟨?_, fun p hp => ?_⟩
  · refine List.Pairwise.filter _ ?_
    rw [List.pairwise_map]
    exact List.pairwise_lt_range.imp (fun h => by omega)
  · obtain ⟨h0, h1, h2⟩ := mem_pl.1 hp
    refine ⟨h0, ?_⟩
    unfold tkN
    split
    · omega
    · rename_i hne
      unfold plB at h2
      rw [if_neg (by omega), if_neg (by omega), if_neg hne] at h2
      simp only [Bool.and_eq_true, beq_iff_eq] at h2
      have h3 := h2.1.1
      unfold atL at h3
      split at h3
      · rename_i hw
        simp [Within] at hw
        omega
      · omega
theorem one_ok {R : Rl} {l : List Int} {p : Int} (h : plB R.f R.le R.ri l p = true) : PutOk R [p] l := by
  have h0 : 0 ≤ p ∧ p ≤ l.length := by
    unfold plB at h
    by_cases h1 : p < 0
    · rw [if_pos h1] at h; cases h
    · by_cases h2 : (l.length : Int) < p
      · rw [if_neg h1, if_pos h2] at h; cases h
      · omega
  have hm : p ∈ plP R l := mem_pl.2 ⟨h0.1, by omega, h⟩
  exact ⟨by simp, fun q hq => by rw [List.mem_singleton] at hq; subst hq; exact plP_ok.2 _ hm⟩

/-! ### Places -/
def resPlaces (R : Rl) (l : List Int) : List Int := if err2 R l = 0 then plP R l else []
set_option maxRecDepth 100000 in
theorem ruPlaces_calls (v : Value) (R : Rl) (a : Option Addr) (n c : Nat) (l : List Int) (w : World) (hr : RuleAt w v R) (h : IntsAt w a n c l) :
    Calls Try.prog 31 #[v, .slice a n c] w fun e w' => ∃ v', e = .returned (.tuple #[v', .int .i64 (err2 R l)]) ∧ Made 3 w w' v' (resPlaces R l) := by
  have Hr := hid_ hr
  obtain ⟨a1, n1, c1, a2, n2, c2, a3, n3, c3, rfl, h1, h2, h3⟩ := hr
  clear h1 h2 h3
  obtain ⟨w1, hw1⟩ : ∃ w1, w.alloc (.cells #[.int .i64 R.f, .slice a1 n1 c1, .slice a2 n2 c2, .slice a3 n3 c3] 24) = w1 := ⟨_, rfl⟩
  have Hb1 : Hid (Below w.heap.size w w1) := hid_ (by rw [← hw1]; exact below_alloc _ _)
  obtain ⟨k0, k1, k2, k3⟩ := box4 hw1 (Below.refl _ _)
  have HR1 := hid_ (Hr.out.below Hb1.out (Nat.le_refl _))
  have HI1 := hid_ (h.below Hb1.out (Nat.le_refl _))
  have Hv1 := hid_ (ruValidate_calls _ R w1 HR1.out)
  have Hv2 := hid_ (fun w2 (hb : Below w1.heap.size w1 w2) => ruValidateWord_calls a n c l w2 (HI1.out.below hb (Nat.le_refl _)))
  have Hor := hid_ (show ∀ (w : World) (T : TypeId), Calls Try.prog 109 #[.slice (some ⟨w.heap.size, 0, none⟩) 2 2] (w.alloc (.cells #[.int .i64 (validR R), .int .i64 (validW l)] T)) fun e w' => e = .returned (.int .i64 (err2 R l)) ∧ w.alloc (.cells #[.int .i64 (validR R), .int .i64 (validW l)] T) = w' from fun w T => or2_calls _ _ w T)
  have Hok := hid_ (@err2_ok R l)
  have HW1 := hid_ hw1
  by_cases he : err2 R l = 0
  · have Hf : Hid (resPlaces R l = plP R l) := hid_ (if_pos he)
    obtain ⟨e1, e2⟩ := Hok.out he
    obtain ⟨g1, g2, g3, g4, g5, g6⟩ := validR_ok e1
    obtain ⟨g7, g8⟩ := validW_ok e2
    have Hpl := hid_ (fun W (hW : Below w1.heap.size w1 W) => placesP_calls _ R a n c l W (HR1.out.below hW (Nat.le_refl _)) (HI1.out.below hW (Nat.le_refl _)) (by have := h.len; omega) g5 g6 g8)
    rw [he] at Hor ⊢
    clear g1 g2 g3 g4 g5 g6 g7 g8 e1 e2 he
    generalize validR R = x1 at *
    generalize validW l = x2 at *
    go_enter Try.func31, Try.ntmps31
    go_wp2_with (first
      | (go_at_call 33; refine Hv1.out.mono ?_; rintro e w4 ⟨rfl, hb2⟩)
      | (go_at_call 35; refine (Hv2.out _ hb2).mono ?_; rintro e w' ⟨rfl, rfl⟩)
      | (go_at_call 109; refine (Hor.out _ _).mono ?_; rintro e w5 ⟨rfl, hw5⟩; have hb3 : Below w1.heap.size w1 w5 := (by rw [← hw5]; exact hb2.trans ((below_alloc w4 _).mono hb2.size)); clear hw5; obtain ⟨q0, q1, q2, q3⟩ := box4 HW1.out hb3))
    refine (Hpl.out _ hb3).mono ?_
    rintro e w6 ⟨v4, rfl, hm⟩
    go_wp2
    go_ret2
    exact ⟨_, rfl, by rw [Hf.out]; exact hm.after (Hb1.out.trans (hb3.mono Hb1.out.size))⟩
  · have Hf : Hid (resPlaces R l = []) := hid_ (if_neg he)
    generalize validR R = x1 at *
    generalize validW l = x2 at *
    generalize err2 R l = er at *
    have hq : (er != 0) = true := by simpa using he
    clear he
    go_enter Try.func31, Try.ntmps31
    go_wp2_with (first
      | (go_at_call 33; refine Hv1.out.mono ?_; rintro e w4 ⟨rfl, hb2⟩)
      | (go_at_call 35; refine (Hv2.out _ hb2).mono ?_; rintro e w' ⟨rfl, rfl⟩)
      | (go_at_call 109; refine (Hor.out _ _).mono ?_; rintro e w5 ⟨rfl, hw5⟩; have hb3 : Below w1.heap.size w1 w5 := (by rw [← hw5]; exact hb2.trans ((below_alloc w4 _).mono hb2.size)); clear hw5; obtain ⟨q0, q1, q2, q3⟩ := box4 HW1.out hb3))
    go_ret2
    exact ⟨_, rfl, by rw [Hf.out]; exact Made.none_ _ (Hb1.out.trans (hb3.mono Hb1.out.size))⟩
end Go.Proofs.Ytnpdhmejnoplcaa
