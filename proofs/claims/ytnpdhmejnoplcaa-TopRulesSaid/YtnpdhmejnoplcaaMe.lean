import Derived.Test.YtnpdhmejnoplcaaMbd
import Derived.Test.YtnpdhmejnoplcaaPqr
namespace Go.Proofs.Ytnpdhmejnoplcaa
open Go.RowKit Go.Proofs.Kv

/-! ### a rule at all of its places, read from the left; mirrored rules and words -/
theorem tk_01 (R : Rl) : tkN R = 0 ∨ tkN R = 1 := by unfold tkN; split <;> simp
def weave (t : Nat) (o : List Int) : (Nat → Bool) → List Int → List Int
  | p, [] => if t = 0 ∧ p 0 = true then o else []
  | p, x :: s => (if p 0 = true then (if t = 0 then o ++ [x] else o) else [x]) ++ weave t o (fun i => p (i + 1)) s
theorem weave_congr {t : Nat} {o : List Int} (ht : t = 0 ∨ t = 1) : ∀ (l : List Int) (p q : Nat → Bool), (∀ i, i + t ≤ l.length → p i = q i) → weave t o p l = weave t o q l
  | [], p, q, h => by
    simp only [weave]
    rcases ht with rfl | rfl
    · rw [h 0 (by simp)]
    · simp
  | x :: s, p, q, h => by
    simp only [weave]
    rw [h 0 (by simp; omega), weave_congr ht s (fun i => p (i + 1)) (fun i => q (i + 1)) (fun i hi => h (i + 1) (by simp; omega))]
theorem weave_snoc0 (o : List Int) (x : Int) : ∀ (s : List Int) (p : Nat → Bool), weave 0 o p (s ++ [x]) = weave 0 o p s ++ [x] ++ (if p (s.length + 1) = true then o else [])
  | [], p => by
    simp only [List.nil_append, weave, true_and]
    by_cases h0 : p 0 = true <;> by_cases h1 : p 1 = true <;> simp [h0, h1]
  | y :: s, p => by
    simp only [List.cons_append, weave, weave_snoc0 o x s (fun i => p (i + 1)), List.append_assoc, List.length_cons]
theorem weave_snoc1 (o : List Int) (x : Int) : ∀ (s : List Int) (p : Nat → Bool), weave 1 o p (s ++ [x]) = weave 1 o p s ++ (if p s.length = true then o else [x])
  | [], p => by
    simp only [List.nil_append, weave]
    by_cases h0 : p 0 = true <;> simp [h0]
  | y :: s, p => by
    simp only [List.cons_append, weave, weave_snoc1 o x s (fun i => p (i + 1)), List.append_assoc, List.length_cons]
theorem weave_rev0 (o : List Int) : ∀ (l : List Int) (p : Nat → Bool), (weave 0 o p l).reverse = weave 0 o.reverse (fun i => p (l.length - i)) l.reverse
  | [], p => by
    simp only [weave, List.reverse_nil, List.length_nil, Nat.sub_zero, true_and]
    by_cases h0 : p 0 = true <;> simp [h0]
  | x :: s, p => by
    rw [List.reverse_cons, weave_snoc0, weave_congr (.inl rfl) s.reverse (fun i => p ((x :: s).length - i)) (fun i => (fun j => p (j + 1)) (s.length - i)) (fun i hi => by
      have : i ≤ s.length := by simpa using hi
      show p (s.length + 1 - i) = p (s.length - i + 1)
      congr 1; omega), ← weave_rev0 o s (fun j => p (j + 1))]
    simp only [weave, List.reverse_append, List.length_reverse, List.length_cons, Nat.sub_self]
    by_cases h0 : p 0 = true <;> simp [h0]
theorem weave_rev1 (o : List Int) : ∀ (l : List Int) (p : Nat → Bool), (weave 1 o p l).reverse = weave 1 o.reverse (fun i => p (l.length - 1 - i)) l.reverse
  | [], p => by simp [weave]
  | x :: s, p => by
    rw [List.reverse_cons, weave_snoc1, weave_congr (.inr rfl) s.reverse (fun i => p ((x :: s).length - 1 - i)) (fun i => (fun j => p (j + 1)) (s.length - 1 - i)) (fun i hi => by
      have : i + 1 ≤ s.length := by simpa using hi
      show p (s.length + 1 - 1 - i) = p (s.length - 1 - i + 1)
      congr 1; omega), ← weave_rev1 o s (fun j => p (j + 1))]
    simp only [weave, List.reverse_append, List.length_reverse, List.length_cons, Nat.add_sub_cancel, Nat.sub_self]
    by_cases h0 : p 0 = true <;> simp [h0]
theorem putAll_shift {R : Rl} {x : Int} {s : List Int} : ∀ at_ : List Int, (∀ p ∈ at_, 1 ≤ p) → putAll R at_ (x :: s) = x :: putAll R (at_.map (· - 1)) s
  | [], _ => rfl
  | p :: at_, h => by
    have hp := h p (by simp)
    have ih := putAll_shift (R := R) (x := x) (s := s) at_ (fun q hq => h q (by simp [hq]))
    show putL (putAll R at_ (x :: s)) p.toNat (p.toNat + tkN R) R.o = x :: putL (putAll R (at_.map (· - 1)) s) (p - 1).toNat ((p - 1).toNat + tkN R) R.o
    rw [ih]
    obtain ⟨k, hk⟩ : ∃ k, p.toNat = k + 1 := ⟨p.toNat - 1, by omega⟩
    have hk' : (p - 1).toNat = k := by omega
    rw [hk, hk', putL, putL, show k + 1 + tkN R = (k + tkN R) + 1 by omega]
    simp
theorem ok_shift {R : Rl} {x : Int} {s at_ : List Int} (h : PutOk R at_ (x :: s)) (h1 : ∀ p ∈ at_, 1 ≤ p) : PutOk R (at_.map (· - 1)) s := by
  refine ⟨?_, fun q hq => ?_⟩
  · rw [List.pairwise_map]
    exact h.1.imp (fun h => by omega)
  · obtain ⟨p, hp, rfl⟩ := List.mem_map.1 hq
    have := h.2 p hp
    have h2 := h1 p hp
    simp only [List.length_cons] at this
    omega
theorem mem_shift {at_ : List Int} {i : Nat} : decide ((i : Int) ∈ at_.map (· - 1)) = decide (((i + 1 : Nat) : Int) ∈ at_) := by
  apply decide_eq_decide.2
  rw [List.mem_map]
  constructor
  · rintro ⟨p, hp, he⟩
    have : p = ((i + 1 : Nat) : Int) := by omega
    rwa [← this]
  · intro h
    exact ⟨_, h, by omega⟩
theorem putAll_weave {R : Rl} : ∀ (l at_ : List Int), PutOk R at_ l → putAll R at_ l = weave (tkN R) R.o (fun i => decide ((i : Int) ∈ at_)) l
  | [], [], _ => by simp [weave, putAll]
  | [], p :: at_, h => by
    have h0 := h.2 p (by simp)
    have hp : p = 0 := by have := h0.2; simp at this; omega
    have ht : tkN R = 0 := by have := h0.2; simp at this; omega
    have ha : at_ = [] := by
      cases at_ with
      | nil => rfl
      | cons q at_ =>
        have hq := h.2 q (by simp)
        have hlt : p < q := (List.pairwise_cons.1 h.1).1 q (by simp)
        have := hq.2
        simp at this
        omega
    subst ha hp
    simp [weave, putAll, putL, ht]
  | x :: s, at_, h => by
    rw [weave]
    by_cases h1 : ∀ p ∈ at_, 1 ≤ p
    · have h0 : decide (((0 : Nat) : Int) ∈ at_) = false := decide_eq_false (fun hc => by have := h1 _ hc; omega)
      rw [putAll_shift at_ h1, putAll_weave s _ (ok_shift h h1), h0]
      simp only [mem_shift]
      simp
    · have hne : at_ ≠ [] := by rintro rfl; exact h1 (by simp)
      obtain ⟨p, at', rfl⟩ := List.exists_cons_of_ne_nil hne
      have hlt := (List.pairwise_cons.1 h.1).1
      have hp : p = 0 := by
        have hp0 := (h.2 p (by simp)).1
        rcases Int.lt_or_le 0 p with h2 | h2
        · exact absurd (fun q hq => by
            rcases List.mem_cons.1 hq with rfl | hq
            · omega
            · have := hlt q hq; omega) h1
        · omega
      subst hp
      have h2 : ∀ q ∈ at', 1 ≤ q := fun q hq => by have := hlt q hq; omega
      have hok : PutOk R at' (x :: s) := ⟨h.1.of_cons, fun q hq => h.2 q (by simp [hq])⟩
      have h0 : decide (((0 : Nat) : Int) ∈ (0 : Int) :: at') = true := decide_eq_true (by simp)
      have hw : weave (tkN R) R.o (fun i => decide (((i + 1 : Nat) : Int) ∈ (0 : Int) :: at')) s = putAll R (at'.map (· - 1)) s := by
        rw [putAll_weave s _ (ok_shift hok h2)]
        refine weave_congr (tk_01 R) s _ _ (fun i _ => ?_)
        rw [mem_shift]
        apply decide_eq_decide.2
        rw [List.mem_cons]
        exact ⟨fun h => h.resolve_left (by omega), .inr⟩
      rw [hw, h0, if_pos rfl]
      show putL (putAll R at' (x :: s)) (0 : Int).toNat ((0 : Int).toNat + tkN R) R.o = _
      rw [putAll_shift at' h2]
      rcases tk_01 R with ht | ht <;> simp [ht, putL]
theorem atL_rev (l : List Int) (i : Int) : atL l.reverse i = atL l ((l.length : Int) - 1 - i) := by
  unfold atL
  rw [List.length_reverse]
  by_cases h : Within i 0 ((l.length : Int) - 1) = true
  · have h' : Within ((l.length : Int) - 1 - i) 0 ((l.length : Int) - 1) = true := by simp [Within] at h ⊢; omega
    rw [if_pos h, if_pos h']
    simp [Within] at h
    have h1 : i.toNat < l.length := by omega
    simp only [List.getD_eq_getElem?_getD]
    rw [List.getElem?_reverse h1]
    congr 2
    omega
  · have h' : ¬ Within ((l.length : Int) - 1 - i) 0 ((l.length : Int) - 1) = true := by simp [Within] at h ⊢; omega
    rw [if_neg h, if_neg h']
theorem mir_eq {R : Rl} (h : validR R = 0) : mirR R = ⟨R.f, R.o.reverse, R.ri, R.le⟩ := if_pos h
theorem mir_place0 {R : Rl} {l : List Int} {i : Int} (h : validR R = 0) (hf : R.f = -1) : plB (mirR R).f (mirR R).le (mirR R).ri l.reverse i = plB R.f R.le R.ri l ((l.length : Int) - i) := by
  rw [mir_eq h, Bool.eq_iff_iff, plB_iff, plB_iff]
  simp only [hf, rgt, if_pos, List.length_reverse, atL_rev]
  rw [show (l.length : Int) - 1 - (i - 1) = (l.length : Int) - i by omega, show (l.length : Int) - 1 - i = (l.length : Int) - i - 1 by omega]
  constructor
  · rintro ⟨a, b, -, c, d⟩; exact ⟨by omega, by omega, .inl trivial, d, c⟩
  · rintro ⟨a, b, -, c, d⟩; exact ⟨by omega, by omega, .inl trivial, d, c⟩
theorem mir_place1 {R : Rl} {l : List Int} {i : Int} (h : validR R = 0) (hf : R.f ≠ -1) : plB (mirR R).f (mirR R).le (mirR R).ri l.reverse i = plB R.f R.le R.ri l ((l.length : Int) - 1 - i) := by
  have hf0 : 0 ≤ R.f := by have := (validR_ok h).1; omega
  rw [mir_eq h, Bool.eq_iff_iff, plB_iff, plB_iff]
  simp only [rgt, if_neg hf, List.length_reverse, atL_rev]
  rw [show (l.length : Int) - 1 - (i - 1) = (l.length : Int) - 1 - i + 1 by omega, show (l.length : Int) - 1 - (i + 1) = (l.length : Int) - 1 - i - 1 by omega]
  have key : atL l ((l.length : Int) - 1 - i) = R.f → 0 ≤ i ∧ i ≤ (l.length : Int) - 1 := by
    intro hc
    unfold atL at hc
    split at hc
    · rename_i hw; simp [Within] at hw; omega
    · omega
  constructor
  · rintro ⟨a, b, c, d, e⟩
    have := key (c.resolve_left hf)
    exact ⟨by omega, by omega, c, e, d⟩
  · rintro ⟨a, b, c, d, e⟩
    have := key (c.resolve_left hf)
    exact ⟨by omega, by omega, c, e, d⟩
theorem stp_mir {R : Rl} {l : List Int} (h : validR R = 0) : stp (mirR R) l.reverse = (stp R l).reverse := by
  unfold stp
  rw [putAll_weave l.reverse _ plP_ok, putAll_weave l _ plP_ok]
  have ho : (mirR R).o = R.o.reverse := by rw [mir_eq h]
  have ht : tkN (mirR R) = tkN R := by unfold tkN; rw [mir_eq h]
  rw [ho, ht]
  by_cases hf : R.f = -1
  · have h0 : tkN R = 0 := if_pos hf
    rw [h0, weave_rev0]
    refine weave_congr (.inl rfl) _ _ _ (fun i hi => ?_)
    have hi' : i ≤ l.length := by simpa using hi
    apply decide_eq_decide.2
    rw [plP, plP, mem_pl, mem_pl, mir_place0 h hf, List.length_reverse, show (((l.length - i : Nat)) : Int) = (l.length : Int) - i by omega]
    exact ⟨fun ⟨a, b, c⟩ => ⟨by omega, by omega, c⟩, fun ⟨a, b, c⟩ => ⟨by omega, by omega, c⟩⟩
  · have h0 : tkN R = 1 := if_neg hf
    rw [h0, weave_rev1]
    refine weave_congr (.inr rfl) _ _ _ (fun i hi => ?_)
    have hi' : i + 1 ≤ l.length := by simpa using hi
    apply decide_eq_decide.2
    rw [plP, plP, mem_pl, mem_pl, mir_place1 h hf, List.length_reverse, show (((l.length - 1 - i : Nat)) : Int) = (l.length : Int) - 1 - i by omega]
    exact ⟨fun ⟨a, b, c⟩ => ⟨by omega, by omega, c⟩, fun ⟨a, b, c⟩ => ⟨by omega, by omega, c⟩⟩
theorem putAll_count {R : Rl} {l : List Int} : ∀ at_ : List Int, PutOk R at_ l → (putAll R at_ l).length + at_.length * tkN R = l.length + at_.length * R.o.length
  | [], _ => by simp [putAll]
  | p :: at_, h => by
    have ih := putAll_count (R := R) (l := l) at_ ⟨h.1.of_cons, fun q hq => h.2 q (by simp [hq])⟩
    have hf := putAll_fit h
    have hl : (putAll R (p :: at_) l).length = (putAll R at_ l).length - (p.toNat + tkN R - p.toNat) + R.o.length := putL_length (v := putAll R at_ l) (by omega) hf
    rw [hl, List.length_cons, Nat.succ_mul, Nat.succ_mul]
    omega
theorem stp_count {R : Rl} {l : List Int} : (stp R l).length + (plP R l).length * tkN R = l.length + (plP R l).length * R.o.length := putAll_count _ plP_ok
end Go.Proofs.Ytnpdhmejnoplcaa
