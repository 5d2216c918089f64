import Derived.Test.YtdnlpikfibdjoaaYmb
import Derived.Test.YtdnlpikfibdjoaaYmc
namespace Go.Proofs.Ytdnlpikfibdjoaa
open Go.RowKit Go.Proofs.Kv Go

/-! ### the greatest calm sets -/
/-- a comes before b, of lists of equal length -/
def befL : List Int → List Int → Bool
  | [], [] => false
  | [], _ :: _ => true
  | _ :: _, [] => false
  | x :: a, y :: b => if x = y then befL a b else decide (x < y)
def bettL (s t : List Int) : Bool := decide (t.length < s.length) || (decide (s.length = t.length) && befL s t)
theorem befL_irrefl : ∀ a, befL a a = false
  | [] => rfl
  | x :: a => by unfold befL; rw [if_pos rfl]; exact befL_irrefl a
theorem befL_total : ∀ a b, befL a b = false → befL b a = false → a = b
  | [], [], _, _ => rfl
  | [], _ :: _, h, _ => by cases h
  | _ :: _, [], _, h => by cases h
  | x :: a, y :: b, h1, h2 => by
    unfold befL at h1 h2
    by_cases e : x = y
    · subst e
      rw [if_pos rfl] at h1 h2
      rw [befL_total a b h1 h2]
    · rw [if_neg e] at h1
      rw [if_neg (Ne.symm e)] at h2
      have := of_decide_eq_false h1
      have := of_decide_eq_false h2
      omega
theorem befL_trans : ∀ a b c, befL a b = true → befL b c = true → befL a c = true
  | [], [], _, h, _ => by cases h
  | [], _ :: _, [], _, h => by cases h
  | [], _ :: _, _ :: _, _, _ => rfl
  | _ :: _, [], _, h, _ => by cases h
  | _ :: _, _ :: _, [], _, h => by cases h
  | x :: a, y :: b, z :: c, h1, h2 => by
    unfold befL at h1 h2 ⊢
    by_cases e : x = y
    · subst e
      rw [if_pos rfl] at h1
      by_cases e2 : x = z
      · subst e2
        rw [if_pos rfl] at h2 ⊢
        exact befL_trans a b c h1 h2
      · rw [if_neg e2] at h2 ⊢; exact h2
    · rw [if_neg e] at h1
      have h3 := of_decide_eq_true h1
      by_cases e2 : y = z
      · subst e2; rw [if_neg e]; exact h1
      · rw [if_neg e2] at h2
        have h4 := of_decide_eq_true h2
        rw [if_neg (by omega)]
        exact decide_eq_true (by omega)
theorem bettL_irrefl (a : List Int) : bettL a a = false := by simp [bettL, befL_irrefl]
theorem bettL_total {a b : List Int} (h1 : bettL a b = false) (h2 : bettL b a = false) : a = b := by
  rw [bettL, Bool.or_eq_false_iff] at h1 h2
  have h3 := of_decide_eq_false h1.1
  have h4 := of_decide_eq_false h2.1
  have e : a.length = b.length := by omega
  have k1 := h1.2
  have k2 := h2.2
  rw [decide_eq_true e, Bool.true_and] at k1
  rw [decide_eq_true e.symm, Bool.true_and] at k2
  exact befL_total a b k1 k2
theorem bettL_trans {a b c : List Int} (h1 : bettL a b = true) (h2 : bettL b c = true) : bettL a c = true := by
  rw [bettL, Bool.or_eq_true, Bool.and_eq_true, decide_eq_true_eq, decide_eq_true_eq] at h1 h2 ⊢
  rcases h1 with h1 | ⟨h1, k1⟩ <;> rcases h2 with h2 | ⟨h2, k2⟩
  · exact .inl (by omega)
  · exact .inl (by omega)
  · exact .inl (by omega)
  · exact .inr ⟨by omega, befL_trans a b c k1 k2⟩
/-- B is a best one of those with P -/
def Best (P : List Int → Prop) (B : List Int) : Prop := P B ∧ ∀ s, P s → bettL s B = false
theorem Best.uniq {P : List Int → Prop} {B C : List Int} (h : Best P B) (h' : Best P C) : B = C := bettL_total (h'.2 B h.1) (h.2 C h'.1)
/-- one more is looked at -/
theorem Best.next {P P' : List Int → Prop} {B s : List Int} (h : Best P B) (hP : ∀ t, P' t ↔ P t ∨ t = s) : Best P' (if bettL s B = true then s else B) := by
  by_cases hb : bettL s B = true
  · rw [if_pos hb]
    refine ⟨(hP s).2 (.inr rfl), fun t ht => ?_⟩
    rcases (hP t).1 ht with h1 | rfl
    · cases hc : bettL t s with
      | false => rfl
      | true =>
        have h2 := h.2 t h1
        rw [bettL_trans hc hb] at h2; cases h2
    · exact bettL_irrefl _
  · rw [if_neg hb]
    refine ⟨(hP B).2 (.inl h.1), fun t ht => ?_⟩
    rcases (hP t).1 ht with h1 | rfl
    · exact h.2 t h1
    · cases hc : bettL t B with
      | false => rfl
      | true => exact absurd hc hb
theorem Best.same {P P' : List Int → Prop} {B : List Int} (h : Best P B) (hP : ∀ t, P' t ↔ P t) : Best P' B := ⟨(hP B).2 h.1, fun s hs => h.2 s ((hP s).1 hs)⟩
/-- the places of the bits that are 1, of the first m -/
def memB (m b : Nat) : List Int := ((List.range m).filter fun i => b.testBit i).map fun i : Nat => (i : Int)
theorem memB_succ (m b : Nat) : memB (m + 1) b = if b.testBit m = true then memB m b ++ [(m : Int)] else memB m b := by
  unfold memB
  rw [List.range_succ, List.filter_append, List.map_append]
  by_cases h : b.testBit m = true
  · rw [if_pos h]; simp [h]
  · rw [if_neg h]; simp [h]
theorem memB_mod (m b : Nat) : memB m (b % 2 ^ m) = memB m b := by
  unfold memB
  congr 1
  refine List.filter_congr fun i hi => ?_
  rw [Nat.testBit_mod_two_pow]
  simp [List.mem_range.1 hi]
/-- p stands with all of s -/
def fitsS (T : List (List Int)) (s : List Int) (p : Nat) : Bool := splR T p && s.all fun x => !cfR T p x.toNat
/-- the calm sets of the first p places, in the document's order -/
def calmS (T : List (List Int)) : Nat → List (List Int)
  | 0 => [[]]
  | p + 1 => calmS T p ++ ((calmS T p).reverse.filter fun s => fitsS T s p).map fun s => s ++ [(p : Int)]
/-- all of a set stand together, the later ones with the earlier ones -/
def standS (T : List (List Int)) (m b : Nat) : Bool := (List.range m).all fun i => !b.testBit i || fitsS T (memB i b) i
theorem standS_succ (T : List (List Int)) (m b : Nat) : standS T (m + 1) b = (standS T m b && (!b.testBit m || fitsS T (memB m b) m)) := by
  unfold standS; rw [List.range_succ, List.all_append]; simp
theorem memB_low {i m : Nat} (h : i ≤ m) (b : Nat) : memB i (b % 2 ^ m) = memB i b := by
  unfold memB
  congr 1
  refine List.filter_congr fun j hj => ?_
  have := List.mem_range.1 hj
  rw [Nat.testBit_mod_two_pow, decide_eq_true (show j < m by omega), Bool.true_and]
theorem standS_mod (T : List (List Int)) (m b : Nat) : standS T m (b % 2 ^ m) = standS T m b := by
  have key : ∀ i, i < m → (!(b % 2 ^ m).testBit i || fitsS T (memB i (b % 2 ^ m)) i) = (!b.testBit i || fitsS T (memB i b) i) := fun i hi => by
    rw [memB_low (by omega), Nat.testBit_mod_two_pow, decide_eq_true hi, Bool.true_and]
  unfold standS
  rw [Bool.eq_iff_iff, List.all_eq_true, List.all_eq_true]
  constructor
  · intro h i hi
    rw [← key i (List.mem_range.1 hi)]; exact h i hi
  · intro h i hi
    rw [key i (List.mem_range.1 hi)]; exact h i hi
theorem mem_calmS (T : List (List Int)) : ∀ (m : Nat) (s : List Int), s ∈ calmS T m ↔ ∃ b, b < 2 ^ m ∧ standS T m b = true ∧ s = memB m b
  | 0, s => by simp [calmS, standS, memB]
  | m + 1, s => by
    have hp : 2 ^ (m + 1) = 2 ^ m + 2 ^ m := by rw [Nat.pow_succ]; omega
    have hpos : 0 < 2 ^ m := Nat.two_pow_pos m
    rw [calmS, List.mem_append, List.mem_map, mem_calmS T m s]
    constructor
    · rintro (⟨b, h1, h2, h3⟩ | ⟨t, ht, rfl⟩)
      · have hb := Nat.testBit_lt_two_pow h1
        exact ⟨b, by omega, by rw [standS_succ, h2, hb]; rfl, by rw [memB_succ, if_neg (by rw [hb]; decide)]; exact h3⟩
      · rw [List.mem_filter, List.mem_reverse, mem_calmS T m t] at ht
        obtain ⟨⟨b, h1, h2, rfl⟩, h3⟩ := ht
        have hb : (2 ^ m + b).testBit m = true := by rw [Nat.testBit_two_pow_add_eq, Nat.testBit_lt_two_pow h1]; rfl
        have hm : (2 ^ m + b) % 2 ^ m = b := by rw [Nat.add_mod_left]; exact Nat.mod_eq_of_lt h1
        have e1 : memB m (2 ^ m + b) = memB m b := by rw [← memB_mod, hm]
        have e2 : standS T m (2 ^ m + b) = standS T m b := by rw [← standS_mod, hm]
        exact ⟨2 ^ m + b, by omega, by rw [standS_succ, e2, h2, e1, h3]; simp, by rw [memB_succ, if_pos hb, e1]⟩
    · rintro ⟨b, h1, h2, rfl⟩
      rw [standS_succ, Bool.and_eq_true] at h2
      have hlt := Nat.mod_lt b hpos
      cases hb : b.testBit m with
      | false =>
        exact .inl ⟨b % 2 ^ m, hlt, by rw [standS_mod]; exact h2.1, by rw [memB_succ, if_neg (by rw [hb]; decide), memB_mod]⟩
      | true =>
        refine .inr ⟨memB m b, ?_, by rw [memB_succ, if_pos hb]⟩
        rw [List.mem_filter, List.mem_reverse, mem_calmS T m (memB m b)]
        have h3 := h2.2
        rw [hb] at h3
        exact ⟨⟨b % 2 ^ m, hlt, by rw [standS_mod]; exact h2.1, (memB_mod m b).symm⟩, by simpa using h3⟩
/-- what the program finds behind the first k numbers -/
def greatB (T : List (List Int)) (m : Nat) : Nat → List Int
  | 0 => []
  | k + 1 => if (standS T m k && bettL (memB m k) (greatB T m k)) = true then memB m k else greatB T m k
theorem greatB_best (T : List (List Int)) (m : Nat) : ∀ k, 1 ≤ k → Best (fun s => ∃ b, b < k ∧ standS T m b = true ∧ s = memB m b) (greatB T m k)
  | 0, h => absurd h (by omega)
  | 1, _ => by
    have h0 : memB m 0 = [] := by simp [memB]
    have h1 : standS T m 0 = true := by simp [standS]
    have h2 : greatB T m 1 = [] := by simp [greatB, h0, bettL_irrefl]
    rw [h2]
    refine ⟨⟨0, by omega, h1, h0.symm⟩, ?_⟩
    rintro s ⟨b, hb, -, rfl⟩
    obtain rfl : b = 0 := by omega
    rw [h0]; exact bettL_irrefl _
  | k + 2, _ => by
    have ih := greatB_best T m (k + 1) (by omega)
    have e : greatB T m (k + 2) = if (standS T m (k + 1) && bettL (memB m (k + 1)) (greatB T m (k + 1))) = true then memB m (k + 1) else greatB T m (k + 1) := rfl
    rw [e]
    cases hst : standS T m (k + 1) with
    | true =>
      simp only [Bool.true_and]
      refine ih.next fun t => ⟨?_, ?_⟩
      · rintro ⟨b, hb, h1, h2⟩
        by_cases h : b = k + 1
        · exact .inr (by rw [h2, h])
        · exact .inl ⟨b, by omega, h1, h2⟩
      · rintro (⟨b, hb, h1, h2⟩ | h)
        · exact ⟨b, by omega, h1, h2⟩
        · exact ⟨k + 1, by omega, hst, h⟩
    | false =>
      simp only [Bool.false_and]
      refine ih.same fun t => ⟨?_, ?_⟩
      · rintro ⟨b, hb, h1, h2⟩
        have h : b ≠ k + 1 := fun h => by rw [h, hst] at h1; cases h1
        exact ⟨b, by omega, h1, h2⟩
      · rintro ⟨b, hb, h1, h2⟩
        exact ⟨b, by omega, h1, h2⟩
/-- what the document finds is the same, if it is a best one of its sets -/
theorem great_same {T : List (List Int)} {m : Nat} {B : List Int} (h : Best (fun s => s ∈ calmS T m) B) : greatB T m (2 ^ m) = B :=
  (greatB_best T m (2 ^ m) (Nat.two_pow_pos m)).uniq (h.same fun t => (mem_calmS T m t).symm)
end Go.Proofs.Ytdnlpikfibdjoaa
namespace Go.Proofs.Ytdnlpikfibdjoaa
open Go.RowKit Go.Proofs.Kv Go

/-! ### members -/
theorem and_one : ∀ y : Nat, y < 64 → bits BinOp.and IntKind.i64 (y : Int) 1 = ((y % 2 : Nat) : Int) := by decide +kernel
theorem memB_stop {b k : Nat} (h : b < 2 ^ k) : ∀ d, memB (k + d) b = memB k b
  | 0 => rfl
  | d + 1 => by
    have h1 : b < 2 ^ (k + d) := Nat.lt_of_lt_of_le h (Nat.pow_le_pow_right (by omega) (by omega))
    rw [← Nat.add_assoc, memB_succ, if_neg (by rw [Nat.testBit_lt_two_pow h1]; decide), memB_stop h d]
theorem memB_to {b k m : Nat} (h : b < 2 ^ k) (hk : k ≤ m) : memB m b = memB k b := by
  obtain ⟨d, rfl⟩ := Nat.le.dest hk
  exact memB_stop h d
theorem memB_len (m b : Nat) : (memB m b).length ≤ m := by
  unfold memB; rw [List.length_map]; exact Nat.le_trans (List.length_filter_le _ _) (by rw [List.length_range]; exact Nat.le_refl _)
set_option maxRecDepth 100000 in
theorem members_calls (b : Nat) (hb : b < 64) (w : World) :
    Calls Try.prog 89 #[.int .i64 (b : Int)] w fun e w' => ∃ v, e = .returned v ∧ Made 3 w w' v (memB 6 b) := by
  go_enter Try.func89, Try.ntmps89
  go_wp2
  go_loopw [3, 4] (fun v n wr => ∃ k : Nat, k ≤ 6 ∧ n = .int .i64 k ∧ wr.ownsRow w.heap.size 3 1 v (memB k b).length ((memB k b).map (Value.int .i64)) ∧ Below w.heap.size w wr) (fun _ n _ => 6 - (intOf n).toNat)
  case atStart => exact ⟨0, Nat.zero_le _, rfl, World.ownsRow_nil _ _ _ _, Below.refl _ _⟩
  case round =>
    obtain ⟨k, hk, rfl, hO, hbr⟩ := hrel
    have hsz := hbr.size
    have hy : (b : Int) / 2 ^ k = ((b / 2 ^ k : Nat) : Int) := by rw [Int.natCast_ediv]; simp
    have hyl : b / 2 ^ k < 64 := Nat.lt_of_le_of_lt (Nat.div_le_self _ _) hb
    have han := and_one _ hyl
    have htb : b.testBit k = decide (b / 2 ^ k % 2 = 1) := Nat.testBit_eq_decide_div_mod_eq
    have hpw : 0 < 2 ^ k := Nat.two_pow_pos k
    have hfin : b / 2 ^ k = 0 → memB 6 b = memB k b := fun h => memB_to ((Nat.div_eq_zero_iff_lt hpw).1 h) hk
    have hlast : k = 6 → b / 2 ^ k = 0 := fun h => by subst h; exact Nat.div_eq_of_lt hb
    have hml := memB_len k b
    have Hm := hid_ (memB_succ k b)
    have HO := hid_ hO
    have Hb := hid_ hbr
    clear hO hbr hpw
    by_cases h0 : b / 2 ^ k = 0
    · have Hf := hid_ (hfin h0)
      rw [h0] at hy
      have hy0 : (b : Int) / 2 ^ k = 0 := hy
      clear hfin hlast hy han htb h0 hyl
      obtain ⟨av, cv, ev, -⟩ := IntsAt.own HO.out
      go_wp2
      go_ret
      exact ⟨_, rfl, by rw [Hf.out]; exact HO.out, Hb.out⟩
    · have hk6 : k < 6 := by
        rcases Nat.lt_or_ge k 6 with h | h
        · exact h
        · exact absurd (hlast (by omega)) h0
      generalize b / 2 ^ k = y at *
      have hy0 : 0 < (y : Int) := by omega
      have hyn : 0 < y := by omega
      have hyd : decide (0 < y) = true := decide_eq_true hyn
      clear hfin hlast h0
      by_cases h1 : y % 2 = 1
      · rw [h1] at han
        have Hn : Hid (memB (k + 1) b = memB k b ++ [(k : Int)]) := hid_ (by rw [Hm.out, if_pos (by rw [htb, decide_eq_true h1])])
        clear htb h1
        have hown := HO.out.alloc (.cells #[.int .i64 (k : Int)] 3)
        have hz8 : w.heap.size ≤ (wr.alloc (.cells #[.int .i64 (k : Int)] 3)).heap.size := Nat.le_trans hsz (below_alloc _ _).size
        obtain ⟨i0, hi0, hz0, hz1, hz2⟩ := info_parts Try.infoInt
        go_wp2_with (at_builtin; refine wpList_append_ints _ rfl (.tmp 16) (.tmp 18) _ rfl w.heap.size 3 i0 Try.underlying22 hi0 hz0 hz1 hz2 _ _ _ rfl hown _ _ _ _ rfl (IntsAt.one _ _ _) (by omega) hz8 ?_; intro v6 w6 ho6 hg6 hat6; have Ho6 := hid_ ho6; have Hb6 := hid_ (below_app Hb.out hsz HO.out hg6); clear ho6 hg6 hat6)
        go_roundw
        case rel => exact ⟨k + 1, by omega, by go_num, by rw [Hn.out, List.length_append]; exact Ho6.out, Hb6.out⟩
        case measure => simp [intOf]; omega
      · have h2 : y % 2 = 0 := by omega
        rw [h2] at han
        have Hn : Hid (memB (k + 1) b = memB k b) := hid_ (by rw [Hm.out, if_neg (by rw [htb, decide_eq_false h1]; decide)])
        clear htb h1 h2
        go_wp2
        go_roundw
        case rel => exact ⟨k + 1, by omega, by go_num, by rw [Hn.out]; exact HO.out, Hb.out⟩
        case measure => simp [intOf]; omega
end Go.Proofs.Ytdnlpikfibdjoaa
namespace Go.Proofs.Ytdnlpikfibdjoaa
open Go.RowKit Go.Proofs.Kv Go

/-! ### cmp.Compare, slices.Compare, cmp.Or of numbers (out of layer3) -/
set_option maxRecDepth 100000 in
theorem nan7_calls (z : Int) (w : World) : Calls Try.prog 125 #[.int .i64 z] w fun e w' => e = .returned (.bool false) ∧ w' = w := by
  have hq : (z != z) = false := by simp
  go_enter Try.func125, Try.ntmps125
  go_wp2
  go_ret
  exact ⟨rfl, rfl⟩
def cmpI (x y : Int) : Int := if x < y then -1 else if y < x then 1 else 0
theorem cmpI_calls (x y : Int) (w : World) :
    Calls Try.prog 92 #[.int .i64 x, .int .i64 y] w fun e w' => e = .returned (.int .i64 (cmpI x y)) ∧ w = w' := by
  have Hnan : ∀ z, Hid (Calls Try.prog 125 #[.int .i64 z] w fun e w' => e = .returned (.bool false) ∧ w' = w) := fun z => hid_ (nan7_calls z w)
  by_cases h1 : x < y
  · have Hf : Hid (cmpI x y = -1) := hid_ (if_pos h1)
    go_enter Try.func92, Try.ntmps92
    go_wp2_with (go_at_call 125; refine (Hnan _).out.mono ?_; rintro e w' ⟨rfl, rfl⟩)
    go_ret
    exact ⟨retI Hf.out, rfl⟩
  · by_cases h2 : y < x
    · have Hf : Hid (cmpI x y = 1) := hid_ (by rw [cmpI, if_neg h1, if_pos h2])
      go_enter Try.func92, Try.ntmps92
      go_wp2_with (go_at_call 125; refine (Hnan _).out.mono ?_; rintro e w' ⟨rfl, rfl⟩)
      go_ret
      exact ⟨retI Hf.out, rfl⟩
    · have Hf : Hid (cmpI x y = 0) := hid_ (by rw [cmpI, if_neg h1, if_neg h2])
      go_enter Try.func92, Try.ntmps92
      go_wp2_with (go_at_call 125; refine (Hnan _).out.mono ?_; rintro e w' ⟨rfl, rfl⟩)
      go_ret
      exact ⟨retI Hf.out, rfl⟩

def orI : List Int → Int
  | [] => 0
  | x :: l => if x = 0 then orI l else x
theorem orI_hit : ∀ {l : List Int} {k : Nat}, (∀ j, j < k → l.getD j 0 = 0) → k < l.length → l.getD k 0 ≠ 0 → orI l = l.getD k 0
  | x :: l, 0, _, _, h => by simp [List.getD] at h; simp [orI, h, List.getD]
  | x :: l, k + 1, h, hk, hh => by
    have h0 : x = 0 := by simpa [List.getD] using h 0 (by omega)
    rw [orI, if_pos h0]
    have := orI_hit (l := l) (k := k) (fun j hj => by simpa [List.getD] using h (j + 1) (by omega)) (by simpa using hk) (by simpa [List.getD] using hh)
    simpa [List.getD] using this
theorem orI_miss : ∀ {l : List Int}, (∀ j, j < l.length → l.getD j 0 = 0) → orI l = 0
  | [], _ => rfl
  | x :: l, h => by
    have h0 : x = 0 := by simpa [List.getD] using h 0 (by simp)
    rw [orI, if_pos h0]
    exact orI_miss fun j hj => by simpa [List.getD] using h (j + 1) (by simpa using hj)
set_option maxRecDepth 100000 in
theorem orI_calls (a : Option Addr) (n c : Nat) (l : List Int) (w : World) (h : IntsAt w a n c l) :
    Calls Try.prog 91 #[.slice a n c] w fun e w' => e = .returned (.int .i64 (orI l)) ∧ w = w' := by
  have hn : n ≤ 9223372036854775807 := Nat.le_trans h.le h.small
  have hlen := hid_ h.len
  go_enter Try.func91, Try.ntmps91
  go_wp2
  go_loop [8] (fun i => ∃ k : Nat, k ≤ n ∧ i = .int .i64 k ∧ ∀ j, j < k → l.getD j 0 = 0) (fun i => n - (intOf i).toNat)
  case atStart => exact ⟨0, Nat.zero_le _, rfl, fun _ h => absurd h (by omega)⟩
  case round =>
    obtain ⟨k, hk, rfl, hall⟩ := hrel
    have Hall := hid_ hall; clear hall
    by_cases hlt : k < n
    · obtain ⟨b, off, rfl, hb, hcell⟩ := h.cells k hlt
      have hl : k < l.length := by rw [hlen.out]; exact hlt
      generalize hr : l.getD k 0 = r at hcell
      have Hr := hid_ hr; clear hr
      by_cases hq : r = 0
      · have Hq := hid_ hq
        subst hq
        go_wp2
        go_round
        case rel => exact ⟨k + 1, by omega, by go_num, lt_snoc Hall.out Hr.out⟩
        case measure => simp [intOf]; omega
      · have Hf : Hid (orI l = r) := hid_ (by rw [← Hr.out]; exact orI_hit Hall.out hl (by rw [Hr.out]; exact hq))
        have hqe : (r != 0) = true := by simpa using hq
        clear hq
        go_wp2
        go_ret
        exact ⟨retI Hf.out, rfl⟩
    · have Hf : Hid (orI l = 0) := hid_ (orI_miss fun j hj => Hall.out j (by have := hlen.out; omega))
      go_wp2
      go_ret
      exact ⟨retI Hf.out, rfl⟩

/-- the order of lists -/
def cmpL : List Int → List Int → Int
  | [], [] => 0
  | [], _ :: _ => -1
  | _ :: _, [] => 1
  | x :: l, y :: m => if cmpI x y = 0 then cmpL l m else cmpI x y
theorem cmpL_at : ∀ {l m : List Int} {k : Nat}, (∀ j, j < k → cmpI (l.getD j 0) (m.getD j 0) = 0) → k ≤ l.length → k ≤ m.length → cmpL l m = cmpL (l.drop k) (m.drop k)
  | l, m, 0, _, _, _ => rfl
  | x :: l, y :: m, k + 1, h, h1, h2 => by
    have h0 : cmpI x y = 0 := by simpa [List.getD] using h 0 (by omega)
    rw [cmpL, if_pos h0, List.drop_succ_cons, List.drop_succ_cons]
    exact cmpL_at (fun j hj => by simpa [List.getD] using h (j + 1) (by omega)) (by simpa using h1) (by simpa using h2)
theorem drop_cons_getD {l : List Int} {k : Nat} (h : k < l.length) : l.drop k = l.getD k 0 :: l.drop (k + 1) := by
  rw [List.drop_eq_getElem_cons h]; simp [List.getD, List.getElem?_eq_getElem h]
set_option maxRecDepth 100000 in
theorem cmpL_calls (a : Option Addr) (n c : Nat) (l : List Int) (a' : Option Addr) (n' c' : Nat) (m : List Int) (w : World) (h : IntsAt w a n c l) (h' : IntsAt w a' n' c' m) :
    Calls Try.prog 93 #[.slice a n c, .slice a' n' c'] w fun e w' => e = .returned (.int .i64 (cmpL l m)) ∧ w = w' := by
  have hn : n ≤ 9223372036854775807 := Nat.le_trans h.le h.small
  have hn' : n' ≤ 9223372036854775807 := Nat.le_trans h'.le h'.small
  have hlen := hid_ h.len
  have hlen' := hid_ h'.len
  go_enter Try.func93, Try.ntmps93
  go_wp2
  go_loop [11] (fun i => ∃ k : Nat, k ≤ n ∧ k ≤ n' ∧ i = .int .i64 k ∧ ∀ j, j < k → cmpI (l.getD j 0) (m.getD j 0) = 0) (fun i => n - (intOf i).toNat)
  case atStart => exact ⟨0, Nat.zero_le _, Nat.zero_le _, rfl, fun _ h => absurd h (by omega)⟩
  case round =>
    obtain ⟨k, hk, hk', rfl, hall⟩ := hrel
    have Hall := hid_ hall; clear hall
    have Hat : Hid (cmpL l m = cmpL (l.drop k) (m.drop k)) := hid_ (cmpL_at Hall.out (by rw [hlen.out]; exact hk) (by rw [hlen'.out]; exact hk'))
    by_cases hlt : k < n
    · obtain ⟨b, off, rfl, hb, hcell⟩ := h.cells k hlt
      have hl : k < l.length := by rw [hlen.out]; exact hlt
      generalize hr : l.getD k 0 = r at hcell
      have Hr := hid_ hr; clear hr
      by_cases hlt' : k < n'
      · obtain ⟨b', off', rfl, hb', hcell'⟩ := h'.cells k hlt'
        have hl' : k < m.length := by rw [hlen'.out]; exact hlt'
        generalize hr' : m.getD k 0 = r' at hcell'
        have Hr' := hid_ hr'; clear hr'
        have hc := cmpI_calls r r' w
        by_cases hq : cmpI r r' = 0
        · have Hq := hid_ hq
          rw [hq] at hc
          have Hc := hid_ hc; clear hc hq
          go_wp2_with (go_at_call 92; refine Hc.out.mono ?_; rintro e w' ⟨rfl, rfl⟩)
          go_round
          case rel => exact ⟨k + 1, by omega, by omega, by go_num, lt_snoc Hall.out (by rw [Hr.out, Hr'.out, Hq.out])⟩
          case measure => simp [intOf]; omega
        · have Hf : Hid (cmpL l m = cmpI r r') := hid_ (by rw [Hat.out, drop_cons_getD hl, drop_cons_getD hl', Hr.out, Hr'.out, cmpL, if_neg hq])
          generalize cmpI r r' = z at hc hq Hf
          have hqe : (z != 0) = true := by simpa using hq
          have Hc := hid_ hc; clear hc hq
          go_wp2_with (go_at_call 92; refine Hc.out.mono ?_; rintro e w' ⟨rfl, rfl⟩)
          go_ret
          exact ⟨retI Hf.out, rfl⟩
      · have Hf : Hid (cmpL l m = 1) := hid_ (by rw [Hat.out, drop_cons_getD hl, List.drop_of_length_le (l := m) (by rw [hlen'.out]; omega)]; rfl)
        go_wp2
        go_ret
        exact ⟨retI Hf.out, rfl⟩
    · have hnk : l.drop k = [] := List.drop_of_length_le (by rw [hlen.out]; omega)
      by_cases hlt' : n < n'
      · have Hf : Hid (cmpL l m = -1) := hid_ (by rw [Hat.out, hnk, drop_cons_getD (l := m) (by rw [hlen'.out]; omega)]; rfl)
        go_wp2
        go_ret
        exact ⟨retI Hf.out, rfl⟩
      · have Hf : Hid (cmpL l m = 0) := hid_ (by rw [Hat.out, hnk, List.drop_of_length_le (l := m) (by rw [hlen'.out]; omega)]; rfl)
        go_wp2
        go_ret
        exact ⟨retI Hf.out, rfl⟩
/-- the program's comparison of two sets -/
theorem bett_cmp : ∀ s t : List Int, s.length = t.length → decide (cmpL s t < 0) = befL s t
  | [], [], _ => rfl
  | [], _ :: _, h => by cases h
  | _ :: _, [], h => by cases h
  | x :: s, y :: t, h => by
    have ih := bett_cmp s t (by simpa using h)
    unfold cmpL befL cmpI
    by_cases e : x = y
    · subst e; simpa using ih
    · by_cases h1 : x < y
      · simp [h1, e]
      · have h2 : y < x := by omega
        simp [h1, h2, e]
theorem bett_or (s t : List Int) : decide (orI [cmpI (t.length : Nat) (s.length : Nat), cmpL s t] < 0) = bettL s t := by
  unfold bettL
  rcases Nat.lt_trichotomy t.length s.length with h | h | h
  · have e : cmpI (t.length : Nat) (s.length : Nat) = -1 := if_pos (by omega)
    rw [e, decide_eq_true h]
    simp [orI]
  · have e : cmpI (t.length : Nat) (s.length : Nat) = 0 := by unfold cmpI; rw [if_neg (by omega), if_neg (by omega)]
    rw [e, decide_eq_false (show ¬ t.length < s.length by omega), decide_eq_true h.symm, ← bett_cmp s t h.symm, Bool.false_or, Bool.true_and]
    have e2 : orI [0, cmpL s t] = cmpL s t := by
      by_cases hz : cmpL s t = 0
      · simp [orI, hz]
      · simp [orI, hz]
    rw [e2]
  · have e : cmpI (t.length : Nat) (s.length : Nat) = 1 := by unfold cmpI; rw [if_neg (by omega), if_pos (by omega)]
    rw [e, decide_eq_false (show ¬ t.length < s.length by omega), decide_eq_false (show ¬ s.length = t.length by omega)]
    simp [orI]
end Go.Proofs.Ytdnlpikfibdjoaa
