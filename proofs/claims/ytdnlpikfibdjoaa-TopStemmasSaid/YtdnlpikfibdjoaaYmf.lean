import Derived.Test.YtdnlpikfibdjoaaYme
namespace Go.Proofs.Ytdnlpikfibdjoaa
open Go.RowKit Go.Proofs.Kv

/-! ### trees of the document -/
theorem parB_zero (p : Int) : parB 0 p = decide (p = -1) := rfl
theorem parB_pos {i : Nat} (h : 0 < i) (p : Int) : parB i p = Within p 0 ((i : Int) - 1) := by
  rw [parB, if_neg (by omega), Within, Bool.eq_iff_iff]; simp; omega
theorem isNum_within (m : Nat) (p : Int) : isNum m p = Within p 0 ((m : Int) - 1) := by
  rw [isNum, Within, Bool.eq_iff_iff]; simp; omega
set_option maxRecDepth 100000 in
set_option maxHeartbeats 4000000 in
theorem r7Tree_calls (v : Value) (X : Tr) (w : World) (h : TreeAt w v X) :
    Calls Try.prog 25 #[v] w fun e w' => e = .returned (.int .i64 (validX X)) ∧ Below w.heap.size w w' := by
  have HP := hid_ h
  obtain ⟨a1, n1, c1, a2, n2, c2, rfl, h1, h2⟩ := h
  obtain ⟨w1, hw1⟩ : ∃ w1, w.alloc (.cells #[.slice a1 n1 c1, .slice a2 n2 c2] 46) = w1 := ⟨_, rfl⟩
  have cb : Below w.heap.size w w1 := by rw [← hw1]; exact below_alloc _ _
  have q0 : w1.cell? ⟨w.heap.size, 0, none⟩ = some (.slice a1 n1 c1) := by rw [← hw1]; exact cells_alloc _ _ _ 0
  have q1 : w1.cell? ⟨w.heap.size, 1, none⟩ = some (.slice a2 n2 c2) := by rw [← hw1]; exact cells_alloc _ _ _ 1
  have HP1 := hid_ (HP.out.below cb (Nat.le_refl _)); have Hc1 := hid_ cb
  have hn1 : n1 ≤ 9223372036854775807 := Nat.le_trans h1.le h1.small
  have hn2 : n2 ≤ 9223372036854775807 := Nat.le_trans h2.le h2.small
  have H1 := hid_ (h1.below cb (Nat.le_refl _))
  have H2 := hid_ (h2.below cb (Nat.le_refl _))
  have L1 := hid_ h1.len
  have L2 := hid_ h2.len
  have HL := hid_ (fun hx => @validX_large X hx)
  have HNo1 := hid_ (fun hx => @validX_no1 X hx)
  have HNo2 := hid_ (fun hx => @validX_no2 X hx)
  have HYes := hid_ (fun hx => @validX_yes X hx n1 n2 h1.len h2.len)
  have HW := hid_ (fun W => within7_calls (n1 : Int) 1 16 W)
  clear h1 h2 cb
  generalize hV : validX X = V at *
  clear hV
  by_cases h1 : n1 < 1 ∨ 16 < n1
  · have Hf := hid_ (HL.out (by rw [L1.out]; omega))
    have hw1 : Within (n1 : Int) 1 16 = false := by simp [Within]; omega
    rw [hw1] at HW
    clear h1 hw1
    go_enter Try.func25, Try.ntmps25
    go_wp2_with (go_at_call 67; refine (HW.out _).mono ?_; rintro e w' ⟨rfl, rfl⟩)
    go_ret
    exact ⟨retI Hf.out, Hc1.out⟩
  · have hw1 : Within (n1 : Int) 1 16 = true := by simp [Within]; omega
    rw [hw1] at HW
    clear hw1
    by_cases h6 : 6 < n2
    · have Hf := hid_ (HL.out (.inr (.inr (by rw [L2.out]; exact h6))))
      go_enter Try.func25, Try.ntmps25
      go_wp2_with (go_at_call 67; refine (HW.out _).mono ?_; rintro e w' ⟨rfl, rfl⟩)
      go_ret
      exact ⟨retI Hf.out, Hc1.out⟩
    · have hx : ¬ (X.par.length < 1 ∨ 16 < X.par.length ∨ 6 < X.at_.length) := by rw [L1.out, L2.out]; omega
      have HNoA := hid_ (HNo1.out hx)
      have HNoB := hid_ (HNo2.out hx)
      have HYesH := hid_ (HYes.out hx)
      clear HNo1 HNo2 HYes HL hx
      rw [L1.out] at HNoB HNoA
      rw [L2.out] at HNoB
      obtain ⟨b, off, rfl, hb, hcell⟩ := H1.out.cells 0 (by omega)
      rw [Nat.add_zero] at hcell
      have hz0 := parB_zero (X.par.getD 0 0)
      have hno0 := HNoA.out 0 (by omega)
      have hall0 : parB 0 (X.par.getD 0 0) = true → ∀ j, j < 1 → parB j (X.par.getD j 0) = true := fun hx j hj => by
        obtain rfl : j = 0 := by omega
        exact hx
      generalize hy0 : X.par.getD 0 0 = y at hcell hz0 hno0 hall0
      clear hy0
      by_cases hy : y = -1
      · have Hall0 := hid_ (hall0 (hz0.trans (decide_eq_true hy)))
        have hq : (y != -1) = false := by rw [hy]; rfl
        clear hy hz0 hno0 hall0
        go_enter Try.func25, Try.ntmps25
        go_wp2_with (go_at_call 67; refine (HW.out _).mono ?_; rintro e w' ⟨rfl, rfl⟩)
        clear hcell
        go_loop [3] (fun i => ∃ k : Nat, 1 ≤ k ∧ k ≤ n1 ∧ i = .int .i64 k ∧ ∀ j, j < k → parB j (X.par.getD j 0) = true) (fun i => n1 - (intOf i).toNat)
        case atStart => exact ⟨1, Nat.le_refl _, by omega, rfl, Hall0.out⟩
        case round =>
          obtain ⟨k, hk1, hk, rfl, hall⟩ := hrel
          have Hall := hid_ hall; clear hall
          by_cases hlt : k < n1
          · obtain ⟨b', off', e, hb, hcell⟩ := H1.out.cells k hlt
            injection e with e; injection e with e1 e2; subst e1; subst e2
            have hNo := HNoA.out k hlt
            have hYes := fun hx => lt_snoc (p := fun j => parB j (X.par.getD j 0) = true) Hall.out hx
            have hpw := parB_pos hk1 (X.par.getD k 0)
            generalize X.par.getD k 0 = y at hcell hNo hYes hpw
            have HP := hid_ (within7_calls y 0 ((k : Int) - 1) w1)
            rw [hpw] at hNo hYes
            clear hpw
            generalize Within y 0 ((k : Int) - 1) = z at *
            cases z with
            | false =>
              have Hf := hid_ (hNo rfl)
              clear hNo hYes
              go_wp2_with (go_at_call 67; refine (HP.out).mono ?_; rintro e w' ⟨rfl, rfl⟩)
              go_ret
              exact ⟨retI Hf.out, Hc1.out⟩
            | true =>
              have Hf := hid_ (hYes rfl)
              clear hNo hYes
              go_wp2_with (go_at_call 67; refine (HP.out).mono ?_; rintro e w' ⟨rfl, rfl⟩)
              go_round
              case rel => exact ⟨k + 1, by omega, by omega, by go_num, Hf.out⟩
              case measure => simp [intOf]; omega
          · have hkn : k = n1 := by omega
            rw [hkn] at Hall
            clear hkn
            go_wp2
            go_loopw [4] (fun i wr => ∃ (k q : Nat), k ≤ n2 ∧ i = .int .i64 k ∧ wr = w1.drewN q ∧ ∀ j, j < k → isNum n1 (X.at_.getD j 0) = true) (fun i _ => n2 - (intOf i).toNat)
            case atStart => exact ⟨0, 0, Nat.zero_le _, rfl, rfl, fun _ h => absurd h (by omega)⟩
            case round =>
              obtain ⟨k, q, hk, rfl, hq, hall⟩ := hrel
              have Hall2 := hid_ hall; have Hq := hid_ hq
              have q0r : wr.cell? ⟨w.heap.size, 0, none⟩ = some (.slice (some ⟨b, off, none⟩) n1 c1) := by rw [hq]; exact q0
              have q1r : wr.cell? ⟨w.heap.size, 1, none⟩ = some (.slice a2 n2 c2) := by rw [hq]; exact q1
              have hI : IntsAt wr a2 n2 c2 X.at_ := by rw [hq]; exact H2.out.drewN q
              clear hall hq
              by_cases hlt2 : k < n2
              · obtain ⟨b2, off2, rfl, hb, hcell⟩ := hI.cells k hlt2
                have hNo := HNoB.out k hlt2
                have hYes := fun hx => lt_snoc (p := fun j => isNum n1 (X.at_.getD j 0) = true) Hall2.out hx
                generalize X.at_.getD k 0 = y at hcell hNo hYes
                have hiw := isNum_within n1 y
                rw [hiw] at hNo hYes
                have HP := hid_ (fun W => within7_calls y 0 ((n1 : Int) - 1) W)
                have hw5 : IntKind.i64.wrap ((n1 : Int) - 1) = (n1 : Int) - 1 := IntWalk.i64_in _ (by omega)
                clear hiw
                generalize hzz : Within y 0 ((n1 : Int) - 1) = z at *
                clear hzz
                cases z with
                | false =>
                  have Hf := hid_ (hNo rfl)
                  clear hNo hYes hI
                  go_wp2_with fail
                  go_quiet ((go_at_call 67; exact quiet_left (HP.out _)))
                  clear hw5
                  go_wp2
                  go_ret
                  exact ⟨retI Hf.out, by rw [Hq.out, drewN2]; exact below_drewN Hc1.out _⟩
                | true =>
                  have Hf := hid_ (hYes rfl)
                  clear hNo hYes hI
                  go_wp2_with fail
                  go_quiet ((go_at_call 67; exact quiet_left (HP.out _)))
                  clear hw5
                  go_wp2
                  go_roundw
                  case rel => exact ⟨k + 1, _, by omega, by go_num, by rw [Hq.out, drewN2], Hf.out⟩
                  case measure => simp [intOf]; omega
              · have hkn : k = n2 := by omega
                rw [hkn] at Hall2
                have Hf := hid_ (HYesH.out Hall.out Hall2.out)
                clear hkn hI
                go_wp2
                go_ret
                exact ⟨retI Hf.out, by rw [Hq.out]; exact below_drewN Hc1.out _⟩
      · have Hf := hid_ (hno0 (hz0.trans (decide_eq_false hy)))
        have hq : (y != -1) = true := by simpa using hy
        clear hy hz0 hno0 hall0
        go_enter Try.func25, Try.ntmps25
        go_wp2_with (go_at_call 67; refine (HW.out _).mono ?_; rintro e w' ⟨rfl, rfl⟩)
        go_ret
        exact ⟨retI Hf.out, Hc1.out⟩
set_option maxRecDepth 100000 in
set_option maxHeartbeats 2000000 in
theorem treed_calls (a : Option Addr) (n c : Nat) (T : List (List Int)) (v : Value) (X : Tr) (w : World) (hT : ListsAt w a n c T) (h : TreeAt w v X) :
    Calls Try.prog 70 #[.slice a n c, v] w fun e w' => e = .returned (.int .i64 (errB T X)) ∧ Below w.heap.size w w' := by
  have HP := hid_ h
  obtain ⟨a1, n1, c1, a2, n2, c2, rfl, h1, h2⟩ := h
  obtain ⟨w1, hw1⟩ : ∃ w1, w.alloc (.cells #[.slice a1 n1 c1, .slice a2 n2 c2] 46) = w1 := ⟨_, rfl⟩
  have cb : Below w.heap.size w w1 := by rw [← hw1]; exact below_alloc _ _
  have q0 : w1.cell? ⟨w.heap.size, 0, none⟩ = some (.slice a1 n1 c1) := by rw [← hw1]; exact cells_alloc _ _ _ 0
  have q1 : w1.cell? ⟨w.heap.size, 1, none⟩ = some (.slice a2 n2 c2) := by rw [← hw1]; exact cells_alloc _ _ _ 1
  have HP1 := hid_ (HP.out.below cb (Nat.le_refl _)); have Hc1 := hid_ cb
  have HT1 := hid_ (hT.below cb (Nat.le_refl _))
  have HV := hid_ (r7Validate_calls a n c T w1 HT1.out)
  have HU := hid_ (fun q => r7Tree_calls _ X (w1.drewN q) (HP1.out.drewN q))
  have L2 := hid_ h2.len
  have LT := hid_ hT.len
  have HR : Hid (errB T X = if orE (validT T) (validX X) = 0 then (if X.at_.length = T.length then 0 else 9) else orE (validT T) (validX X)) := hid_ rfl
  rw [L2.out, LT.out] at HR
  have Hor : Hid (∀ x y, orE x y = if x = 0 then y else x) := hid_ (fun x y => rfl)
  clear h1 h2 cb hT
  generalize errB T X = R at *
  generalize validT T = x at *
  generalize validX X = y at *
  by_cases hx : x = 0
  · rw [Hor.out, if_pos hx] at HR
    rw [hx] at HV
    clear hx
    by_cases hy : y = 0
    · rw [if_pos hy] at HR
      rw [hy] at HU
      clear hy
      by_cases hl : n2 = n
      · have Hg := hid_ (HR.out.trans (if_pos hl))
        have hq : ((n2 : Int) != (n : Int)) = false := by subst hl; simp
        clear hl HR
        go_enter Try.func70, Try.ntmps70
        go_wp2_with (first
          | (go_at_call 115; (with_reducible refine HV.out.mono ?_); rintro e w2 ⟨rfl, q, rfl⟩)
          | (go_at_call 25; (with_reducible refine (HU.out _).mono ?_); rintro e w3 ⟨rfl, hb3⟩; have hb3 : Below w1.heap.size w1 w3 := (below_drewN (Below.refl _ _) _).trans hb3; have q03 := cell_below q0 hb3; have q13 := cell_below q1 hb3))
        go_ret
        exact ⟨retI Hg.out, Hc1.out.trans (hb3.mono Hc1.out.size)⟩
      · have Hg := hid_ (HR.out.trans (if_neg hl))
        have hq : ((n2 : Int) != (n : Int)) = true := by simp; omega
        clear hl HR
        go_enter Try.func70, Try.ntmps70
        go_wp2_with (first
          | (go_at_call 115; (with_reducible refine HV.out.mono ?_); rintro e w2 ⟨rfl, q, rfl⟩)
          | (go_at_call 25; (with_reducible refine (HU.out _).mono ?_); rintro e w3 ⟨rfl, hb3⟩; have hb3 : Below w1.heap.size w1 w3 := (below_drewN (Below.refl _ _) _).trans hb3; have q03 := cell_below q0 hb3; have q13 := cell_below q1 hb3))
        go_ret
        exact ⟨retI Hg.out, Hc1.out.trans (hb3.mono Hc1.out.size)⟩
    · have Hg := hid_ (HR.out.trans (if_neg hy))
      have hq : (y != 0) = true := by simpa using hy
      clear hy HR
      go_enter Try.func70, Try.ntmps70
      go_wp2_with (first
        | (go_at_call 115; (with_reducible refine HV.out.mono ?_); rintro e w2 ⟨rfl, q, rfl⟩)
        | (go_at_call 25; (with_reducible refine (HU.out _).mono ?_); rintro e w3 ⟨rfl, hb3⟩; have hb3 : Below w1.heap.size w1 w3 := (below_drewN (Below.refl _ _) _).trans hb3))
      go_ret
      exact ⟨retI Hg.out, Hc1.out.trans (hb3.mono Hc1.out.size)⟩
  · have hxx : orE x y = x := (Hor.out x y).trans (if_neg hx)
    rw [hxx, if_neg hx] at HR
    have hq : (x != 0) = true := by simpa using hx
    clear hx hxx
    go_enter Try.func70, Try.ntmps70
    go_wp2_with (go_at_call 115; (with_reducible refine HV.out.mono ?_); rintro e w2 ⟨rfl, q, rfl⟩)
    go_ret
    exact ⟨retI HR.out, below_drewN Hc1.out _⟩
end Go.Proofs.Ytdnlpikfibdjoaa
namespace Go.Proofs.Ytdnlpikfibdjoaa
open Go.RowKit Go.Proofs.Kv

/-! ### the fewest changes by the document -/
def misN (X : Tr) (T : List (List Int)) (p : Nat) (k i r : Nat) : Nat := sumN (fun c => if nodeX X c = i ∧ rdT T p c ≠ (r : Int) then 1 else 0) k
def misT (X : Tr) (T : List (List Int)) (p k : Nat) : Tab := fun i r => 1000 * misN X T p k i r
def misS (X : Tr) (T : List (List Int)) (p k j : Nat) : Tab := fun i r => misT X T p k i r + if nodeX X k = i ∧ r < j ∧ rdT T p k ≠ (r : Int) then 1000 else 0
theorem misS_zero (X : Tr) (T : List (List Int)) (p k : Nat) : misS X T p k 0 = misT X T p k := by
  funext i r; unfold misS; rw [if_neg (fun h => absurd h.2.1 (by omega)), Nat.add_zero]
theorem misS_all (X : Tr) (T : List (List Int)) (p k : Nat) : ∀ i r, r < 3 → misS X T p k 3 i r = misT X T p (k + 1) i r := fun i r hr => by
  unfold misS misT
  have e : misN X T p (k + 1) i r = misN X T p k i r + if nodeX X k = i ∧ rdT T p k ≠ (r : Int) then 1 else 0 := rfl
  rw [e]
  by_cases h : nodeX X k = i ∧ rdT T p k ≠ (r : Int)
  · rw [if_pos h, if_pos ⟨h.1, hr, h.2⟩]; omega
  · rw [if_neg h, if_neg (fun h' => h ⟨h'.1, h'.2.2⟩)]; rfl
theorem misS_hit {X : Tr} {T : List (List Int)} {p k j : Nat} (h : rdT T p k ≠ (j : Int)) {y : Nat} (hy : y = misT X T p k (nodeX X k) j + 1000) : setT (misS X T p k j) (nodeX X k) j y = misS X T p k (j + 1) := by
  funext i r
  unfold setT misS
  by_cases e : i = nodeX X k ∧ r = j
  · obtain ⟨rfl, rfl⟩ := e
    rw [if_pos ⟨rfl, rfl⟩, if_pos ⟨rfl, by omega, h⟩, hy]
  · rw [if_neg e]
    congr 1
    by_cases f : nodeX X k = i ∧ r < j ∧ rdT T p k ≠ (r : Int)
    · rw [if_pos f, if_pos ⟨f.1, by omega, f.2.2⟩]
    · rw [if_neg f, if_neg fun h' => f ⟨h'.1, by have := h'.2.1; by_cases e2 : r = j; exact absurd ⟨h'.1.symm, e2⟩ e; omega, h'.2.2⟩]
theorem misS_miss {X : Tr} {T : List (List Int)} {p k j : Nat} (h : rdT T p k = (j : Int)) : misS X T p k j = misS X T p k (j + 1) := by
  funext i r
  unfold misS
  congr 1
  by_cases f : nodeX X k = i ∧ r < j ∧ rdT T p k ≠ (r : Int)
  · rw [if_pos f, if_pos ⟨f.1, by omega, f.2.2⟩]
  · rw [if_neg f, if_neg fun h' => f ⟨h'.1, by have := h'.2.1; by_cases e2 : r = j; rw [e2] at h'; exact absurd h h'.2.2; omega, h'.2.2⟩]
theorem misN_le (X : Tr) (T : List (List Int)) (p i r : Nat) : ∀ k, misN X T p k i r ≤ k
  | 0 => Nat.le_refl _
  | k + 1 => by
    have := misN_le X T p i r k
    have e : misN X T p (k + 1) i r = misN X T p k i r + if nodeX X k = i ∧ rdT T p k ≠ (r : Int) then 1 else 0 := rfl
    rw [e]; split <;> omega
/-- the best of the readings from 0 to s - 1 -/
def bb (c : Nat → Nat) (r : Int) : Nat → Nat
  | 0 => 1000000
  | s + 1 => min (bb c r s) (c s + ne1 (s : Int) r)
theorem bb_all {c : Nat → Nat} {r : Int} (h : mn c r ≤ 1000000) : bb c r 3 = mn c r := by
  have e : bb c r 3 = min (min (min 1000000 (c 0 + ne1 0 r)) (c 1 + ne1 1 r)) (c 2 + ne1 2 r) := rfl
  rw [e]; unfold mn at *; omega
theorem bb_le (c : Nat → Nat) (r : Int) : ∀ s, bb c r s ≤ 1000000
  | 0 => Nat.le_refl _
  | s + 1 => Nat.le_trans (Nat.min_le_left _ _) (bb_le c r s)
def refMin (X : Tr) (T : List (List Int)) (p : Nat) : Nat := minR (refT (parX X) X.par.length (misT X T p T.length) (X.par.length - 1) 0)
theorem mis_sum (X : Tr) (T : List (List Int)) (p : Nat) {n : Nat} (L : Nat → Nat) (hn : ∀ c, c < T.length → nodeX X c < n) : ∀ k, k ≤ T.length → sumN (fun i => misN X T p k i (L i)) n = sumN (fun c => if rdT T p c ≠ (L (nodeX X c) : Int) then 1 else 0) k
  | 0, _ => sumN_zero fun i _ => rfl
  | k + 1, hk => by
    have ih := mis_sum X T p L hn k (by omega)
    have e : (fun i => misN X T p (k + 1) i (L i)) = fun i => misN X T p k i (L i) + if i = nodeX X k then (if rdT T p k ≠ (L i : Int) then 1 else 0) else 0 := by
      funext i
      have e : misN X T p (k + 1) i (L i) = misN X T p k i (L i) + if nodeX X k = i ∧ rdT T p k ≠ (L i : Int) then 1 else 0 := rfl
      rw [e]
      congr 1
      by_cases h1 : i = nodeX X k
      · subst h1; rw [if_pos rfl]; simp
      · rw [if_neg h1, if_neg fun h => h1 h.1.symm]
    rw [e, sumN, ← ih]
    have e2 : ∀ (f : Nat → Nat) (g : Nat → Nat) (v : Nat), v < n → sumN (fun i => f i + if i = v then g i else 0) n = sumN f n + g v := fun f g v hv => by
      rw [← sumN_upd f v (g v) hv]
      refine sumN_congr fun i _ => ?_
      by_cases h1 : i = v
      · subst h1; rw [if_pos rfl, if_pos rfl]
      · rw [if_neg h1, if_neg h1, Nat.add_zero]
    exact e2 _ (fun i => if rdT T p k ≠ (L i : Int) then 1 else 0) _ (hn k (by omega))
theorem sumN_le_k (f : Nat → Nat) (h : ∀ i, f i ≤ 1) : ∀ k, sumN f k ≤ k
  | 0 => Nat.le_refl _
  | k + 1 => by rw [sumN]; have := sumN_le_k f h k; have := h k; omega
theorem sumN_mul (m : Nat) (f : Nat → Nat) : ∀ k, sumN (fun i => m * f i) k = m * sumN f k
  | 0 => rfl
  | k + 1 => by rw [sumN, sumN, sumN_mul m f k, Nat.mul_add]
/-- no number of the table is large -/
theorem refT_small {X : Tr} {T : List (List Int)} {p : Nat} (gX : GoodX X) (hT : T.length ≤ 6) (hl : X.at_.length = T.length) {t : Nat} (ht : t < X.par.length) {i : Nat} (hi : i < X.par.length - t) {r : Nat} (hr : r < 3) : refT (parX X) X.par.length (misT X T p T.length) t i r ≤ 6000 := by
  have h1 := refT_le (par := parX X) (fun v h0 hv => parX_lt gX v h0 hv) (misT X T p T.length) (L := fun _ => r) (fun v _ => hr) ht
  have h2 : totN (parX X) (refT (parX X) X.par.length (misT X T p T.length) t) (fun _ => r) (X.par.length - t) = sumN (fun i => refT (parX X) X.par.length (misT X T p T.length) t i r) (X.par.length - t) := by
    unfold totN chgN
    rw [sumN_zero (f := fun i => if i = 0 then 0 else ne1 (r : Int) (r : Int)) fun i _ => by rw [ne1_same]; split <;> rfl]; rfl
  have h3 : totN (parX X) (misT X T p T.length) (fun _ => r) X.par.length = 1000 * sumN (fun c => if rdT T p c ≠ (r : Int) then 1 else 0) T.length := by
    unfold totN chgN
    rw [sumN_zero (f := fun i => if i = 0 then 0 else ne1 (r : Int) (r : Int)) fun i _ => by rw [ne1_same]; split <;> rfl]
    rw [← mis_sum X T p (n := X.par.length) (fun _ => r) (fun c hc => by have := gX.at_ c (by omega); unfold nodeX; omega) T.length (Nat.le_refl _), ← sumN_mul]; rfl
  have h4 := sumN_le_k (fun c => if rdT T p c ≠ (r : Int) then 1 else 0) (fun c => by split <;> omega) T.length
  have h5 := sumN_ge (fun i => refT (parX X) X.par.length (misT X T p T.length) t i r) hi
  rw [h2, h3] at h1
  omega
/-- the document's number is the program's, or there is none -/
theorem refMin_some {X : Tr} {T : List (List Int)} {p : Nat} (gT : GoodT T) (gX : GoodX X) (hp : p < n0 T) (hl : X.at_.length = T.length) {K : List Int} (h : atK X T p = some K) : refMin X T p = chgR X (compL X K) ∧ refMin X T p < 1000 := by
  have gK := atK_good gT gX hp hl h
  obtain ⟨k1, k2, k3⟩ := foldK_ok gT gX hp hl (Nat.le_refl _) h
  have hpar := fun v h0 (hv : v < X.par.length) => parX_lt gX v h0 hv
  have h0 : 0 < X.par.length := by have := gX.ge; omega
  have hnode : ∀ c, c < T.length → nodeX X c < X.par.length := fun c hc => by have := gX.at_ c (by omega); unfold nodeX; omega
  obtain ⟨L, hL⟩ : ∃ L, labP (parX X) (badK K) X.par.length = L := ⟨_, rfl⟩
  have hgood := labP_good (par := parX X) (badK_good gK) gX.le hpar
  have hleast := fun {M : Nat → Nat} hM => labP_least (par := parX X) (badK_good gK) h0 gX.le hpar (L := M) hM
  rw [hL] at hgood hleast
  have hchg : chgR X (compL X K) = chgN (parX X) L X.par.length := by
    unfold chgR chgN
    refine sumN_congr fun i hi => ?_
    by_cases e : i = 0
    · rw [if_pos e, if_pos e]
    · rw [if_neg e, if_neg e, compL, labI_get _ _ hi, labI_get _ _ (by have := hpar i (by omega) hi; omega), ← hL]; rfl
  have hcons : ∀ M : Nat → Nat, (∀ v, v < X.par.length → M v < 3 ∧ badK K v (M v) = false) → sumN (fun c => if rdT T p c ≠ (M (nodeX X c) : Int) then 1 else 0) T.length = 0 := fun M hM => sumN_zero fun c hc => by
    have h1 := (hM _ (hnode c hc)).2
    have h2 := k2 c hc
    have h3 := gT.ok c hc p hp
    have h3 : 0 ≤ rdT T p c ∧ rdT T p c ≤ 2 := h3
    unfold badK at h1
    rw [h2] at h1
    rw [if_neg]
    intro hne
    simp only [Bool.and_eq_false_iff, decide_eq_false_iff_not, Decidable.not_not] at h1
    rcases h1 with h1 | h1
    · omega
    · exact hne h1
  have htot : ∀ M : Nat → Nat, totN (parX X) (misT X T p T.length) M X.par.length = 1000 * sumN (fun c => if rdT T p c ≠ (M (nodeX X c) : Int) then 1 else 0) T.length + chgN (parX X) M X.par.length := fun M => by
    unfold totN
    rw [← mis_sum X T p M hnode T.length (Nat.le_refl _), ← sumN_mul]; rfl
  have hle := refT_all (par := parX X) h0 hpar (misT X T p T.length) (L := L) fun v hv => (hgood v hv).1
  rw [htot L, hcons L hgood] at hle
  obtain ⟨M, hM1, hM2⟩ := refT_one (par := parX X) h0 hpar (misT X T p T.length)
  rw [htot M] at hM2
  have hlt := chgN_lt (par := parX X) h0 L
  have h16 := gX.le
  have hz : sumN (fun c => if rdT T p c ≠ (M (nodeX X c) : Int) then 1 else 0) T.length = 0 := by omega
  have hMgood : ∀ v, v < X.par.length → M v < 3 ∧ badK K v (M v) = false := fun v hv => by
    refine ⟨hM1 v hv, ?_⟩
    unfold badK
    by_cases e : K.getD v 0 = -1
    · rw [e]; rfl
    · obtain ⟨c, hc, rfl⟩ := k3 v hv e
      have h1 := sumN_ge (fun c => if rdT T p c ≠ (M (nodeX X c) : Int) then 1 else 0) hc
      rw [hz] at h1
      rw [k2 c hc]
      by_cases e2 : rdT T p c = (M (nodeX X c) : Int)
      · rw [e2]; simp
      · have h1 : (if rdT T p c ≠ (M (nodeX X c) : Int) then 1 else 0) ≤ 0 := h1
        rw [if_pos e2] at h1; omega
  have hge := hleast hMgood
  unfold refMin
  rw [hchg]
  omega
theorem foldK_clash {X : Tr} {T : List (List Int)} {p : Nat} (gT : GoodT T) (gX : GoodX X) (hp : p < n0 T) (hl : X.at_.length = T.length) : ∀ {k : Nat}, k ≤ T.length → foldK X T p k = none → ∃ c d, c < T.length ∧ d < T.length ∧ nodeX X c = nodeX X d ∧ rdT T p c ≠ rdT T p d
  | 0, _, h => by cases h
  | k + 1, hk, h => by
    rw [foldK] at h
    cases hf : foldK X T p k with
    | none => exact foldK_clash gT gX hp hl (by omega) hf
    | some K =>
      rw [hf] at h
      have h : stepK K (nodeX X k) (rdT T p k) = none := h
      unfold stepK at h
      split at h
      · rename_i hc
        obtain ⟨i1, i2, i3⟩ := foldK_ok gT gX hp hl (by omega) hf
        have hn : nodeX X k < X.par.length := by have := gX.at_ k (by omega); unfold nodeX; omega
        obtain ⟨c, hc1, hc2⟩ := i3 _ hn hc.1
        refine ⟨c, k, by omega, by omega, hc2, ?_⟩
        have := i2 c hc1
        rw [hc2] at this
        rw [← this]; exact hc.2
      · cases h
theorem refMin_none {X : Tr} {T : List (List Int)} {p : Nat} (gT : GoodT T) (gX : GoodX X) (hp : p < n0 T) (hl : X.at_.length = T.length) (h : atK X T p = none) : 1000 ≤ refMin X T p := by
  obtain ⟨c, d, hc, hd, hcd, hne⟩ := foldK_clash gT gX hp hl (Nat.le_refl _) h
  have hpar := fun v h0 (hv : v < X.par.length) => parX_lt gX v h0 hv
  have h0 : 0 < X.par.length := by have := gX.ge; omega
  have hnode : ∀ c, c < T.length → nodeX X c < X.par.length := fun c hc => by have := gX.at_ c (by omega); unfold nodeX; omega
  obtain ⟨M, hM1, hM2⟩ := refT_one (par := parX X) h0 hpar (misT X T p T.length)
  have htot : totN (parX X) (misT X T p T.length) M X.par.length = 1000 * sumN (fun c => if rdT T p c ≠ (M (nodeX X c) : Int) then 1 else 0) T.length + chgN (parX X) M X.par.length := by
    unfold totN
    rw [← mis_sum X T p M hnode T.length (Nat.le_refl _), ← sumN_mul]; rfl
  have h1 := sumN_ge (fun c => if rdT T p c ≠ (M (nodeX X c) : Int) then 1 else 0) hc
  have h2 := sumN_ge (fun c => if rdT T p c ≠ (M (nodeX X c) : Int) then 1 else 0) hd
  have h1 : (if rdT T p c ≠ (M (nodeX X c) : Int) then 1 else 0) ≤ _ := h1
  have h2 : (if rdT T p d ≠ (M (nodeX X d) : Int) then 1 else 0) ≤ _ := h2
  have h3 : 1 ≤ sumN (fun c => if rdT T p c ≠ (M (nodeX X c) : Int) then 1 else 0) T.length := by
    by_cases e : rdT T p c = (M (nodeX X c) : Int)
    · rw [if_pos (by rw [← hcd, ← e]; exact Ne.symm hne)] at h2; exact h2
    · rw [if_pos e] at h1; exact h1
  unfold refMin
  rw [← hM2, htot]
  omega
end Go.Proofs.Ytdnlpikfibdjoaa
namespace Go.Proofs.Ytdnlpikfibdjoaa
open Go.RowKit Go.Proofs.Kv

def mrN (c : Nat → Nat) (s : Nat) : Nat := if s = 1 then c 0 else if s = 2 then min (c 0) (c 1) else minR c
theorem Try.infoArr3 : (Try.prog.info? 131).map (fun i => (i.zero, i.size, i.bytes)) = some (some (.agg #[.int .i64 0, .int .i64 0, .int .i64 0]), 3, 24) := by kernel_rfl
set_option maxRecDepth 100000 in
set_option maxHeartbeats 8000000 in
theorem r7fewest_calls (a : Option Addr) (n c : Nat) (T : List (List Int)) (v : Value) (X : Tr) (p : Nat) (w : World) (hT : ListsAt w a n c T) (h : TreeAt w v X) (gT : GoodT T) (gX : GoodX X) (hl : X.at_.length = T.length) (hp : p < n0 T) :
    Calls Try.prog 71 #[.slice a n c, v, .int .i64 (p : Int)] w fun e w' => e = .returned (.int .i64 (refMin X T p : Nat)) ∧ Below w.heap.size w w' := by
  have HP := hid_ h
  obtain ⟨a1, n1, c1, a2, n2, c2, rfl, h1, h2⟩ := h
  obtain ⟨w1, hw1⟩ : ∃ w1, w.alloc (.cells #[.slice a1 n1 c1, .slice a2 n2 c2] 46) = w1 := ⟨_, rfl⟩
  have cb : Below w.heap.size w w1 := by rw [← hw1]; exact below_alloc _ _
  have q0 : w1.cell? ⟨w.heap.size, 0, none⟩ = some (.slice a1 n1 c1) := by rw [← hw1]; exact cells_alloc _ _ _ 0
  have q1 : w1.cell? ⟨w.heap.size, 1, none⟩ = some (.slice a2 n2 c2) := by rw [← hw1]; exact cells_alloc _ _ _ 1
  have HP1 := hid_ (HP.out.below cb (Nat.le_refl _)); have Hc1 := hid_ cb
  have H1 := hid_ (h1.below cb (Nat.le_refl _))
  have H2 := hid_ (h2.below cb (Nat.le_refl _))
  have HT1 := hid_ (hT.below cb (Nat.le_refl _))
  have L1 := hid_ h1.len
  have L2 := hid_ h2.len
  have LT := hid_ hT.len
  have Hn21 : Hid (n2 = n) := hid_ (by rw [← L2.out, ← LT.out]; exact hl)
  have g1 := gX.ge; have g16 := gX.le; have g6 := gT.le; have gt1 := gT.ge
  rw [L1.out] at g1 g16
  rw [LT.out] at g6 gt1
  have HP := hid_ (fun v h0 (hv : v < n1) => parX_lt gX v h0 (by rw [L1.out]; exact hv))
  have HPar := hid_ (fun v h0 (hv : v < n1) => gX.par v h0 (by rw [L1.out]; exact hv))
  have HAt := hid_ (fun i (hi : i < n) => gX.at_ i (by rw [hl, LT.out]; exact hi))
  have HOk := hid_ (fun i (hi : i < n) => gT.ok i (by rw [LT.out]; exact hi) p hp)
  have HRl := hid_ (fun i (hi : i < n) => gT.len i (by rw [LT.out]; exact hi))
  have HSm := hid_ (fun t (ht : t < n1) i (hi : i < n1 - t) r (hr : r < 3) => @refT_small X T p gX gT.le hl t (by rw [L1.out]; exact ht) i (by rw [L1.out]; exact hi) r hr)
  have HMin : Hid (refMin X T p = minR (refT (parX X) n1 (misT X T p n) (n1 - 1) 0)) := hid_ (by rw [refMin, L1.out, LT.out])
  rw [L1.out, LT.out] at HSm
  have HMis := hid_ (fun k i r => misN_le X T p i r k)
  have HMz : Hid (misT X T p 0 = fun _ _ => 0) := hid_ rfl
  have Hpx : Hid (∀ v, parX X v = (X.par.getD v 0).toNat) := hid_ (fun v => rfl)
  have Hnx : Hid (∀ v, nodeX X v = (X.at_.getD v 0).toNat) := hid_ (fun v => rfl)
  have Hrd : Hid (∀ k, rdT T p k = (T.getD k []).getD p 0) := hid_ (fun v => rfl)
  have HRT : Hid (∀ t, refT (parX X) n1 (misT X T p n) (t + 1) = elim (parX X) (n1 - 1 - t) (refT (parX X) n1 (misT X T p n) t)) := hid_ (fun t => rfl)
  have HRT0 : Hid (refT (parX X) n1 (misT X T p n) 0 = misT X T p n) := hid_ rfl
  have hmk : ∀ W' : World, (Instr.makeSlice 130 (.int .i64 (n1 : Int)) (.int .i64 (n1 : Int))).run Try.prog W' = .ok (.slice (some ⟨W'.heap.size, 0, none⟩) n1 n1) (W'.alloc (.cells (madeCells #[.int .i64 0, .int .i64 0, .int .i64 0] (n1 * 3)) 131)) := fun W' => by
    obtain ⟨i0, hi0, hz0, hz1, hz2⟩ := info_parts Try.infoArr3
    have := run_make (P := Try.prog) W' 130 131 i0 (.agg #[.int .i64 0, .int .i64 0, .int .i64 0]) Try.underlying130 hi0 hz0 .i64 .i64 n1 n1 (by omega) (by omega) (by rw [hz2]; omega) (by omega)
    simpa [hz1, Value.cells] using this
  have HM := hid_ (tab_made w1 n1 131)
  have hrl2 := Nat.le_trans h2.le h2.small
  have hrl1 := Nat.le_trans h1.le h1.small
  clear h1 h2 cb hT gT gX hl
  generalize hRT : refT (parX X) n1 (misT X T p n) = RT at *
  generalize refMin X T p = RM at *
  clear hRT
  go_enter Try.func71, Try.ntmps71
  go_wp2
  go_loopw [8] (fun i wr => ∃ k : Nat, k ≤ n ∧ i = .int .i64 k ∧ TabAt wr w1.heap.size n1 (misT X T p k) ∧ Below w1.heap.size w1 wr) (fun i _ => n - (intOf i).toNat)
  case atStart => exact ⟨0, Nat.zero_le _, rfl, by rw [HMz.out]; exact HM.out, below_alloc _ _⟩
  case round =>
    obtain ⟨k, hk, rfl, htab, hb⟩ := hrel
    have Htab := hid_ htab; have Hb := hid_ hb
    have hwl : w1.heap.size < wr.heap.size := World.block_lt_of_cell? _ _ (htab 0 (by omega) 0 (by omega)).1
    by_cases hlt : k < n
    · clear htab hb
      have hat := HAt.out k hlt
      rw [L1.out] at hat
      have hnx := Hnx.out k
      have hrd := Hrd.out k
      have hok := HOk.out k hlt
      have hms := HMis.out k
      generalize hy : X.at_.getD k 0 = y at *
      obtain ⟨y, rfl⟩ := nat_of hat.1
      rw [Int.toNat_natCast] at hnx
      have Hy := hid_ hy
      have Hnx2 := hid_ hnx; have Hrd2 := hid_ hrd
      clear hy hnx hrd
      have hyn : y < n1 := by omega
      go_wp2_with fail
      obtain ⟨wo, hwo⟩ : ∃ wo, wo = wr := ⟨_, rfl⟩
      rw [← hwo] at Htab Hb hwl ⊢
      clear hwo
      go_loopw [9] (fun j wr => ∃ j' : Nat, j' ≤ 3 ∧ j = .int .i64 j' ∧ TabAt wr w1.heap.size n1 (misS X T p k j') ∧ Below w1.heap.size w1 wr) (fun j _ => 3 - (intOf j).toNat)
      case atStart => exact ⟨0, by omega, rfl, by rw [misS_zero]; exact Htab.out, Hb.out⟩
      case round =>
        obtain ⟨j, hj, rfl, htab, hb⟩ := hrel
        have Htab2 := hid_ htab; have Hb2 := hid_ hb
        by_cases hltj : j < 3
        · have hj2 : (j : Int) ≤ 2 := by omega
          obtain ⟨b1, off1, a3, n3, c3, rfl, hb1, hcell1, hrow⟩ := (HT1.out.below hb (Nat.le_refl _)).cells k hlt
          have hpn : p < n3 := by rw [← hrow.len, HRl.out k hlt]; exact hp
          have hr3 := Nat.le_trans hrow.le hrow.small
          obtain ⟨b2, off2, rfl, hb2, hcell2⟩ := hrow.cells p hpn
          have q1r := cell_below q1 hb
          obtain ⟨b, off, rfl, hb0, hcell⟩ := (H2.out.below hb (Nat.le_refl _)).cells k (by rw [Hn21.out]; exact hlt)
          rw [Hy.out] at hcell
          have hkn2 : k < n2 := by rw [Hn21.out]; exact hlt
          rw [← Hrd2.out] at hcell2 hok
          have hhit := fun hh z hz => @misS_hit X T p k j hh z hz
          have hmis := fun hh => @misS_miss X T p k j hh
          rw [Hnx2.out] at hhit
          generalize rdT T p k = r at *
          by_cases hrj : (j : Int) = r
          · have Hm := hid_ (hmis hrj.symm)
            have hq : ((j : Int) != r) = false := by simpa using hrj
            clear hrj hhit hmis hrow htab hb
            go_wp2
            go_roundw
            case rel => exact ⟨j + 1, by omega, by go_num, by rw [← Hm.out]; exact Htab2.out, Hb2.out⟩
            case measure => simp [intOf]; omega
          · have Hm := hid_ (hhit (fun e => hrj e.symm))
            have hq : ((j : Int) != r) = true := by simpa using hrj
            obtain ⟨hc1, hf1⟩ := htab y hyn j hltj
            have hlw := World.block_lt_of_cell? _ _ hc1
            have hE : misS X T p k j y j = misT X T p k y j := by unfold misS; rw [if_neg (fun h => absurd h.2.1 (by omega)), Nat.add_zero]
            have hbd : misT X T p k y j ≤ 6000 := by
              have := hms y j
              unfold misT; omega
            rw [hE] at hc1
            clear hrj hhit hmis hrow htab hb hE
            generalize hmm : misT X T p k y j = z at *
            clear hmm
            have gA := cell_regrown q1r
            have gB := cell_regrown hcell
            have gC := cell_regrown hc1
            have hw5 : IntKind.i64.wrap ((z : Int) + 1000) = (z : Int) + 1000 := IntWalk.i64_in _ (by omega)
            go_wp2_with fail
            refine wp_region_tail 13 (by kernel_rfl) (by kernel_rfl) ?_
            simp only [List.take_succ_cons, List.take_zero, List.drop_succ_cons, List.drop_zero]
            repeat (first | go_big_quiet_skip | (go_big_quiet_want; go_big_quiet_op; first | go_big_quiet_on | go_big_quiet_call (fail)))
            refine wpQuiet_nil ?_
            rintro wq ⟨pq, hpq⟩
            clear hw5 gA gB gC
            have hbq := below_wq hpq
            have Hbq := hid_ (Hb2.out.trans (hbq.mono Hb2.out.size))
            have Htabq := hid_ (Htab2.out.below hbq hlw)
            obtain ⟨hc4, hf4⟩ := Htabq.out y hyn j hltj
            clear hpq hbq hc1 hf1
            go_wp2
            exact ⟨⟨j + 1, by omega, by go_num, by rw [← Hm.out (z + 1000) rfl]; exact Htabq.out.set hltj _ (by simp) hyn, Hbq.out.setCell (p := ⟨w1.heap.size, y * 3 + j, none⟩) (Nat.le_refl _) _⟩, by simp [intOf]; omega⟩
        · have hj3 : j = 3 := by omega
          rw [hj3] at htab
          have hj2 : ¬ (j : Int) ≤ 2 := by omega
          clear hj3
          have Hnew : Hid (TabAt wr w1.heap.size n1 (misT X T p (k + 1))) := hid_ (htab.congr fun i _ r hr => misS_all X T p k i r hr)
          clear htab hb
          go_wp2
          go_roundw
          case rel => exact ⟨k + 1, by omega, by go_num, Hnew.out, Hb2.out⟩
          case measure => simp [intOf]; omega
    · have hkn : k = n := by omega
      rw [hkn, ← HRT0.out] at Htab
      have q0r := cell_below q0 hb
      clear hkn htab hb
      go_wp2
      obtain ⟨ws, hws⟩ : ∃ ws, ws = wr := ⟨_, rfl⟩
      rw [← hws] at Htab Hb hwl q0r ⊢
      clear hws
      go_loopw [10] (fun i wr => ∃ t : Nat, t < n1 ∧ i = .int .i64 ((n1 - 1 - t : Nat) : Int) ∧ TabAt wr w1.heap.size n1 (RT t) ∧ Below w1.heap.size w1 wr) (fun i _ => (intOf i).toNat)
      case atStart => exact ⟨0, by omega, by rw [show ((n1 - 1 - 0 : Nat) : Int) = (n1 : Int) - 1 by omega], Htab.out, Hb.out⟩
      case round =>
        obtain ⟨t, ht, rfl, htab, hb⟩ := hrel
        have hsm := HSm.out t ht
        have hrt := HRT.out t
        obtain ⟨u, hu⟩ : ∃ u, n1 - 1 - t = u := ⟨_, rfl⟩
        have hun : u < n1 := by omega
        have hut : u < n1 - t := by omega
        have hnx1 : 0 < u → n1 - 1 - (t + 1) = u - 1 := by omega
        have ht1 : 0 < u → t + 1 < n1 := by omega
        have ht2 : u = 0 → t = n1 - 1 := by omega
        rw [hu] at hrt ⊢
        clear hu
        have Htab3 := hid_ htab; have Hb3 := hid_ hb
        have hwl3 : w1.heap.size < wr.heap.size := World.block_lt_of_cell? _ _ (htab 0 (by omega) 0 (by omega)).1
        by_cases hu0 : 0 < u
        · have hui : 0 < (u : Int) := by omega
          have hpl := HP.out u hu0 hun
          have hpr := HPar.out u hu0 hun
          have hpx := Hpx.out u
          have Hnx1 := hid_ (hnx1 hu0)
          have Ht1 := hid_ (ht1 hu0)
          obtain ⟨D, hD⟩ : ∃ D, RT t = D := ⟨_, rfl⟩
          rw [hD] at Htab3 hsm hrt
          generalize hy : X.par.getD u 0 = y at *
          obtain ⟨y, rfl⟩ := nat_of hpr.1
          rw [Int.toNat_natCast] at hpx
          have hyu : y < u := by omega
          have Hpx2 := hid_ hpx
          have Hy := hid_ hy
          have Hrt := hid_ hrt
          have Hsm := hid_ hsm
          clear hy hpx hpr hpl hsm hrt hD htab hb hnx1 ht1 ht2
          go_wp2_with fail
          obtain ⟨wo, hwo⟩ : ∃ wo, wo = wr := ⟨_, rfl⟩
          rw [← hwo] at Htab3 Hb3 hwl3 ⊢
          clear hwo
          go_loopw [11] (fun j wr => ∃ j' : Nat, j' ≤ 3 ∧ j = .int .i64 j' ∧ TabAt wr w1.heap.size n1 (elimS (parX X) u j' D) ∧ Below w1.heap.size w1 wr) (fun j _ => 3 - (intOf j).toNat)
          case atStart => exact ⟨0, by omega, rfl, by rw [elimS_zero]; exact Htab3.out, Hb3.out⟩
          case round =>
            obtain ⟨j, hj, rfl, htab, hb⟩ := hrel
            have Htab4 := hid_ htab; have Hb4 := hid_ hb
            by_cases hltj : j < 3
            · have hj2 : (j : Int) ≤ 2 := by omega
              have hrow : elimS (parX X) u j D u = D u := elimS_row D (by rw [Hpx2.out]; exact hyu)
              have HRow : Hid (∀ s, s < 3 → wr.cell? ⟨w1.heap.size, u * 3 + s, none⟩ = some (.int .i64 (D u s : Nat))) := hid_ (fun s hs => by have := (htab u hun s hs).1; rwa [hrow] at this)
              have HDs : Hid (∀ s, s < 3 → D u s ≤ 6000) := hid_ (fun s hs => Hsm.out u hut s hs)
              have hmn : mn (D u) (j : Int) ≤ 6001 := by
                have h1 := mn_le (D u) (j : Int) (s := 0) (by omega)
                have h2 := ne1_le ((0 : Nat) : Int) (j : Int)
                have h3 := HDs.out 0 (by omega)
                omega
              have HBB := hid_ (bb_all (c := D u) (r := (j : Int)) (by omega))
              have HBs : Hid (∀ s, bb (D u) (j : Int) (s + 1) = min (bb (D u) (j : Int) s) (D u s + ne1 (s : Int) (j : Int))) := hid_ (fun s => rfl)
              have HB0 : Hid (bb (D u) (j : Int) 0 = 1000000) := hid_ rfl
              have HBl := hid_ (bb_le (D u) (j : Int))
              have hpy : D y j ≤ 6000 := Hsm.out y (by omega) j hltj
              have hE : elimS (parX X) u j D y j = D y j := if_neg (by omega)
              obtain ⟨hcy, -⟩ := htab y (by omega) j hltj
              rw [hE] at hcy
              have Hcy := hid_ hcy
              have Hst := hid_ (@elimS_step (parX X) u j (D y j + mn (D u) (j : Int)) D (by rw [Hpx2.out]))
              rw [Hpx2.out] at Hst
              clear htab hb hrow hE hcy
              go_wp2_with fail
              go_loop [12, 13] (fun b o => ∃ s : Nat, s ≤ 3 ∧ o = .int .i64 s ∧ b = .int .i64 (bb (D u) (j : Int) s : Nat)) (fun _ o => 3 - (intOf o).toNat)
              case atStart => exact ⟨0, by omega, rfl, by rw [HB0.out]; rfl⟩
              case round =>
                obtain ⟨s, hs, rfl, rfl⟩ := hrel
                have hbl := HBl.out s
                have hbs := HBs.out s
                by_cases hlts : s < 3
                · have hs2 : (s : Int) ≤ 2 := by omega
                  have hc := HRow.out s hlts
                  have hds := HDs.out s hlts
                  generalize hbv : bb (D u) (j : Int) s = B at *
                  clear hbv
                  by_cases hsj : (s : Int) = (j : Int)
                  · have hq : ((s : Int) != (j : Int)) = false := by simpa using hsj
                    rw [hsj, ne1_same, Nat.add_zero] at hbs
                    clear hsj
                    rw [Nat.min_def] at hbs
                    have Hbs := hid_ hbs
                    clear hbs
                    go_wp2
                    exact ⟨⟨s + 1, by omega, by go_num, by rw [Hbs.out]; congr 1; split <;> split <;> omega⟩, by simp [intOf]; omega⟩
                  · have hq : ((s : Int) != (j : Int)) = true := by simpa using hsj
                    have hn1 : ne1 (s : Int) (j : Int) = 1 := if_neg hsj
                    rw [hn1, Nat.min_def] at hbs
                    have Hbs := hid_ hbs
                    clear hsj hbs hn1
                    go_wp2
                    exact ⟨⟨s + 1, by omega, by go_num, by rw [Hbs.out]; congr 1; split <;> split <;> omega⟩, by simp [intOf]; omega⟩
                · have hs3 : s = 3 := by omega
                  have Hbv : Hid (bb (D u) (j : Int) s = mn (D u) (j : Int)) := hid_ (by rw [hs3]; exact HBB.out)
                  have hs2 : ¬ (s : Int) ≤ 2 := by omega
                  rw [Hbv.out]
                  clear hs3 hbl hbs
                  generalize mn (D u) (j : Int) = M at *
                  have hbw := Hb4.out
                  have q0w := cell_below q0 hbw
                  obtain ⟨b, off, rfl, hb0, hcell⟩ := (H1.out.below hbw (Nat.le_refl _)).cells u hun
                  rw [Hy.out] at hcell
                  have hlw : w1.heap.size < wr.heap.size := World.block_lt_of_cell? _ _ Hcy.out
                  have hcy := Hcy.out
                  generalize hz : D y j = z at *
                  clear hz hbw
                  have gA := cell_regrown q0w
                  have gB := cell_regrown hcell
                  have gC := cell_regrown hcy
                  have hw5 : IntKind.i64.wrap ((z : Int) + (M : Int)) = (z : Int) + (M : Int) := IntWalk.i64_in _ (by omega)
                  go_wp2_with fail
                  refine wp_region_tail 14 (by kernel_rfl) (by kernel_rfl) ?_
                  simp only [List.take_succ_cons, List.take_zero, List.drop_succ_cons, List.drop_zero]
                  repeat (first | go_big_quiet_skip | (go_big_quiet_want; go_big_quiet_op; first | go_big_quiet_on | go_big_quiet_call (fail)))
                  refine wpQuiet_nil ?_
                  rintro wq ⟨pq, hpq⟩
                  clear hw5 gA gB gC
                  have hbq := below_wq hpq
                  have Hbq := hid_ (Hb4.out.trans (hbq.mono Hb4.out.size))
                  have Htabq := hid_ (Htab4.out.below hbq hlw)
                  obtain ⟨hc4, hf4⟩ := Htabq.out y (by omega) j hltj
                  clear hpq hbq hcy
                  go_wp2
                  exact ⟨⟨j + 1, by omega, by go_num, by rw [← Hst.out]; exact Htabq.out.set hltj _ (by simp) (by omega), Hbq.out.setCell (p := ⟨w1.heap.size, y * 3 + j, none⟩) (Nat.le_refl _) _⟩, by simp [intOf]; omega⟩
            · have hj3 : j = 3 := by omega
              rw [hj3] at htab
              have hj2 : ¬ (j : Int) ≤ 2 := by omega
              clear hj3
              have Hnew : Hid (TabAt wr w1.heap.size n1 (RT (t + 1))) := hid_ (by rw [Hrt.out]; exact htab.congr fun i _ r hr => elimS_all (parX X) u D i r hr)
              clear htab hb
              go_wp2
              go_roundw
              case rel => exact ⟨t + 1, Ht1.out, by rw [Hnx1.out]; congr 1; omega, Hnew.out, Hb4.out⟩
              case measure => simp [intOf]; omega
        · have hu00 : u = 0 := by omega
          have Ht2 := ht2 hu00
          rw [Ht2] at htab
          have HtabL := hid_ htab
          have hA : ∀ r, r < 3 → wr.cell? ⟨w1.heap.size, r, none⟩ = some (.int .i64 (RT (n1 - 1) 0 r : Nat)) := fun r hr => by have := (htab 0 (by omega) r hr).1; simpa using this
          have hA0 := hA 0 (by omega); have hA1 := hA 1 (by omega); have hA2 := hA 2 (by omega)
          have HB0 : Hid (∀ r, r < 3 → RT (n1 - 1) 0 r ≤ 6000) := hid_ (fun r hr => by have := hsm 0 (by omega) r hr; rwa [Ht2] at this)
          have hui : ¬ 0 < (u : Int) := by omega
          have HMn := HMin.out
          generalize hc : RT (n1 - 1) 0 = cc at *
          clear hc hu00 Ht2 htab hb hA ht2 hsm hrt
          have HM2 := hid_ HMn
          have Hm1 : Hid (mrN cc 1 = cc 0) := hid_ rfl
          have Hm2 : Hid (mrN cc 2 = if mrN cc 1 ≤ cc 1 then mrN cc 1 else cc 1) := hid_ (Nat.min_def)
          have Hm3 : Hid (minR cc = if mrN cc 2 ≤ cc 2 then mrN cc 2 else cc 2) := hid_ (Nat.min_def)
          have Hm4 : Hid (mrN cc 3 = minR cc) := hid_ rfl
          have hb0 := HB0.out 0 (by omega); have hb1 := HB0.out 1 (by omega); have hb2 := HB0.out 2 (by omega)
          clear HMn
          go_wp2
          go_loop [15, 16] (fun o r => ∃ s : Nat, 1 ≤ s ∧ s ≤ 3 ∧ r = .int .i64 s ∧ o = .int .i64 (mrN cc s : Nat)) (fun _ r => 3 - (intOf r).toNat)
          case atStart => exact ⟨1, by omega, by omega, rfl, by rw [Hm1.out]⟩
          case round =>
            obtain ⟨s, hs1, hs3, rfl, rfl⟩ := hrel
            rcases (show s = 1 ∨ s = 2 ∨ s = 3 by omega) with rfl | rfl | rfl
            · have hle : mrN cc 1 ≤ 6000 := by rw [Hm1.out]; exact hb0
              obtain ⟨z, hz⟩ : ∃ z, mrN cc 1 = z := ⟨_, rfl⟩
              rw [hz] at hle Hm2 ⊢
              clear hz
              go_wp2
              exact ⟨⟨2, by omega, by omega, by go_num, by rw [Hm2.out]; congr 1; split <;> split <;> omega⟩, by simp [intOf]⟩
            · obtain ⟨z, hz⟩ : ∃ z, mrN cc 2 = z := ⟨_, rfl⟩
              have hle : z ≤ 6000 := by rw [← hz, Hm2.out]; split <;> (try rw [Hm1.out]) <;> omega
              rw [hz] at Hm3 ⊢
              clear hz
              go_wp2
              exact ⟨⟨3, by omega, by omega, by go_num, by rw [Hm4.out, Hm3.out]; congr 1; split <;> split <;> omega⟩, by simp [intOf]⟩
            · rw [Hm4.out, ← HM2.out]
              go_wp2
              go_ret
              exact ⟨rfl, Hc1.out.trans (Hb3.out.mono Hc1.out.size)⟩
end Go.Proofs.Ytdnlpikfibdjoaa
