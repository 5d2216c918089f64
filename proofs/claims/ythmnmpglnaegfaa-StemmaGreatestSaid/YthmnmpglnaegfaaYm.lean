import Derived.Test.YthmnmpglnaegfaaYl
namespace Go.Proofs.Ythmnmpglnaegfaa
open Go.RowKit Go.Proofs.Kv

/-! ### trees -/
structure Tr where
  par : List Int
  at_ : List Int
/-- the value v reads as the tree X -/
def TreeAt (w : World) (v : Value) (X : Tr) : Prop :=
  ∃ a1 n1 c1 a2 n2 c2, v = .agg #[.slice a1 n1 c1, .slice a2 n2 c2] ∧ IntsAt w a1 n1 c1 X.par ∧ IntsAt w a2 n2 c2 X.at_
theorem TreeAt.below {w w' : World} {B : Nat} {v : Value} {X : Tr} (h : TreeAt w v X) (hb : Below B w w') (hB : w.heap.size ≤ B) : TreeAt w' v X := by
  obtain ⟨a1, n1, c1, a2, n2, c2, e, h1, h2⟩ := h
  exact ⟨a1, n1, c1, a2, n2, c2, e, h1.below hb hB, h2.below hb hB⟩
theorem TreeAt.drewN {w : World} {v : Value} {X : Tr} (h : TreeAt w v X) (q : Nat) : TreeAt (w.drewN q) v X := by
  obtain ⟨a1, n1, c1, a2, n2, c2, e, h1, h2⟩ := h
  exact ⟨a1, n1, c1, a2, n2, c2, e, h1.drewN q, h2.drewN q⟩
def parB (i : Nat) (p : Int) : Bool := if i = 0 then decide (p = -1) else decide (0 ≤ p) && decide (p < i)
def parsB (l : List Int) : Bool := (List.range l.length).all fun i => parB i (l.getD i 0)
def validX (X : Tr) : Int := if X.par.length < 1 ∨ 16 < X.par.length ∨ 6 < X.at_.length then 3 else if parsB X.par = true ∧ X.at_.all (isNum X.par.length) = true then 0 else 1
theorem validX_large {X : Tr} (h : X.par.length < 1 ∨ 16 < X.par.length ∨ 6 < X.at_.length) : validX X = 3 := if_pos h
theorem validX_eq {X : Tr} (h : ¬ (X.par.length < 1 ∨ 16 < X.par.length ∨ 6 < X.at_.length)) : validX X = if parsB X.par = true ∧ X.at_.all (isNum X.par.length) = true then 0 else 1 := if_neg h
theorem parsB_yes {l : List Int} {n : Nat} (hl : l.length = n) (h : ∀ j, j < n → parB j (l.getD j 0) = true) : parsB l = true := by
  simp only [parsB, List.all_eq_true, List.mem_range, hl]; exact h
theorem parsB_no {l : List Int} {k : Nat} (hk : k < l.length) (h : parB k (l.getD k 0) = false) : parsB l = false := by
  rw [parsB, List.all_eq_false]
  exact ⟨k, List.mem_range.2 hk, by rw [h]; simp⟩
theorem allNum_yes {m : Nat} {l : List Int} {n : Nat} (hl : l.length = n) (h : ∀ j, j < n → isNum m (l.getD j 0) = true) : l.all (isNum m) = true := by
  rw [List.all_eq_true]
  intro x hx
  obtain ⟨k, hk, rfl⟩ := mem_getD hx
  exact h k (by omega)
theorem allNum_no {m : Nat} {l : List Int} {k : Nat} (hk : k < l.length) (h : isNum m (l.getD k 0) = false) : l.all (isNum m) = false := by
  rw [List.all_eq_false]
  exact ⟨_, getD_mem hk, by rw [h]; simp⟩
theorem validX_no1 {X : Tr} (h : ¬ (X.par.length < 1 ∨ 16 < X.par.length ∨ 6 < X.at_.length)) (k : Nat) (hk : k < X.par.length) (hb : parB k (X.par.getD k 0) = false) : validX X = 1 := by
  rw [validX_eq h, if_neg]; rw [parsB_no hk hb]; simp
theorem validX_no2 {X : Tr} (h : ¬ (X.par.length < 1 ∨ 16 < X.par.length ∨ 6 < X.at_.length)) (k : Nat) (hk : k < X.at_.length) (hb : isNum X.par.length (X.at_.getD k 0) = false) : validX X = 1 := by
  rw [validX_eq h, if_neg]; rw [allNum_no hk hb]; simp
theorem validX_yes {X : Tr} (h : ¬ (X.par.length < 1 ∨ 16 < X.par.length ∨ 6 < X.at_.length)) {n m : Nat} (hn : X.par.length = n) (hm : X.at_.length = m) (h1 : ∀ j, j < n → parB j (X.par.getD j 0) = true) (h2 : ∀ j, j < m → isNum n (X.at_.getD j 0) = true) : validX X = 0 := by
  rw [validX_eq h, if_pos ⟨parsB_yes hn h1, by rw [hn]; exact allNum_yes hm h2⟩]
structure GoodX (X : Tr) : Prop where
  ge : 1 ≤ X.par.length
  le : X.par.length ≤ 16
  a6 : X.at_.length ≤ 6
  root : X.par.getD 0 0 = -1
  par : ∀ i, 0 < i → i < X.par.length → 0 ≤ X.par.getD i 0 ∧ X.par.getD i 0 < i
  at_ : ∀ i, i < X.at_.length → 0 ≤ X.at_.getD i 0 ∧ X.at_.getD i 0 < X.par.length
theorem validX_ok {X : Tr} (h : validX X = 0) : GoodX X := by
  by_cases h1 : X.par.length < 1 ∨ 16 < X.par.length ∨ 6 < X.at_.length
  · rw [validX_large h1] at h; cases h
  · rw [validX_eq h1] at h
    split at h
    · rename_i hall
      obtain ⟨hp, ha⟩ := hall
      simp only [parsB, List.all_eq_true, List.mem_range] at hp
      rw [List.all_eq_true] at ha
      refine ⟨by omega, by omega, by omega, ?_, fun i h0 hi => ?_, fun i hi => isNum_iff.1 (ha _ (getD_mem hi))⟩
      · have := hp 0 (by omega)
        simpa [parB] using this
      · have := hp i hi
        rw [parB, if_neg (by omega)] at this
        simpa using this
    · cases h
theorem isParent_calls (p : Int) (i : Nat) (hi : i ≤ 1000) (w : World) :
    Calls Try.prog 74 #[.int .i64 p, .int .i64 (i : Int)] w fun e w' => e = .returned (.bool (parB i p)) ∧ w = w' := by
  by_cases h0 : i = 0
  · subst h0
    have hf : Hid (parB 0 p = decide (p = -1)) := hid_ rfl
    by_cases hp : p = -1
    · subst hp
      go_enter Try.func74, Try.ntmps74
      go_wp2
      go_ret
      exact ⟨retB (by rw [hf.out]; rfl), rfl⟩
    · have hq : (p == -1) = false := by simpa using hp
      have hg := hid_ (hf.out.trans (decide_eq_false hp))
      clear hp
      go_enter Try.func74, Try.ntmps74
      go_wp2
      go_ret
      exact ⟨retB hg.out, rfl⟩
  · have hf : Hid (parB i p = (decide (0 ≤ p) && decide (p < i))) := hid_ (if_neg h0)
    have hq0 : ((i : Int) == 0) = false := by simpa using h0
    by_cases h1 : 0 ≤ p
    · by_cases h2 : p < i
      · have hg := hid_ (hf.out.trans (show (decide (0 ≤ p) && decide (p < (i : Int))) = true by simp [h1, h2]))
        go_enter Try.func74, Try.ntmps74
        go_wp2
        go_ret
        exact ⟨retB hg.out, rfl⟩
      · have hg := hid_ (hf.out.trans (show (decide (0 ≤ p) && decide (p < (i : Int))) = false by simp [h2]))
        go_enter Try.func74, Try.ntmps74
        go_wp2
        go_ret
        exact ⟨retB hg.out, rfl⟩
    · have hg := hid_ (hf.out.trans (show (decide (0 ≤ p) && decide (p < (i : Int))) = false by simp [h1]))
      go_enter Try.func74, Try.ntmps74
      go_wp2
      go_ret
      exact ⟨retB hg.out, rfl⟩
set_option maxRecDepth 100000 in
set_option maxHeartbeats 2000000 in
theorem stTree_calls (v : Value) (X : Tr) (w : World) (h : TreeAt w v X) :
    Calls Try.prog 63 #[v] w fun e w' => e = .returned (.int .i64 (validX X)) ∧ Below w.heap.size w w' := by
  have HP := hid_ h
  obtain ⟨a1, n1, c1, a2, n2, c2, rfl, h1, h2⟩ := h
  obtain ⟨w1, hw1⟩ : ∃ w1, w.alloc (.cells #[.slice a1 n1 c1, .slice a2 n2 c2] 31) = w1 := ⟨_, rfl⟩
  have cb : Below w.heap.size w w1 := by rw [← hw1]; exact below_alloc _ _
  have q0 : w1.cell? ⟨w.heap.size, 0, none⟩ = some (.slice a1 n1 c1) := by rw [← hw1]; exact cells_alloc _ _ _ 0
  have q1 : w1.cell? ⟨w.heap.size, 1, none⟩ = some (.slice a2 n2 c2) := by rw [← hw1]; exact cells_alloc _ _ _ 1
  have HP1 := hid_ (HP.out.below cb (Nat.le_refl _)); have Hc1 := hid_ cb
  have hn1 : n1 ≤ 9223372036854775807 := Nat.le_trans h1.le h1.small
  have hn2 : n2 ≤ 9223372036854775807 := Nat.le_trans h2.le h2.small
  have H1 := hid_ (h1.below cb (Nat.le_refl _))
  have H2 := hid_ (h2.below cb (Nat.le_refl _))
  have L1 := hid_ h1.len
  have L2 := hid_ h2.len
  have HL := hid_ (fun hx => @validX_large X hx)
  have HNo1 := hid_ (fun hx => @validX_no1 X hx)
  have HNo2 := hid_ (fun hx => @validX_no2 X hx)
  have HYes := hid_ (fun hx => @validX_yes X hx n1 n2 h1.len h2.len)
  clear h1 h2 cb
  generalize hV : validX X = V at *
  clear hV
  by_cases h1 : n1 < 1
  · have Hf := hid_ (HL.out (.inl (by rw [L1.out]; exact h1)))
    have h1' : (n1 : Int) < 1 := by omega
    clear h1
    go_enter Try.func63, Try.ntmps63
    go_wp2
    go_ret
    exact ⟨retI Hf.out, Hc1.out⟩
  · by_cases h16 : 16 < n1
    · have Hf := hid_ (HL.out (.inr (.inl (by rw [L1.out]; exact h16))))
      go_enter Try.func63, Try.ntmps63
      go_wp2
      go_ret
      exact ⟨retI Hf.out, Hc1.out⟩
    · by_cases h6 : 6 < n2
      · have Hf := hid_ (HL.out (.inr (.inr (by rw [L2.out]; exact h6))))
        go_enter Try.func63, Try.ntmps63
        go_wp2
        go_ret
        exact ⟨retI Hf.out, Hc1.out⟩
      · have hx : ¬ (X.par.length < 1 ∨ 16 < X.par.length ∨ 6 < X.at_.length) := by rw [L1.out, L2.out]; omega
        have HNoA := hid_ (HNo1.out hx)
        have HNoB := hid_ (HNo2.out hx)
        have HYesH := hid_ (HYes.out hx)
        clear HNo1 HNo2 HYes HL hx
        rw [L1.out] at HNoB
        go_enter Try.func63, Try.ntmps63
        go_wp2
        go_loop [23] (fun i => ∃ k : Nat, k ≤ n1 ∧ i = .int .i64 k ∧ ∀ j, j < k → parB j (X.par.getD j 0) = true) (fun i => n1 - (intOf i).toNat)
        case atStart => exact ⟨0, Nat.zero_le _, rfl, fun _ h => absurd h (by omega)⟩
        case round =>
          obtain ⟨k, hk, rfl, hall⟩ := hrel
          have Hall := hid_ hall; clear hall
          by_cases hlt : k < n1
          · obtain ⟨b, off, rfl, hb, hcell⟩ := H1.out.cells k hlt
            have hl : k < X.par.length := by rw [L1.out]; exact hlt
            have hNo := HNoA.out k hl
            have hYes := fun hx => lt_snoc (p := fun j => parB j (X.par.getD j 0) = true) Hall.out hx
            generalize X.par.getD k 0 = y at hcell hNo hYes
            have HP := hid_ (isParent_calls y k (by omega) w1)
            generalize parB k y = z at *
            cases z with
            | false =>
              have Hf := hid_ (hNo rfl)
              clear hNo hYes
              go_wp2_with (go_at_call 74; refine (HP.out).mono ?_; rintro e w' ⟨rfl, rfl⟩)
              go_ret
              exact ⟨retI Hf.out, Hc1.out⟩
            | true =>
              have Hf := hid_ (hYes rfl)
              clear hNo hYes
              go_wp2_with (go_at_call 74; refine (HP.out).mono ?_; rintro e w' ⟨rfl, rfl⟩)
              go_round
              case rel => exact ⟨k + 1, by omega, by go_num, Hf.out⟩
              case measure => simp [intOf]; omega
          · obtain rfl : n1 = k := by omega
            go_wp2
            go_loop [38] (fun i => ∃ k : Nat, k ≤ n2 ∧ i = .int .i64 k ∧ ∀ j, j < k → isNum n1 (X.at_.getD j 0) = true) (fun i => n2 - (intOf i).toNat)
            case atStart => exact ⟨0, Nat.zero_le _, rfl, fun _ h => absurd h (by omega)⟩
            case round =>
              obtain ⟨k, hk, rfl, hall⟩ := hrel
              have Hall2 := hid_ hall; clear hall
              by_cases hlt2 : k < n2
              · obtain ⟨b, off, rfl, hb, hcell⟩ := H2.out.cells k hlt2
                have hl : k < X.at_.length := by rw [L2.out]; exact hlt2
                have hNo := HNoB.out k hl
                have hYes := fun hx => lt_snoc (p := fun j => isNum n1 (X.at_.getD j 0) = true) Hall2.out hx
                generalize X.at_.getD k 0 = y at hcell hNo hYes
                by_cases h0 : y < 0
                · have Hf := hid_ (hNo (by simp [isNum]; omega))
                  clear hNo hYes
                  go_wp2
                  go_ret
                  exact ⟨retI Hf.out, Hc1.out⟩
                · by_cases h3 : (n1 : Int) ≤ y
                  · have Hf := hid_ (hNo (by simp [isNum]; omega))
                    clear hNo hYes
                    go_wp2
                    go_ret
                    exact ⟨retI Hf.out, Hc1.out⟩
                  · have Hf := hid_ (hYes (by simp [isNum]; omega))
                    clear hNo hYes
                    go_wp2
                    go_round
                    case rel => exact ⟨k + 1, by omega, by go_num, Hf.out⟩
                    case measure => simp [intOf]; omega
              · obtain rfl : n2 = k := by omega
                have Hf := hid_ (HYesH.out Hall.out Hall2.out)
                go_wp2
                go_ret
                exact ⟨retI Hf.out, Hc1.out⟩
end Go.Proofs.Ythmnmpglnaegfaa
