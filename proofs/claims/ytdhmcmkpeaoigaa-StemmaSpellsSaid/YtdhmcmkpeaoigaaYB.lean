import Derived.Test.YtdhmcmkpeaoigaaYy
namespace Go.Proofs.Ytdhmcmkpeaoigaa
open Go.RowKit Go.Proofs.Kv

/-! ### Apart, of the program and of the document -/
def apN (R S : List Int) : Nat → Nat
  | 0 => 0
  | k + 1 => apN R S k + ne1 (R.getD k 0) (S.getD k 0)
def resApart (T : List (List Int)) (i j : Int) : Int := if copiesE T [i, j] = 0 then (apN (T.getD i.toNat []) (T.getD j.toNat []) (n0 T) : Int) else 0
theorem apN_le (R S : List Int) (k : Nat) : apN R S k ≤ k := by
  induction k with
  | zero => exact Nat.le_refl _
  | succ k ih => unfold apN ne1; split <;> omega
theorem copiesE_pair (T : List (List Int)) (p q : Int) : copiesE T [p, q] = if copiesE T [p] = 0 then copiesE T [q] else copiesE T [p] := by
  simp only [copiesE, numE_one, numE_two]
  by_cases hv : validT T = 0
  · simp only [hv, if_true]
    cases isNum T.length p <;> cases isNum T.length q <;> rfl
  · simp [hv]
set_option maxRecDepth 100000 in
theorem stApart_calls (a : Option Addr) (n c : Nat) (T : List (List Int)) (i j : Int) (w : World) (h : ListsAt w a n c T) :
    Calls Try.prog 47 #[.slice a n c, .int .i64 i, .int .i64 j] w fun e w' => e = .returned (.tuple #[.int .i64 (resApart T i j), .int .i64 (copiesE T [i, j])]) ∧ Below w.heap.size w w' := by
  have HV := hid_ (fun W (hW : Below w.heap.size w W) a' n' c' (h' : IntsAt W a' n' c' [i, j]) => copies_calls a n c T a' n' c' [i, j] W (h.below hW (Nat.le_refl _)) h')
  have HR : Hid (resApart T i j = if copiesE T [i, j] = 0 then (apN (T.getD i.toNat []) (T.getD j.toNat []) (n0 T) : Int) else 0) := hid_ rfl
  generalize resApart T i j = R at *
  by_cases he : copiesE T [i, j] = 0
  · have Hf := hid_ (HR.out.trans (if_pos he))
    obtain ⟨g, ⟨hp0, hp1⟩, hq0, hq1⟩ := copiesE_two he
    rw [he] at HV ⊢
    clear he HR
    rw [Hf.out]
    clear Hf
    obtain ⟨i, rfl⟩ := nat_of hp0
    obtain ⟨j, rfl⟩ := nat_of hq0
    rw [Int.toNat_natCast, Int.toNat_natCast]
    have Hn := hid_ (show n0 T ≤ 6 from g.w6)
    have Hi := hid_ (g.len i (by omega))
    have Hj := hid_ (g.len j (by omega))
    have hin : i < n := by rw [← h.len]; omega
    have hjn : j < n := by rw [← h.len]; omega
    clear g hp0 hp1 hq0 hq1
    obtain ⟨w1, hw1⟩ : ∃ w1, w.alloc (.cells #[.int .i64 (i : Int), .int .i64 (j : Int)] 3) = w1 := ⟨_, rfl⟩
    have Hb1 : Hid (Below w.heap.size w w1) := hid_ (by rw [← hw1]; exact below_alloc _ _)
    have HI : Hid (IntsAt w1 (some ⟨w.heap.size, 0, none⟩) 2 2 [(i : Int), (j : Int)]) := hid_ (by rw [← hw1]; exact ints_two7 _ _ _ _)
    obtain ⟨b, off, a1, n1, c1, rfl, hb', hcell, hrow⟩ := (h.below Hb1.out (Nat.le_refl _)).cells i hin
    obtain ⟨b2, off2, a2, n2, c2, e2, hb2, hcell2, hrow2⟩ := (h.below Hb1.out (Nat.le_refl _)).cells j hjn
    injection e2 with e2; injection e2 with e21 e22; subst e21; subst e22
    have hn1 : n1 = n0 T := by rw [← hrow.len]; exact Hi.out
    have hn2 : n2 = n0 T := by rw [← hrow2.len]; exact Hj.out
    subst hn1
    subst hn2
    have H1 := hid_ hrow
    have H2 := hid_ hrow2
    have hn : n0 T ≤ 6 := Hn.out
    generalize T.getD i [] = R1 at *
    generalize T.getD j [] = R2 at *
    generalize n0 T = m at *
    clear hrow hrow2 Hi Hj
    have HL := hid_ (apN_le R1 R2)
    have HS : Hid (∀ k, apN R1 R2 (k + 1) = apN R1 R2 k + ne1 (R1.getD k 0) (R2.getD k 0)) := hid_ (fun _ => rfl)
    go_enter Try.func47, Try.ntmps47
    go_wp2_with (go_at_call 85; (with_reducible refine (HV.out _ Hb1.out _ _ _ HI.out).mono ?_); rintro e w2 ⟨rfl, rfl⟩)
    go_loopw [9, 25] (fun v i wr => ∃ (k q : Nat), k ≤ m ∧ i = .int .i64 k ∧ v = .int .i64 (apN R1 R2 k : Nat) ∧ wr = w1.drewN q) (fun _ i _ => m - (intOf i).toNat)
    case atStart => exact ⟨0, 0, Nat.zero_le _, rfl, rfl, rfl⟩
    case round =>
      obtain ⟨k, q, hk, rfl, rfl, rfl⟩ := hrel
      have hs := HS.out k
      by_cases hlt : k < m
      · obtain ⟨b3, off3, rfl, hb3, hcell3⟩ := (H1.out.drewN q).cells k hlt
        obtain ⟨b4, off4, rfl, hb4, hcell4⟩ := (H2.out.drewN q).cells k hlt
        have hl := HL.out k
        generalize apN R1 R2 k = z at *
        generalize R1.getD k 0 = r at *
        generalize R2.getD k 0 = s at *
        by_cases hrs : r = s
        · have hqq : (r != s) = false := by simpa using hrs
          have Hs := hid_ (hs.trans (by rw [ne1, if_pos hrs, Nat.add_zero]))
          clear hs hrs
          go_wp2
          go_roundw
          case rel => exact ⟨k + 1, _, by omega, by go_num, by rw [Hs.out], rfl⟩
          case measure => simp [intOf]; omega
        · have hqq : (r != s) = true := by simpa using hrs
          have Hs := hid_ (hs.trans (by rw [ne1, if_neg hrs]))
          clear hs hrs
          go_wp2
          go_roundw
          case rel => exact ⟨k + 1, _, by omega, by go_num, by rw [Hs.out]; go_num, rfl⟩
          case measure => simp [intOf]; omega
      · obtain rfl : k = m := by omega
        clear hs
        go_wp2
        go_ret2
        exact ⟨rfl, below_drewN Hb1.out _⟩
  · have Hf := hid_ (HR.out.trans (if_neg he))
    have hq : (copiesE T [i, j] != 0) = true := by simpa using he
    generalize copiesE T [i, j] = x at *
    clear he HR
    rw [Hf.out]
    go_enter Try.func47, Try.ntmps47
    go_wp2_with (go_at_call 85; (with_reducible refine (HV.out _ (below_alloc _ _) _ _ _ (ints_two7 _ _ _ _)).mono ?_); rintro e w2 ⟨rfl, rfl⟩)
    go_ret2
    exact ⟨rfl, below_alloc _ _⟩
set_option maxRecDepth 100000 in
theorem r7Apart_calls (a : Option Addr) (n c : Nat) (T : List (List Int)) (i j : Int) (w : World) (h : ListsAt w a n c T) :
    Calls Try.prog 48 #[.slice a n c, .int .i64 i, .int .i64 j] w fun e w' => e = .returned (.tuple #[.int .i64 (resApart T i j), .int .i64 (copiesE T [i, j])]) ∧ Below w.heap.size w w' := by
  have HV := hid_ (copied_calls a n c T i w h)
  have HV2 := hid_ (fun k => copied_calls a n c T j (w.drewN k) (h.drewN k))
  have HR : Hid (resApart T i j = if copiesE T [i, j] = 0 then (apN (T.getD i.toNat []) (T.getD j.toNat []) (n0 T) : Int) else 0) := hid_ rfl
  have HP : Hid (copiesE T [i, j] = if copiesE T [i] = 0 then copiesE T [j] else copiesE T [i]) := hid_ (copiesE_pair T i j)
  generalize resApart T i j = R at *
  by_cases he : copiesE T [i] = 0
  · rw [if_pos he] at HP
    by_cases hf : copiesE T [j] = 0
    · rw [HP.out, hf] at HR ⊢
      obtain ⟨g, hp0, hp1⟩ := copiesE_one he
      obtain ⟨-, hq0, hq1⟩ := copiesE_one hf
      rw [he] at HV
      rw [hf] at HV2
      have Hf := hid_ (HR.out.trans (if_pos rfl))
      clear he hf HR HP
      rw [Hf.out]
      clear Hf
      obtain ⟨i, rfl⟩ := nat_of hp0
      obtain ⟨j, rfl⟩ := nat_of hq0
      rw [Int.toNat_natCast, Int.toNat_natCast]
      have Hn := hid_ (show n0 T ≤ 6 from g.w6)
      have Hi := hid_ (g.len i (by omega))
      have Hj := hid_ (g.len j (by omega))
      have H0 := hid_ (g.len 0 (by omega))
      have hin : i < n := by rw [← h.len]; omega
      have hjn : j < n := by rw [← h.len]; omega
      have h0n : 0 < n := by omega
      clear g hp0 hp1 hq0 hq1
      obtain ⟨b, off, a1, n1, c1, rfl, hb', hcell, hrow⟩ := h.cells i hin
      obtain ⟨b2, off2, a2, n2, c2, e2, hb2, hcell2, hrow2⟩ := h.cells j hjn
      injection e2 with e2; injection e2 with e21 e22; subst e21; subst e22
      obtain ⟨b0, off0, a0, n0', c0, e2, hb0, hcell0, hrow0⟩ := h.cells 0 h0n
      injection e2 with e2; injection e2 with e21 e22; subst e21; subst e22
      rw [Nat.add_zero] at hcell0
      have hn1 : n1 = n0 T := by rw [← hrow.len]; exact Hi.out
      have hn2 : n2 = n0 T := by rw [← hrow2.len]; exact Hj.out
      have hn0 : n0' = n0 T := by rw [← hrow0.len]; exact H0.out
      subst hn1
      subst hn2
      subst hn0
      have H1 := hid_ hrow
      have H2 := hid_ hrow2
      have hn : n0 T ≤ 6 := Hn.out
      generalize T.getD i [] = R1 at *
      generalize T.getD j [] = R2 at *
      generalize n0 T = m at *
      clear hrow hrow2 hrow0 Hi Hj H0
      have HL := hid_ (apN_le R1 R2)
      have HS : Hid (∀ k, apN R1 R2 (k + 1) = apN R1 R2 k + ne1 (R1.getD k 0) (R2.getD k 0)) := hid_ (fun _ => rfl)
      go_enter Try.func48, Try.ntmps48
      go_wp2_with (first
        | (go_at_call 86; (with_reducible refine HV.out.mono ?_); rintro e w2 ⟨rfl, x, rfl⟩)
        | (go_at_call 86; (with_reducible refine (HV2.out _).mono ?_); rintro e w3 ⟨rfl, y, rfl⟩; simp only [drewN2]))
      go_loopw [9, 10] (fun v i wr => ∃ (k q : Nat), k ≤ m ∧ i = .int .i64 k ∧ v = .int .i64 (apN R1 R2 k : Nat) ∧ wr = w.drewN q) (fun _ i _ => m - (intOf i).toNat)
      case atStart => exact ⟨0, _, Nat.zero_le _, rfl, rfl, rfl⟩
      case round =>
        obtain ⟨k, q, hk, rfl, rfl, hq⟩ := hrel
        have Hq := hid_ hq
        have hR1 := H1.out.drewN q; rw [← hq] at hR1
        have hR2 := H2.out.drewN q; rw [← hq] at hR2
        have hce : (w.drewN q).cell? ⟨b, off + i, none⟩ = some (.slice _ m _) := hcell; rw [← hq] at hce
        have hce2 : (w.drewN q).cell? ⟨b, off + j, none⟩ = some (.slice _ m _) := hcell2; rw [← hq] at hce2
        have hce0 : (w.drewN q).cell? ⟨b, off, none⟩ = some (.slice _ m _) := hcell0; rw [← hq] at hce0
        clear hq hcell hcell2 hcell0
        have hs := HS.out k
        by_cases hlt : k < m
        · obtain ⟨b3, off3, rfl, hb3, hcell3⟩ := hR1.cells k hlt
          obtain ⟨b4, off4, rfl, hb4, hcell4⟩ := hR2.cells k hlt
          have hl := HL.out k
          generalize apN R1 R2 k = z at *
          generalize R1.getD k 0 = r at *
          generalize R2.getD k 0 = s at *
          by_cases hrs : r = s
          · have hqq : (r != s) = false := by simpa using hrs
            have Hs := hid_ (hs.trans (by rw [ne1, if_pos hrs, Nat.add_zero]))
            clear hs hrs
            go_wp2_with fail
            go_quiet (fail)
            go_wp2
            go_roundw
            case rel => exact ⟨k + 1, _, by omega, by go_num, by rw [Hs.out], by rw [Hq.out, drewN2]⟩
            case measure => simp [intOf]; omega
          · have hqq : (r != s) = true := by simpa using hrs
            have Hs := hid_ (hs.trans (by rw [ne1, if_neg hrs]))
            clear hs hrs
            go_wp2_with fail
            go_quiet (fail)
            go_wp2
            go_roundw
            case rel => exact ⟨k + 1, _, by omega, by go_num, by rw [Hs.out]; go_num, by rw [Hq.out, drewN2]⟩
            case measure => simp [intOf]; omega
        · obtain rfl : k = m := by omega
          clear hs
          go_wp2
          go_ret2
          exact ⟨rfl, by rw [Hq.out]; exact below_drewN (Below.refl _ _) _⟩
    · have hq : (copiesE T [j] != 0) = true := by simpa using hf
      have Hf := hid_ (HR.out.trans (if_neg (by rw [HP.out]; exact hf)))
      rw [HP.out]
      rw [he] at HV
      generalize copiesE T [j] = x at *
      clear he hf HR HP
      rw [Hf.out]
      go_enter Try.func48, Try.ntmps48
      go_wp2_with (first
        | (go_at_call 86; (with_reducible refine HV.out.mono ?_); rintro e w2 ⟨rfl, y, rfl⟩)
        | (go_at_call 86; (with_reducible refine (HV2.out _).mono ?_); rintro e w3 ⟨rfl, y, rfl⟩; simp only [drewN2]))
      go_ret2
      exact ⟨rfl, below_drewN (Below.refl _ _) _⟩
  · rw [if_neg he] at HP
    have hq : (copiesE T [i] != 0) = true := by simpa using he
    have Hf := hid_ (HR.out.trans (if_neg (by rw [HP.out]; exact he)))
    rw [HP.out]
    generalize copiesE T [i] = x at *
    clear he HR HP
    rw [Hf.out]
    go_enter Try.func48, Try.ntmps48
    go_wp2_with (go_at_call 86; (with_reducible refine HV.out.mono ?_); rintro e w2 ⟨rfl, y, rfl⟩)
    go_ret2
    exact ⟨rfl, below_drewN (Below.refl _ _) _⟩
end Go.Proofs.Ytdhmcmkpeaoigaa
