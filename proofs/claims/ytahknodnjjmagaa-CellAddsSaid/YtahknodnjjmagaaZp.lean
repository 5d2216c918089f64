import Derived.Test.YtahknodnjjmagaaZo
import Derived.Test.YtahknodnjjmagaaZ0
import Derived.Laws.OwnMore
namespace Go.Proofs.Ytahknodnjjmagaa
open Go.RowKit Go.Proofs.Kv

/-! ### all cells: the document's -/
def extK (o : List Int) (m : Nat) : List (List Int) := (List.range m).map fun x : Nat => o ++ [(x : Int)]
def stepK (m : Nat) (O : List (List Int)) (i : Nat) : List (List Int) := (O.take i).flatMap fun o => extK o m
theorem extK_succ (o : List Int) (m : Nat) : extK o (m + 1) = extK o m ++ [o ++ [(m : Int)]] := by simp [extK, List.range_succ]
theorem extK_len (o : List Int) (m : Nat) : (extK o m).length = m := by simp [extK]
theorem stepK_snoc {m i : Nat} {O : List (List Int)} (h : i < O.length) : stepK m O (i + 1) = stepK m O i ++ extK (O.getD i []) m := by
  rw [stepK, Kv.take_snoc _ [] i h, List.flatMap_append]; simp [stepK]
theorem stepK_all (m : Nat) (O : List (List Int)) : stepK m O O.length = O.flatMap fun o => extK o m := by rw [stepK, List.take_length]
theorem stepK_le (m : Nat) (O : List (List Int)) (i : Nat) : (stepK m O i).length ≤ O.length * m := by
  have key : ∀ M : List (List Int), (M.flatMap fun o => extK o m).length = M.length * m := by
    intro M
    induction M with
    | nil => simp
    | cons o M ih => rw [List.flatMap_cons, List.length_append, List.length_cons, Nat.succ_mul, extK_len, ih]; omega
  rw [stepK, key, List.length_take]
  exact Nat.mul_le_mul_right _ (Nat.min_le_right _ _)
theorem ownL_one (w : World) (E : TypeId) : OwnL E (w.alloc (.cells #[.slice none 0 0] E)) w.heap.size (.slice (some ⟨w.heap.size, 0, none⟩) 1 1) [[]] :=
  ⟨[.slice none 0 0], World.ownsRow_lit (base := w.heap.size) (e := E) (size := 1) w #[.slice none 0 0] 1 (Nat.le_refl _) (by unfold maxLen; omega) rfl, fun i hi => by
    obtain rfl : i = 0 := by simpa using hi
    exact ⟨none, 0, 0, rfl, IntsAt.nil _ _ _ (by omega), fun _ _ h => absurd h (by omega)⟩⟩
set_option maxRecDepth 100000 in
set_option maxHeartbeats 4000000 in
theorem r6cells_calls (v : Value) (P : Par) (w : World) (h : ParAt w v P) (hv : validP P = 0) :
    Calls Try.prog 70 #[v] w fun e w' => ∃ v', e = .returned v' ∧ MadeL 22 w w' v' (cellsL P.sizes) := by
  obtain ⟨i0, hi0, hz0, hz1, hz2⟩ := info_parts Try.infoInts
  obtain ⟨j0, hj0, hy0, hy1, hy2⟩ := info_parts Try.infoInt
  obtain ⟨-, -, -, hlens⟩ := cells_chain hv
  obtain ⟨a, n, c, a2, n2, c2, rfl, h1, h2⟩ := h
  have hn3 : n ≤ 3 := by rw [← h1.len]; exact (validP_ok hv).1.2
  have HS : Hid (∀ k, k < n → ∃ m : Nat, P.sizes.getD k 0 = (m : Int) ∧ m ≤ 3) := hid_ (fun k hk => by
    have := List.any_eq_false.1 (validP_ok hv).2.1 _ (getD_mem (show k < P.sizes.length by rw [h1.len]; exact hk))
    simp [okSize, Within] at this
    exact ⟨(P.sizes.getD k 0).toNat, (Int.toNat_of_nonneg (Int.le_trans (by decide) this.1)).symm, Int.toNat_le.2 this.2⟩)
  obtain ⟨w1, hw1⟩ : ∃ w1, w.alloc (.cells #[.slice a n c, .slice a2 n2 c2] 25) = w1 := ⟨_, rfl⟩
  have cb : Below w.heap.size w w1 := by rw [← hw1]; exact below_alloc _ _
  have q0 : w1.cell? ⟨w.heap.size, 0, none⟩ = some (.slice a n c) := by rw [← hw1]; exact cells_alloc _ _ _ 0
  have H1 := hid_ (h1.below cb (Nat.le_refl _)); have Hc1 := hid_ cb
  have HLn : Hid (cellsL P.sizes = cellsK P.sizes n) := hid_ (by rw [cellsL, h1.len])
  have Hlens := hid_ (fun k (hk : k ≤ n) => hlens k (by rw [h1.len]; exact hk))
  have HK : Hid (∀ k m : Nat, P.sizes.getD k 0 = (m : Int) → cellsK P.sizes (k + 1) = (cellsK P.sizes k).flatMap fun o => extK o m) := hid_ (fun k m hm => by rw [cellsK, hm, Int.toNat_natCast]; rfl)
  have HKl : Hid (∀ k, ∀ o ∈ cellsK P.sizes k, o.length = k) := hid_ (fun k o ho => (mem_cellsK.1 ho).1)
  have hw1s := cb.size
  clear h1 h2 cb hv hlens
  go_enter Try.func70, Try.ntmps70
  go_wp2
  go_loopw [3, 4] (fun v i wr => ∃ k : Nat, k ≤ n ∧ i = .int .i64 k ∧ OwnL 22 wr w1.heap.size v (cellsK P.sizes k) ∧ Below w1.heap.size w1 wr) (fun _ i _ => n - (intOf i).toNat)
  case atStart => exact ⟨0, Nat.zero_le _, rfl, ownL_one _ _, (Below.refl _ _).alloc (Nat.le_refl _) _⟩
  case round =>
    obtain ⟨k, hk, rfl, hown, hbel⟩ := hrel
    have q0r := cell_below q0 hbel
    by_cases hlt : k < n
    · obtain ⟨a1, c1, rfl, hL⟩ := hown.at_
      obtain ⟨m, hm, hm3⟩ := HS.out k hlt
      have Hnext := hid_ (HK.out k m hm)
      have hOl := Hlens.out k hk
      have Hrow : Hid (∀ o ∈ cellsK P.sizes k, o.length ≤ 3) := hid_ fun o ho => by rw [HKl.out k o ho]; omega
      have Hbel := hid_ hbel
      have hsz := hbel.size
      have Hm := hid_ hm
      clear hown hbel hm
      generalize cellsK P.sizes k = O at hL Hnext hOl Hrow ⊢
      have hO9 : O.length ≤ 9223372036854775807 := by omega
      go_wp2
      obtain ⟨wo, rfl⟩ : ∃ wo : World, wo = wr := ⟨_, rfl⟩
      go_loopw [5, 6] (fun v i wr => ∃ j : Nat, j ≤ O.length ∧ i = .int .i64 j ∧ OwnL 22 wr wo.heap.size v (stepK m O j) ∧ Below wo.heap.size wo wr) (fun _ i _ => O.length - (intOf i).toNat)
      case atStart => exact ⟨0, Nat.zero_le _, rfl, OwnL.nil _ _ _, Below.refl _ _⟩
      case round =>
        obtain ⟨j, hj, rfl, hown2, hbel2⟩ := hrel
        by_cases hlj : j < O.length
        · have hol : (O.getD j []).length ≤ 3 := Hrow.out _ (by simp [List.getD, List.getElem?_eq_getElem hlj])
          have Hsn := hid_ (stepK_snoc (m := m) hlj)
          have hcl := stepK_le m O j
          have Hcl : Hid ((stepK m O j).length ≤ 81) := hid_ (Nat.le_trans hcl (Nat.mul_le_mul hOl hm3))
          clear hcl
          generalize stepK m O j = cur at hown2 Hsn Hcl
          have HL : Hid (∀ W, Below wo.heap.size wo W → ∃ b off a2 n2 c2, a1 = some ⟨b, off, none⟩ ∧ b < W.heap.size ∧ W.cell? ⟨b, off + j, none⟩ = some (.slice a2 n2 c2) ∧ IntsAt W a2 n2 c2 (O.getD j [])) := hid_ fun W hW => (hL.below hW (Nat.le_refl _)).cells j hlj
          generalize O.getD j [] = o at HL hol Hsn
          go_wp2
          obtain ⟨wm, rfl⟩ : ∃ wm : World, wm = wr := ⟨_, rfl⟩
          go_loopw [5, 7] (fun v i wr => ∃ x : Nat, x ≤ m ∧ i = .int .i64 x ∧ OwnL 22 wr wo.heap.size v (cur ++ extK o x) ∧ Below wo.heap.size wo wr) (fun _ i _ => m - (intOf i).toNat)
          case atStart => exact ⟨0, Nat.zero_le _, rfl, by rw [show extK o 0 = [] from rfl, List.append_nil]; exact hown2, hbel2⟩
          case round =>
            obtain ⟨x, hx, rfl, hown3, hbel3⟩ := hrel
            have q0x := cell_below q0r hbel3
            obtain ⟨bs, offs, rfl, hbs, hcs⟩ := (H1.out.below (Hbel.out.trans (hbel3.mono hsz)) (Nat.le_refl _)).cells k hlt
            rw [Hm.out] at hcs
            by_cases hlx : x < m
            · obtain ⟨b, off, a3, n3, c3, rfl, hb3, hcell3, hrow3⟩ := HL.out wr hbel3
              have Hs := hid_ (extK_succ o x)
              have Hcl3 : Hid ((cur ++ extK o x).length ≤ 84) := hid_ (by
                have h1 := Hcl.out
                have h2 := extK_len o x
                rw [List.length_append]; omega)
              generalize hcu : cur ++ extK o x = cu3 at hown3 Hcl3
              have Hcu := hid_ hcu; clear hcu
              have Hlt3 : Hid (∀ b, u5.ownBlock = some b → b < wr.heap.size) := hid_ fun b hb => (hown3.lt b hb).2
              have hol1 : ([] : List Int).length = 0 := rfl
              have hn2 : 0 + n3 ≤ 1000000 := by have := hrow3.len; omega
              have hn4 : n3 + 1 ≤ 1000000 := by have := hrow3.len; omega
              have hsz3 := hbel3.size
              go_wp2_with (first
                | (at_builtin; refine wpList_append_ints _ rfl (.tmp 32) (.tmp 36) _ rfl wr.heap.size 3 j0 Try.underlying22 hj0 hy0 hy1 hy2 _ 0 [] rfl (World.ownsRow_lit (base := wr.heap.size) (e := 3) (size := 1) wr #[] 0 (Nat.le_refl _) (by unfold maxLen; omega) rfl) a3 n3 c3 o rfl (hrow3.below ((Below.refl wr.heap.size wr).alloc (Nat.le_refl _) _) (Nat.le_refl _)) hn2 (by simp) ?_; intro v1 w1 hown4 hg1 hat1; simp only [Nat.zero_add, List.nil_append] at hown4; have hb4 : Below wr.heap.size wr w1 := ((Below.refl wr.heap.size wr).alloc (Nat.le_refl _) _).grown hg1 (by simp) fun r e => by cases e; exact Nat.le_refl _)
                | (at_builtin; refine wpList_append_ints _ rfl (.tmp 37) (.tmp 39) _ rfl wr.heap.size 3 j0 Try.underlying22 hj0 hy0 hy1 hy2 v1 n3 o rfl (hown4.alloc _) _ 1 1 [(x : Int)] rfl (IntsAt.one w1 x 3) hn4 (le_alloc hb4.size) ?_; intro v2 w2 hown5 hg2 hat2; obtain ⟨a5, c5, rfl, hI5⟩ := IntsAt.own hown5; have hb5 : Below wr.heap.size wr w2 := (hb4.alloc hb4.size _).grown hg2 (le_alloc hb4.size) fun r e => (hown4.lt r e).1)
                | (at_builtin; refine wpList_push_list _ rfl (.tmp 31) (.tmp 41) _ rfl wo.heap.size 22 i0 Try.underlying28 hi0 hz0 hz1 hz2 u5 cu3 rfl (hown3.below hb5 (Nat.le_refl _)) a5 (n3 + 1) c5 (o ++ [(x : Int)]) 22 rfl hI5 (fun b off hb ha e => by have h1 := Hlt3.out b e; have h2 := (hown5.lt b (by rw [ha]; rfl)).1; omega) (by have := Hcl3.out; omega) (Nat.le_trans hsz3 hb5.size) ?_; intro v6 w6 hown6 hg6 hat6))
              have hb6 : Below wo.heap.size wo w6 := belowL_app (hbel3.trans (hb5.mono hsz3)) (Nat.le_trans hsz3 hb5.size) (hown3.below hb5 (Nat.le_refl _)) hg6
              go_roundw
              case rel => exact ⟨x + 1, by omega, by go_num, by rw [Hs.out, ← List.append_assoc, Hcu.out]; exact hown6, hb6⟩
              case measure => simp [intOf]; omega
            · obtain rfl : x = m := by omega
              go_wp2
              go_roundw
              case rel => exact ⟨j + 1, by omega, by go_num, by rw [Hsn.out]; exact hown3, hbel3⟩
              case measure => simp [intOf]; omega
        · obtain rfl : j = O.length := by omega
          rw [stepK_all] at hown2
          have Hb := hid_ (Hbel.out.trans (hbel2.mono hsz))
          go_wp2
          go_roundw
          case rel => exact ⟨k + 1, by omega, by go_num, by rw [Hnext.out]; exact hown2.base hsz, Hb.out⟩
          case measure => simp [intOf]; omega
    · obtain rfl : k = n := by omega
      go_wp2
      go_ret
      exact ⟨_, rfl, by rw [HLn.out]; exact hown.base hw1s, Hc1.out.trans (hbel.mono hw1s)⟩
end Go.Proofs.Ytahknodnjjmagaa
