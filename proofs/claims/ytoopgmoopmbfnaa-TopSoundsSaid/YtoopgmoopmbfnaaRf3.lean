import Derived.Test.YtoopgmoopmbfnaaSn2
import Derived.Test.YtoopgmoopmbfnaaRf2
import Derived.Laws.OwnMore
namespace Go.Proofs.Ytoopgmoopmbfnaa
open Go.RowKit Go.Proofs.Kv Go.Proofs.Snd

/-! ### the document's orders -/
def extTo (n : Nat) (o : List Int) (x : Nat) : List (List Int) := (((rangeI n).take x).filter fun y => !Has o y).map fun y => o ++ [y]
def stepTo (n : Nat) (O : List (List Int)) (i : Nat) : List (List Int) := (O.take i).flatMap fun o => extTo n o n
theorem rangeI_take {n x : Nat} (h : x < n) : (rangeI n).take (x + 1) = (rangeI n).take x ++ [(x : Int)] := by
  rw [Kv.take_snoc _ 0 x (by rw [len_rangeI]; exact h)]
  simp [rangeI, List.getD, h]
theorem extTo_in {n x : Nat} {o : List Int} (h : x < n) (hh : Has o x = false) : extTo n o (x + 1) = extTo n o x ++ [o ++ [(x : Int)]] := by
  rw [extTo, rangeI_take h, List.filter_append, List.map_append]
  simp [extTo, hh]
theorem extTo_out {n x : Nat} {o : List Int} (h : x < n) (hh : Has o x = true) : extTo n o (x + 1) = extTo n o x := by
  rw [extTo, rangeI_take h, List.filter_append, List.map_append]
  simp [extTo, hh]
theorem extTo_le (n : Nat) (o : List Int) (x : Nat) : (extTo n o x).length ≤ n := by
  rw [extTo, List.length_map]
  refine Nat.le_trans (List.length_filter_le _ _) ?_
  rw [List.length_take, len_rangeI]; omega
theorem extTo_zero (n : Nat) (o : List Int) : extTo n o 0 = [] := rfl
theorem stepTo_snoc {n i : Nat} {O : List (List Int)} (h : i < O.length) : stepTo n O (i + 1) = stepTo n O i ++ extTo n (O.getD i []) n := by
  rw [stepTo, Kv.take_snoc _ [] i h, List.flatMap_append]; simp [stepTo]
theorem stepTo_all (n : Nat) (O : List (List Int)) : stepTo n O O.length = ordStep n O := by
  unfold stepTo ordStep extTo
  rw [List.take_length, List.take_of_length_le (by rw [len_rangeI]; exact Nat.le_refl _)]
theorem stepTo_le (n : Nat) (O : List (List Int)) (i : Nat) : (stepTo n O i).length ≤ O.length * n := by
  have key : ∀ M : List (List Int), (M.flatMap fun o => extTo n o n).length ≤ M.length * n := by
    intro M
    induction M with
    | nil => simp
    | cons o M ih =>
      rw [List.flatMap_cons, List.length_append, List.length_cons, Nat.succ_mul]
      have := extTo_le n o n
      omega
  refine Nat.le_trans (key _) (Nat.mul_le_mul_right _ ?_)
  rw [List.length_take]; omega
def iterOk (n : Nat) : Bool := (List.range (n + 1)).all fun k => decide ((ordIter n k).length ≤ 720) && (ordIter n k).all fun o => decide (o.length = k)
theorem iter_ok {n : Nat} (h1 : 1 ≤ n) (h6 : n ≤ 6) : iterOk n = true := by
  match n, h1, h6 with
  | 1, _, _ => decide +kernel
  | 2, _, _ => decide +kernel
  | 3, _, _ => decide +kernel
  | 4, _, _ => decide +kernel
  | 5, _, _ => decide +kernel
  | 6, _, _ => decide +kernel
theorem iter_len {n k : Nat} (h1 : 1 ≤ n) (h6 : n ≤ 6) (hk : k ≤ n) : (ordIter n k).length ≤ 720 ∧ ∀ o ∈ ordIter n k, o.length = k := by
  have h := iter_ok h1 h6
  unfold iterOk at h
  have h2 := List.all_eq_true.1 h k (List.mem_range.2 (by omega))
  rw [Bool.and_eq_true] at h2
  exact ⟨of_decide_eq_true h2.1, fun o ho => of_decide_eq_true (List.all_eq_true.1 h2.2 o ho)⟩

theorem ownL_one (w : World) (E : TypeId) : OwnL E (w.alloc (.cells #[.slice none 0 0] E)) w.heap.size (.slice (some ⟨w.heap.size, 0, none⟩) 1 1) [[]] :=
  ⟨[.slice none 0 0], World.ownsRow_lit (base := w.heap.size) (e := E) (size := 1) w #[.slice none 0 0] 1 (Nat.le_refl _) (by unfold maxLen; omega) rfl, fun i hi => by
    obtain rfl : i = 0 := by simpa using hi
    exact ⟨none, 0, 0, rfl, IntsAt.nil _ _ _ (by omega), fun _ _ h => absurd h (by omega)⟩⟩

set_option maxRecDepth 100000 in
set_option maxHeartbeats 1000000 in
theorem refOrders_calls (n : Nat) (w : World) (h1 : 1 ≤ n) (h6 : n ≤ 6) :
    Calls Try.prog 58 #[.int .i64 n] w fun e w' => ∃ v, e = .returned v ∧ MadeL 23 w w' v (ordersL n) := by
  obtain ⟨i0, hi0, hz0, hz1, hz2⟩ := info_parts Try.infoInts
  obtain ⟨j0, hj0, hy0, hy1, hy2⟩ := info_parts Try.infoInt
  go_enter Try.func58, Try.ntmps58
  go_wp2
  go_loopw [3, 4] (fun v i wr => ∃ k : Nat, k ≤ n ∧ i = .int .i64 k ∧ OwnL 23 wr w.heap.size v (ordIter n k) ∧ Below w.heap.size w wr) (fun _ i _ => n - (intOf i).toNat)
  case atStart => exact ⟨0, Nat.zero_le _, rfl, ownL_one _ _, (Below.refl _ _).alloc (Nat.le_refl _) _⟩
  case round =>
    obtain ⟨k, hk, rfl, hown, hbel⟩ := hrel
    by_cases hlt : k < n
    · obtain ⟨a1, c1, rfl, hL⟩ := hown.at_
      have hlens := iter_len h1 h6 hk
      have Hnext : Hid (ordIter n (k + 1) = ordStep n (ordIter n k)) := hid_ rfl
      have hOl := hlens.1
      have Hrow : Hid (∀ o ∈ ordIter n k, o.length ≤ 6) := hid_ fun o ho => by rw [hlens.2 o ho]; omega
      have Hbel := hid_ hbel
      have hsz := hbel.size
      clear hown hlens hbel
      generalize ordIter n k = O at hL Hnext hOl Hrow ⊢
      have hO9 : O.length ≤ 9223372036854775807 := by omega
      go_wp2
      obtain ⟨wo, rfl⟩ : ∃ wo : World, wo = wr := ⟨_, rfl⟩
      go_loopw [5, 6] (fun v i wr => ∃ j : Nat, j ≤ O.length ∧ i = .int .i64 j ∧ OwnL 23 wr wo.heap.size v (stepTo n O j) ∧ Below wo.heap.size wo wr) (fun _ i _ => O.length - (intOf i).toNat)
      case atStart => exact ⟨0, Nat.zero_le _, rfl, OwnL.nil _ _ _, Below.refl _ _⟩
      case round =>
        obtain ⟨j, hj, rfl, hown2, hbel2⟩ := hrel
        by_cases hlj : j < O.length
        · have hol : (O.getD j []).length ≤ 6 := Hrow.out _ (by simp [List.getD, List.getElem?_eq_getElem hlj])
          have Hsn := hid_ (stepTo_snoc (n := n) hlj)
          have hcl := stepTo_le n O j
          have Hcl : Hid ((stepTo n O j).length ≤ 4320) := hid_ (Nat.le_trans hcl (by
            have : O.length * n ≤ 720 * 6 := Nat.mul_le_mul hOl h6
            omega))
          clear hcl
          generalize stepTo n O j = cur at hown2 Hsn Hcl
          have HL : Hid (∀ W, Below wo.heap.size wo W → ∃ b off a2 n2 c2, a1 = some ⟨b, off, none⟩ ∧ b < W.heap.size ∧ W.cell? ⟨b, off + j, none⟩ = some (.slice a2 n2 c2) ∧ IntsAt W a2 n2 c2 (O.getD j [])) := hid_ fun W hW => (hL.below hW (Nat.le_refl _)).cells j hlj
          generalize O.getD j [] = o at HL hol Hsn
          go_wp2
          obtain ⟨wm, rfl⟩ : ∃ wm : World, wm = wr := ⟨_, rfl⟩
          go_loopw [5, 7] (fun v i wr => ∃ x : Nat, x ≤ n ∧ i = .int .i64 x ∧ OwnL 23 wr wo.heap.size v (cur ++ extTo n o x) ∧ Below wo.heap.size wo wr) (fun _ i _ => n - (intOf i).toNat)
          case atStart => exact ⟨0, Nat.zero_le _, rfl, by rw [extTo_zero, List.append_nil]; exact hown2, hbel2⟩
          case round =>
            obtain ⟨x, hx, rfl, hown3, hbel3⟩ := hrel
            by_cases hlx : x < n
            · obtain ⟨b, off, a2, n2, c2, rfl, hb3, hcell3, hrow3⟩ := HL.out wr hbel3
              cases hh : Has o x with
              | true =>
                have Hs := hid_ (extTo_out hlx hh)
                go_wp2_with (go_at_call 92; refine (has_as hrow3 hh).mono ?_; rintro e w' ⟨rfl, rfl⟩)
                go_roundw
                case rel => exact ⟨x + 1, by omega, by go_num, by rw [Hs.out]; exact hown3, hbel3⟩
                case measure => simp [intOf]; omega
              | false =>
                have Hs := hid_ (extTo_in hlx hh)
                have Hcl3 : Hid ((cur ++ extTo n o x).length ≤ 4326) := hid_ (by
                  have h1 := Hcl.out
                  have h2 := extTo_le n o x
                  rw [List.length_append]; omega)
                generalize hcu : cur ++ extTo n o x = cu3 at hown3 Hcl3
                have Hcu := hid_ hcu; clear hcu
                have Hlt3 : Hid (∀ b, u5.ownBlock = some b → b < wr.heap.size) := hid_ fun b hb => (hown3.lt b hb).2
                have hol1 : ([] : List Int).length = 0 := rfl
                have hn2 : 0 + n2 ≤ 1000000 := by have := hrow3.len; omega
                have hn3 : n2 + 1 ≤ 1000000 := by have := hrow3.len; omega
                have hsz3 := hbel3.size
                go_wp2_with (first
                  | (go_at_call 92; refine (has_as hrow3 hh).mono ?_; rintro e w' ⟨rfl, rfl⟩)
                  | (at_builtin; refine wpList_append_ints _ rfl (.tmp 33) (.tmp 37) _ rfl wr.heap.size 3 j0 Try.underlying23 hj0 hy0 hy1 hy2 _ 0 [] rfl (World.ownsRow_lit (base := wr.heap.size) (e := 3) (size := 1) wr #[] 0 (Nat.le_refl _) (by unfold maxLen; omega) rfl) a2 n2 c2 o rfl (hrow3.below ((Below.refl wr.heap.size wr).alloc (Nat.le_refl _) _) (Nat.le_refl _)) hn2 (by simp) ?_; intro v1 w1 hown4 hg1 hat1
                     simp only [Nat.zero_add, List.nil_append] at hown4
                     have hb4 : Below wr.heap.size wr w1 := ((Below.refl wr.heap.size wr).alloc (Nat.le_refl _) _).grown hg1 (by simp) fun r e => by cases e; exact Nat.le_refl _)
                  | (at_builtin; refine wpList_append_ints _ rfl (.tmp 38) (.tmp 40) _ rfl wr.heap.size 3 j0 Try.underlying23 hj0 hy0 hy1 hy2 v1 n2 o rfl (hown4.alloc _) _ 1 1 [(x : Int)] rfl (IntsAt.one w1 x 3) hn3 (le_alloc hb4.size) ?_; intro v2 w2 hown5 hg2 hat2
                     obtain ⟨a5, c5, rfl, hI5⟩ := IntsAt.own hown5
                     have hb5 : Below wr.heap.size wr w2 := (hb4.alloc hb4.size _).grown hg2 (le_alloc hb4.size) fun r e => (hown4.lt r e).1)
                  | (at_builtin; refine wpList_push_list _ rfl (.tmp 32) (.tmp 42) _ rfl wo.heap.size 23 i0 Try.underlying22 hi0 hz0 hz1 hz2 u5 cu3 rfl (hown3.below hb5 (Nat.le_refl _)) a5 (n2 + 1) c5 (o ++ [(x : Int)]) 23 rfl hI5 (fun b off hb ha e => by have h1 := Hlt3.out b e; have h2 := (hown5.lt b (by rw [ha]; rfl)).1; omega) (by have := Hcl3.out; omega) (Nat.le_trans hsz3 hb5.size) ?_; intro v6 w6 hown6 hg6 hat6)
                  | fail)
                have hb6 : Below wo.heap.size wo w6 := belowL_app (hbel3.trans (hb5.mono hsz3)) (Nat.le_trans hsz3 hb5.size) (hown3.below hb5 (Nat.le_refl _)) hg6
                have hk6 := hown3.below hb5 (Nat.le_refl _)
                go_roundw
                case rel => exact ⟨x + 1, by omega, by go_num, by rw [Hs.out, ← List.append_assoc, Hcu.out]; exact hown6, hb6⟩
                case measure => simp [intOf]; omega
            · obtain rfl : x = n := by omega
              go_wp2
              go_roundw
              case rel => exact ⟨j + 1, by omega, by go_num, by rw [Hsn.out]; exact hown3, hbel3⟩
              case measure => simp [intOf]; omega
        · obtain rfl : j = O.length := by omega
          rw [stepTo_all] at hown2
          have Hb := hid_ (Hbel.out.trans (hbel2.mono hsz))
          go_wp2
          go_roundw
          case rel => exact ⟨k + 1, by omega, by go_num, by rw [Hnext.out]; exact hown2.base hsz, Hb.out⟩
          case measure => simp [intOf]; omega
    · obtain rfl : k = n := by omega
      go_wp2
      go_ret
      exact ⟨_, rfl, hown, hbel⟩
end Go.Proofs.Ytoopgmoopmbfnaa
namespace Go.Proofs.Ytoopgmoopmbfnaa
open Go.RowKit Go.Proofs.Kv Go.Proofs.Snd

/-! ### the first order that fits -/
theorem find_congr {p q : List Int → Bool} : ∀ {O : List (List Int)}, (∀ o ∈ O, p o = q o) → O.find? p = O.find? q
  | [], _ => rfl
  | o :: O, h => by rw [List.find?_cons, List.find?_cons, h o (by simp), find_congr fun x hx => h x (by simp [hx])]
def ordsOk (n : Nat) : Bool := (ordersL n).all fun o => IsOrd o n
theorem ords_ok {n : Nat} (h1 : 1 ≤ n) (h6 : n ≤ 6) : ordsOk n = true := by
  match n, h1, h6 with
  | 1, _, _ => decide +kernel
  | 2, _, _ => decide +kernel
  | 3, _, _ => decide +kernel
  | 4, _, _ => decide +kernel
  | 5, _, _ => decide +kernel
  | 6, _, _ => decide +kernel
theorem orderRes_eq {m : Int} {F : List (List Int)} (h : famErr m F = 0) : orderRes m F = (ordersL m.toNat).find? (fitsB F) := by
  obtain ⟨⟨h1, h6⟩, _⟩ := famErr_ok h
  refine find_congr fun o ho => fit_eq h ?_
  have := List.all_eq_true.1 (ords_ok (n := m.toNat) (by omega) (by omega)) o ho
  rwa [show ((m.toNat : Nat) : Int) = m by omega] at this
theorem fits_as {a : Option Addr} {n c : Nat} {F : List (List Int)} {a' : Option Addr} {n' c' : Nat} {o : List Int} {w : World} {b : Bool} (h : ListsAt w a n c F) (h' : IntsAt w a' n' c' o) (hs : n' ≤ 1000000) (hb : fitsB F o = b) :
    Calls Try.prog 53 #[.slice a n c, .slice a' n' c'] w fun e w' => e = .returned (.bool b) ∧ w = w' := by subst hb; exact refFits_calls a n c F a' n' c' o w h h' hs

end Go.Proofs.Ytoopgmoopmbfnaa
