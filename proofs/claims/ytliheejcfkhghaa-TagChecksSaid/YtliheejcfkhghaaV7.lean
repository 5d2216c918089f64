import Derived.Test.YtliheejcfkhghaaV6
namespace Go.Proofs.Kv
open Go.RowKit Go
/-- an own row of slices, whose numbers lie in an older world W0 -/
structure OldS (E : TypeId) (W0 w : World) (v : Value) (us : List Value) (ls : List (List Int)) : Prop where
  top : w.ownsRow W0.heap.size E 1 v ls.length us
  at_ : ∀ i, i < ls.length → ∃ a n c, us[i]? = some (.slice a n c) ∧ IntsAt W0 a n c (ls.getD i [])
theorem OldS.nil (E : TypeId) (W0 w : World) : OldS E W0 w (.slice none 0 0) [] [] := ⟨World.ownsRow_nil _ _ _ _, fun i hi => absurd hi (by simp)⟩
theorem OldS.below {E : TypeId} {W0 w w' : World} {B' : Nat} {v : Value} {us : List Value} {ls : List (List Int)} (h : OldS E W0 w v us ls) (hb : Below B' w w') (hB : w.heap.size ≤ B') : OldS E W0 w' v us ls := ⟨own_below h.top hb hB, h.at_⟩
theorem OldS.push {E : TypeId} {W0 w' : World} {v' : Value} {us : List Value} {ls : List (List Int)} {a : Option Addr} {n c : Nat} {r : List Int} (hat : ∀ i, i < ls.length → ∃ a n c, us[i]? = some (.slice a n c) ∧ IntsAt W0 a n c (ls.getD i [])) (hl : us.length = ls.length)
    (hown : w'.ownsRow W0.heap.size E 1 v' (ls.length + 1) (us ++ [.slice a n c])) (hr : IntsAt W0 a n c r) : OldS E W0 w' v' (us ++ [.slice a n c]) (ls ++ [r]) := by
  refine ⟨by simpa using hown, fun i hi => ?_⟩
  rw [List.length_append, List.length_singleton] at hi
  by_cases hlt : i < ls.length
  · obtain ⟨a, n, c, e, h⟩ := hat i hlt
    refine ⟨a, n, c, by rw [List.getElem?_append_left (by omega)]; exact e, ?_⟩
    rw [show (ls ++ [r]).getD i [] = ls.getD i [] by simp [List.getD, List.getElem?_append_left hlt]]; exact h
  · obtain rfl : i = ls.length := by omega
    refine ⟨a, n, c, by rw [List.getElem?_append_right (by omega), hl, Nat.sub_self]; rfl, ?_⟩
    rw [show (ls ++ [r]).getD ls.length [] = r by simp [List.getD]]; exact hr
theorem OldS.ulen {E : TypeId} {W0 w : World} {v : Value} {us : List Value} {ls : List (List Int)} (h : OldS E W0 w v us ls) : us.length = ls.length := by have := h.top.1; omega
theorem OldS.lists {E : TypeId} {W0 w : World} {v : Value} {us : List Value} {ls : List (List Int)} (h : OldS E W0 w v us ls) (hb : Below W0.heap.size W0 w) : ∃ a c, v = .slice a ls.length c ∧ ListsAt w a ls.length c ls := by
  have hat := h.at_
  rcases h.top.2 with ⟨rfl, h0⟩ | ⟨g, cap, cur, rfl, _, hg, hn, hm, hs, ht⟩
  · rw [h0]
    exact ⟨none, 0, rfl, h0, Nat.le_refl _, by omega, fun i hi => absurd hi (by omega)⟩
  · refine ⟨_, cap, rfl, rfl, hn, by unfold maxLen at hm; omega, fun i hi => ?_⟩
    obtain ⟨a, n, c, e, hI⟩ := hat i hi
    have hc := h.top.cells (g := g) rfl i _ e
    have : (⟨g, 0, none⟩ : Addr).add i = ⟨g, 0 + i, none⟩ := by unfold Addr.add; split <;> simp_all
    rw [this] at hc
    exact ⟨g, 0, a, _, c, rfl, (Array.getElem?_eq_some_iff.1 hg).1, hc, hI.below hb (Nat.le_refl _)⟩
theorem OldS.cell {E : TypeId} {W0 w : World} {v : Value} {us : List Value} {ls : List (List Int)} (h : OldS E W0 w v us ls) {i : Nat} (hi : i < ls.length) : ∃ g cap a n c, v = .slice (some ⟨g, 0, none⟩) ls.length cap ∧ W0.heap.size ≤ g ∧ g < w.heap.size ∧ w.cell? ⟨g, i, none⟩ = some (.slice a n c) ∧ IntsAt W0 a n c (ls.getD i []) := by
  obtain ⟨a, n, c, e, hI⟩ := h.at_ i hi
  have hlt := h.top.lt
  rcases h.top.2 with ⟨rfl, h0⟩ | ⟨g, cap, cur, rfl, _, hg, hn, hm, hs, ht⟩
  · omega
  · have hc := h.top.cells (g := g) rfl i _ e
    have : (⟨g, 0, none⟩ : Addr).add i = ⟨g, 0 + i, none⟩ := by unfold Addr.add; split <;> simp_all
    rw [this, Nat.zero_add] at hc
    exact ⟨g, cap, a, n, c, rfl, (hlt g rfl).1, (hlt g rfl).2, hc, hI⟩
end Go.Proofs.Kv
namespace Go.Proofs.Ytliheejcfkhghaa
open Go.RowKit Go.Proofs.Kv Go

/-! ### begins, has -/
set_option maxRecDepth 100000 in
set_option maxHeartbeats 2000000 in
theorem begins_yes (a : Option Addr) (n c : Nat) (x : List Int) (a2 : Option Addr) (n2 c2 : Nat) (l : List Int) (w : World) (h : IntsAt w a n c x) (h2 : IntsAt w a2 n2 c2 l) (hb : begT x l = true) :
    Calls Try.prog 80 #[.slice a n c, .slice a2 n2 c2] w fun e w' => e = .returned (.tuple #[.slice (if c2 = n then a2 else a2.map (·.add n)) (n2 - n) (c2 - n), .bool true]) ∧ ∃ q, w' = w.drewN q := by
  unfold begT at hb
  rw [h.len, h2.len, Bool.and_eq_true, decide_eq_true_eq] at hb
  obtain ⟨hle, heq⟩ := hb
  have hnc : n ≤ c2 := Nat.le_trans hle h2.le
  have hle2 := h2.le
  have hsm := h2.small
  have HE := hid_ (sameI8_calls a n c x _ _ _ _ w h (h2.take hle))
  rw [decide_eq_true (of_decide_eq_true heq).symm] at HE
  have hng : ¬ (n : Int) > (n2 : Int) := by omega
  have hsl := fun W => run_slice_low a2 n2 c2 n hle W
  obtain ⟨ax, hax⟩ : ∃ ax, (if c2 = n then a2 else a2.map (·.add n)) = ax := ⟨_, rfl⟩
  rw [hax] at hsl ⊢
  clear h h2 heq
  go_enter Try.func80, Try.ntmps80
  go_wp2_with (go_at_call 37; (with_reducible refine HE.out.mono ?_); rintro e w2 ⟨rfl, q, rfl⟩)
  go_ret2
  exact ⟨rfl, _, rfl⟩
set_option maxRecDepth 100000 in
set_option maxHeartbeats 2000000 in
theorem begins_no (a : Option Addr) (n c : Nat) (x : List Int) (a2 : Option Addr) (n2 c2 : Nat) (l : List Int) (w : World) (h : IntsAt w a n c x) (h2 : IntsAt w a2 n2 c2 l) (hb : begT x l = false) :
    Calls Try.prog 80 #[.slice a n c, .slice a2 n2 c2] w fun e w' => e = .returned (.tuple #[.slice none 0 0, .bool false]) ∧ ∃ q, w' = w.drewN q := by
  unfold begT at hb
  rw [h.len, h2.len] at hb
  by_cases hle : n ≤ n2
  · rw [decide_eq_true hle, Bool.true_and, decide_eq_false_iff_not] at hb
    have hnc : n ≤ c2 := Nat.le_trans hle h2.le
    have hle2 := h2.le
    have hsm := h2.small
    have HE := hid_ (sameI8_calls a n c x _ _ _ _ w h (h2.take hle))
    rw [decide_eq_false (fun e => hb e.symm)] at HE
    have hng : ¬ (n : Int) > (n2 : Int) := by omega
    clear h h2 hb
    go_enter Try.func80, Try.ntmps80
    go_wp2_with (go_at_call 37; (with_reducible refine HE.out.mono ?_); rintro e w2 ⟨rfl, q, rfl⟩)
    go_ret2
    exact ⟨rfl, _, rfl⟩
  · have hng : (n : Int) > (n2 : Int) := by omega
    clear h h2 hb
    go_enter Try.func80, Try.ntmps80
    go_wp2
    go_ret2
    exact ⟨rfl, 0, rfl⟩
def hasB (ls : List (List Int)) (l : List Int) : Bool := ls.any fun r => decide (r = l)
theorem hasB_iff {ls : List (List Int)} {l : List Int} : hasB ls l = true ↔ l ∈ ls := by
  unfold hasB; rw [List.any_eq_true]
  exact ⟨fun ⟨r, h, e⟩ => by rw [← of_decide_eq_true e]; exact h, fun h => ⟨l, h, decide_eq_true rfl⟩⟩
set_option maxRecDepth 100000 in
set_option maxHeartbeats 2000000 in
theorem has_calls (a : Option Addr) (n c : Nat) (ls : List (List Int)) (a2 : Option Addr) (n2 c2 : Nat) (l : List Int) (w : World) (h : ListsAt w a n c ls) (h2 : IntsAt w a2 n2 c2 l) :
    Calls Try.prog 81 #[.slice a n c, .slice a2 n2 c2] w fun e w' => e = .returned (.bool (hasB ls l)) ∧ ∃ q, w' = w.drewN q := by
  have hn : n ≤ 9223372036854775807 := Nat.le_trans h.le h.small
  have HY := hid_ (fun k (hk : k < n) (hh : decide (ls.getD k [] = l) = true) => show hasB ls l = true from @any_hit (List Int) ls (fun p => decide (p = l)) k [] (by rw [h.len]; exact hk) hh)
  have HN := hid_ (fun (hh : ∀ k, k < n → decide (ls.getD k [] = l) = false) => show hasB ls l = false from @any_no (List Int) ls (fun p => decide (p = l)) n [] h.len hh)
  have HP := hid_ (fun q => h.drewN q); have HL := hid_ (fun q => h2.drewN q)
  clear h h2
  generalize hasB ls l = R at *
  go_enter Try.func81, Try.ntmps81
  go_wp2
  go_loopw [5] (fun i wr => ∃ k q : Nat, k ≤ n ∧ i = .int .i64 k ∧ wr = w.drewN q ∧ ∀ j, j < k → decide (ls.getD j [] = l) = false) (fun i _ => n - (intOf i).toNat)
  case atStart => exact ⟨0, 0, Nat.zero_le _, rfl, rfl, fun _ h => absurd h (by omega)⟩
  case round =>
    obtain ⟨k, q, hk, rfl, hq, hall⟩ := hrel
    have Hall := hid_ hall; have Hq := hid_ hq
    have hLl : ListsAt wr a n c ls := by rw [hq]; exact HP.out q
    have hl2 : IntsAt wr a2 n2 c2 l := by rw [hq]; exact HL.out q
    clear hall hq
    by_cases hlt : k < n
    · obtain ⟨b, off, a3, n3, c3, rfl, -, k0, hw⟩ := hLl.cells k hlt
      have hy := HY.out k hlt
      have hno := fun hx => lt_snoc (p := fun j => decide (ls.getD j [] = l) = false) Hall.out hx
      have hno' : decide (ls.getD k [] = l) = false → ∀ j, j < k + 1 → decide (ls.getD j [] = l) = false := hno
      have HC := hid_ (sameI8_calls _ _ _ _ _ _ _ _ wr hw hl2)
      clear hno hw hLl hl2
      cases hm : decide (ls.getD k [] = l) with
      | true =>
        rw [hm] at HC
        have HR := hid_ (hy hm)
        clear hm hy hno'
        go_wp2_with (go_at_call 37; (with_reducible refine HC.out.mono ?_); rintro e w4 ⟨rfl, q4, hw4⟩)
        go_ret
        exact ⟨retB HR.out, _, by rw [Hq.out, drewN2]⟩
      | false =>
        rw [hm] at HC
        have Hf := hid_ (hno' hm)
        clear hm hy hno'
        go_wp2_with (go_at_call 37; (with_reducible refine HC.out.mono ?_); rintro e w4 ⟨rfl, q4, hw4⟩)
        go_roundw
        case rel => exact ⟨k + 1, _, by omega, by go_num, by rw [Hq.out, drewN2], Hf.out⟩
        case measure => simp [intOf]; omega
    · obtain rfl : n = k := by omega
      have HR := hid_ (HN.out Hall.out)
      clear hLl hl2
      go_wp2
      go_ret
      exact ⟨retB HR.out, _, Hq.out⟩
end Go.Proofs.Ytliheejcfkhghaa
