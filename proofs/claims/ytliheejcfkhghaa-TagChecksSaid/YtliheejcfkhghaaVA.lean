import Derived.Test.YtliheejcfkhghaaV9
namespace Go.Proofs.Ytliheejcfkhghaa
open Go.RowKit Go.Proofs.Kv Go

/-! ### the law TagCodes -/
noncomputable def twoB (L : Lx) : Bool := if validL L = 0 then !codeB L else false
theorem two_calls8 (v : Value) (L : Lx) (w : World) (h : LexAt w v L) :
    Calls Try.prog 42 #[v] w fun e w' => ∃ v1 v2 s l, e = .returned (.tuple #[v1, v2, .bool (twoB L), .int .i64 (validL L)]) ∧ SlAt w' none v1 s ∧ SlAt w' none v2 l ∧ (twoB L = true → twoE L s l = 0) ∧ (twoB L = false → s = [] ∧ l = []) ∧ Below w.heap.size w w' :=
  (taTwo_calls v L w h).mono fun e w' ⟨v1, v2, s, l, ok, he, h1, h2, ht, hb⟩ => by
    by_cases h0 : validL L = 0
    · obtain ⟨a1, a2, a3⟩ := ht.2 h0
      have hc : (!ok) = codeB L := a1.uniq ((codeB_is L).2 h0)
      have hk : twoB L = ok := by unfold twoB; rw [if_pos h0, ← hc, Bool.not_not]
      refine ⟨v1, v2, s, l, by rw [hk]; exact he, h1, h2, fun h => ?_, fun h => a3 (hk.symm.trans h), hb⟩
      obtain ⟨b1, b2, b3, b4, b5⟩ := a2 (hk.symm.trans h)
      unfold twoE
      rw [if_pos h0, if_neg (by omega), if_pos (by rw [b2, b3]; rfl), if_neg]
      rintro (e | e)
      · exact b1 e
      · exact e b4
    · obtain ⟨rfl, rfl, rfl⟩ := ht.1 h0
      have hk : twoB L = false := by unfold twoB; rw [if_neg h0]
      exact ⟨v1, v2, [], [], by rw [hk]; exact he, h1, h2, fun h => (by rw [hk] at h; cases h), fun _ => ⟨rfl, rfl⟩, hb⟩
set_option maxRecDepth 100000 in
set_option maxHeartbeats 4000000 in
theorem tagCodes_calls (v : Value) (L : Lx) (w : World) (h : LexAt w v L) :
    Calls Try.prog 10 #[v] w fun e w' => e = .returned (.bool true) ∧ Below w.heap.size w w' := by
  have HP := hid_ h
  obtain ⟨a1, n1, c1, a2, n2, c2, rfl, h1, h2⟩ := h
  obtain ⟨w1, hw1⟩ : ∃ w1, w.alloc (.cells #[.slice a1 n1 c1, .slice a2 n2 c2] 25) = w1 := ⟨_, rfl⟩
  have cb : Below w.heap.size w w1 := by rw [← hw1]; exact below_alloc _ _
  have q0 : w1.cell? ⟨w.heap.size, 0, none⟩ = some (.slice a1 n1 c1) := by rw [← hw1]; exact cells_alloc _ _ _ 0
  have q1 : w1.cell? ⟨w.heap.size, 1, none⟩ = some (.slice a2 n2 c2) := by rw [← hw1]; exact cells_alloc _ _ _ 1
  have HP1 := hid_ (HP.out.below cb (Nat.le_refl _)); have Hc1 := hid_ cb
  have HG := hid_ (long8_calls _ L none 0 0 [] w1 HP1.out (ListsAt.nil _ _ _ (by omega)))
  have HQ := hid_ (fun W (hW : Below w1.heap.size w1 W) => (⟨cell_below q0 hW, cell_below q1 hW⟩ : _ ∧ _))
  have HA := hid_ (fun W (hW : Below w1.heap.size w1 W) => code_calls _ L W (HP1.out.below hW (Nat.le_refl _)))
  have HB := hid_ (fun W (hW : Below w1.heap.size w1 W) => r8IsCode_calls _ L W (HP1.out.below hW (Nat.le_refl _)))
  have HT := hid_ (fun W (hW : Below w1.heap.size w1 W) => two_calls8 _ L W (HP1.out.below hW (Nat.le_refl _)))
  have HC := hid_ (fun W (hW : Below w1.heap.size w1 W) a n c s a' n' c' t (hs : IntsAt W a n c s) (ht : IntsAt W a' n' c' t) (h0 : twoE L s t = 0) => (by have := r8CheckTwo_calls _ L a n c s a' n' c' t W (HP1.out.below hW (Nat.le_refl _)) hs ht; rw [h0] at this; exact this : Calls Try.prog 39 #[_, .slice a n c, .slice a' n' c'] W fun e w' => e = .returned (.int .i64 0) ∧ Below W.heap.size W w'))
  have HK := hid_ sane_calls
  have HX : Hid (validL L ≠ 0 → codeB L = false ∧ twoB L = false) := hid_ (fun h0 => ⟨(codeB_is L).1 h0, by unfold twoB; rw [if_neg h0]⟩)
  have HY : Hid (validL L = 0 → twoB L = !codeB L) := hid_ (fun h0 => by unfold twoB; rw [if_pos h0])
  clear h1 h2 HP HP1 cb
  cases hg : longX L [] with
  | true =>
    rw [hg] at HG
    clear hg
    go_enter Try.func10, Try.ntmps10
    go_wp2_with (first
      | (go_at_call 18; (with_reducible refine HG.out.mono ?_); rintro e w2 ⟨rfl, hb2⟩)
      | (go_at_call 19; (with_reducible refine (HK.out _).mono ?_); rintro e w3 ⟨rfl, hb3⟩))
    go_ret
    exact ⟨rfl, Hc1.out.trans ((below_then8 hb2 hb3).mono Hc1.out.size)⟩
  | false =>
    rw [hg] at HG
    clear hg
    generalize codeB L = b at *
    generalize twoB L = k at *
    generalize validL L = x at *
    have hxx : (x != x) = false := by simp
    by_cases h0 : x = 0
    · subst h0
      have hk := HY.out rfl
      subst hk
      cases b with
      | true =>
        simp only [Bool.not_true] at HT
        go_enter Try.func10, Try.ntmps10
        go_wp2_with (first
          | (go_at_call 18; (with_reducible refine HG.out.mono ?_); rintro e w2 ⟨rfl, hb2⟩; obtain ⟨q2, r2⟩ := HQ.out w2 hb2)
          | (go_at_call 40; (with_reducible refine (HA.out _ hb2).mono ?_); rintro e w3 ⟨rfl, hb3'⟩; have hb3 := below_then8 hb2 hb3'; obtain ⟨q3, r3⟩ := HQ.out w3 hb3)
          | (go_at_call 41; (with_reducible refine (HB.out _ hb3).mono ?_); rintro e w4 ⟨rfl, hb4'⟩; have hb4 := below_then8 hb3 hb4'; obtain ⟨q4, r4⟩ := HQ.out w4 hb4)
          | (go_at_call 42; (with_reducible refine (HT.out _ hb4).mono ?_); rintro e w5 ⟨v1, v2, s, l, rfl, hs5, hl5, hy5, hn5, hb5'⟩; have hb5 := below_then8 hb4 hb5'; obtain ⟨q5, r5⟩ := HQ.out w5 hb5; obtain ⟨rfl, rfl⟩ := hn5 (by simp); obtain ⟨a5, c5, rfl, -, -⟩ := hs5; obtain ⟨a6, c6, rfl, -, -⟩ := hl5; clear hy5; simp only [List.length_nil])
          | (go_at_call 19; (with_reducible refine (HK.out _).mono ?_); rintro e w7 ⟨rfl, hb7⟩))
        go_ret
        exact ⟨rfl, Hc1.out.trans ((below_then8 hb5 hb7).mono Hc1.out.size)⟩
      | false =>
        simp only [Bool.not_false] at HT
        go_enter Try.func10, Try.ntmps10
        go_wp2_with (first
          | (go_at_call 18; (with_reducible refine HG.out.mono ?_); rintro e w2 ⟨rfl, hb2⟩; obtain ⟨q2, r2⟩ := HQ.out w2 hb2)
          | (go_at_call 40; (with_reducible refine (HA.out _ hb2).mono ?_); rintro e w3 ⟨rfl, hb3'⟩; have hb3 := below_then8 hb2 hb3'; obtain ⟨q3, r3⟩ := HQ.out w3 hb3)
          | (go_at_call 41; (with_reducible refine (HB.out _ hb3).mono ?_); rintro e w4 ⟨rfl, hb4'⟩; have hb4 := below_then8 hb3 hb4'; obtain ⟨q4, r4⟩ := HQ.out w4 hb4)
          | (go_at_call 42; (with_reducible refine (HT.out _ hb4).mono ?_); rintro e w5 ⟨v1, v2, s, l, rfl, hs5, hl5, hy5, hn5, hb5'⟩; have hb5 := below_then8 hb4 hb5'; obtain ⟨q5, r5⟩ := HQ.out w5 hb5; have hz5 := hy5 (by simp); obtain ⟨a5, c5, rfl, hs6, -⟩ := hs5; obtain ⟨a6, c6, rfl, hl6, -⟩ := hl5; have HCh := hid_ (HC.out _ hb5 _ _ _ _ _ _ _ _ hs6 hl6 hz5); clear hy5 hn5 hs6 hl6 hz5; generalize s.length = ns at *; generalize l.length = nl at *)
          | (go_at_call 39; (with_reducible refine HCh.out.mono ?_); rintro e w6 ⟨rfl, hb6'⟩; have hb6 := below_then8 hb5 hb6')
          | (go_at_call 19; (with_reducible refine (HK.out _).mono ?_); rintro e w7 ⟨rfl, hb7⟩))
        go_ret
        exact ⟨rfl, Hc1.out.trans ((below_then8 hb6 hb7).mono Hc1.out.size)⟩
    · obtain ⟨rfl, rfl⟩ := HX.out h0
      have hq : (x != 0) = true := by simpa using h0
      clear h0
      go_enter Try.func10, Try.ntmps10
      go_wp2_with (first
        | (go_at_call 18; (with_reducible refine HG.out.mono ?_); rintro e w2 ⟨rfl, hb2⟩; obtain ⟨q2, r2⟩ := HQ.out w2 hb2)
        | (go_at_call 40; (with_reducible refine (HA.out _ hb2).mono ?_); rintro e w3 ⟨rfl, hb3'⟩; have hb3 := below_then8 hb2 hb3'; obtain ⟨q3, r3⟩ := HQ.out w3 hb3)
        | (go_at_call 41; (with_reducible refine (HB.out _ hb3).mono ?_); rintro e w4 ⟨rfl, hb4'⟩; have hb4 := below_then8 hb3 hb4'; obtain ⟨q4, r4⟩ := HQ.out w4 hb4)
        | (go_at_call 42; (with_reducible refine (HT.out _ hb4).mono ?_); rintro e w5 ⟨v1, v2, s, l, rfl, hs5, hl5, hy5, hn5, hb5'⟩; have hb5 := below_then8 hb4 hb5'; obtain ⟨q5, r5⟩ := HQ.out w5 hb5; obtain ⟨rfl, rfl⟩ := hn5 (by simp); obtain ⟨a5, c5, rfl, -, -⟩ := hs5; obtain ⟨a6, c6, rfl, -, -⟩ := hl5; clear hy5; simp only [List.length_nil])
        | (go_at_call 19; (with_reducible refine (HK.out _).mono ?_); rintro e w7 ⟨rfl, hb7⟩))
      go_ret
      exact ⟨rfl, Hc1.out.trans ((below_then8 hb5 hb7).mono Hc1.out.size)⟩
end Go.Proofs.Ytliheejcfkhghaa
