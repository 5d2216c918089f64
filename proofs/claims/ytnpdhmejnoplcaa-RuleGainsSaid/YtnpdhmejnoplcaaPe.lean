import Derived.Test.YtnpdhmejnoplcaaPd
namespace Go.Proofs.Ytnpdhmejnoplcaa
open Go.RowKit Go.Proofs.Kv

theorem atL_range {l : List Int} (h : isWord l = true) (i : Int) : -1 ≤ atL l i ∧ atL l i ≤ 5 := by
  unfold atL
  split
  · rename_i hw
    rw [isWord, List.all_eq_true] at h
    have := h (l.getD i.toNat 0) (getD_mem (by simp [Within] at hw; omega))
    generalize l.getD i.toNat 0 = y at this
    simp [Within] at this; omega
  · omega
/-- is i a place, for a From and what may be by both sides -/
def plB (f : Int) (le ri : List Int) (l : List Int) (i : Int) : Bool :=
  if i < 0 then false else if (l.length : Int) < i then false else if f = -1 then mayL le (atL l (i - 1)) && mayL ri (atL l i)
  else (atL l i == f) && mayL le (atL l (i - 1)) && mayL ri (atL l (i + 1))
set_option maxRecDepth 100000 in
set_option maxHeartbeats 1000000 in
theorem isPlaceP_calls (f : Int) (le ri : List Int) (a : Option Addr) (n c : Nat) (l : List Int) (i : Int) (w : World) (h : IntsAt w a n c l) (hw : isWord l = true) (hn : n ≤ 100) :
    Calls Try.prog 128 #[.int .i64 f, .agg #[.func (.func 182) #[.agg (nbV le)] #[], .func (.func 182) #[.agg (nbV ri)] #[]], .slice a n c, .int .i64 i] w fun e w' => e = .returned (.bool (plB f le ri l i)) ∧ Below w.heap.size w w' := by
  have Hn := hid_ h.len
  by_cases h0 : i < 0
  · have Hf : Hid (plB f le ri l i = false) := hid_ (by rw [plB, if_pos h0])
    go_enter Try.func128, Try.ntmps128
    go_wp2
    go_ret
    exact ⟨retB Hf.out, below_alloc _ _⟩
  · by_cases h1 : (n : Int) < i
    · have Hf : Hid (plB f le ri l i = false) := hid_ (by rw [plB, if_neg h0, Hn.out, if_pos h1])
      go_enter Try.func128, Try.ntmps128
      go_wp2
      go_ret
      exact ⟨retB Hf.out, below_alloc _ _⟩
    · have Hf : Hid (plB f le ri l i = bif (f == -1) then mayL le (atL l (i - 1)) && mayL ri (atL l i) else (atL l i == f) && mayL le (atL l (i - 1)) && mayL ri (atL l (i + 1))) := hid_ (by
        rw [plB, if_neg h0, Hn.out, if_neg h1]
        cases hf : (f == -1)
        · rw [if_neg (by simpa using hf)]; rfl
        · rw [if_pos (by simpa using hf)]; rfl)
      have hw1 : IntKind.i64.wrap (i - 1) = i - 1 := IntWalk.i64_in _ (by omega)
      have hw2 : IntKind.i64.wrap (i + 1) = i + 1 := IntWalk.i64_in _ (by omega)
      have Hb := hid_ (below_alloc w (.cells #[.func (.func 182) #[.agg (nbV le)] #[], .func (.func 182) #[.agg (nbV ri)] #[]] 107))
      have e0 := fun d os => cell_regrown (w := w.alloc (.cells #[.func (.func 182) #[.agg (nbV le)] #[], .func (.func 182) #[.agg (nbV ri)] #[]] 107)) (a := ⟨w.heap.size, 0, none⟩) (v := .func (.func 182) #[.agg (nbV le)] #[]) (by simp) d os
      have e1 := fun d os => cell_regrown (w := w.alloc (.cells #[.func (.func 182) #[.agg (nbV le)] #[], .func (.func 182) #[.agg (nbV ri)] #[]] 107)) (a := ⟨w.heap.size, 1, none⟩) (v := .func (.func 182) #[.agg (nbV ri)] #[]) (by simp) d os
      have hS := fun i => fun d os => grow_same (soundAt_calls a n c l i _ ((h.below Hb.out (Nat.le_refl _)).grown d os))
      have S1 := hid_ (hS (i - 1))
      have S2 := hid_ (hS i)
      have S3 := hid_ (hS (i + 1))
      obtain ⟨r1, r1'⟩ := atL_range hw (i - 1)
      obtain ⟨r2, r2'⟩ := atL_range hw i
      obtain ⟨r3, r3'⟩ := atL_range hw (i + 1)
      clear hS hw
      generalize atL l (i - 1) = x1 at *
      generalize atL l i = x2 at *
      generalize atL l (i + 1) = x3 at *
      have G1 := hid_ (fun W => has7_calls le x1 W r1 r1')
      have G2 := hid_ (fun W => has7_calls ri x2 W r2 r2')
      have G3 := hid_ (fun W => has7_calls ri x3 W r3 r3')
      clear r1 r1' r2 r2' r3 r3'
      generalize mayL le x1 = b1 at *
      generalize mayL ri x2 = b2 at *
      generalize mayL ri x3 = b3 at *
      cases hf : (f == -1) with
      | true =>
        rw [hf] at Hf
        cases b1
        all_goals
          go_enter Try.func128, Try.ntmps128
          go_wp2
          refine wp_region_quiet_below (by kernel_rfl) (by kernel_rfl) ?_
          repeat (first
            | go_big_quiet_skip
            | (go_big_quiet_want; go_big_quiet_op; first | go_big_quiet_on | go_big_quiet_call ((first
              | (go_at_call 183; with_reducible exact Calls.regrown_of (S1.out _ _))
              | (go_at_call 183; with_reducible exact Calls.regrown_of (S2.out _ _))
              | (go_at_call 182; with_reducible exact Calls.regrown_of (G1.out _))
              | (go_at_call 182; with_reducible exact Calls.regrown_of (G2.out _)))))) 
          refine wpQuiet_nil ?_
          rintro wq ⟨pq, hpq⟩
          have Hq := hid_ (Hb.out.trans ((below_wq hpq).mono Hb.out.size))
          go_wp2
          go_ret
          exact ⟨retB Hf.out, Hq.out⟩
      | false =>
        rw [hf] at Hf
        cases hx : (x2 == f)
        all_goals
          rw [hx] at Hf
          cases b1
          all_goals
            go_enter Try.func128, Try.ntmps128
            go_wp2
            refine wp_region_quiet_below (by kernel_rfl) (by kernel_rfl) ?_
            repeat (first
              | go_big_quiet_skip
              | (go_big_quiet_want; go_big_quiet_op; first | go_big_quiet_on | go_big_quiet_call ((first
                | (go_at_call 183; with_reducible exact Calls.regrown_of (S2.out _ _))
                | (go_at_call 183; with_reducible exact Calls.regrown_of (S1.out _ _))
                | (go_at_call 183; with_reducible exact Calls.regrown_of (S3.out _ _))
                | (go_at_call 182; with_reducible exact Calls.regrown_of (G1.out _))
                | (go_at_call 182; with_reducible exact Calls.regrown_of (G3.out _)))))) 
            refine wpQuiet_nil ?_
            rintro wq ⟨pq, hpq⟩
            have Hq := hid_ (Hb.out.trans ((below_wq hpq).mono Hb.out.size))
            go_wp2
            go_ret
            exact ⟨retB Hf.out, Hq.out⟩
end Go.Proofs.Ytnpdhmejnoplcaa
