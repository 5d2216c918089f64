import Derived.Test.YtgpenbajhndhiaaVp
namespace Go.Proofs.Ytgpenbajhndhiaa
open Go.RowKit Go.Proofs.Kv Go

/-! ### a pair with one more item -/
def with8 (p : Pr) (j : Nat) (x : List Int) : Option Pr :=
  if begT x p.left = true then some ⟨p.short ++ [(j : Int)], p.long, p.left.drop x.length⟩ else if begT p.left x = true then some ⟨p.long, p.short ++ [(j : Int)], x.drop p.left.length⟩ else none
def with8P (p : Pr) (j : Nat) (x : List Int) : Pr := (with8 p j x).getD P0
theorem own_store8 {w : World} {B E size n : Nat} {v : Value} {xs : List Value} (h : w.ownsRow B E size v n xs) {p : Addr} (hp : p.block < B) (u : Value) : (w.setCell p u).ownsRow B E size v n xs :=
  h.kept (row := some p.block) ⟨rfl, rfl, rfl, by simp [World.setCell], fun k _ hne => Below.heap_setCell _ _ _ _ (fun e => hne (by rw [e]))⟩ (by
    by_cases hn : v.ownBlock = none
    · exact .inl hn
    · obtain ⟨b, hb⟩ := Option.ne_none_iff_exists'.1 hn
      refine .inr ?_
      rw [hb]; intro q; injection q with q
      have := (h.lt b hb).1
      omega)
set_option maxRecDepth 100000 in
set_option maxHeartbeats 4000000 in
theorem with_calls (X : Option Nat) (v1 v2 v3 v4 : Value) (p : Pr) (j : Nat) (x : List Int) (w : World) (hX : ∀ b, X = some b → b < w.heap.size) (h : PrAt w X v1 v2 v3 p) (hx : SlAt w X v4 x) (hs : p.short.length ≤ 1000) :
    Calls Try.prog 76 #[.agg #[v1, v2, v3], .int .i64 (j : Int), v4] w fun e w' => ∃ u1 u2 u3, e = .returned (.tuple #[.agg #[u1, u2, u3], .bool (with8 p j x).isSome]) ∧ PrAt w' X u1 u2 u3 (with8P p j x) ∧ Below w.heap.size w w' := by
  have HW : Hid (with8 p j x = if begT x p.left = true then some ⟨p.short ++ [(j : Int)], p.long, p.left.drop x.length⟩ else if begT p.left x = true then some ⟨p.long, p.short ++ [(j : Int)], x.drop p.left.length⟩ else none) := hid_ rfl
  have HWP : Hid (with8P p j x = (with8 p j x).getD P0) := hid_ rfl
  obtain ⟨h1, h2, h3⟩ := h
  have H2 := hid_ h2; have H3 := hid_ h3; have Hx := hid_ hx
  obtain ⟨a1, c1, rfl, i1, -⟩ := h1
  obtain ⟨a2, c2, rfl, -, -⟩ := h2
  obtain ⟨a3, c3, rfl, i3, -⟩ := h3
  obtain ⟨a4, c4, rfl, i4, -⟩ := hx
  obtain ⟨n1, hn1⟩ : ∃ n1, p.short.length = n1 := ⟨_, rfl⟩
  obtain ⟨n2, hn2⟩ : ∃ n2, p.long.length = n2 := ⟨_, rfl⟩
  obtain ⟨n3, hn3⟩ : ∃ n3, p.left.length = n3 := ⟨_, rfl⟩
  obtain ⟨n4, hn4⟩ : ∃ n4, x.length = n4 := ⟨_, rfl⟩
  rw [hn1] at hs i1 ⊢
  rw [hn2] at H2 ⊢
  rw [hn3] at H3 i3 HW ⊢
  rw [hn4] at Hx i4 HW ⊢
  obtain ⟨w1, hw1⟩ : ∃ w1, w.alloc (.cells #[.slice a1 n1 c1, .slice a2 n2 c2, .slice a3 n3 c3] 91) = w1 := ⟨_, rfl⟩
  have cb1 : Below w.heap.size w w1 := by rw [← hw1]; exact below_alloc _ _
  have q0 : w1.cell? ⟨w.heap.size, 0, none⟩ = some (.slice a1 n1 c1) := by rw [← hw1]; exact cells_alloc _ _ _ 0
  have q1 : w1.cell? ⟨w.heap.size, 1, none⟩ = some (.slice a2 n2 c2) := by rw [← hw1]; exact cells_alloc _ _ _ 1
  have q2 : w1.cell? ⟨w.heap.size, 2, none⟩ = some (.slice a3 n3 c3) := by rw [← hw1]; exact cells_alloc _ _ _ 2
  have z1 : w1.heap.size = w.heap.size + 1 := by rw [← hw1]; simp
  obtain ⟨w2, hw2⟩ : ∃ w2, w1.alloc (.cells #[.slice none 0 0, .slice none 0 0, .slice none 0 0] 91) = w2 := ⟨_, rfl⟩
  have cb2 : Below w1.heap.size w1 w2 := by rw [← hw2]; exact below_alloc _ _
  have z2 : w2.heap.size = w.heap.size + 2 := by rw [← hw2]; simp; omega
  have r0 : w2.cell? ⟨w.heap.size + 1, 0, none⟩ = some (.slice none 0 0) := by rw [← z1, ← hw2]; exact cells_alloc _ _ _ 0
  have r1 : w2.cell? ⟨w.heap.size + 1, 1, none⟩ = some (.slice none 0 0) := by rw [← z1, ← hw2]; exact cells_alloc _ _ _ 1
  have r2 : w2.cell? ⟨w.heap.size + 1, 2, none⟩ = some (.slice none 0 0) := by rw [← z1, ← hw2]; exact cells_alloc _ _ _ 2
  have f0 : ∀ k, w2.frozen? ⟨w.heap.size + 1, k, none⟩ = false := fun k => by rw [← z1, ← hw2]; exact World.frozen?_alloc_at _ _ _ _ (by simp)
  have Hb2 := hid_ (cb1.trans (cb2.mono cb1.size))
  have q0b := cell_below q0 cb2; have q1b := cell_below q1 cb2; have q2b := cell_below q2 cb2
  obtain ⟨i0, hi0, hz0, hz1, hz2⟩ := info_parts Try.infoInt
  have HCl := hid_ (clone_calls a1 n1 c1 p.short w2 (i1.below Hb2.out (Nat.le_refl _)) (by omega))
  have Hsl := hid_ hn1
  have H1x : Hid (∀ b, X = some b → b < w2.heap.size) := hid_ (fun b hb => by have := hX b hb; omega)
  -- what is left over, and the word, in a later world
  have HBa := hid_ (fun W (hW : Below w.heap.size w W) => isBeg_calls a4 n4 c4 x a3 n3 c3 p.left W (i4.below hW (Nat.le_refl _)) (i3.below hW (Nat.le_refl _)))
  have HBb := hid_ (fun W (hW : Below w.heap.size w W) => isBeg_calls a3 n3 c3 p.left a4 n4 c4 x W (i3.below hW (Nat.le_refl _)) (i4.below hW (Nat.le_refl _)))
  have HL3 : Hid (n3 ≤ c3) := hid_ i3.le
  have HL4 : Hid (n4 ≤ c4) := hid_ i4.le
  have H34 : Hid (begT x p.left = true → n4 ≤ n3) := hid_ (fun hh => by rw [begT, hn3, hn4] at hh; exact of_decide_eq_true (Bool.and_eq_true_iff.1 hh).1)
  have H43 : Hid (begT p.left x = true → n3 ≤ n4) := hid_ (fun hh => by rw [begT, hn3, hn4] at hh; exact of_decide_eq_true (Bool.and_eq_true_iff.1 hh).1)
  clear i1 i3 i4 cb1 cb2 hX
  have f00 := f0 0; have f01 := f0 1; have f02 := f0 2
  have Hf0 := hid_ f0
  clear f0
  cases hb1 : begT x p.left with
  | true =>
    have h34 := H34.out hb1
    have hsl := fun W => run_slice_low a3 n3 c3 n4 h34 W
    obtain ⟨ax, hax⟩ : ∃ ax, (if c3 = n4 then a3 else a3.map (·.add n4)) = ax := ⟨_, rfl⟩
    rw [hax] at hsl
    rw [hb1] at HBa
    have HW' := hid_ (HW.out.trans (if_pos hb1))
    go_enter Try.func76, Try.ntmps76
    go_wp2_with (first
      | (go_at_call 54; (with_reducible refine HCl.out.mono ?_); rintro e w3 ⟨v3, rfl, hm3⟩; obtain ⟨g3, c3', rfl, -⟩ := hm3.at_; have hm3o := hm3.own; rw [Hsl.out] at hm3o ⊢; have hb3 := hm3.bel; have ho4 := own_below hm3o (below_alloc w3 (.cells #[.int .i64 (j : Int)] 3)) (Nat.le_refl _))
      | (at_builtin; refine wpList_append_ints _ rfl (.tmp 11) (.tmp 13) _ rfl w2.heap.size 3 i0 Try.underlying26 hi0 hz0 hz1 hz2 _ _ _ rfl ho4 _ _ _ _ rfl (IntsAt.one _ _ _) (by omega) (by have := hb3.size; simp; omega) ?_; intro v5 w5 hown5 hg5 hat5; have hb5 : Below w2.heap.size w2 w5 := below_app hb3 hb3.size hm3o hg5; obtain ⟨a5, c5, rfl, -⟩ := IntsAt.own hown5; have q0c := cell_below q0b hb5; have q1c := cell_below q1b hb5; have q2c := cell_below q2b hb5)
      | (go_at_call 91; (with_reducible refine (HBa.out _ (Hb2.out.trans (hb5.mono Hb2.out.size))).mono ?_); rintro e w6 ⟨rfl, q6, rfl⟩))
    obtain ⟨wd, hwd⟩ : ∃ wd, w5.drewN q6 = wd := ⟨_, rfl⟩
    have q0d : wd.cell? ⟨w.heap.size, 0, none⟩ = some (.slice a1 n1 c1) := by rw [← hwd]; exact q0c
    have q1d : wd.cell? ⟨w.heap.size, 1, none⟩ = some (.slice a2 n2 c2) := by rw [← hwd]; exact q1c
    have q2d : wd.cell? ⟨w.heap.size, 2, none⟩ = some (.slice a3 n3 c3) := by rw [← hwd]; exact q2c
    have Hbd := hid_ (show Below w2.heap.size w2 wd by rw [← hwd]; exact below_drewN hb5 _)
    have Howd := hid_ (show wd.ownsRow w2.heap.size 3 1 (.slice a5 (n1 + 1) c5) (n1 + 1) ((p.short ++ [(j : Int)]).map (Value.int .i64)) by rw [← hwd]; exact own_drewN hown5 _)
    rw [hwd]
    clear hwd hown5 hg5 hat5 hb5 ho4 hm3o hb3 q0c q1c q2c q0b q1b q2b
    have gA := cell_regrown q0d; have gB := cell_regrown q1d; have gC := cell_regrown q2d
    go_wp2_with fail
    refine wp_region_tail 9 (by kernel_rfl) (by kernel_rfl) ?_
    simp only [List.take_succ_cons, List.take_zero, List.drop_succ_cons, List.drop_zero]
    repeat (first | go_big_quiet_skip | (go_big_quiet_want; go_big_quiet_op; first | go_big_quiet_on | go_big_quiet_call (fail)))
    refine wpQuiet_nil ?_
    rintro wq ⟨pq, hpq⟩
    have hbq := below_wq hpq
    have Hbq := hid_ (Hbd.out.trans (hbq.mono Hbd.out.size))
    have hx2 : w.heap.size + 1 < w2.heap.size := by omega
    have Howq := hid_ (own_grown Howd.out hbq)
    have s0 := (Hbq.out.cell (p := ⟨w.heap.size + 1, 0, none⟩) hx2).trans r0
    have s1 := (Hbq.out.cell (p := ⟨w.heap.size + 1, 1, none⟩) hx2).trans r1
    have s2 := (Hbq.out.cell (p := ⟨w.heap.size + 1, 2, none⟩) hx2).trans r2
    have t0 := (Hbq.out.frozen (p := ⟨w.heap.size + 1, 0, none⟩) hx2).trans f00
    have t1 := (Hbq.out.frozen (p := ⟨w.heap.size + 1, 1, none⟩) hx2).trans f01
    have t2 := (Hbq.out.frozen (p := ⟨w.heap.size + 1, 2, none⟩) hx2).trans f02
    clear hpq hbq gA gB gC q0d q1d q2d r0 r1 r2 f00 f01 f02
    go_wp2
    obtain ⟨we, hwe⟩ : ∃ we, ((wq.setCell ⟨w.heap.size + 1, 0, none⟩ (.slice a5 (n1 + 1) c5)).setCell ⟨w.heap.size + 1, 1, none⟩ (.slice a2 n2 c2)).setCell ⟨w.heap.size + 1, 2, none⟩ (.slice ax (n3 - n4) (c3 - n4)) = we := ⟨_, rfl⟩
    rw [hwe]
    have e0 : we.cell? ⟨w.heap.size + 1, 0, none⟩ = some (.slice a5 (n1 + 1) c5) := by
      rw [← hwe, World.cell?_setCell_other _ _ _ _ (by simp), World.cell?_setCell_other _ _ _ _ (by simp)]; exact World.cell?_setCell_same _ _ _ s0
    have e1 : we.cell? ⟨w.heap.size + 1, 1, none⟩ = some (.slice a2 n2 c2) := by
      rw [← hwe, World.cell?_setCell_other _ _ _ _ (by simp)]; exact World.cell?_setCell_same _ _ _ (by rw [World.cell?_setCell_other _ _ _ _ (by simp)]; exact s1)
    have e2 : we.cell? ⟨w.heap.size + 1, 2, none⟩ = some (.slice ax (n3 - n4) (c3 - n4)) := by
      rw [← hwe]; exact World.cell?_setCell_same _ _ _ (by rw [World.cell?_setCell_other _ _ _ _ (by simp), World.cell?_setCell_other _ _ _ _ (by simp)]; exact s2)
    have hbe : Below w.heap.size wq we := by
      rw [← hwe]
      exact Below.setCell (p := ⟨w.heap.size + 1, 2, none⟩) (Below.setCell (p := ⟨w.heap.size + 1, 1, none⟩) (Below.setCell (p := ⟨w.heap.size + 1, 0, none⟩) (Below.refl _ _) (Nat.le_succ _) _) (Nat.le_succ _) _) (Nat.le_succ _) _
    have hbw : Below w.heap.size w we := (Hb2.out.trans (Hbq.out.mono Hb2.out.size)).trans hbe
    have how : we.ownsRow w2.heap.size 3 1 (.slice a5 (n1 + 1) c5) (n1 + 1) ((p.short ++ [(j : Int)]).map (Value.int .i64)) := by
      have hne : ∀ (b : Nat), w2.heap.size ≤ b → b ≠ w.heap.size + 1 := fun b hb => by omega
      rw [← hwe]
      exact own_store8 (own_store8 (own_store8 Howq.out (p := ⟨w.heap.size + 1, 0, none⟩) (by show _ + 1 < _; omega) _) (p := ⟨w.heap.size + 1, 1, none⟩) (by show _ + 1 < _; omega) _) (p := ⟨w.heap.size + 1, 2, none⟩) (by show _ + 1 < _; omega) _
    refine bodyPost_ret (v := .tuple #[.agg #[.slice a5 (n1 + 1) c5, .slice a2 n2 c2, .slice ax (n3 - n4) (c3 - n4)], .bool true]) ?_ rfl ⟨_, _, _, by rw [HW'.out]; rfl, ?_, hbw⟩
    · simp [results, Try.results76, go_sem, e0, e1, e2]
    · rw [HWP.out, HW'.out]
      exact ⟨SlAt.new how H1x.out, H2.out.below hbw (Nat.le_refl _), by have h9 := SlAt.drop (k := n4) (hn3.symm ▸ H3.out) (by omega); rw [hn3, hax] at h9; exact h9.below hbw (Nat.le_refl _)⟩
  | false =>
    rw [hb1] at HBa
    have HW0 := hid_ (HW.out.trans (if_neg (by rw [hb1]; decide)))
    cases hb2 : begT p.left x with
    | true =>
      have h43 := H43.out hb2
      have hsl := fun W => run_slice_low a4 n4 c4 n3 h43 W
      obtain ⟨ax, hax⟩ : ∃ ax, (if c4 = n3 then a4 else a4.map (·.add n3)) = ax := ⟨_, rfl⟩
      rw [hax] at hsl
      rw [hb2] at HBb
      have HW' := hid_ (HW0.out.trans (if_pos hb2))
      go_enter Try.func76, Try.ntmps76
      go_wp2_with (first
        | (go_at_call 54; (with_reducible refine HCl.out.mono ?_); rintro e w3 ⟨v3, rfl, hm3⟩; obtain ⟨g3, c3', rfl, -⟩ := hm3.at_; have hm3o := hm3.own; rw [Hsl.out] at hm3o ⊢; have hb3 := hm3.bel; have ho4 := own_below hm3o (below_alloc w3 (.cells #[.int .i64 (j : Int)] 3)) (Nat.le_refl _))
        | (at_builtin; refine wpList_append_ints _ rfl (.tmp 11) (.tmp 13) _ rfl w2.heap.size 3 i0 Try.underlying26 hi0 hz0 hz1 hz2 _ _ _ rfl ho4 _ _ _ _ rfl (IntsAt.one _ _ _) (by omega) (by have := hb3.size; simp; omega) ?_; intro v5 w5 hown5 hg5 hat5; have hb5 : Below w2.heap.size w2 w5 := below_app hb3 hb3.size hm3o hg5; obtain ⟨a5, c5, rfl, -⟩ := IntsAt.own hown5; have q0c := cell_below q0b hb5; have q1c := cell_below q1b hb5; have q2c := cell_below q2b hb5)
        | (go_at_call 91; (with_reducible refine (HBa.out _ (Hb2.out.trans (hb5.mono Hb2.out.size))).mono ?_); rintro e w6 ⟨rfl, q6, rfl⟩)
        | (go_at_call 91; (with_reducible refine (HBb.out _ (below_drewN (Hb2.out.trans (hb5.mono Hb2.out.size)) q6)).mono ?_); rintro e w7 ⟨rfl, q7, rfl⟩))
      obtain ⟨wd, hwd⟩ : ∃ wd, w5.drewN (q6 + q7) = wd := ⟨_, rfl⟩
      have q0d : wd.cell? ⟨w.heap.size, 0, none⟩ = some (.slice a1 n1 c1) := by rw [← hwd]; exact q0c
      have q1d : wd.cell? ⟨w.heap.size, 1, none⟩ = some (.slice a2 n2 c2) := by rw [← hwd]; exact q1c
      have q2d : wd.cell? ⟨w.heap.size, 2, none⟩ = some (.slice a3 n3 c3) := by rw [← hwd]; exact q2c
      have Hbd := hid_ (show Below w2.heap.size w2 wd by rw [← hwd]; exact below_drewN hb5 _)
      have Howd := hid_ (show wd.ownsRow w2.heap.size 3 1 (.slice a5 (n1 + 1) c5) (n1 + 1) ((p.short ++ [(j : Int)]).map (Value.int .i64)) by rw [← hwd]; exact own_drewN hown5 _)
      rw [hwd]
      clear hwd hown5 hg5 hat5 hb5 ho4 hm3o hb3 q0c q1c q2c q0b q1b q2b
      have gA := cell_regrown q0d; have gB := cell_regrown q1d; have gC := cell_regrown q2d
      go_wp2_with fail
      refine wp_region_tail 9 (by kernel_rfl) (by kernel_rfl) ?_
      simp only [List.take_succ_cons, List.take_zero, List.drop_succ_cons, List.drop_zero]
      repeat (first | go_big_quiet_skip | (go_big_quiet_want; go_big_quiet_op; first | go_big_quiet_on | go_big_quiet_call (fail)))
      refine wpQuiet_nil ?_
      rintro wq ⟨pq, hpq⟩
      have hbq := below_wq hpq
      have Hbq := hid_ (Hbd.out.trans (hbq.mono Hbd.out.size))
      have hx2 : w.heap.size + 1 < w2.heap.size := by omega
      have Howq := hid_ (own_grown Howd.out hbq)
      have s0 := (Hbq.out.cell (p := ⟨w.heap.size + 1, 0, none⟩) hx2).trans r0
      have s1 := (Hbq.out.cell (p := ⟨w.heap.size + 1, 1, none⟩) hx2).trans r1
      have s2 := (Hbq.out.cell (p := ⟨w.heap.size + 1, 2, none⟩) hx2).trans r2
      have t0 := (Hbq.out.frozen (p := ⟨w.heap.size + 1, 0, none⟩) hx2).trans f00
      have t1 := (Hbq.out.frozen (p := ⟨w.heap.size + 1, 1, none⟩) hx2).trans f01
      have t2 := (Hbq.out.frozen (p := ⟨w.heap.size + 1, 2, none⟩) hx2).trans f02
      clear hpq hbq gA gB gC q0d q1d q2d r0 r1 r2 f00 f01 f02
      go_wp2
      obtain ⟨we, hwe⟩ : ∃ we, ((wq.setCell ⟨w.heap.size + 1, 0, none⟩ (.slice a2 n2 c2)).setCell ⟨w.heap.size + 1, 1, none⟩ (.slice a5 (n1 + 1) c5)).setCell ⟨w.heap.size + 1, 2, none⟩ (.slice ax (n4 - n3) (c4 - n3)) = we := ⟨_, rfl⟩
      rw [hwe]
      have e0 : we.cell? ⟨w.heap.size + 1, 0, none⟩ = some (.slice a2 n2 c2) := by
        rw [← hwe, World.cell?_setCell_other _ _ _ _ (by simp), World.cell?_setCell_other _ _ _ _ (by simp)]; exact World.cell?_setCell_same _ _ _ s0
      have e1 : we.cell? ⟨w.heap.size + 1, 1, none⟩ = some (.slice a5 (n1 + 1) c5) := by
        rw [← hwe, World.cell?_setCell_other _ _ _ _ (by simp)]; exact World.cell?_setCell_same _ _ _ (by rw [World.cell?_setCell_other _ _ _ _ (by simp)]; exact s1)
      have e2 : we.cell? ⟨w.heap.size + 1, 2, none⟩ = some (.slice ax (n4 - n3) (c4 - n3)) := by
        rw [← hwe]; exact World.cell?_setCell_same _ _ _ (by rw [World.cell?_setCell_other _ _ _ _ (by simp), World.cell?_setCell_other _ _ _ _ (by simp)]; exact s2)
      have hbe : Below w.heap.size wq we := by
        rw [← hwe]
        exact Below.setCell (p := ⟨w.heap.size + 1, 2, none⟩) (Below.setCell (p := ⟨w.heap.size + 1, 1, none⟩) (Below.setCell (p := ⟨w.heap.size + 1, 0, none⟩) (Below.refl _ _) (Nat.le_succ _) _) (Nat.le_succ _) _) (Nat.le_succ _) _
      have hbw : Below w.heap.size w we := (Hb2.out.trans (Hbq.out.mono Hb2.out.size)).trans hbe
      have how : we.ownsRow w2.heap.size 3 1 (.slice a5 (n1 + 1) c5) (n1 + 1) ((p.short ++ [(j : Int)]).map (Value.int .i64)) := by
        have hne : ∀ (b : Nat), w2.heap.size ≤ b → b ≠ w.heap.size + 1 := fun b hb => by omega
        rw [← hwe]
        exact own_store8 (own_store8 (own_store8 Howq.out (p := ⟨w.heap.size + 1, 0, none⟩) (by show _ + 1 < _; omega) _) (p := ⟨w.heap.size + 1, 1, none⟩) (by show _ + 1 < _; omega) _) (p := ⟨w.heap.size + 1, 2, none⟩) (by show _ + 1 < _; omega) _
      refine bodyPost_ret (v := .tuple #[.agg #[.slice a2 n2 c2, .slice a5 (n1 + 1) c5, .slice ax (n4 - n3) (c4 - n3)], .bool true]) ?_ rfl ⟨_, _, _, by rw [HW'.out]; rfl, ?_, hbw⟩
      · simp [results, Try.results76, go_sem, e0, e1, e2]
      · rw [HWP.out, HW'.out]
        exact ⟨H2.out.below hbw (Nat.le_refl _), SlAt.new how H1x.out, by have h9 := SlAt.drop (k := n3) (hn4.symm ▸ Hx.out) (by omega); rw [hn4, hax] at h9; exact h9.below hbw (Nat.le_refl _)⟩
    | false =>
      rw [hb2] at HBb
      have HW' := hid_ (HW0.out.trans (if_neg (by rw [hb2]; decide)))
      have hx2 : w.heap.size + 1 < w2.heap.size := by omega
      go_enter Try.func76, Try.ntmps76
      go_wp2_with (first
        | (go_at_call 54; (with_reducible refine HCl.out.mono ?_); rintro e w3 ⟨v3, rfl, hm3⟩; obtain ⟨g3, c3', rfl, -⟩ := hm3.at_; have hm3o := hm3.own; rw [Hsl.out] at hm3o ⊢; have hb3 := hm3.bel; have ho4 := own_below hm3o (below_alloc w3 (.cells #[.int .i64 (j : Int)] 3)) (Nat.le_refl _))
        | (at_builtin; refine wpList_append_ints _ rfl (.tmp 11) (.tmp 13) _ rfl w2.heap.size 3 i0 Try.underlying26 hi0 hz0 hz1 hz2 _ _ _ rfl ho4 _ _ _ _ rfl (IntsAt.one _ _ _) (by omega) (by have := hb3.size; simp; omega) ?_; intro v5 w5 hown5 hg5 hat5; have hb5 : Below w2.heap.size w2 w5 := below_app hb3 hb3.size hm3o hg5; obtain ⟨a5, c5, rfl, -⟩ := IntsAt.own hown5; have q0c := cell_below q0b hb5; have q1c := cell_below q1b hb5; have q2c := cell_below q2b hb5)
        | (go_at_call 91; (with_reducible refine (HBa.out _ (Hb2.out.trans (hb5.mono Hb2.out.size))).mono ?_); rintro e w6 ⟨rfl, q6, rfl⟩)
        | (go_at_call 91; (with_reducible refine (HBb.out _ (below_drewN (Hb2.out.trans (hb5.mono Hb2.out.size)) q6)).mono ?_); rintro e w7 ⟨rfl, q7, rfl⟩; have hb7 := below_drewN (below_drewN hb5 q6) q7; have s0 := (hb7.cell (p := ⟨w.heap.size + 1, 0, none⟩) hx2).trans r0; have s1 := (hb7.cell (p := ⟨w.heap.size + 1, 1, none⟩) hx2).trans r1; have s2 := (hb7.cell (p := ⟨w.heap.size + 1, 2, none⟩) hx2).trans r2; have t0 := (hb7.frozen (p := ⟨w.heap.size + 1, 0, none⟩) hx2).trans f00; have t1 := (hb7.frozen (p := ⟨w.heap.size + 1, 1, none⟩) hx2).trans f01; have t2 := (hb7.frozen (p := ⟨w.heap.size + 1, 2, none⟩) hx2).trans f02; obtain ⟨wd, hwd⟩ : ∃ wd, (w5.drewN q6).drewN q7 = wd := ⟨_, rfl⟩; rw [hwd] at s0 s1 s2 t0 t1 t2 hb7 ⊢; clear hwd))
      obtain ⟨we, hwe⟩ : ∃ we, ((wd.setCell ⟨w.heap.size + 1, 0, none⟩ (.slice none 0 0)).setCell ⟨w.heap.size + 1, 1, none⟩ (.slice none 0 0)).setCell ⟨w.heap.size + 1, 2, none⟩ (.slice none 0 0) = we := ⟨_, rfl⟩
      rw [hwe]
      have e0 : we.cell? ⟨w.heap.size + 1, 0, none⟩ = some (.slice none 0 0) := by
        rw [← hwe, World.cell?_setCell_other _ _ _ _ (by simp), World.cell?_setCell_other _ _ _ _ (by simp)]; exact World.cell?_setCell_same _ _ _ s0
      have e1 : we.cell? ⟨w.heap.size + 1, 1, none⟩ = some (.slice none 0 0) := by
        rw [← hwe, World.cell?_setCell_other _ _ _ _ (by simp)]; exact World.cell?_setCell_same _ _ _ (by rw [World.cell?_setCell_other _ _ _ _ (by simp)]; exact s1)
      have e2 : we.cell? ⟨w.heap.size + 1, 2, none⟩ = some (.slice none 0 0) := by
        rw [← hwe]; exact World.cell?_setCell_same _ _ _ (by rw [World.cell?_setCell_other _ _ _ _ (by simp), World.cell?_setCell_other _ _ _ _ (by simp)]; exact s2)
      have hbe : Below w.heap.size wd we := by
        rw [← hwe]
        exact Below.setCell (p := ⟨w.heap.size + 1, 2, none⟩) (Below.setCell (p := ⟨w.heap.size + 1, 1, none⟩) (Below.setCell (p := ⟨w.heap.size + 1, 0, none⟩) (Below.refl _ _) (Nat.le_succ _) _) (Nat.le_succ _) _) (Nat.le_succ _) _
      have hbw : Below w.heap.size w we := (Hb2.out.trans (hb7.mono Hb2.out.size)).trans hbe
      refine bodyPost_ret (v := .tuple #[.agg #[.slice none 0 0, .slice none 0 0, .slice none 0 0], .bool false]) ?_ rfl ⟨_, _, _, by rw [HW'.out]; rfl, ?_, hbw⟩
      · simp [results, Try.results76, go_sem, e0, e1, e2]
      · rw [HWP.out, HW'.out]
        have hs0 : SlAt we X (.slice none 0 0) [] := ⟨none, 0, rfl, IntsAt.nil _ _ _ (by omega), fun b off h _ => by cases h⟩
        exact ⟨hs0, hs0, hs0⟩
end Go.Proofs.Ytgpenbajhndhiaa
