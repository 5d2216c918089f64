import Derived.Test.YthmnmpglnaegfaaYi
namespace Go.Proofs.Kv
open Go.RowKit
theorem BitsAt.below {w w' : World} {B b m : Nat} {f : Nat → Bool} (h : BitsAt w b m f) (hb : Below B w w') (hB : b < B) : BitsAt w' b m f := fun j hj =>
  ⟨(hb.cell (p := ⟨b, j, none⟩) hB).trans (h j hj).1, (hb.frozen (p := ⟨b, j, none⟩) hB).trans (h j hj).2⟩
end Go.Proofs.Kv
namespace Go.Proofs.Ythmnmpglnaegfaa
open Go.RowKit Go.Proofs.Kv

def pairI (i : Nat) : Int × Int := (((i / 3 : Nat) : Int), ((i % 3 : Nat) : Int))
theorem pairI_inj {i y z : Nat} (h : pairI i = ((y : Int), (z : Int))) : i = y * 3 + z := by
  have h1 := congrArg Prod.fst h
  have h2 := congrArg Prod.snd h
  simp only [pairI] at h1 h2
  omega
theorem pairI_at {y z : Nat} (hz : z < 3) : pairI (y * 3 + z) = ((y : Int), (z : Int)) := by
  have h1 : (y * 3 + z) / 3 = y := by omega
  have h2 : (y * 3 + z) % 3 = z := by omega
  rw [pairI, h1, h2]
set_option maxRecDepth 100000 in
set_option maxHeartbeats 1000000 in
theorem r7conflict_calls (a : Option Addr) (n c : Nat) (T : List (List Int)) (p q : Nat) (w : World) (h : ListsAt w a n c T) (g : GoodT T) (hp : p < n0 T) (hq : q < n0 T) :
    Calls Try.prog 35 #[.slice a n c, .int .i64 (p : Int), .int .i64 (q : Int)] w fun e w' => e = .returned (.bool (cfR T p q)) ∧ Below w.heap.size w w' := by
  have hn : n ≤ 9223372036854775807 := Nat.le_trans h.le h.small
  have hn6 : n ≤ 6 := by have := g.le; have := h.len; omega
  have Hlen := hid_ h.len
  have Hg := hid_ g
  have HA := hid_ (r7diff_calls a n c T p w h g hp)
  have HB := hid_ (fun W (hW : Below w.heap.size w W) => r7diff_calls a n c T q W (h.below hW (Nat.le_refl _)) g hq)
  have HC : Hid (cfR T p q = (decide (diffR T p = 2) && (decide (diffR T q = 2) && decide ((uq (colP T p q)).length = 4)))) := hid_ rfl
  have Hall : Hid ((colP T p q).take n = colP T p q) := hid_ (List.take_of_length_le (by rw [colP_len, h.len]; omega))
  have hU := uqP_le T p q
  rw [h.len] at hU
  have hd1 := diffR_le T p
  have hd2 := diffR_le T q
  rw [h.len] at hd1 hd2
  clear g
  generalize cfR T p q = R at *
  generalize diffR T p = d1 at *
  generalize diffR T q = d2 at *
  by_cases h1 : d1 = 2
  · subst h1
    by_cases h2 : d2 = 2
    · subst h2
      go_enter Try.func35, Try.ntmps35
      go_wp2_with (first
        | (go_at_call 34; (with_reducible refine HA.out.mono ?_); rintro e w2 ⟨rfl, hb⟩)
        | (go_at_call 34; (with_reducible refine (HB.out _ hb).mono ?_); rintro e w3 ⟨rfl, hb3⟩))
      have Hb3 := hid_ (hb.trans (hb3.mono hb.size))
      clear hb hb3 hd1 hd2
      go_loopw [8, 9] (fun v i wr => ∃ k : Nat, k ≤ n ∧ i = .int .i64 k ∧ v = .int .i64 (uq ((colP T p q).take k)).length ∧ BitsAt wr w3.heap.size 9 (fun j => decide (pairI j ∈ (colP T p q).take k)) ∧ Below w3.heap.size w3 wr) (fun _ i _ => n - (intOf i).toNat)
      case atStart =>
        refine ⟨0, Nat.zero_le _, rfl, rfl, fun j hj => ⟨?_, World.frozen?_alloc_at _ _ _ _ (by simp)⟩, below_alloc _ _⟩
        rcases (show j = 0 ∨ j = 1 ∨ j = 2 ∨ j = 3 ∨ j = 4 ∨ j = 5 ∨ j = 6 ∨ j = 7 ∨ j = 8 by omega) with rfl | rfl | rfl | rfl | rfl | rfl | rfl | rfl | rfl <;> exact cells_alloc _ _ _ _
      case round =>
        obtain ⟨k, hk, rfl, rfl, hbits, hb⟩ := hrel
        by_cases hlt : k < n
        · have hbb := Hb3.out.trans (hb.mono Hb3.out.size)
          obtain ⟨b, off, a1, n1, c1, rfl, hb', hcell, hrow⟩ := (h.below hbb (Nat.le_refl _)).cells k hlt
          have hl : k < T.length := by rw [Hlen.out]; exact hlt
          have hpn : p < n1 := by rw [← hrow.len, Hg.out.len k hl]; exact hp
          have hqn : q < n1 := by rw [← hrow.len, Hg.out.len k hl]; exact hq
          have hrl := Nat.le_trans hrow.le hrow.small
          obtain ⟨b1, off1, rfl, hb1, hcell1⟩ := hrow.cells p hpn
          obtain ⟨b2, off2, e, hb2, hcell2⟩ := hrow.cells q hqn
          injection e with e; injection e with e1 e2; subst e1; subst e2
          have hy := Hg.out.ok k hl p hp
          have hz := Hg.out.ok k hl q hq
          have Ht := hid_ (@colP_take T p q k hl)
          have Hb := hid_ hb; have Hbits := hid_ hbits
          have hUl : (uq ((colP T p q).take k)).length ≤ n := Nat.le_trans (uq_le _) (by rw [List.length_take]; omega)
          clear hrow hb hbits hbb
          generalize (T.getD k []).getD p 0 = y at *
          generalize (T.getD k []).getD q 0 = z at *
          obtain ⟨y, rfl⟩ := nat_of hy.1
          obtain ⟨z, rfl⟩ := nat_of hz.1
          obtain ⟨C, hC⟩ : ∃ C, (colP T p q).take k = C := ⟨_, rfl⟩
          rw [hC] at Hbits Ht hUl ⊢
          clear hC
          have hy3 : y < 3 := by omega
          have hz3 : z < 3 := by omega
          have hj9 : y * 3 + z < 9 := by omega
          have hbj := (Hbits.out _ hj9).1
          have hbf := (Hbits.out _ hj9).2
          have hlw := World.block_lt_of_cell? _ _ hbj
          dsimp only at hbj
          rw [pairI_at hz3] at hbj
          by_cases hm : ((y : Int), (z : Int)) ∈ C
          · have HU : Hid (uq (C ++ [((y : Int), (z : Int))]) = uq C) := hid_ (by rw [uq_snoc, insU_hit (mem_uq.2 hm)])
            have HE : Hid (∀ i : Nat, i < 9 → decide (pairI i ∈ C) = decide (pairI i ∈ C ++ [((y : Int), (z : Int))])) := hid_ (fun i hi => by
              rw [decide_eq_decide, List.mem_append, List.mem_singleton]
              exact ⟨.inl, fun h => by rcases h with h | h; exact h; rw [h]; exact hm⟩)
            rw [decide_eq_true hm] at hbj
            clear hm
            go_wp2_with fail
            go_quiet (fail)
            go_wp2
            go_roundw
            case rel => exact ⟨k + 1, by omega, by go_num, by rw [Ht.out, HU.out], by rw [Ht.out]; exact (Hbits.out.drewN _).congr HE.out, below_drewN Hb.out _⟩
            case measure => simp [intOf]; omega
          · have HU : Hid ((uq (C ++ [((y : Int), (z : Int))])).length = (uq C).length + 1) := hid_ (by rw [uq_snoc, insU_miss (fun h => hm (mem_uq.1 h)), List.length_append]; rfl)
            have HE : Hid (∀ i : Nat, i < 9 → (decide (pairI i ∈ C) || decide (i = y * 3 + z)) = decide (pairI i ∈ C ++ [((y : Int), (z : Int))])) := hid_ (fun i hi => by
              rw [Bool.eq_iff_iff]; simp only [Bool.or_eq_true, decide_eq_true_eq, List.mem_append, List.mem_singleton]
              exact or_congr Iff.rfl ⟨fun e => by rw [e, pairI_at hz3], pairI_inj⟩)
            rw [decide_eq_false hm] at hbj
            clear hm
            go_wp2_with fail
            go_quiet (fail)
            go_wp2_with fail
            have gA := cell_regrown (w := wr.drewN nq) hcell
            have gB := cell_regrown (w := wr.drewN nq) hcell1
            have gC := cell_regrown (w := wr.drewN nq) hcell2
            refine wp_region_tail 16 (by kernel_rfl) (by kernel_rfl) ?_
            simp only [List.take_succ_cons, List.take_zero, List.drop_succ_cons, List.drop_zero]
            repeat (first | go_big_quiet_skip | (go_big_quiet_want; go_big_quiet_op; first | go_big_quiet_on | go_big_quiet_call (fail)))
            refine wpQuiet_nil ?_
            rintro wq ⟨pq, hpq⟩
            have hbq := below_wq hpq
            have Hbq := hid_ ((Hbits.out.drewN nq).below hbq hlw)
            have Hb4 := hid_ ((below_drewN Hb.out nq).trans (hbq.mono Hb.out.size))
            have hbj2 := (Hbq.out _ hj9).1
            have hbf2 := (Hbq.out _ hj9).2
            clear hpq hbq hbj hbf gA gB gC hcell hcell1 hcell2
            go_wp2
            exact ⟨⟨k + 1, by omega, by go_num, by rw [Ht.out, HU.out]; go_num, by rw [Ht.out]; exact (Hbq.out.set hj9).congr HE.out, Hb4.out.setCell (p := ⟨w3.heap.size, y * 3 + z, none⟩) (Nat.le_refl _) _⟩, by simp [intOf]; omega⟩
        · obtain rfl : n = k := by omega
          rw [Hall.out] at hbits ⊢
          generalize uq (colP T p q) = U at *
          obtain ⟨u, hu⟩ : ∃ u, U.length = u := ⟨_, rfl⟩
          rw [hu] at HC hU ⊢
          clear hu
          by_cases h4 : u = 4
          · subst h4
            go_wp2
            go_ret
            exact ⟨retB HC.out, Hb3.out.trans (hb.mono Hb3.out.size)⟩
          · have hqq : ((u : Int) == 4) = false := by simp; omega
            have Hf := hid_ (HC.out.trans (show (decide ((2 : Nat) = 2) && (decide ((2 : Nat) = 2) && decide (u = 4))) = false by simp [h4]))
            clear h4 HC
            go_wp2
            go_ret
            exact ⟨retB Hf.out, Hb3.out.trans (hb.mono Hb3.out.size)⟩
    · have hqq : ((d2 : Int) != 2) = true := by simp; omega
      have Hf := hid_ (HC.out.trans (show (decide ((2 : Nat) = 2) && (decide (d2 = 2) && _)) = false by simp [h2]))
      clear h2 HC
      go_enter Try.func35, Try.ntmps35
      go_wp2_with (first
        | (go_at_call 34; (with_reducible refine HA.out.mono ?_); rintro e w2 ⟨rfl, hb⟩)
        | (go_at_call 34; (with_reducible refine (HB.out _ hb).mono ?_); rintro e w3 ⟨rfl, hb3⟩))
      go_ret
      exact ⟨retB Hf.out, hb.trans (hb3.mono hb.size)⟩
  · have hqq : ((d1 : Int) != 2) = true := by simp; omega
    have Hf := hid_ (HC.out.trans (show (decide (d1 = 2) && _) = false by simp [h1]))
    clear h1 HC
    go_enter Try.func35, Try.ntmps35
    go_wp2_with (go_at_call 34; (with_reducible refine HA.out.mono ?_); rintro e w2 ⟨rfl, hb⟩)
    go_ret
    exact ⟨retB Hf.out, hb⟩
end Go.Proofs.Ythmnmpglnaegfaa
