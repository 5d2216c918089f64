import Derived.Test.YtoopgmoopmbfnaaRefG
namespace Go.Proofs.Ytoopgmoopmbfnaa
open Go.RowKit Go.Proofs.Kv Go.Proofs.Snd

/-! ### stand -/
/-- what is left of a list from the first x on -/
def from_ (x : Int) (p : List Int) : List Int := p.dropWhile fun y => y != x
theorem from_in {x : Int} {p : List Int} (h : Has p x = true) (y : Int) : from_ x (p ++ [y]) = from_ x p ++ [y] := by
  have hm := Has_iff.1 h
  clear h
  induction p with
  | nil => simp at hm
  | cons z p ih =>
    unfold from_ at *
    rw [List.cons_append, List.dropWhile_cons, List.dropWhile_cons]
    by_cases hz : z = x
    · simp [hz]
    · have : x ∈ p := by rcases List.mem_cons.1 hm with e | h; exact absurd e.symm hz; exact h
      simp only [bne_iff_ne, ne_eq, hz, not_false_eq_true, if_true]
      exact ih this
theorem dw_all {q : Int → Bool} : ∀ (p : List Int), (∀ y ∈ p, q y = true) → p.dropWhile q = []
  | [], _ => rfl
  | y :: p, h => by rw [List.dropWhile_cons, if_pos (h y (by simp))]; exact dw_all p fun z hz => h z (by simp [hz])
theorem from_out {x : Int} {p : List Int} (h : Has p x = false) : from_ x p = [] := by
  refine dw_all p fun y hy => ?_
  rw [bne_iff_ne]
  rintro rfl
  rw [Has_iff.2 hy] at h; cases h
theorem Has_snoc (p : List Int) (x y : Int) : Has (p ++ [y]) x = (Has p x || (y == x)) := by
  rw [Bool.eq_iff_iff, Has_iff, Bool.or_eq_true, Has_iff, List.mem_append, List.mem_singleton, beq_iff_eq]
  exact or_congr Iff.rfl eq_comm
theorem from_yes {x y : Int} {p : List Int} (h : (Has p x || (y == x)) = true) : from_ x (p ++ [y]) = from_ x p ++ [y] := by
  cases hh : Has p x with
  | true => exact from_in hh y
  | false =>
    rw [hh, Bool.false_or, beq_iff_eq] at h
    subst h
    rw [from_out hh]
    unfold from_
    rw [List.dropWhile_append_of_pos]
    · simp
    · intro z hz
      rw [bne_iff_ne]
      rintro rfl
      rw [Has_iff.2 hz] at hh; cases hh
theorem from_no {x y : Int} {p : List Int} (h : (Has p x || (y == x)) = false) : from_ x (p ++ [y]) = from_ x p := by
  rw [from_out (p := p ++ [y]) (by rw [Has_snoc]; exact h), from_out]
  rw [Bool.or_eq_false_iff] at h; exact h.1
theorem from_le (x : Int) (p : List Int) : (from_ x p).length ≤ p.length := (List.dropWhile_sublist _).length_le

def standL (L : List (List Int)) (x y : Int) : List Int := sorted (from_ x (L.take (y.toNat + 1)).flatten)
/-- what has been seen before place j of row k -/
def seen (L : List (List Int)) (k j : Nat) : List Int := (L.take k).flatten ++ (L.getD k []).take j
theorem seen_snoc {L : List (List Int)} {k j : Nat} (h : j < (L.getD k []).length) : seen L k (j + 1) = seen L k j ++ [(L.getD k []).getD j 0] := by
  rw [seen, Kv.take_snoc _ 0 j h, ← List.append_assoc]; rfl
theorem seen_zero (L : List (List Int)) (k : Nat) : seen L k 0 = (L.take k).flatten := by simp [seen]
theorem seen_row {L : List (List Int)} {k n : Nat} (hk : k < L.length) (h : (L.getD k []).length = n) : seen L k n = seen L (k + 1) 0 := by
  rw [seen_zero, flat_snoc L k hk, seen, List.take_of_length_le (l := L.getD k []) (by omega)]
theorem seen_le {L : List (List Int)} {k j : Nat} (hk : k < L.length) : (seen L k j).length ≤ L.flatten.length := by
  have := flat_take_le L (k + 1)
  rw [flat_snoc L k hk, List.length_append] at this
  rw [seen, List.length_append, List.length_take]
  omega

set_option maxRecDepth 100000 in
set_option maxHeartbeats 400000 in
theorem stand_calls (a : Option Addr) (n c : Nat) (L : List (List Int)) (x y : Int) (w : World) (h : ListsAt w a n c L) (hs : L.flatten.length ≤ 100000) (hy0 : 0 ≤ y) (hyn : y < n) :
    Calls Try.prog 110 #[.slice a n c, .agg #[.int .i64 x, .int .i64 y]] w fun e w' => ∃ v, e = .returned v ∧ Made 3 w w' v (standL L x y) := by
  obtain ⟨i0, hi0, hz0, hz1, hz2⟩ := info_parts Try.infoInt
  have hn : n ≤ 9223372036854775807 := Nat.le_trans h.le h.small
  obtain ⟨r, rfl⟩ := Int.eq_ofNat_of_zero_le hy0
  have hrn : r < n := by omega
  have Hres : Hid (standL L x r = sorted (from_ x (seen L (r + 1) 0))) := hid_ (by rw [seen_zero, standL, Int.toNat_natCast])
  clear hy0 hyn
  go_enter Try.func110, Try.ntmps110
  go_wp2
  go_loopw [5, 6, 7] (fun v g i wr => ∃ k : Nat, k ≤ r + 1 ∧ i = .int .i64 k ∧ g = .bool (Has (seen L k 0) x) ∧ wr.ownsRow (w.heap.size + 1) 3 1 v (from_ x (seen L k 0)).length ((from_ x (seen L k 0)).map (Value.int .i64)) ∧
      wr.cell? ⟨w.heap.size, 0, none⟩ = some (.int .i64 x) ∧ wr.cell? ⟨w.heap.size, 1, none⟩ = some (.int .i64 r) ∧ Below (w.heap.size + 1) (w.alloc (.cells #[.int .i64 x, .int .i64 r] 71)) wr) (fun _ _ i _ => r + 1 - (intOf i).toNat)
  case atStart =>
    refine ⟨0, by omega, rfl, rfl, World.ownsRow_nil _ _ _ _, ?_, ?_, Below.refl _ _⟩
    · rw [World.cell?_alloc_at _ _ _ _ (by rfl)]; rfl
    · rw [World.cell?_alloc_at _ _ _ _ (by rfl)]; rfl
  case round =>
    obtain ⟨k, hk, rfl, rfl, hown, hbx, hby, hbel⟩ := hrel
    have hsz := hbel.size
    simp only [size_alloc_one] at hsz
    have hbel0 : Below w.heap.size w wr := ((Below.refl _ w).alloc (Nat.le_refl _) _).trans (hbel.mono (by omega))
    by_cases hlt : k ≤ r
    · have hI := h.below hbel0 (Nat.le_refl _)
      obtain ⟨b, off, a1, n1, c1, rfl, hb, hcell, hrow⟩ := hI.cells k (by omega)
      have hl : k < L.length := by rw [h.len]; omega
      have Hl := hid_ hl; clear hl
      have hn1 : n1 ≤ 9223372036854775807 := Nat.le_trans hrow.le hrow.small
      have hbb : b < w.heap.size := by
        obtain ⟨b', off', _, _, _, e, hb', _⟩ := h.cells k (by omega)
        injection e with e; injection e with e1 e2; subst e1; exact hb'
      clear hbel0
      go_wp2
      obtain ⟨wo, rfl⟩ : ∃ wo : World, wo = wr := ⟨_, rfl⟩
      go_loopw [5, 6, 8] (fun v g i wr => ∃ j : Nat, j ≤ n1 ∧ i = .int .i64 j ∧ g = .bool (Has (seen L k j) x) ∧ wr.ownsRow (w.heap.size + 1) 3 1 v (from_ x (seen L k j)).length ((from_ x (seen L k j)).map (Value.int .i64)) ∧
        wr.cell? ⟨w.heap.size, 0, none⟩ = some (.int .i64 x) ∧ wr.cell? ⟨w.heap.size, 1, none⟩ = some (.int .i64 r) ∧ Below (w.heap.size + 1) (w.alloc (.cells #[.int .i64 x, .int .i64 r] 71)) wr) (fun _ _ i _ => n1 - (intOf i).toNat)
      case atStart => exact ⟨0, by omega, rfl, rfl, hown, hbx, hby, hbel⟩
      case round =>
        obtain ⟨j, hj, rfl, rfl, hown2, hbx2, hby2, hbel2⟩ := hrel
        have hsz2 := hbel2.size
        simp only [size_alloc_one] at hsz2
        have hbel3 : Below w.heap.size w wr := ((Below.refl _ w).alloc (Nat.le_refl _) _).trans (hbel2.mono (by omega))
        have hI2 := h.below hbel3 (Nat.le_refl _)
        clear hbel3
        obtain ⟨b', off', a2, n2, c2, e1, hb', hcell2, hrow2⟩ := hI2.cells k (by omega)
        injection e1 with e1; injection e1 with e1 e2
        subst e1; subst e2
        have Hsame : Hid (a2 = a1 ∧ n2 = n1 ∧ c2 = c1) := hid_ (by
          obtain ⟨b'', off'', a3, n3, c3, e3, hb3, hcell3, hrow3⟩ := h.cells k (by omega)
          injection e3 with e3; injection e3 with e3 e4
          subst e3; subst e4
          have f1 := (hbel.cell (p := ⟨b, off + k, none⟩) (by show b < _; omega)).symm.trans hcell
          have f2 := (hbel2.cell (p := ⟨b, off + k, none⟩) (by show b < _; omega)).symm.trans hcell2
          rw [f1] at f2
          injection f2 with f2; injection f2 with g1 g2 g3
          exact ⟨g1.symm, g2.symm, g3.symm⟩)
        obtain ⟨rfl, rfl, rfl⟩ := Hsame.out
        clear Hsame
        by_cases hlt2 : j < n2
        · obtain ⟨b3, off3, rfl, hb3, hcell3⟩ := hrow2.cells j hlt2
          have Hsn : Hid (seen L k (j + 1) = seen L k j ++ [(L.getD k []).getD j 0]) := hid_ (seen_snoc (by rw [hrow2.len]; exact hlt2))
          generalize hz : (L.getD k []).getD j 0 = z at hcell3 Hsn
          clear hz
          have Hle : Hid ((from_ x (seen L k j)).length + 1 ≤ 1000000) := hid_ (by
            have h1 := from_le x (seen L k j)
            have h2 := seen_le (j := j) Hl.out
            omega)
          generalize hpp : seen L k j = p at hown2 Hsn Hle
          have Hpp := hid_ hpp; clear hpp
          cases hp : Has p x with
          | true =>
            have Hyes := hid_ (from_yes (x := x) (y := z) (p := p) (by rw [hp]; rfl))
            have Hh : Hid (Has (p ++ [z]) x = true) := hid_ (by rw [Has_snoc, hp]; rfl)
            clear hp
            go_wp2
            go_quiet (fail)
            go_wp2_with (at_builtin; refine wpList_append_ints _ rfl (.tmp 38) (.tmp 46) _ rfl (w.heap.size + 1) 3 i0 Try.underlying23 hi0 hz0 hz1 hz2 _ _ _ rfl ((own_drewN hown2 _).alloc _) _ _ _ _ rfl (IntsAt.one _ _ _) Hle.out (le_alloc (w := wr.drewN _) hsz2) ?_; intro v' w1 hown1 hg1 hat1)
            go_roundw
            case rel => exact ⟨j + 1, by omega, by go_num, by rw [Hsn.out, Hh.out], by rw [Hsn.out, Hyes.out, List.length_append]; exact hown1, cell_app (own_drewN hown2 _) hg1 hbx2 (by show w.heap.size < _; omega), cell_app (own_drewN hown2 _) hg1 hby2 (by show w.heap.size < _; omega), below_app (below_drewN hbel2 _) hsz2 (own_drewN hown2 _) hg1⟩
            case measure => simp [intOf]; omega
          | false =>
            cases hzx : (z == x) with
            | true =>
              have Hyes := hid_ (from_yes (x := x) (y := z) (p := p) (by rw [hp]; exact hzx))
              have Hh : Hid (Has (p ++ [z]) x = true) := hid_ (by rw [Has_snoc, hp]; exact hzx)
              clear hp
              go_wp2
              go_quiet (fail)
              go_wp2_with (at_builtin; refine wpList_append_ints _ rfl (.tmp 38) (.tmp 46) _ rfl (w.heap.size + 1) 3 i0 Try.underlying23 hi0 hz0 hz1 hz2 _ _ _ rfl ((own_drewN hown2 _).alloc _) _ _ _ _ rfl (IntsAt.one _ _ _) Hle.out (le_alloc (w := wr.drewN _) hsz2) ?_; intro v' w1 hown1 hg1 hat1)
              go_roundw
              case rel => exact ⟨j + 1, by omega, by go_num, by rw [Hsn.out, Hh.out], by rw [Hsn.out, Hyes.out, List.length_append]; exact hown1, cell_app (own_drewN hown2 _) hg1 hbx2 (by show w.heap.size < _; omega), cell_app (own_drewN hown2 _) hg1 hby2 (by show w.heap.size < _; omega), below_app (below_drewN hbel2 _) hsz2 (own_drewN hown2 _) hg1⟩
              case measure => simp [intOf]; omega
            | false =>
              have Hno := hid_ (from_no (x := x) (y := z) (p := p) (by rw [hp]; exact hzx))
              have Hh : Hid (Has (p ++ [z]) x = false) := hid_ (by rw [Has_snoc, hp]; exact hzx)
              clear hp
              go_wp2
              go_quiet (fail)
              go_wp2
              go_roundw
              case rel => exact ⟨j + 1, by omega, by go_num, by rw [Hsn.out, Hh.out], by rw [Hsn.out, Hno.out]; exact own_drewN hown2 _, hbx2, hby2, below_drewN hbel2 _⟩
              case measure => simp [intOf]; omega
        · obtain rfl : j = n2 := by omega
          have Hse := hid_ (seen_row Hl.out hrow2.len)
          rw [Hse.out] at hown2
          go_wp2
          go_roundw
          case rel => exact ⟨k + 1, by omega, by go_num, by rw [Hse.out], hown2, hbx2, hby2, hbel2⟩
          case measure => simp [intOf]; omega
    · obtain rfl : k = r + 1 := by omega
      obtain ⟨a4, c4, rfl, hI4⟩ := IntsAt.own hown
      generalize hpp : from_ x (seen L (r + 1) 0) = p at hI4
      have Hpp := hid_ hpp; clear hpp
      generalize hm : (from_ x (seen L (r + 1) 0)).length = m at hI4
      clear hm hown
      go_wp2_with (go_at_call 75; refine (sorted_calls _ _ _ _ _ hI4).mono ?_; rintro e w' ⟨v', rfl, hmade⟩)
      go_ret
      exact ⟨_, rfl, by rw [Hres.out, Hpp.out]; exact hmade.after hbel0⟩
end Go.Proofs.Ytoopgmoopmbfnaa
