import Derived.Test.YtoopgmoopmbfnaaTbl
namespace Go.Proofs.Ytoopgmoopmbfnaa
open Go.RowKit Go.Proofs.Kv Go.Proofs.Snd

/-! ### Table -/
def tableV (m : Int) (F : List (List Int)) : List (List Int) := if famErr m F = 0 then (match fwTo F (ordersL m.toNat) with | some o => tabL F o | none => []) else []
theorem table_some {m : Int} {F : List (List Int)} (h : famErr m F = 0) {y : List Int} (hy : fwTo F (ordersL m.toNat) = some y) : ordErr m F y = 0 ∧ fitsB F y = true ∧ fewV m F = marksR F y ∧ tableV m F = tabL F y := by
  have := few_rel h
  rw [hy] at this
  obtain ⟨h1, h2, h3⟩ := this
  exact ⟨h2, h3, by rw [fewV, if_pos h, h1], by rw [tableV, if_pos h, hy]⟩
theorem table_none {m : Int} {F : List (List Int)} (h : famErr m F = 0) (hy : fwTo F (ordersL m.toNat) = none) : fewV m F = 0 ∧ tableV m F = [] := by
  have := few_rel h
  rw [hy] at this
  have h0 : fewR F (ordersL m.toNat) = 0 := this
  exact ⟨by rw [fewV, if_pos h, h0], by rw [tableV, if_pos h, hy]⟩
theorem marksN_len {m : Int} {F : List (List Int)} {o : List Int} (h : ordErr m F o = 0) : (marksN F o).length = marksR F o := by
  rw [← marksV_len h, marksN_int h, List.length_map]
theorem table_facts {m : Int} {F : List (List Int)} (h : 0 < fewV m F) : checkErr m F (tableV m F) = 0 ∧ (tableV m F).length = fewV m F ∧ (tableV m F).length ≤ 6 ∧ (∀ s ∈ tableV m F, s.length ≤ 6) ∧ (tableV m F).flatten.length ≤ 6 := by
  have he : famErr m F = 0 := by
    rcases Classical.em (famErr m F = 0) with h' | h'
    · exact h'
    · rw [fewV, if_neg h'] at h; omega
  cases hy : fwTo F (ordersL m.toNat) with
  | none => have := (table_none he hy).1; omega
  | some y =>
    obtain ⟨h1, h2, h3, h4⟩ := table_some he hy
    have hg := tab_good h1
    rw [h4, h3]
    exact ⟨tab_check h1 h2, by rw [tab_len, marksN_len h1], hg.n6, hg.row, hg.flat⟩
theorem table_no {m : Int} {F : List (List Int)} (h : ¬ 0 < fewV m F) : tableV m F = [] := by
  rcases Classical.em (famErr m F = 0) with he | he
  · cases hy : fwTo F (ordersL m.toNat) with
    | none => exact (table_none he hy).2
    | some y =>
      obtain ⟨h1, h2, h3, h4⟩ := table_some he hy
      have := marks_pos h1
      omega
  · rw [tableV, if_neg he]
theorem cut_zero (a : Option Addr) (c : Nat) (a' : Option Addr) (c' : Nat) (w : World) : Calls Try.prog 70 #[.slice a 0 c, .slice a' 0 c'] w fun e w' => e = .returned (.slice none 0 0) ∧ w = w' := by
  go_enter Try.func70, Try.ntmps70
  go_wp2
  go_loop [5, 11] (fun r i => r = .slice none 0 0 ∧ i = .int .i64 0) (fun _ _ => 0)
  case atStart => exact ⟨rfl, rfl⟩
  case round =>
    obtain ⟨rfl, rfl⟩ := hrel
    go_wp2
    go_ret
    exact ⟨rfl, rfl⟩
set_option maxRecDepth 100000 in
theorem sndTable_calls (m : Int) (a : Option Addr) (n c : Nat) (F : List (List Int)) (w : World) (h : ListsAt w a n c F) :
    Calls Try.prog 44 #[.int .i64 m, .slice a n c] w fun e w' => ∃ v, e = .returned (.tuple #[v, .bool (decide (0 < fewV m F)), .int .i64 (famErr m F)]) ∧ MadeL 23 w w' v (tableV m F) := by
  have hval := sndFamily_calls m a n c F w h
  by_cases he : famErr m F = 0
  · obtain ⟨⟨hm1, hm6⟩, hF6, _⟩ := famErr_ok he
    obtain ⟨mn, rfl⟩ := Int.eq_ofNat_of_zero_le (show 0 ≤ m by omega)
    have hn6 : n ≤ 6 := by rw [← h.len]; exact hF6
    have hfw := fun W hW => fewest_calls mn a n c F W hW (by omega) (by omega) hn6
    have HL := hid_ (fun W (hW : Below w.heap.size w W) => h.below hW (Nat.le_refl _))
    cases hy : fwTo F (ordersL mn) with
    | none =>
      obtain ⟨f1, f2⟩ := table_none he (by rw [Int.toNat_natCast]; exact hy)
      have Hd : Hid (decide (0 < fewV (mn : Int) F) = false) := hid_ (by rw [f1]; rfl)
      have Ht := hid_ f2
      rw [hy] at hfw
      have Hfw := hid_ hfw
      rw [he] at hval ⊢
      rw [Hd.out, Ht.out]
      have Hv := hid_ hval
      clear hval he hfw hy f1 f2 h
      go_enter Try.func44, Try.ntmps44
      go_wp2_with fail
      refine Hv.out.mono ?_
      rintro e w1 ⟨rfl, q, hq⟩
      have hb1 : Below w.heap.size w w1 := by rw [hq]; exact below_drewN (Below.refl _ _) q
      clear hq
      have Hc := hid_ (Hfw.out w1 (HL.out w1 hb1))
      go_wp2_with fail
      refine Hc.out.mono ?_
      rintro e w2 ⟨vb, ve, rfl, ⟨o1, o2⟩, hb2⟩
      have hb2' := below_then hb1 hb2
      obtain ⟨ab, cb, rfl, -⟩ := IntsAt.own (l := []) o1
      obtain ⟨ae, ce, rfl, -⟩ := IntsAt.own (l := []) o2
      clear o1 o2 hb1 hb2
      have Hz := hid_ (cut_zero ab cb ae ce w2)
      go_wp2_with (go_at_call 70; refine (Hz.out).mono ?_; rintro e w' ⟨rfl, rfl⟩)
      go_ret3
      exact ⟨_, rfl, MadeL.none_ _ hb2'⟩
    | some y =>
      obtain ⟨h1, h2, h3, h4⟩ := table_some he (by rw [Int.toNat_natCast]; exact hy)
      have Hd : Hid (decide (0 < fewV (mn : Int) F) = true) := hid_ (by rw [h3]; exact decide_eq_true (marks_pos h1))
      have Ht : Hid (tableV (mn : Int) F = cutF y 0 (marksN F y)) := hid_ h4
      have hms := marksN_int h1
      obtain ⟨hp, hp6, _⟩ := ord_pos h1
      have Hasc : Hid (Asc y.length 0 (marksN F y)) := hid_ (marksN_good F y)
      have hN6 : (marksN F y).length ≤ 1000 := by rw [← tab_len]; have := (tab_good h1).n6; omega
      have hN0 : 0 < (marksN F y).length := by rw [marksN_len h1]; exact marks_pos h1
      rw [hy] at hfw
      have Hfw := hid_ hfw
      rw [he] at hval ⊢
      rw [Hd.out]
      have Hv := hid_ hval
      have Hms := hid_ hms
      clear hval he hfw hy h1 h2 h3 h4 h hms
      go_enter Try.func44, Try.ntmps44
      go_wp2_with fail
      refine Hv.out.mono ?_
      rintro e w1 ⟨rfl, q, hq⟩
      have hb1 : Below w.heap.size w w1 := by rw [hq]; exact below_drewN (Below.refl _ _) q
      clear hq
      have Hc := hid_ (Hfw.out w1 (HL.out w1 hb1))
      go_wp2_with fail
      refine Hc.out.mono ?_
      rintro e w2 ⟨vb, ve, rfl, ⟨o1, o2⟩, hb2⟩
      have o1' : w2.ownsRow w1.heap.size 3 1 vb y.length (y.map (Value.int .i64)) := o1
      have o2' : w2.ownsRow w1.heap.size 3 1 ve (marksV F y).length ((marksV F y).map (Value.int .i64)) := o2
      rw [Hms.out, List.length_map] at o2'
      have hb2' := below_then hb1 hb2
      obtain ⟨g, cap, rfl, -, -, -, hg⟩ := own_form o1' hp
      obtain ⟨a5, c5, e5, hI5⟩ := IntsAt.own o1'
      injection e5 with z1 z2 z3
      subst z1; subst z3
      obtain ⟨a6, c6, rfl, hE6⟩ := IntsAt.own o2'
      have Hcut := hid_ (cut_calls g 0 _ _ _ _ _ _ _ w2 hI5 hE6 Hasc.out hN6)
      have HI := hid_ hI5
      have Hb2 := hid_ hb2'
      clear o1 o2 o1' o2' hI5 hE6 hb1 hb2 hb2' Hc
      go_wp2_with fail
      refine Hcut.out.mono ?_
      rintro e w7 ⟨v7, rfl, hown7, hb7⟩
      have Hres : Hid (OwnL 23 w7 w.heap.size v7 (tableV (mn : Int) F)) := hid_ (by
        rw [Ht.out]
        refine (ownL_cut hown7 (HI.out.below hb7 (Nat.le_refl _)) Hasc.out fun e => ?_).base Hb2.out.size
        have := (hown7.lt g e).1
        omega)
      clear hown7
      go_wp2
      go_ret3
      exact ⟨v7, rfl, ⟨Hres.out, below_then Hb2.out hb7⟩⟩
  · have Ht : Hid (tableV m F = []) := hid_ (if_neg he)
    have Hd : Hid (decide (0 < fewV m F) = false) := hid_ (by rw [fewV, if_neg he]; rfl)
    rw [Hd.out, Ht.out]
    generalize famErr m F = er at *
    have hq : (er != 0) = true := by simpa using he
    have Hv := hid_ hval; clear hval he
    go_enter Try.func44, Try.ntmps44
    go_wp2_with fail
    refine Hv.out.mono ?_
    rintro e w1 ⟨rfl, q, rfl⟩
    go_wp2
    go_ret3
    exact ⟨_, rfl, MadeL.none_ _ (below_drewN (Below.refl _ _) q)⟩
end Go.Proofs.Ytoopgmoopmbfnaa
