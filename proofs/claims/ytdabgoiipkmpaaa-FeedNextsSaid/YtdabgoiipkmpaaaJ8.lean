import Derived.Test.YtdabgoiipkmpaaaJ7
import Derived.Test.YtdabgoiipkmpaaaJ1
import Derived.Test.YtdabgoiipkmpaaaJy
namespace Go.Proofs.Ytdabgoiipkmpaaa
open Go.RowKit Go.Proofs.Kv

/-! ### Next: the program -/
def resNext (L : List Rl) (l : List Int) : List (List Int) := if errSW L [l] = 0 then foldI ((movesL L l).map (·.2)) else []
set_option maxRecDepth 100000 in
set_option maxHeartbeats 4000000 in
theorem feNext_calls (A : Option Addr) (N C : Nat) (L : List Rl) (a : Option Addr) (n c : Nat) (l : List Int) (w : World) (h : RulesAt w A N C L) (hI : IntsAt w a n c l) :
    Calls Try.prog 23 #[.slice A N C, .slice a n c] w fun e w' => ∃ v, e = .returned (.tuple #[v, .int .i64 (errSW L [l])]) ∧ MadeL 23 w w' v (resNext L l) := by
  obtain ⟨w1, hw1⟩ : ∃ w1, w.alloc (.cells #[.slice a n c] 23) = w1 := ⟨_, rfl⟩
  have c01 : Below w.heap.size w w1 := by rw [← hw1]; exact below_alloc _ _
  have HV := hid_ (feValid_calls A N C L _ 1 1 [l] w1 (h.below c01 (Nat.le_refl _)) (ListsAt.one' hw1 hI))
  have H01 := hid_ c01
  by_cases he : errSW L [l] = 0
  · have Hr : Hid (resNext L l = foldI ((movesL L l).map (·.2))) := hid_ (if_pos he)
    obtain ⟨g1, g2⟩ := errSW_ok' he
    have HM := hid_ (fun W (hW : Below w.heap.size w W) => moves_calls A N C L a n c l W (h.below hW (Nat.le_refl _)) (hI.below hW (Nat.le_refl _)) (validS_ok g1).2 (by rw [← h.len]; exact (validS_ok g1).1) g2)
    have Hle := hid_ (movesL_le L he)
    obtain ⟨i1, hi1, hz0, hz1, hz2⟩ := info_parts Try.infoInts
    rw [he] at HV ⊢
    generalize movesL L l = M at *
    clear he g1 g2 h hI c01
    have hM54 := Hle.out
    go_enter Try.func23, Try.ntmps23
    go_wp2_with (first
      | (go_at_call 54; (with_reducible refine HV.out.mono ?_); rintro e w3 ⟨rfl, hb3⟩; have hb3' := H01.out.trans (hb3.mono H01.out.size))
      | (go_at_call 55; (with_reducible refine (HM.out w3 hb3').mono ?_); rintro e w4 ⟨v4, rfl, hM4, hc4⟩; have hb4 := hb3'.trans (hc4.mono hb3'.size); obtain ⟨a4, c4, rfl, hA4⟩ := hM4.at_; have HA4 := hid_ hA4; have Hb4 := hid_ hb4; clear hM4 hA4 hc4 hb4))
    go_loopw [7, 21] (fun v i wr => ∃ k : Nat, k ≤ M.length ∧ i = .int .i64 k ∧ OwnL 23 wr w4.heap.size v ((M.take k).map (·.2)) ∧ Below w4.heap.size w4 wr) (fun _ i _ => M.length - (intOf i).toNat)
    case atStart => exact ⟨0, Nat.zero_le _, rfl, OwnL.nil _ _ _, Below.refl _ _⟩
    case round =>
      obtain ⟨k, hk, rfl, hO, hb⟩ := hrel
      by_cases hlt : k < M.length
      · obtain ⟨bm, om, u, rfl, hbm, hbmlt, m0, m1, m2, hu4⟩ := HA4.out.cells k hlt
        have m0 := cell_below m0 hb; have m1 := cell_below m1 hb; have m2 := cell_below m2 hb
        have htk : Hid ((M.take (k + 1)).map (·.2) = (M.take k).map (·.2) ++ [(M.getD k M0).2]) := hid_ (by rw [take_snoc M M0 k hlt, List.map_append]; rfl)
        have hkl : ((M.take k).map (·.2)).length ≤ 54 := by rw [List.length_map, List.length_take]; omega
        generalize M.getD k M0 = m at *
        obtain ⟨⟨mr, mp⟩, ml⟩ := m
        simp only at m0 m1 m2
        obtain ⟨a9, n9, c9, rfl, hI9, -⟩ := hu4
        obtain ⟨w5, hw5⟩ : ∃ w5, wr.alloc (.cells #[.int .i64 mr, .int .i64 mp, .slice a9 n9 c9] 76) = w5 := ⟨_, rfl⟩
        have c5 : Below wr.heap.size wr w5 := by rw [← hw5]; exact below_alloc _ _
        obtain ⟨j0, j1, j2⟩ := box3' hw5
        have hO5 := hid_ (hO.below c5 (Nat.le_refl _))
        have hI5 := hid_ (hI9.below (hb.trans (c5.mono hb.size)) (Nat.le_refl _))
        have Hrow : Hid (∀ b off, 0 < n9 → a9 = some ⟨b, off, none⟩ → u7.ownBlock ≠ some b) := hid_ (fun b off hn ha e => by have := hI9.lt hn ha; have := (hO.lt b e).1; omega)
        have Hb := hid_ (hb.trans (c5.mono hb.size))
        have hkl2 : ((M.take k).map (·.2)).length ≤ 10000 := by omega
        have Hkl := hid_ hkl2
        clear hO hb hI9 hkl2
        go_wp2_with (at_builtin; refine wpList_push_list _ rfl (.tmp 25) (.tmp 28) _ rfl w4.heap.size 23 i1 Try.underlying36 hi1 hz0 hz1 hz2 u7 ((M.take k).map (·.2)) rfl hO5.out a9 n9 c9 ml _ rfl hI5.out Hrow.out (by omega) Hb.out.size ?_; intro v6 w6 hO6 hg6 hat6)
        go_roundw
        case rel => exact ⟨k + 1, by omega, by go_num, by rw [htk.out]; exact hO6, ((Hb.out.trans ((below_alloc w5 _).mono Hb.out.size)).grown hg6 (by have := Hb.out.size; simp; omega) fun i hi => (hO5.out.lt i hi).1)⟩
        case measure => simp [intOf]; omega
      · obtain rfl : M.length = k := by omega
        rw [List.take_length] at hO
        have hml : (M.map (·.2)).length ≤ 1000000 := by rw [List.length_map]; omega
        have Hml := hid_ hml
        have HSo := hid_ (sortAny_calls hO hml hb.size)
        have HE : Hid (cpL ((M.map (·.2)).mergeSort leL) ((M.map (·.2)).mergeSort leL).length = resNext L l) := hid_ (by rw [Hr.out, foldI_eq]; simp)
        have HS2 : Hid (((M.map (·.2)).mergeSort leL).length ≤ 1000000) := hid_ (by simpa using hml)
        generalize (M.map (·.2)).mergeSort leL = S at *
        have Hb := hid_ hb
        clear hO hb hml
        go_wp2_with (first
          | (go_at_call 60; (with_reducible refine HSo.out.mono ?_); rintro e w6 ⟨rfl, hO6, hb6⟩; have hb6' := Hb.out.trans hb6; have HCo := hid_ (compactFunc_calls hO6 HS2.out hb6'.size); rw [HE.out] at HCo; clear hO6)
          | (go_at_call 62; (with_reducible refine HCo.out.mono ?_); rintro e w7 ⟨v7, rfl, hO7, hb7⟩))
        go_ret2
        exact ⟨_, rfl, ⟨hO7.base Hb4.out.size, Hb4.out.trans ((hb6'.trans hb7).mono Hb4.out.size)⟩⟩
  · have Hr : Hid (resNext L l = []) := hid_ (if_neg he)
    have hq : (errSW L [l] != 0) = true := by simpa using he
    generalize errSW L [l] = x at *
    clear he h hI c01
    go_enter Try.func23, Try.ntmps23
    go_wp2_with (go_at_call 54; (with_reducible refine HV.out.mono ?_); rintro e w3 ⟨rfl, hb3⟩)
    go_ret2
    exact ⟨_, rfl, by rw [Hr.out]; exact MadeL.none_ _ (H01.out.trans (hb3.mono H01.out.size))⟩
end Go.Proofs.Ytdabgoiipkmpaaa
