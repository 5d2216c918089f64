import Derived.Test.YtdhmcmkpeaoigaaYX
import Derived.Test.YtdhmcmkpeaoigaaYP
namespace Go.Proofs.Ytdhmcmkpeaoigaa
open Go.RowKit Go.Proofs.Kv Go

/-! ### Doubles of the document -/
set_option maxRecDepth 100000 in
set_option maxHeartbeats 4000000 in
theorem r7Doubles_calls (a : Option Addr) (n c : Nat) (T : List (List Int)) (w : World) (h : ListsAt w a n c T) :
    Calls Try.prog 50 #[.slice a n c] w fun e w' => ∃ v us, e = .returned (.tuple #[v, .int .i64 (validT T)]) ∧ OwnRw 28 3 w' w.heap.size v us (resDbl T) ∧ Below w.heap.size w w' := by
  have HR : Hid (resDbl T = if validT T = 0 then dblG T T.length else []) := hid_ rfl
  have hlen := h.len
  have HT1 := hid_ (fun W (hW : Below w.heap.size w W) => h.below hW (Nat.le_refl _))
  have HV := hid_ (r7Validate_calls a n c T w h)
  generalize resDbl T = R at *
  by_cases he : validT T = 0
  · have g := validT_ok he
    have HR' : Hid (R = dblG T n) := hid_ ((HR.out.trans (if_pos he)).trans (by rw [hlen]))
    rw [he] at HV ⊢
    have hn6 : n ≤ 6 := by have := g.le; omega
    have HG := hid_ (dblG_good T)
    have HS : Hid (∀ k, dblG T (k + 1) = addG T (dblG T k) k) := hid_ (fun _ => rfl)
    have Hlen := hid_ hlen
    obtain ⟨i0, hi0, hz0, hz1, hz2⟩ := info_parts Try.infoInt
    obtain ⟨i1, hi1, hz0', hz1', hz2'⟩ := info_parts Try.infoInts
    clear he HR h hlen g
    go_enter Try.func50, Try.ntmps50
    go_wp2_with (go_at_call 25; (with_reducible refine HV.out.mono ?_); rintro e w2 ⟨rfl, q, rfl⟩)
    go_loopw [5, 6] (fun v i wr => ∃ (k : Nat) (us : List Value), k ≤ n ∧ i = .int .i64 k ∧ OwnRw 28 3 wr w.heap.size v us (dblG T k) ∧ Below w.heap.size w wr) (fun _ i _ => n - (intOf i).toNat)
    case atStart => exact ⟨0, [], Nat.zero_le _, rfl, OwnRw.nil _ _ (by decide), below_drewN (Below.refl _ _) _⟩
    case round =>
      obtain ⟨k, us, hk, rfl, hO, hbr⟩ := hrel
      have hsz := hbr.size
      by_cases hlt : k < n
      · have hg := HG.out k
        have hs := HS.out k
        unfold addG at hs
        have hgl := hg.le
        have hgl2 := hg.len
        have Hg := hid_ hg
        have HO := hid_ hO
        have Hbr := hid_ hbr
        obtain ⟨r, hr⟩ : ∃ r, T.getD k [] = r := ⟨_, rfl⟩
        have Hr := hid_ hr
        rw [hr] at hs
        have Hs := hid_ hs
        clear hs hg hO hbr hr
        generalize hgk : dblG T k = G at *
        clear hgk
        generalize hgk1 : dblG T (k + 1) = G1 at *
        have Hg1 := hid_ hgk1
        clear hgk1
        obtain ⟨m, hm⟩ : ∃ m, G.length = m := ⟨_, rfl⟩
        have Hm := hid_ hm
        rw [hm] at hgl hgl2 Hs
        have HHi : Hid (∀ j, j < m → mtG T r (G.getD j []) = true → (∀ i, i < j → mtG T r (G.getD i []) = false) → G1 = G.set j (G.getD j [] ++ [(k : Int)])) := hid_ (fun j hj hh hb => by
          have := Hs.out
          rw [fstG_hit (by rw [hm]; exact hj) hh hb, if_pos hj] at this; exact this)
        have HNo : Hid ((∀ i, i < m → mtG T r (G.getD i []) = false) → G1 = G ++ [[(k : Int)]]) := hid_ (fun hb => by
          have := Hs.out
          rw [fstG_none hm hb, if_neg (by omega)] at this; exact this)
        obtain ⟨al, cl, ev, -⟩ := HO.out.lists
        rw [hm] at ev
        subst ev
        clear hm Hs
        obtain ⟨wo, hwo⟩ : ∃ wo : World, wo = wr := ⟨_, rfl⟩
        go_wp2
        go_loopw [7, 8] (fun f i wr => ∃ j : Nat, j ≤ m ∧ i = .int .i64 j ∧ Below w.heap.size w wr ∧ ((f = .bool false ∧ (∀ i, i < j → mtG T r (G.getD i []) = false) ∧ OwnRw 28 3 wr w.heap.size (.slice al m cl) us G) ∨ (f = .bool true ∧ ∃ us', OwnRw 28 3 wr w.heap.size (.slice al m cl) us' G1))) (fun _ i _ => m - (intOf i).toNat)
        case atStart => exact ⟨0, Nat.zero_le _, rfl, Hbr.out, .inl ⟨rfl, fun i hi => absurd hi (by omega), HO.out⟩⟩
        case round =>
          obtain ⟨j, hj, rfl, hb, hcase⟩ := hrel
          have hz := hb.size
          rcases hcase with ⟨rfl, hall, hO⟩ | ⟨rfl, us', hO⟩
          · by_cases hjm : j < m
            · have Hall := hid_ hall
              obtain ⟨u, hu, hro⟩ := hO.row j (by rw [Hm.out]; exact hjm)
              obtain ⟨m5, hm5⟩ : ∃ m5, (G.getD j []).length = m5 := ⟨_, rfl⟩
              have hpos : 0 < m5 := by rw [← hm5]; exact Hg.out.pos j (by rw [Hm.out]; exact hjm)
              have hm5l : m5 ≤ 6 := by rw [← hm5]; have := hgl j hjm; omega
              have hlo := Hg.out.lo j (by rw [Hm.out]; exact hjm)
              have hhi := Hg.out.hi j (by rw [Hm.out]; exact hjm)
              rw [hm5] at hro
              obtain ⟨g5, c5, rfl, hd1, -, hd3, -⟩ := own_form7 hro hpos
              have htop := hO.top
              rw [Hm.out] at htop
              obtain ⟨gl, capl, e, -, -, hgl1, -⟩ := own_form7 htop (by omega)
              injection e with e1 e2 e3
              subst e1; subst e3
              have qj : wr.cell? ⟨gl, j, none⟩ = some (.slice (some ⟨g5, 0, none⟩) m5 c5) := by rw [htop.cellAt j (by omega)]; exact hu
              obtain ⟨qc, -⟩ := own_cell7 hro hpos
              have hmt : mtG T r (G.getD j []) = decide (T.getD ((G.getD j []).getD 0 0).toNat [] = r) := rfl
              obtain ⟨x, hx⟩ := nat_of hlo
              rw [hx] at qc hmt hhi
              rw [Int.toNat_natCast] at hmt
              have hxn : x < n := by omega
              obtain ⟨bt, offt, a1, n1, c1, rfl, hb1, hcell1, hrow1⟩ := (HT1.out wr hb).cells x hxn
              obtain ⟨b2, off2, a2, n2, c2, e, hb2, hcell2, hrow2⟩ := (HT1.out wr hb).cells k hlt
              injection e with e; injection e with e1 e3; subst e1; subst e3
              rw [Hr.out] at hrow2
              have HE := hid_ (fun y => sameI7_calls a1 n1 c1 _ a2 n2 c2 r (wr.drewN y) (hrow1.drewN y) (hrow2.drewN y))
              have Hm5 := hid_ hm5
              have HOw := hid_ hO
              have Hu := hid_ hu
              have Hro := hid_ hro
              have Hb := hid_ hb
              have hhit := HHi.out j hjm
              clear hO htop hro hu hm5 hrow1 hrow2 hb hall hx hlo
              rw [← hmt] at HE
              cases hmm : mtG T r (G.getD j []) with
              | true =>
                rw [hmm] at HE
                have HG1 := hid_ (hhit hmm Hall.out)
                clear hmm hmt hhit
                have HO5 := hid_ (fun y => (HOw.out.drewN y).below (below_alloc (wr.drewN y) (.cells #[.int .i64 (k : Int)] 3)) (Nat.le_refl _))
                have HR5 := hid_ (fun y => own_below (own_drewN Hro.out y) (below_alloc (wr.drewN y) (.cells #[.int .i64 (k : Int)] 3)) (Nat.le_refl _))
                have HB5 := hid_ (fun y => (below_drewN Hb.out y).trans ((below_alloc (wr.drewN y) (.cells #[.int .i64 (k : Int)] 3)).mono hz))
                go_wp2_with fail
                go_quiet ((go_at_call 26; exact quiet_more (HE.out _)))
                go_wp2_with (at_builtin; refine wpList_append_ints _ rfl (.tmp 49) (.tmp 51) _ rfl w.heap.size 3 i0 Try.underlying28 hi0 hz0 hz1 hz2 _ _ _ rfl (HR5.out _) _ _ _ _ rfl (IntsAt.one _ _ _) (by omega) (HB5.out _).size ?_; intro v6 w6 ho6 hg6 hat6; have ht6 := (HO5.out _).topKept Hu.out hg6; rw [Hm.out] at ht6; obtain ⟨a6, c6, rfl, -⟩ := IntsAt.own ho6; have q6 : w6.cell? ⟨gl, j, none⟩ = some (.slice (some ⟨g5, 0, none⟩) m5 c5) := (ht6.cellAt j (by omega)).trans Hu.out; have f6 : w6.frozen? ⟨gl, j, none⟩ = false := ht6.frozenAt j; have hP6 := (HO5.out _).put (i := j) (r := G.getD j [] ++ [(k : Int)]) Hm.out.symm Hu.out hg6 (by rw [List.length_append, Hm5.out]; exact ho6) (fun b9 hb9 => hat6.elim (fun e => .inl (e.symm.trans hb9)) (fun e => .inr (by have h9 := hb9.symm.trans e; injection h9 with h9; omega))); rw [← HG1.out] at hP6; have HP6 := hid_ hP6; have Hb6 := hid_ (Below.setCell (p := ⟨gl, j, none⟩) ((HB5.out _).grown hg6 (HB5.out _).size (fun r e => ((HR5.out 0).lt r e).1)) hgl1 (.slice a6 (m5 + 1) c6)); clear ht6 hP6 ho6 hg6 hat6)
                go_roundw
                case rel => exact ⟨j + 1, by omega, by go_num, Hb6.out, .inr ⟨rfl, _, HP6.out⟩⟩
                case measure => simp [intOf]; omega
              | false =>
                rw [hmm] at HE
                have Hall2 := hid_ (lt_snoc (p := fun j => mtG T r (G.getD j []) = false) Hall.out hmm)
                clear hmm hmt hhit
                go_wp2_with fail
                go_quiet ((go_at_call 26; exact quiet_more (HE.out _)))
                go_wp2
                go_roundw
                case rel => exact ⟨j + 1, by omega, by go_num, below_drewN Hb.out _, .inl ⟨rfl, Hall2.out, HOw.out.drewN _⟩⟩
                case measure => simp [intOf]; omega
            · obtain rfl : j = m := by omega
              have HG1 := hid_ (HNo.out hall)
              have HOw := hid_ hO
              have Hb := hid_ hb
              clear hO hb hall
              obtain ⟨W5, hW5⟩ : ∃ W5, wr.alloc (.cells #[.int .i64 (k : Int)] 3) = W5 := ⟨_, rfl⟩
              have b5 : Below wr.heap.size wr W5 := hW5 ▸ below_alloc _ _
              have HR5 : Hid (W5.ownsRow wr.heap.size 3 1 (.slice (some ⟨wr.heap.size, 0, none⟩) 1 1) 1 ([(k : Int)].map (Value.int .i64))) := hid_ (hW5 ▸ World.ownsRow_lit (base := wr.heap.size) (e := 3) (size := 1) wr #[.int .i64 (k : Int)] 1 (Nat.le_refl _) (by unfold maxLen; omega) rfl)
              have ht5 := (HOw.out.below b5 (Nat.le_refl _)).top
              rw [Hm.out] at ht5
              have hz5 : w.heap.size ≤ W5.heap.size := Nat.le_trans hz b5.size
              go_wp2_with (at_builtin; refine wpList_push_val2 _ rfl (.tmp 56) (.tmp 59) _ rfl w.heap.size 28 i1 Try.underlying22 hi1 hz0' rfl hz1' hz2' (by omega) _ _ _ rfl ht5 (.slice (some ⟨wr.heap.size, 0, none⟩) 1 1) rfl 28 rfl (by omega) hz5 ?_; intro v6 w6 hown6 hg6 hat6; have hP6 := OwnRw.push (r := [(k : Int)]) hz HOw.out b5 HR5.out (by rw [Hm.out]; exact hown6) hg6; rw [← HG1.out] at hP6; have HP6 := hid_ hP6; have Hb6 := hid_ (below_app (Hb.out.trans (b5.mono hz)) hz5 ht5 hg6); clear hP6 hown6 hg6 hat6 ht5)
              go_roundw
              case rel => exact ⟨k + 1, _, by omega, by go_num, by rw [Hg1.out]; exact HP6.out, Hb6.out⟩
              case measure => simp [intOf]; omega
          · have HOw := hid_ hO
            have Hb := hid_ hb
            clear hO hb
            by_cases hjm : j < m
            · go_wp2
              go_roundw
              case rel => exact ⟨k + 1, us', by omega, by go_num, by rw [Hg1.out]; exact HOw.out, Hb.out⟩
              case measure => simp [intOf]; omega
            · go_wp2
              go_roundw
              case rel => exact ⟨k + 1, us', by omega, by go_num, by rw [Hg1.out]; exact HOw.out, Hb.out⟩
              case measure => simp [intOf]; omega
      · obtain rfl : k = n := by omega
        have HO := hid_ hO
        clear hO
        go_wp2
        go_ret2
        exact ⟨_, us, rfl, by rw [HR'.out]; exact HO.out, hbr⟩
  · have HR' : Hid (R = []) := hid_ (HR.out.trans (if_neg he))
    have hq : (validT T != 0) = true := by simpa using he
    generalize validT T = x at *
    clear he HR
    go_enter Try.func50, Try.ntmps50
    go_wp2_with (go_at_call 25; (with_reducible refine HV.out.mono ?_); rintro e w2 ⟨rfl, q, rfl⟩)
    go_ret2
    exact ⟨_, [], rfl, by rw [HR'.out]; exact OwnRw.nil _ _ (by decide), below_drewN (Below.refl _ _) _⟩
end Go.Proofs.Ytdhmcmkpeaoigaa
