import Derived.Test.YtdhmcmkpeaoigaaYW
import Derived.Shelf.Abstract
namespace Go.Proofs.Kv
open Go.RowKit Go
theorem OwnRw.topKept {E E1 : TypeId} {w w' : World} {B i : Nat} {v u : Value} {us : List Value} {L : List (List Int)} (h : OwnRw E E1 w B v us L) (hu : us[i]? = some u) (hg : w.grownBy w' u.ownBlock) : w'.ownsRow B E 1 v L.length us := by
  refine h.top.kept hg ?_
  by_cases hx : v.ownBlock = none
  · exact .inl hx
  · obtain ⟨b, hb⟩ := Option.ne_none_iff_exists'.1 hx
    exact .inr (by rw [hb]; exact fun q => h.diff hu b q.symm hb)
end Go.Proofs.Kv
namespace Go.Proofs.Ytdhmcmkpeaoigaa
open Go.RowKit Go.Proofs.Kv Go

/-! ### Doubles of the program -/
set_option maxRecDepth 100000 in
set_option maxHeartbeats 2000000 in
theorem dbl1_calls (tb rb : Nat) (aT : Option Addr) (n c : Nat) (T : List (List Int)) (ar : Option Addr) (m cr : Nat) (r : List Int) (a : Option Addr) (k ca : Nat) (s : List Int) (w : World)
    (qt : w.cell? ⟨tb, 0, none⟩ = some (.slice aT n c)) (qr : w.cell? ⟨rb, 0, none⟩ = some (.slice ar m cr)) (hT : ListsAt w aT n c T) (hr : IntsAt w ar m cr r) (hs : IntsAt w a k ca s) (hk : 0 < k) (h0 : 0 ≤ s.getD 0 0) (h1 : s.getD 0 0 < n) :
    Calls Try.prog 88 #[.slice a k ca, .pointer (some ⟨tb, 0, none⟩), .pointer (some ⟨rb, 0, none⟩)] w fun e w' => e = .returned (.bool (mtG T r s)) ∧ Below w.heap.size w w' := by
  obtain ⟨b, off, rfl, hb, hcell⟩ := hs.cells 0 hk
  rw [Nat.add_zero] at hcell
  have HM : Hid (mtG T r s = decide (T.getD (s.getD 0 0).toNat [] = r)) := hid_ rfl
  generalize mtG T r s = M at *
  obtain ⟨x, hx⟩ := nat_of h0
  rw [hx] at hcell h1 HM
  rw [Int.toNat_natCast] at HM
  have hxn : x < n := by omega
  obtain ⟨b1, off1, a2, n2, c2, rfl, hb1, hcell1, hrow⟩ := hT.cells x hxn
  have HE := hid_ (fun x => equal7_calls a2 n2 c2 _ ar m cr r (w.drewN x) (hrow.drewN x) (hr.drewN x))
  clear hT hr hs hrow hx h0
  go_enter Try.func88, Try.ntmps88
  go_wp2_with fail
  go_quiet ((go_at_call 89; exact quiet_more (HE.out _)))
  go_wp2
  go_ret
  exact ⟨by rw [HM.out]; rfl, below_drewN (Below.refl _ _) _⟩
def idxG (T : List (List Int)) (r : List Int) (G : List (List Int)) : Int := if fstG T r G < G.length then (fstG T r G : Int) else -1
set_option maxRecDepth 100000 in
set_option maxHeartbeats 4000000 in
theorem indexG_calls (tb rb : Nat) (aT : Option Addr) (n c : Nat) (T : List (List Int)) (ar : Option Addr) (m cr : Nat) (r : List Int) (a : Option Addr) (k ca : Nat) (G : List (List Int)) (w : World)
    (qt : w.cell? ⟨tb, 0, none⟩ = some (.slice aT n c)) (qr : w.cell? ⟨rb, 0, none⟩ = some (.slice ar m cr)) (hT : ListsAt w aT n c T) (hr : IntsAt w ar m cr r) (hG : ListsAt w a k ca G) (g : ∀ j, j < k → 0 < (G.getD j []).length ∧ 0 ≤ (G.getD j []).getD 0 0 ∧ (G.getD j []).getD 0 0 < n) :
    Calls Try.prog 87 #[.slice a k ca, .func (.func 88) #[] #[.pointer (some ⟨tb, 0, none⟩), .pointer (some ⟨rb, 0, none⟩)]] w fun e w' => e = .returned (.int .i64 (idxG T r G)) ∧ Below w.heap.size w w' := by
  have hn : k ≤ 9223372036854775807 := Nat.le_trans hG.le hG.small
  have hent : ∀ args W, (callFunc 88 args).run Try.prog W = .ok (.enter 88 args) W := enters_of Try.func88 (by kernel_rfl) rfl
  have hGl := hG.len
  have HHi := hid_ (fun j (hj : j < k) hh hb => show idxG T r G = (j : Int) by unfold idxG; rw [fstG_hit (T := T) (G := G) (r := r) (k := j) (by omega) hh hb, if_pos (by omega)])
  have HNo := hid_ (fun hb => show idxG T r G = -1 by unfold idxG; rw [fstG_none (T := T) (G := G) (r := r) hGl hb, if_neg (by omega)])
  have HL := hid_ hG; have HT := hid_ hT; have HI := hid_ hr
  have Hg := hid_ g
  clear hG hT hr g hGl
  generalize idxG T r G = R at *
  go_enter Try.func87, Try.ntmps87
  go_wp2
  go_loopw [8] (fun i wr => ∃ j : Nat, j ≤ k ∧ i = .int .i64 j ∧ Below w.heap.size w wr ∧ ∀ i, i < j → mtG T r (G.getD i []) = false) (fun i _ => k - (intOf i).toNat)
  case atStart => exact ⟨0, Nat.zero_le _, rfl, Below.refl _ _, fun _ h => absurd h (by omega)⟩
  case round =>
    obtain ⟨j, hj, rfl, hb, hall⟩ := hrel
    have Hall := hid_ hall; have Hb := hid_ hb
    clear hall
    by_cases hlt : j < k
    · obtain ⟨b, off, a3, n3, c3, rfl, -, hcell, hrow⟩ := (HL.out.below hb (Nat.le_refl _)).cells j hlt
      have hgj := Hg.out j hlt
      have HC := hid_ (dbl1_calls tb rb aT n c T ar m cr r a3 n3 c3 (G.getD j []) wr (cell_below qt hb) (cell_below qr hb) (HT.out.below hb (Nat.le_refl _)) (HI.out.below hb (Nat.le_refl _)) hrow (by rw [← hrow.len]; exact hgj.1) hgj.2.1 hgj.2.2)
      clear hrow hb hgj
      cases hm : mtG T r (G.getD j []) with
      | true =>
        rw [hm] at HC
        have HR := hid_ (HHi.out j hlt hm Hall.out)
        clear hm
        go_wp2_with (go_at_call 88; (with_reducible refine HC.out.mono ?_); rintro e w4 ⟨rfl, hb4⟩)
        go_ret
        exact ⟨by rw [HR.out]; rfl, Hb.out.trans (hb4.mono Hb.out.size)⟩
      | false =>
        rw [hm] at HC
        have Hf := hid_ (lt_snoc (p := fun j => mtG T r (G.getD j []) = false) Hall.out hm)
        clear hm
        go_wp2_with (go_at_call 88; (with_reducible refine HC.out.mono ?_); rintro e w4 ⟨rfl, hb4⟩)
        go_roundw
        case rel => exact ⟨j + 1, by omega, by go_num, Hb.out.trans (hb4.mono Hb.out.size), Hf.out⟩
        case measure => simp [intOf]; omega
    · obtain rfl : k = j := by omega
      have HR := hid_ (HNo.out Hall.out)
      go_wp2
      go_ret
      exact ⟨by rw [HR.out]; rfl, Hb.out⟩
def resDbl (T : List (List Int)) : List (List Int) := if validT T = 0 then dblG T T.length else []
set_option maxRecDepth 100000 in
set_option maxHeartbeats 4000000 in
theorem stDoubles_calls (a : Option Addr) (n c : Nat) (T : List (List Int)) (w : World) (h : ListsAt w a n c T) :
    Calls Try.prog 49 #[.slice a n c] w fun e w' => ∃ v us, e = .returned (.tuple #[v, .int .i64 (validT T)]) ∧ OwnRw 28 3 w' w.heap.size v us (resDbl T) ∧ Below w.heap.size w w' := by
  have HR : Hid (resDbl T = if validT T = 0 then dblG T T.length else []) := hid_ rfl
  have hlen := h.len
  obtain ⟨w1, hw1⟩ : ∃ w1, w.alloc (.cells #[.slice a n c] 22) = w1 := ⟨_, rfl⟩
  have cb : Below w.heap.size w w1 := by rw [← hw1]; exact below_alloc _ _
  have qt : w1.cell? ⟨w.heap.size, 0, none⟩ = some (.slice a n c) := by rw [← hw1]; exact cells_alloc _ _ _ 0
  have Hc1 := hid_ cb
  have HT1 := hid_ (h.below cb (Nat.le_refl _))
  have HV := hid_ (stValidate_calls a n c T w1 HT1.out)
  generalize resDbl T = R at *
  by_cases he : validT T = 0
  · have g := validT_ok he
    have HR' : Hid (R = dblG T n) := hid_ ((HR.out.trans (if_pos he)).trans (by rw [hlen]))
    rw [he] at HV ⊢
    have hn6 : n ≤ 6 := by have := g.le; omega
    have HG := hid_ (dblG_good T)
    have HS : Hid (∀ k, dblG T (k + 1) = addG T (dblG T k) k) := hid_ (fun _ => rfl)
    have Hlen := hid_ hlen
    obtain ⟨i0, hi0, hz0, hz1, hz2⟩ := info_parts Try.infoInt
    obtain ⟨i1, hi1, hz0', hz1', hz2'⟩ := info_parts Try.infoInts
    clear he HR h hlen g cb
    go_enter Try.func49, Try.ntmps49
    go_wp2_with (go_at_call 24; refine (HV.out).mono ?_; rintro e w' ⟨rfl, rfl⟩)
    go_loopw [5, 16] (fun v i wr => ∃ (k : Nat) (us : List Value), k ≤ n ∧ i = .int .i64 k ∧ OwnRw 28 3 wr w1.heap.size v us (dblG T k) ∧ Below w1.heap.size w1 wr) (fun _ i _ => n - (intOf i).toNat)
    case atStart => exact ⟨0, [], Nat.zero_le _, rfl, OwnRw.nil _ _ (by decide), Below.refl _ _⟩
    case round =>
      obtain ⟨k, us, hk, rfl, hO, hbr⟩ := hrel
      have hsz := hbr.size
      by_cases hlt : k < n
      · have hg := HG.out k
        have hs := HS.out k
        unfold addG at hs
        obtain ⟨b, off, a2, n2, c2, rfl, hb0, hcell, hrow⟩ := (HT1.out.below hbr (Nat.le_refl _)).cells k hlt
        obtain ⟨W2, hW2⟩ : ∃ W2, wr.alloc (.cells #[.slice none 0 0] 28) = W2 := ⟨_, rfl⟩
        have q2 : W2.cell? ⟨wr.heap.size, 0, none⟩ = some (.slice none 0 0) := by rw [← hW2]; exact cells_alloc _ _ _ 0
        have f2 : W2.frozen? ⟨wr.heap.size, 0, none⟩ = false := by rw [← hW2]; exact World.frozen?_alloc_at _ _ _ _ (by simp)
        have b2 : Below wr.heap.size wr W2 := by rw [← hW2]; exact below_alloc _ _
        obtain ⟨W3, hW3⟩ : ∃ W3, W2.setCell ⟨wr.heap.size, 0, none⟩ (.slice a2 n2 c2) = W3 := ⟨_, rfl⟩
        have b3 : Below wr.heap.size wr W3 := by rw [← hW3]; exact b2.setCell (p := ⟨wr.heap.size, 0, none⟩) (Nat.le_refl _) _
        have q3 : W3.cell? ⟨wr.heap.size, 0, none⟩ = some (.slice a2 n2 c2) := by rw [← hW3]; exact World.cell?_setCell_same _ _ _ q2
        have hb3 := hbr.trans (b3.mono hsz)
        have hO3 := hO.below b3 (Nat.le_refl _)
        obtain ⟨al, cl, rfl, hlist⟩ := hO3.lists
        have HX := hid_ (indexG_calls w.heap.size wr.heap.size _ n c T a2 n2 c2 (T.getD k []) al (dblG T k).length cl (dblG T k) W3 (cell_below qt hb3) q3 (HT1.out.below hb3 (Nat.le_refl _)) (hrow.below b3 (Nat.le_refl _)) hlist (fun i hi => ⟨hg.pos i hi, hg.lo i hi, by have := hg.hi i hi; omega⟩))
        have hgl := hg.le
        have hgl2 := hg.len
        unfold idxG at HX
        have HO3 := hid_ hO3
        have Hb3 := hid_ hb3
        have hz3 := hb3.size
        clear hO hO3 hlist hrow hg hb3 b2 b3
        generalize fstG T (T.getD k []) (dblG T k) = j at *
        have Hs := hid_ hs
        clear hs
        generalize hgk : dblG T k = G at *
        generalize hgk1 : dblG T (k + 1) = G1 at *
        clear hgk
        have Hg1 := hid_ hgk1
        clear hgk1
        obtain ⟨m, hm⟩ : ∃ m, G.length = m := ⟨_, rfl⟩
        have Hm := hid_ hm
        rw [hm] at HX hgl hgl2 HO3 Hs ⊢
        clear hm
        by_cases hj : j < m
        · rw [if_pos hj] at HX Hs
          have hj0 : ¬ ((j : Int) < 0) := by omega
          have ht3 := HO3.out.top
          rw [Hm.out] at ht3
          obtain ⟨gl, capl, e, -, -, hgl1, -⟩ := own_form7 ht3 (by omega)
          injection e with e1 e2 e3
          subst e1; subst e3
          obtain ⟨u, hu, hro⟩ := HO3.out.row j (by rw [Hm.out]; exact hj)
          obtain ⟨m5, hm5⟩ : ∃ m5, (G.getD j []).length = m5 := ⟨_, rfl⟩
          have hm5l : m5 ≤ 6 := by rw [← hm5]; have := hgl j hj; omega
          rw [hm5] at hro
          obtain ⟨a5, c5, rfl, -⟩ := IntsAt.own hro
          have q3j : W3.cell? ⟨gl, j, none⟩ = some (.slice a5 m5 c5) := by rw [ht3.cellAt j (by omega)]; exact hu
          have Hu := hid_ hu
          have Hro := hid_ hro
          have Hm5 := hid_ hm5
          clear ht3 hro hm5 hu e2
          go_wp2_with (first
            | (go_at_call 87; (with_reducible refine HX.out.mono ?_); rintro e w4 ⟨rfl, hb4⟩; have q4j := cell_below q3j hb4; have q5j := cell_below q4j (below_alloc w4 (.cells #[.int .i64 (k : Int)] 3)); have HO5 := hid_ ((HO3.out.below hb4 (Nat.le_refl _)).below (below_alloc w4 (.cells #[.int .i64 (k : Int)] 3)) (Nat.le_refl _)); have hro5 := own_below (own_below Hro.out hb4 (Nat.le_refl _)) (below_alloc w4 (.cells #[.int .i64 (k : Int)] 3)) (Nat.le_refl _); have Hb5 := hid_ ((Hb3.out.trans (hb4.mono hz3)).trans ((below_alloc w4 (.cells #[.int .i64 (k : Int)] 3)).mono (Nat.le_trans hz3 hb4.size))); have hz5 := Hb5.out.size)
            | (at_builtin; refine wpList_append_ints _ rfl (.tmp 36) (.tmp 38) _ rfl w1.heap.size 3 i0 Try.underlying28 hi0 hz0 hz1 hz2 _ _ _ rfl hro5 _ _ _ _ rfl (IntsAt.one _ _ _) (by omega) hz5 ?_; intro v6 w6 ho6 hg6 hat6; have ht6 := HO5.out.topKept Hu.out hg6; rw [Hm.out] at ht6; have hlt6 := ho6.lt; obtain ⟨a6, c6, rfl, -⟩ := IntsAt.own ho6; have q6 : w6.cell? ⟨gl, j, none⟩ = some (.slice a5 m5 c5) := (ht6.cellAt j (by omega)).trans Hu.out; have f6 : w6.frozen? ⟨gl, j, none⟩ = false := ht6.frozenAt j; have hP6 := HO5.out.put (i := j) (r := G.getD j [] ++ [(k : Int)]) Hm.out.symm Hu.out hg6 (by rw [List.length_append, Hm5.out]; exact ho6) (fun b9 hb9 => hat6.elim (fun e => .inl (e.symm.trans hb9)) (fun e => .inr (by have h9 := hb9.symm.trans e; injection h9 with h9; omega))); rw [← Hs.out] at hP6; have HP6 := hid_ hP6; have Hb6 := hid_ (Below.setCell (p := ⟨gl, j, none⟩) (Hb5.out.grown hg6 hz5 (fun r e => (hro5.lt r e).1)) hgl1 (.slice a6 (m5 + 1) c6)); clear ht6 hP6 ho6 hg6 hat6 hro5 hlt6))
          go_roundw
          case rel => exact ⟨k + 1, _, by omega, by go_num, by rw [Hg1.out]; exact HP6.out, Hb6.out⟩
          case measure => simp [intOf]; omega
        · rw [if_neg hj] at HX Hs
          go_wp2_with (first
            | (go_at_call 87; (with_reducible refine HX.out.mono ?_); rintro e w4 ⟨rfl, hb4⟩; have HO4 := hid_ (HO3.out.below hb4 (Nat.le_refl _)); obtain ⟨W5, hW5⟩ : ∃ W5, w4.alloc (.cells #[.int .i64 (k : Int)] 3) = W5 := ⟨_, rfl⟩; have b5 : Below w4.heap.size w4 W5 := hW5 ▸ below_alloc _ _; have HR5 : Hid (W5.ownsRow w4.heap.size 3 1 (.slice (some ⟨w4.heap.size, 0, none⟩) 1 1) 1 ([(k : Int)].map (Value.int .i64))) := hid_ (hW5 ▸ World.ownsRow_lit (base := w4.heap.size) (e := 3) (size := 1) w4 #[.int .i64 (k : Int)] 1 (Nat.le_refl _) (by unfold maxLen; omega) rfl); have ht5 := (HO4.out.below b5 (Nat.le_refl _)).top; rw [Hm.out] at ht5; have Hb4 := hid_ (Hb3.out.trans (hb4.mono hz3)); have hz4 := Hb4.out.size; have hz5 : w1.heap.size ≤ W5.heap.size := Nat.le_trans hz4 b5.size)
            | (at_builtin; refine wpList_push_val2 _ rfl (.tmp 26) (.tmp 29) _ rfl w1.heap.size 28 i1 Try.underlying22 hi1 hz0' rfl hz1' hz2' (by omega) _ _ _ rfl ht5 (.slice (some ⟨w4.heap.size, 0, none⟩) 1 1) rfl 28 rfl (by omega) hz5 ?_; intro v6 w6 hown6 hg6 hat6; have hP6 := OwnRw.push (r := [(k : Int)]) hz4 HO4.out b5 HR5.out (by rw [Hm.out]; exact hown6) hg6; rw [← Hs.out] at hP6; have HP6 := hid_ hP6; have Hb6 := hid_ (below_app (Hb4.out.trans (b5.mono hz4)) hz5 ht5 hg6); clear hP6 hown6 hg6 hat6 ht5))
          go_roundw
          case rel => exact ⟨k + 1, _, by omega, by go_num, by rw [Hg1.out]; exact HP6.out, Hb6.out⟩
          case measure => simp [intOf]; omega
      · obtain rfl : k = n := by omega
        have HO := hid_ hO
        clear hO
        go_wp2
        go_ret2
        exact ⟨_, us, rfl, by rw [HR'.out]; exact HO.out.base Hc1.out.size, Hc1.out.trans (hbr.mono Hc1.out.size)⟩
  · have HR' : Hid (R = []) := hid_ (HR.out.trans (if_neg he))
    have hq : (validT T != 0) = true := by simpa using he
    generalize validT T = x at *
    clear he HR
    go_enter Try.func49, Try.ntmps49
    go_wp2_with (go_at_call 24; refine (HV.out).mono ?_; rintro e w' ⟨rfl, rfl⟩)
    go_ret2
    exact ⟨_, [], rfl, by rw [HR'.out]; exact OwnRw.nil _ _ (by decide), Hc1.out⟩
end Go.Proofs.Ytdhmcmkpeaoigaa
