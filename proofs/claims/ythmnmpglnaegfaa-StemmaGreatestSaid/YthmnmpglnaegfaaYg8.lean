import Derived.Test.YthmnmpglnaegfaaYg7
namespace Go.Proofs.Ythmnmpglnaegfaa
open Go.RowKit Go.Proofs.Kv Go

/-! ### Greatest of the document -/
theorem OwnRw.one0 {w : World} {B : Nat} (hB : B ≤ w.heap.size) (E E1 : TypeId) (hE : E ≠ E1) : OwnRw E E1 (w.alloc (.cells #[.slice none 0 0] E)) B (.slice (some ⟨w.heap.size, 0, none⟩) 1 1) [.slice none 0 0] [[]] := by
  refine ⟨hE, World.ownsRow_lit (base := B) (e := E) (size := 1) w #[.slice none 0 0] 1 hB (by unfold maxLen; omega) rfl, fun i hi => ?_, fun i j u u' b hij h1 h2 hb => ?_⟩
  · obtain rfl : i = 0 := by simpa using hi
    exact ⟨_, rfl, World.ownsRow_nil _ _ _ _⟩
  · have hi := (List.getElem?_eq_some_iff.1 h1).1
    have hj := (List.getElem?_eq_some_iff.1 h2).1
    simp at hi hj; omega
theorem innS_ge (T : List (List Int)) (p i : Nat) : (calmS T p).length ≤ (innS T p i).length := by rw [innS, List.length_append]; omega
theorem getD_memL {L : List (List Int)} {k : Nat} (h : k < L.length) : L.getD k [] ∈ L := by simp [List.getD, List.getElem?_eq_getElem h]
theorem own_sliceV {w : World} {B E n : Nat} {v : Value} {xs : List Value} (h : w.ownsRow B E 1 v n xs) : ∃ a c, v = .slice a n c := by
  rcases own_open h with ⟨rfl, rfl, rfl⟩ | ⟨g, cap, cur, rfl, -⟩
  · exact ⟨_, _, rfl⟩
  · exact ⟨_, _, rfl⟩
theorem own_kept_ne {w w' : World} {B B' E E' n n' : Nat} {v v' : Value} {xs xs' : List Value} (h : w.ownsRow B E 1 v n xs) (h' : w.ownsRow B' E' 1 v' n' xs') (hE : E ≠ E') (hg : w.grownBy w' v'.ownBlock) : w'.ownsRow B E 1 v n xs := by
  refine h.kept hg ?_
  by_cases hx : v.ownBlock = none
  · exact .inl hx
  · obtain ⟨b, hb⟩ := Option.ne_none_iff_exists'.1 hx
    exact .inr (by rw [hb]; exact fun q => own_apart h h' hE b hb q.symm)
set_option maxRecDepth 100000 in
set_option maxHeartbeats 4000000 in
theorem r7Greatest_calls (a : Option Addr) (n c : Nat) (T : List (List Int)) (w : World) (h : ListsAt w a n c T) :
    Calls Try.prog 9 #[.slice a n c] w fun e w' => ∃ av cv, e = .returned (.tuple #[.slice av (resGreat T).length cv, .int .i64 (validT T)]) ∧ IntsAt w' av (resGreat T).length cv (resGreat T) ∧ Below w.heap.size w w' := by
  have HV := hid_ (r7Validate_calls a n c T w h)
  have HR : Hid (resGreat T = if validT T = 0 then greatB T (n0 T) (2 ^ n0 T) else []) := hid_ rfl
  generalize resGreat T = R at *
  by_cases he : validT T = 0
  · have g := validT_ok he
    have HR' : Hid (R = greatB T (n0 T) (2 ^ n0 T)) := hid_ (HR.out.trans (if_pos he))
    have HB := hid_ (fun B (hB : Best (fun s => s ∈ calmS T (n0 T)) B) => great_same hB)
    rw [he] at HV ⊢
    have hm6 : n0 T ≤ 6 := g.w6
    have hn : 0 < n := by have := g.ge; have := h.len; omega
    obtain ⟨b, off, a1, m1, c1, rfl, hb', hcell, hrow⟩ := h.cells 0 hn
    rw [Nat.add_zero] at hcell
    have hm : m1 = n0 T := by rw [← hrow.len]; rfl
    subst hm
    have Hcell := hid_ (fun W (hW : Below w.heap.size w W) => cell_below hcell hW)
    have HD := hid_ (fun W (hW : Below w.heap.size w W) p (hp : p < n0 T) => r7diff_calls _ n c T p W (h.below hW (Nat.le_refl _)) g hp)
    have HCf := hid_ (fun W (hW : Below w.heap.size w W) p q (hp : p < n0 T) (hq : q < n0 T) => r7conflict_calls _ n c T p q W (h.below hW (Nat.le_refl _)) g hp hq)
    have HSp := hid_ (fun p => show splR T p = decide (diffR T p = 2) from rfl)
    have HFt := hid_ (fun s p => show fitsS T s p = (splR T p && s.all fun x => !cfR T p x.toNat) from rfl)
    have Hsy : Hid (∀ p q, cfR T p q = cfR T q p) := hid_ (cfR_symm T)
    have Hskip := hid_ (fun p => calmS_skip T p)
    have Hz := hid_ (fun p => innS_zero T p)
    have Ha := hid_ (fun p i h => @innS_all T p i h)
    have Hst := hid_ (fun p i h => @innS_step T p i h)
    have Hat := hid_ (fun p i j h => @innS_at T p i j h)
    have Hlen := hid_ (fun p (hp : p ≤ n0 T) => Nat.le_trans (calmS_len T p) (Nat.pow_le_pow_right (by omega) (Nat.le_trans hp hm6)))
    have Hil := hid_ (fun p i => innS_len T p i)
    have Hig := hid_ (fun p i => innS_ge T p i)
    have Hrow := hid_ (fun p => calmS_row T p)
    have Hc0 : Hid (calmS T 0 = [[]]) := hid_ rfl
    have Hdl := hid_ (fun p => diffR_le T p)
    obtain ⟨i0, hi0, hz0, hz1, hz2⟩ := info_parts Try.infoInt
    obtain ⟨i1, hi1, hz0', hz1', hz2'⟩ := info_parts Try.infoInts
    clear he HR h g hrow hcell
    generalize hM : n0 T = M at *
    go_enter Try.func9, Try.ntmps9
    go_wp2_with (go_at_call 33; (with_reducible refine HV.out.mono ?_); rintro e w2 ⟨rfl, q, rfl⟩)
    go_loopw [5, 6, 7] (fun v o i wr => ∃ (p : Nat) (us : List Value) (B : List Int), p ≤ M ∧ i = .int .i64 p ∧ OwnRw 25 3 wr w.heap.size v us (calmS T p) ∧ wr.ownsRow w.heap.size 3 1 o B.length (B.map (Value.int .i64)) ∧ Best (fun s => s ∈ calmS T p) B ∧ Below w.heap.size w wr) (fun _ _ i _ => M - (intOf i).toNat)
    case atStart => exact ⟨0, _, [], Nat.zero_le _, rfl, by rw [Hc0.out]; exact OwnRw.one0 (by simp) _ _ (by decide), World.ownsRow_nil _ _ _ _, by rw [Hc0.out]; exact ⟨List.mem_singleton.2 rfl, fun s hs => by rw [List.mem_singleton.1 hs]; rfl⟩, (below_drewN (Below.refl _ _) q).alloc (by simp) _⟩
    case round =>
      obtain ⟨p, us, B, hp, rfl, hO, hown, hbest, hbr⟩ := hrel
      have hsz := hbr.size
      have hc0 := Hcell.out wr hbr
      by_cases hlt : p < M
      · have HDp := hid_ (HD.out wr hbr p hlt)
        have HO := hid_ hO; have Hown := hid_ hown; have Hbest := hid_ hbest; have Hbr := hid_ hbr
        have hsp := HSp.out p
        have hdl := Hdl.out p
        clear hO hown hbest hbr
        generalize hd : diffR T p = d at *
        clear hd
        by_cases hd2 : d = 2
        · subst hd2
          have Hspl : Hid (splR T p = true) := hid_ hsp
          clear hsp hdl
          have hq : ((2 : Int) != 2) = false := by decide
          obtain ⟨nc, hnc⟩ : ∃ nc, (calmS T p).length = nc := ⟨_, rfl⟩
          have Hia := hid_ (Ha.out p nc (by omega))
          have Hnc := hid_ hnc
          have hnc64 : nc ≤ 64 := by rw [← hnc]; exact Hlen.out p hp
          have hwr : IntKind.i64.wrap ((nc : Int) - 1) = (nc : Int) - 1 := IntWalk.i64_in _ (by omega)
          clear hnc
          go_wp2_with (go_at_call 34; (with_reducible refine HDp.out.mono ?_); rintro e w2 ⟨rfl, hb2⟩; have Hb2 := hid_ (Hbr.out.trans (hb2.mono hsz)); have HO2 := hid_ (HO.out.below hb2 (Nat.le_refl _)); have Hown2 := hid_ (own_below Hown.out hb2 (Nat.le_refl _)); obtain ⟨al, cl, e2, -⟩ := HO2.out.lists; rw [Hnc.out] at e2; subst e2; clear hb2)
          clear hc0
          go_loopw [5, 6, 8] (fun v o i wr => ∃ (k : Nat) (x : Int) (us : List Value) (B : List Int), k ≤ nc ∧ x = (k : Int) - 1 ∧ i = .int .i64 x ∧ OwnRw 25 3 wr w.heap.size v us (innS T p k) ∧ wr.ownsRow w.heap.size 3 1 o B.length (B.map (Value.int .i64)) ∧ Best (fun s => s ∈ innS T p k) B ∧ Below w.heap.size w wr) (fun _ _ i _ => (intOf i + 1).toNat)
          case atStart => exact ⟨nc, _, us, B, Nat.le_refl _, rfl, rfl, by rw [Hia.out]; exact HO2.out, Hown2.out, by rw [Hia.out]; exact Hbest.out, Hb2.out⟩
          case round =>
            obtain ⟨k, x, us, B, hk, hx, rfl, hO, hown, hbest, hbr⟩ := hrel
            have hsz := hbr.size
            by_cases hk0 : k = 0
            · subst hk0
              rw [Hz.out] at hO hbest
              have HO := hid_ hO; have Hown := hid_ hown; have Hbest := hid_ hbest; have Hbr := hid_ hbr
              clear hO hown hbest hbr
              have hge : decide (x ≥ 0) = false := decide_eq_false (by omega)
              have Hx := hid_ hx
              clear hx
              go_wp2
              go_roundw
              case rel => exact ⟨p + 1, us, B, by omega, by go_num, HO.out, Hown.out, Hbest.out, Hbr.out⟩
              case measure => simp [intOf]; omega
            · obtain ⟨k1, rfl⟩ : ∃ k1, k = k1 + 1 := ⟨k - 1, by omega⟩
              obtain rfl : x = (k1 : Int) := by omega
              have hk1 : k1 < nc := by omega
              obtain ⟨S, hS⟩ : ∃ S, (calmS T p).getD k1 [] = S := ⟨_, rfl⟩
              obtain ⟨ns, hns⟩ : ∃ ns, (innS T p (k1 + 1)).length = ns := ⟨_, rfl⟩
              have hnsl : ns ≤ 128 := by have := Hil.out p (k1 + 1); rw [hns, Hnc.out] at this; omega
              have hkns : k1 < ns := by have := Hig.out p (k1 + 1); rw [hns, Hnc.out] at this; omega
              obtain ⟨al, cl, e2, hlist⟩ := hO.lists
              rw [hns] at hlist e2
              subst e2
              obtain ⟨b1, off1, a2, n1, c2, rfl, hb1, hcell1, hrow1⟩ := hlist.cells k1 hkns
              rw [Hat.out p (k1 + 1) k1 (by rw [Hnc.out]; exact hk1), hS] at hrow1
              have hSm : S ∈ calmS T p := by rw [← hS]; exact getD_memL (by rw [Hnc.out]; exact hk1)
              obtain ⟨hSl, hSr⟩ := Hrow.out p S hSm
              rw [hrow1.len] at hSl
              have HSr := hid_ (fun j (hj : j < n1) => hSr _ (getD_mem (l := S) (k := j) (by rw [hrow1.len]; exact hj)))
              have HSt := hid_ (Hst.out p k1 (by rw [Hnc.out]; exact hk1))
              rw [hS, HFt.out, Hspl.out, Bool.true_and] at HSt
              have Hsl := hid_ hrow1.len
              have Hns := hid_ hns
              have HO := hid_ hO; have Hown := hid_ hown; have Hbest := hid_ hbest; have Hbr := hid_ hbr
              have hrow1' := hid_ hrow1
              clear hO hown hbest hbr hlist hS hns hSm hSr hrow1 hx hk
              have hge : decide ((k1 : Int) ≥ 0) = true := decide_eq_true (by omega)
              go_wp2
              clear hge
              obtain ⟨wo, hwo⟩ : ∃ wo, wo = wr := ⟨_, rfl⟩
              rw [← hwo] at HO Hown Hbr hcell1 hrow1' hsz hb1 ⊢
              clear hwo
              go_loopw [9, 10] (fun v i wr => ∃ j : Nat, j ≤ n1 ∧ i = .int .i64 j ∧ v = .bool ((S.take j).all fun x => !cfR T p x.toNat) ∧ Below wo.heap.size wo wr) (fun _ i _ => n1 - (intOf i).toNat)
              case atStart => exact ⟨0, Nat.zero_le _, rfl, rfl, Below.refl _ _⟩
              case round =>
                obtain ⟨j, hj, rfl, rfl, hb3⟩ := hrel
                have hcell3 := cell_below hcell1 hb3
                have hz3 := hb3.size
                by_cases hlj : j < n1
                · obtain ⟨b2, off2, rfl, hb2, hcell4⟩ := hrow1'.out.cells j hlj
                  have hcell5 := cell_below hcell4 hb3
                  obtain ⟨hx0, hx1⟩ := HSr.out j hlj
                  have htk := Kv.take_snoc S 0 j (by rw [Hsl.out]; exact hlj)
                  generalize S.getD j 0 = x at *
                  obtain ⟨xq, rfl⟩ := nat_of hx0
                  have HC := hid_ (HCf.out wr (Hbr.out.trans (hb3.mono hsz)) xq p (by omega) hlt)
                  rw [Hsy.out] at HC
                  have Htk : Hid ((S.take (j + 1)).all (fun x => !cfR T p x.toNat) = ((S.take j).all (fun x => !cfR T p x.toNat) && !cfR T p xq)) := hid_ (by rw [htk, List.all_append]; simp)
                  have Hb3 := hid_ hb3
                  clear htk hb3 hcell4 hcell1
                  generalize (S.take j).all (fun x => !cfR T p x.toNat) = cal at *
                  generalize cfR T p xq = cf at *
                  cases cal with
                  | true =>
                    go_wp2_with (go_at_call 35; (with_reducible refine HC.out.mono ?_); rintro e w4 ⟨rfl, hb4⟩)
                    go_roundw
                    case rel => exact ⟨j + 1, by omega, by go_num, by rw [Htk.out, Bool.true_and], Hb3.out.trans (hb4.mono hz3)⟩
                    case measure => simp [intOf]; omega
                  | false =>
                    go_wp2
                    go_roundw
                    case rel => exact ⟨j + 1, by omega, by go_num, by rw [Htk.out, Bool.false_and], Hb3.out⟩
                    case measure => simp [intOf]; omega
                · obtain rfl : n1 = j := by omega
                  rw [show S.take n1 = S from List.take_of_length_le (by rw [Hsl.out]; exact Nat.le_refl _)]
                  have Hb3 := hid_ (Hbr.out.trans (hb3.mono hsz))
                  have HO3 := hid_ (HO.out.below hb3 (Nat.le_refl _))
                  have Hout3 := hid_ (own_below Hown.out hb3 (Nat.le_refl _))
                  have hI3 := hrow1'.out.below hb3 (Nat.le_refl _)
                  have hz3 := Hb3.out.size
                  clear hb3
                  generalize (S.all fun x => !cfR T p x.toNat) = ft at *
                  cases ft with
                  | false =>
                    have HSt' : Hid (innS T p k1 = innS T p (k1 + 1)) := hid_ (HSt.out.trans (List.append_nil _))
                    go_wp2
                    go_roundw
                    case rel => exact ⟨k1, (k1 : Int) - 1, us, B, by omega, rfl, by go_num, by rw [HSt'.out]; exact HO3.out, Hout3.out, by rw [HSt'.out]; exact Hbest.out, Hb3.out⟩
                    case measure => simp [intOf] <;> omega
                  | true =>
                    have HSt' : Hid (innS T p k1 = innS T p (k1 + 1) ++ [S ++ [(p : Int)]]) := hid_ (by rw [HSt.out, if_pos rfl])
                    obtain ⟨S1, hS1⟩ : ∃ S1, S ++ [(p : Int)] = S1 := ⟨_, rfl⟩
                    rw [hS1] at HSt'
                    have hS1l : S1.length = n1 + 1 := by rw [← hS1, List.length_append, Hsl.out]; rfl
                    obtain ⟨n2, hn2⟩ : ∃ n2, n1 + 1 = n2 := ⟨_, rfl⟩
                    rw [hn2] at hS1l
                    have Hn2 := hid_ hn2
                    have hn8 : n2 ≤ 8 := by omega
                    have hown0 : (wr.alloc (.cells #[] 3)).ownsRow wr.heap.size 3 1 (.slice (some ⟨wr.heap.size, 0, none⟩) 0 0) 0 (([] : List Int).map (Value.int .i64)) := World.ownsRow_made wr #[] 0 (Nat.le_refl _) (by omega) rfl
                    have hI0 := hI3.below ((Below.refl _ wr).alloc (Nat.le_refl _) (.cells #[] 3)) (Nat.le_refl _)
                    have Hnext := hid_ (Hbest.out.next (P' := fun s => s ∈ innS T p k1) (s := S1) (fun t => by rw [HSt'.out, List.mem_append, List.mem_singleton]))
                    have HS1l := hid_ hS1l
                    have HS1 := hid_ hS1
                    obtain ⟨nb, hnb⟩ : ∃ nb, B.length = nb := ⟨_, rfl⟩
                    have Hbl := hid_ hnb
                    rw [hnb] at Hout3
                    obtain ⟨ao, co, eo⟩ := own_sliceV Hout3.out
                    subst eo
                    have hcell5 := cell_below hcell3 (below_alloc wr (.cells #[] 3))
                    clear hI3 hnb hS1 hS1l hn2
                    by_cases hgt : nb < n2
                    · have Hbt : Hid (bettL S1 B = true) := hid_ (by rw [bettL, HS1l.out, Hbl.out, decide_eq_true hgt]; rfl)
                      rw [if_pos Hbt.out] at Hnext
                      go_wp2_with (first
                        | (at_builtin; refine wpList_append_ints _ rfl (.tmp 62) (.tmp 66) _ rfl wr.heap.size 3 i0 Try.underlying25 hi0 hz0 hz1 hz2 _ _ _ rfl hown0 _ _ _ _ rfl hI0 (by omega) (by simp) ?_; intro v4 w4 hown4 hg4 hat4; have hb4 : Below wr.heap.size wr w4 := below_new hg4; rw [Nat.zero_add, List.nil_append] at hown4; obtain ⟨a4, c4, rfl, -⟩ := IntsAt.own hown4; have ho4 := own_below hown4 (below_alloc w4 (.cells #[.int .i64 (p : Int)] 3)) (Nat.le_refl _); have hz4 := hb4.size)
                        | (at_builtin; refine wpList_append_ints _ rfl (.tmp 67) (.tmp 69) _ rfl wr.heap.size 3 i0 Try.underlying25 hi0 hz0 hz1 hz2 _ _ _ rfl ho4 _ _ _ _ rfl (IntsAt.one _ _ _) (by omega) (by simp; omega) ?_; intro v5 w5 hown5 hg5 hat5; have hb5 : Below wr.heap.size wr w5 := below_app hb4 hz4 hown4 hg5; rw [HS1.out, Hn2.out] at hown5; obtain ⟨a5, c5, rfl, -⟩ := IntsAt.own hown5; have Hown5 := hid_ hown5; have Hb5 := hid_ (Hb3.out.trans (hb5.mono hz3)); have HO5 := hid_ (HO3.out.below hb5 (Nat.le_refl _)); have ht5 := HO5.out.top; rw [Hns.out] at ht5; have Hout5 := hid_ (own_below Hout3.out hb5 (Nat.le_refl _)); have hz5 := Hb5.out.size; have Hb5' := hid_ hb5; clear hown5 hg5 hat5 hb5 hown4 hg4 hat4 hb4 ho4)
                        | (at_builtin; refine wpList_push_val2 _ rfl (.tmp 71) (.tmp 73) _ rfl w.heap.size 25 i1 Try.underlying22 hi1 hz0' rfl hz1' hz2' (by omega) _ _ _ rfl ht5 (.slice a5 n2 c5) rfl 25 rfl (by omega) hz5 ?_; intro v6 w6 hown6 hg6 hat6; have HP6 := hid_ (OwnRw.push (r := S1) hz3 HO3.out Hb5'.out (by rw [HS1l.out]; exact Hown5.out) (by rw [Hns.out]; exact hown6) hg6); have Hset6 := hid_ (own_kept_ne (own_base (Hown5.out.alloc _) hz3) (ht5.alloc _) (by decide) hg6); have Hout6 := hid_ (own_kept_ne (Hout5.out.alloc _) (ht5.alloc _) (by decide) hg6); have Hb6 := hid_ (below_app Hb5.out hz5 ht5 hg6); obtain ⟨g6, cap6, e6⟩ := own_sliceV hown6; subst e6; clear hown6 hg6 hat6 ht5))
                      go_roundw
                      case rel => exact ⟨k1, (k1 : Int) - 1, _, S1, by omega, rfl, by go_num, by rw [HSt'.out]; exact HP6.out, by rw [HS1l.out]; exact Hset6.out, Hnext.out, Hb6.out⟩
                      case measure => simp [intOf] <;> omega
                    · by_cases heq : n2 = nb
                      · have hqe : ((n2 : Int) == (nb : Int)) = true := by simp; omega
                        have Hbt : Hid (bettL S1 B = befL S1 B) := hid_ (by rw [bettL, HS1l.out, Hbl.out, decide_eq_false hgt, decide_eq_true heq]; rfl)
                        rw [Hbt.out] at Hnext
                        have Hgt := hid_ hgt; have Heq := hid_ heq
                        clear heq
                        cases hbb : befL S1 B with
                        | true =>
                          rw [hbb, if_pos rfl] at Hnext
                          have Hbb := hid_ hbb
                          clear hbb
                          go_wp2_with (first
                            | (at_builtin; refine wpList_append_ints _ rfl (.tmp 62) (.tmp 66) _ rfl wr.heap.size 3 i0 Try.underlying25 hi0 hz0 hz1 hz2 _ _ _ rfl hown0 _ _ _ _ rfl hI0 (by omega) (by simp) ?_; intro v4 w4 hown4 hg4 hat4; have hb4 : Below wr.heap.size wr w4 := below_new hg4; rw [Nat.zero_add, List.nil_append] at hown4; obtain ⟨a4, c4, rfl, -⟩ := IntsAt.own hown4; have ho4 := own_below hown4 (below_alloc w4 (.cells #[.int .i64 (p : Int)] 3)) (Nat.le_refl _); have hz4 := hb4.size)
                            | (at_builtin; refine wpList_append_ints _ rfl (.tmp 67) (.tmp 69) _ rfl wr.heap.size 3 i0 Try.underlying25 hi0 hz0 hz1 hz2 _ _ _ rfl ho4 _ _ _ _ rfl (IntsAt.one _ _ _) (by omega) (by simp; omega) ?_; intro v5 w5 hown5 hg5 hat5; have hb5 : Below wr.heap.size wr w5 := below_app hb4 hz4 hown4 hg5; rw [HS1.out, Hn2.out] at hown5; obtain ⟨a5, c5, rfl, -⟩ := IntsAt.own hown5; have Hown5 := hid_ hown5; have Hb5 := hid_ (Hb3.out.trans (hb5.mono hz3)); have HO5 := hid_ (HO3.out.below hb5 (Nat.le_refl _)); have ht5 := HO5.out.top; rw [Hns.out] at ht5; have Hout5 := hid_ (own_below Hout3.out hb5 (Nat.le_refl _)); have hz5 := Hb5.out.size; have Hb5' := hid_ hb5; clear hown5 hg5 hat5 hb5 hown4 hg4 hat4 hb4 ho4)
                            | (at_builtin; refine wpList_push_val2 _ rfl (.tmp 71) (.tmp 73) _ rfl w.heap.size 25 i1 Try.underlying22 hi1 hz0' rfl hz1' hz2' (by omega) _ _ _ rfl ht5 (.slice a5 n2 c5) rfl 25 rfl (by omega) hz5 ?_; intro v6 w6 hown6 hg6 hat6; have HP6 := hid_ (OwnRw.push (r := S1) hz3 HO3.out Hb5'.out (by rw [HS1l.out]; exact Hown5.out) (by rw [Hns.out]; exact hown6) hg6); have Hset6 := hid_ (own_kept_ne (own_base (Hown5.out.alloc _) hz3) (ht5.alloc _) (by decide) hg6); have Hout6 := hid_ (own_kept_ne (Hout5.out.alloc _) (ht5.alloc _) (by decide) hg6); have Hb6 := hid_ (below_app Hb5.out hz5 ht5 hg6); obtain ⟨g6, cap6, e6⟩ := own_sliceV hown6; subst e6; clear hown6 hg6 hat6 ht5; obtain ⟨ab, cb, eb, ho6⟩ := IntsAt.own Hout6.out; injection eb with eb1 eb2 eb3; subst eb1; subst eb3; obtain ⟨ax, cx, es, hi6⟩ := IntsAt.own Hset6.out; injection es with es1 es2 es3; subst es1; subst es3)
                            | (go_at_call 36; (with_reducible refine (before7_calls _ _ _ S1 _ _ _ B _ hi6 ho6).mono ?_); rintro e w7 ⟨rfl, q7, rfl⟩; rw [Hbb.out]))
                          go_roundw
                          case rel => exact ⟨k1, (k1 : Int) - 1, _, S1, by omega, rfl, by go_num, by rw [HSt'.out]; exact HP6.out.drewN _, by rw [HS1l.out]; exact own_drewN Hset6.out _, Hnext.out, below_drewN Hb6.out _⟩
                          case measure => simp [intOf] <;> omega
                        | false =>
                          rw [hbb, if_neg (by decide)] at Hnext
                          have Hbb := hid_ hbb
                          clear hbb
                          go_wp2_with (first
                            | (at_builtin; refine wpList_append_ints _ rfl (.tmp 62) (.tmp 66) _ rfl wr.heap.size 3 i0 Try.underlying25 hi0 hz0 hz1 hz2 _ _ _ rfl hown0 _ _ _ _ rfl hI0 (by omega) (by simp) ?_; intro v4 w4 hown4 hg4 hat4; have hb4 : Below wr.heap.size wr w4 := below_new hg4; rw [Nat.zero_add, List.nil_append] at hown4; obtain ⟨a4, c4, rfl, -⟩ := IntsAt.own hown4; have ho4 := own_below hown4 (below_alloc w4 (.cells #[.int .i64 (p : Int)] 3)) (Nat.le_refl _); have hz4 := hb4.size)
                            | (at_builtin; refine wpList_append_ints _ rfl (.tmp 67) (.tmp 69) _ rfl wr.heap.size 3 i0 Try.underlying25 hi0 hz0 hz1 hz2 _ _ _ rfl ho4 _ _ _ _ rfl (IntsAt.one _ _ _) (by omega) (by simp; omega) ?_; intro v5 w5 hown5 hg5 hat5; have hb5 : Below wr.heap.size wr w5 := below_app hb4 hz4 hown4 hg5; rw [HS1.out, Hn2.out] at hown5; obtain ⟨a5, c5, rfl, -⟩ := IntsAt.own hown5; have Hown5 := hid_ hown5; have Hb5 := hid_ (Hb3.out.trans (hb5.mono hz3)); have HO5 := hid_ (HO3.out.below hb5 (Nat.le_refl _)); have ht5 := HO5.out.top; rw [Hns.out] at ht5; have Hout5 := hid_ (own_below Hout3.out hb5 (Nat.le_refl _)); have hz5 := Hb5.out.size; have Hb5' := hid_ hb5; clear hown5 hg5 hat5 hb5 hown4 hg4 hat4 hb4 ho4)
                            | (at_builtin; refine wpList_push_val2 _ rfl (.tmp 71) (.tmp 73) _ rfl w.heap.size 25 i1 Try.underlying22 hi1 hz0' rfl hz1' hz2' (by omega) _ _ _ rfl ht5 (.slice a5 n2 c5) rfl 25 rfl (by omega) hz5 ?_; intro v6 w6 hown6 hg6 hat6; have HP6 := hid_ (OwnRw.push (r := S1) hz3 HO3.out Hb5'.out (by rw [HS1l.out]; exact Hown5.out) (by rw [Hns.out]; exact hown6) hg6); have Hset6 := hid_ (own_kept_ne (own_base (Hown5.out.alloc _) hz3) (ht5.alloc _) (by decide) hg6); have Hout6 := hid_ (own_kept_ne (Hout5.out.alloc _) (ht5.alloc _) (by decide) hg6); have Hb6 := hid_ (below_app Hb5.out hz5 ht5 hg6); obtain ⟨g6, cap6, e6⟩ := own_sliceV hown6; subst e6; clear hown6 hg6 hat6 ht5; obtain ⟨ab, cb, eb, ho6⟩ := IntsAt.own Hout6.out; injection eb with eb1 eb2 eb3; subst eb1; subst eb3; obtain ⟨ax, cx, es, hi6⟩ := IntsAt.own Hset6.out; injection es with es1 es2 es3; subst es1; subst es3)
                            | (go_at_call 36; (with_reducible refine (before7_calls _ _ _ S1 _ _ _ B _ hi6 ho6).mono ?_); rintro e w7 ⟨rfl, q7, rfl⟩; rw [Hbb.out]))
                          go_roundw
                          case rel => exact ⟨k1, (k1 : Int) - 1, _, B, by omega, rfl, by go_num, by rw [HSt'.out]; exact HP6.out.drewN _, by rw [Hbl.out]; exact own_drewN Hout6.out _, Hnext.out, below_drewN Hb6.out _⟩
                          case measure => simp [intOf] <;> omega
                      · have hqe : ((n2 : Int) == (nb : Int)) = false := by simp; omega
                        have Hbt : Hid (bettL S1 B = false) := hid_ (by rw [bettL, HS1l.out, Hbl.out, decide_eq_false hgt, decide_eq_false heq]; rfl)
                        rw [if_neg (by rw [Hbt.out]; decide)] at Hnext
                        clear heq
                        go_wp2_with (first
                          | (at_builtin; refine wpList_append_ints _ rfl (.tmp 62) (.tmp 66) _ rfl wr.heap.size 3 i0 Try.underlying25 hi0 hz0 hz1 hz2 _ _ _ rfl hown0 _ _ _ _ rfl hI0 (by omega) (by simp) ?_; intro v4 w4 hown4 hg4 hat4; have hb4 : Below wr.heap.size wr w4 := below_new hg4; rw [Nat.zero_add, List.nil_append] at hown4; obtain ⟨a4, c4, rfl, -⟩ := IntsAt.own hown4; have ho4 := own_below hown4 (below_alloc w4 (.cells #[.int .i64 (p : Int)] 3)) (Nat.le_refl _); have hz4 := hb4.size)
                          | (at_builtin; refine wpList_append_ints _ rfl (.tmp 67) (.tmp 69) _ rfl wr.heap.size 3 i0 Try.underlying25 hi0 hz0 hz1 hz2 _ _ _ rfl ho4 _ _ _ _ rfl (IntsAt.one _ _ _) (by omega) (by simp; omega) ?_; intro v5 w5 hown5 hg5 hat5; have hb5 : Below wr.heap.size wr w5 := below_app hb4 hz4 hown4 hg5; rw [HS1.out, Hn2.out] at hown5; obtain ⟨a5, c5, rfl, -⟩ := IntsAt.own hown5; have Hown5 := hid_ hown5; have Hb5 := hid_ (Hb3.out.trans (hb5.mono hz3)); have HO5 := hid_ (HO3.out.below hb5 (Nat.le_refl _)); have ht5 := HO5.out.top; rw [Hns.out] at ht5; have Hout5 := hid_ (own_below Hout3.out hb5 (Nat.le_refl _)); have hz5 := Hb5.out.size; have Hb5' := hid_ hb5; clear hown5 hg5 hat5 hb5 hown4 hg4 hat4 hb4 ho4)
                          | (at_builtin; refine wpList_push_val2 _ rfl (.tmp 71) (.tmp 73) _ rfl w.heap.size 25 i1 Try.underlying22 hi1 hz0' rfl hz1' hz2' (by omega) _ _ _ rfl ht5 (.slice a5 n2 c5) rfl 25 rfl (by omega) hz5 ?_; intro v6 w6 hown6 hg6 hat6; have HP6 := hid_ (OwnRw.push (r := S1) hz3 HO3.out Hb5'.out (by rw [HS1l.out]; exact Hown5.out) (by rw [Hns.out]; exact hown6) hg6); have Hset6 := hid_ (own_kept_ne (own_base (Hown5.out.alloc _) hz3) (ht5.alloc _) (by decide) hg6); have Hout6 := hid_ (own_kept_ne (Hout5.out.alloc _) (ht5.alloc _) (by decide) hg6); have Hb6 := hid_ (below_app Hb5.out hz5 ht5 hg6); obtain ⟨g6, cap6, e6⟩ := own_sliceV hown6; subst e6; clear hown6 hg6 hat6 ht5))
                        go_roundw
                        case rel => exact ⟨k1, (k1 : Int) - 1, _, B, by omega, rfl, by go_num, by rw [HSt'.out]; exact HP6.out, by rw [Hbl.out]; exact Hout6.out, Hnext.out, Hb6.out⟩
                        case measure => simp [intOf] <;> omega
        · have hq : ((d : Int) != 2) = true := by simp; omega
          have Hsk := hid_ (Hskip.out p (by rw [hsp]; exact decide_eq_false hd2))
          clear hsp hd2
          go_wp2_with (go_at_call 34; (with_reducible refine HDp.out.mono ?_); rintro e w2 ⟨rfl, hb2⟩)
          go_roundw
          case rel => exact ⟨p + 1, us, B, by omega, by go_num, by rw [Hsk.out]; exact HO.out.below hb2 (Nat.le_refl _), own_below Hown.out hb2 (Nat.le_refl _), by rw [Hsk.out]; exact Hbest.out, Hbr.out.trans (hb2.mono hsz)⟩
          case measure => simp [intOf]; omega
      · obtain rfl : p = M := by omega
        have Hown := hid_ hown
        have HBB := hid_ (HB.out B hbest)
        have HO := hid_ hO
        clear hO hown hbest
        obtain ⟨ab, cb, rfl, hib⟩ := IntsAt.own Hown.out
        have Hib := hid_ hib
        clear hib
        go_wp2
        go_ret2
        exact ⟨ab, cb, by rw [HR'.out, HBB.out]; rfl, by rw [HR'.out, HBB.out]; exact Hib.out, hbr⟩
  · have HR' : Hid (R = []) := hid_ (HR.out.trans (if_neg he))
    have hq : (validT T != 0) = true := by simpa using he
    generalize validT T = x at *
    clear he HR
    go_enter Try.func9, Try.ntmps9
    go_wp2_with (go_at_call 33; (with_reducible refine HV.out.mono ?_); rintro e w2 ⟨rfl, q, rfl⟩)
    go_ret2
    exact ⟨none, 0, by rw [HR'.out]; rfl, by rw [HR'.out]; exact IntsAt.nil _ _ _ (by omega), below_drewN (Below.refl _ _) _⟩
end Go.Proofs.Ythmnmpglnaegfaa
