import Derived.Test.YtdnlpikfibdjoaaYM
namespace Go.Proofs.Ytdnlpikfibdjoaa
open Go.RowKit Go.Proofs.Kv Go

/-! ### Without of the program -/
def woutE (T : List (List Int)) (p : Int) : Int := if placesE T [p] = 0 then (if n0 T = 1 then 1 else 0) else placesE T [p]
def resWout (T : List (List Int)) (p : Int) : List (List Int) := if woutE T p = 0 then T.map fun r => r.eraseIdx p.toNat else []
theorem woutE_ok {T : List (List Int)} {p : Int} (h : woutE T p = 0) : GoodT T ∧ 0 ≤ p ∧ p < n0 T ∧ 2 ≤ n0 T := by
  unfold woutE at h
  split at h
  · rename_i hc
    obtain ⟨g, h1, h2⟩ := placesE_one hc
    split at h
    · cases h
    · exact ⟨g, h1, h2, by omega⟩
  · rename_i hc; exact absurd h hc
/-- lists of which the first k were turned by f -/
def partF (f : List Int → List Int) (T : List (List Int)) (k : Nat) : List (List Int) := (T.take k).map f ++ T.drop k
theorem partF_len (f : List Int → List Int) (T : List (List Int)) {k : Nat} (hk : k ≤ T.length) : (partF f T k).length = T.length := by
  unfold partF; rw [List.length_append, List.length_map, List.length_take, List.length_drop]; omega
theorem partF_at (f : List Int → List Int) (T : List (List Int)) {k : Nat} (hk : k < T.length) : (partF f T k).getD k [] = T.getD k [] := by
  have hl : ((T.take k).map f).length = k := by rw [List.length_map, List.length_take]; omega
  unfold partF
  simp only [List.getD]
  rw [List.getElem?_append_right (by omega), hl, Nat.sub_self, List.getElem?_drop, Nat.add_zero]
theorem partF_set (f : List Int → List Int) (T : List (List Int)) {k : Nat} (hk : k < T.length) : (partF f T k).set k (f (T.getD k [])) = partF f T (k + 1) := by
  have hl : ((T.take k).map f).length = k := by rw [List.length_map, List.length_take]; omega
  unfold partF
  rw [List.set_append_right _ _ (by omega), hl, Nat.sub_self, List.drop_eq_getElem_cons hk, List.set_cons_zero, Kv.take_snoc T [] k hk, List.map_append, List.append_assoc]
  rfl
theorem partF_zero (f : List Int → List Int) (T : List (List Int)) : partF f T 0 = T := by simp [partF]
theorem partF_all (f : List Int → List Int) (T : List (List Int)) {n : Nat} (h : T.length = n) : partF f T n = T.map f := by
  subst h; simp [partF]
set_option maxRecDepth 100000 in
set_option maxHeartbeats 4000000 in
theorem stWithout_calls (a : Option Addr) (n c : Nat) (T : List (List Int)) (p : Int) (w : World) (h : ListsAt w a n c T) :
    Calls Try.prog 48 #[.slice a n c, .int .i64 p] w fun e w' => ∃ v us, e = .returned (.tuple #[v, .int .i64 (woutE T p)]) ∧ OwnRw 22 3 w' w.heap.size v us (resWout T p) ∧ Below w.heap.size w w' := by
  have HV := hid_ (fun W (hW : Below w.heap.size w W) a' n' c' (h' : IntsAt W a' n' c' [p]) => places_calls a n c T a' n' c' [p] W (h.below hW (Nat.le_refl _)) h')
  have HR : Hid (resWout T p = if woutE T p = 0 then T.map (fun r => r.eraseIdx p.toNat) else []) := hid_ rfl
  have HE : Hid (woutE T p = if placesE T [p] = 0 then (if n0 T = 1 then 1 else 0) else placesE T [p]) := hid_ rfl
  have hlen := h.len
  generalize resWout T p = R at *
  generalize woutE T p = E at *
  by_cases he : placesE T [p] = 0
  · obtain ⟨g, hp0, hp1⟩ := placesE_one he
    have hE := HE.out.trans (if_pos he)
    rw [he] at HV
    clear he HE
    obtain ⟨j, rfl⟩ := nat_of hp0
    have hn : 0 < n := by have := g.ge; omega
    obtain ⟨b, off, a1, m1, c1, rfl, hb', hcell, hrow⟩ := h.cells 0 hn
    rw [Nat.add_zero] at hcell
    have hm : m1 = n0 T := by rw [← hrow.len]; rfl
    subst hm
    by_cases h1 : n0 T = 1
    · have HE' : Hid (E = 1) := hid_ (hE.trans (if_pos h1))
      have HR' : Hid (R = []) := hid_ (HR.out.trans (if_neg (by rw [HE'.out]; decide)))
      rw [h1] at hcell
      clear hE HR h hlen g hrow
      rw [HE'.out, HR'.out]
      have q0 := cell_below hcell (below_alloc w (.cells #[.int .i64 (j : Int)] 3))
      go_enter Try.func48, Try.ntmps48
      go_wp2_with (go_at_call 94; (with_reducible refine (HV.out _ (below_alloc _ _) _ _ _ (IntsAt.one _ _ _)).mono ?_); rintro e w2 ⟨rfl, rfl⟩)
      go_ret2
      exact ⟨_, [], rfl, OwnRw.nil _ _ (by decide), below_alloc _ _⟩
    · have HE' : Hid (E = 0) := hid_ (hE.trans (if_neg h1))
      have HR' : Hid (R = T.map fun r => r.eraseIdx j) := hid_ ((HR.out.trans (if_pos HE'.out)).trans (by rw [Int.toNat_natCast]))
      have HC := hid_ (fun W (hW : Below w.heap.size w W) => copied7_calls _ n c T W (h.below hW (Nat.le_refl _)) (by have := g.le; omega) (fun j hj => by rw [g.len j (by omega)]; have := g.w6; omega))
      have hq : ((n0 T : Int) == 1) = false := by simp; omega
      have hjm : j < n0 T := by omega
      have hm6 : n0 T ≤ 6 := g.w6
      have Hlen := hid_ hlen
      have Hrow := hid_ (fun k (hk : k < n) => g.len k (by omega))
      have q0 := cell_below hcell (below_alloc w (.cells #[.int .i64 (j : Int)] 3))
      have HF0 := hid_ (partF_zero (fun r : List Int => r.eraseIdx j) T)
      have HFn := hid_ (partF_all (fun r : List Int => r.eraseIdx j) T hlen)
      have HFa := hid_ (fun k (hk : k < n) => partF_at (fun r : List Int => r.eraseIdx j) T (k := k) (by rw [hlen]; exact hk))
      have HFs := hid_ (fun k (hk : k < n) => partF_set (fun r : List Int => r.eraseIdx j) T (k := k) (by rw [hlen]; exact hk))
      have HFl := hid_ (fun k (hk : k ≤ n) => (partF_len (fun r : List Int => r.eraseIdx j) T (k := k) (by rw [hlen]; exact hk)).trans hlen)
      have hn6 : n ≤ 6 := by have := g.le; omega
      clear hE HR h hlen g h1 hp0 hp1 hrow
      generalize n0 T = m at *
      generalize partF (fun r : List Int => r.eraseIdx j) T = F at *
      rw [HE'.out, HR'.out]
      go_enter Try.func48, Try.ntmps48
      go_wp2_with (first
        | (go_at_call 94; (with_reducible refine (HV.out _ (below_alloc _ _) _ _ _ (IntsAt.one _ _ _)).mono ?_); rintro e w2 ⟨rfl, rfl⟩)
        | (go_at_call 101; (with_reducible refine (HC.out _ (below_alloc _ _)).mono ?_); rintro e w3 ⟨v3, us, rfl, ho3, hb3⟩; obtain ⟨g3, cap3, rfl, hc1, hc2, hg1, hg2⟩ := own_form7 ho3.top (by rw [Hlen.out]; omega); rw [Hlen.out] at ho3 hc1 ⊢; have Ho3 := hid_ (ho3.base (below_alloc w (.cells #[.int .i64 (j : Int)] 3)).size); have Hb3 := hid_ ((below_alloc w (.cells #[.int .i64 (j : Int)] 3)).trans (hb3.mono (below_alloc _ _).size)); have Hg1 := hid_ (Nat.le_trans (below_alloc w (.cells #[.int .i64 (j : Int)] 3)).size hg1); clear ho3 hb3 hg1 hg2))
      go_loopw [26] (fun i wr => ∃ (k : Nat) (us : List Value), k ≤ n ∧ i = .int .i64 k ∧ OwnRw 22 3 wr w.heap.size (.slice (some ⟨g3, 0, none⟩) n cap3) us (F k) ∧ Below w.heap.size w wr) (fun i _ => n - (intOf i).toNat)
      case atStart => exact ⟨0, us, Nat.zero_le _, rfl, by rw [HF0.out]; exact Ho3.out, Hb3.out⟩
      case round =>
        obtain ⟨k, us, hk, rfl, hO, hbr⟩ := hrel
        by_cases hlt : k < n
        · have hFl := HFl.out k hk
          obtain ⟨u, hu, hro⟩ := hO.row k (by rw [hFl]; exact hlt)
          rw [HFa.out k hlt, Hrow.out k hlt] at hro
          obtain ⟨g4, cap4, rfl, hd1, hd2, hd3, hd4⟩ := own_form7 hro (by omega)
          have htop := hO.top
          rw [hFl] at htop
          have qk : wr.cell? ⟨g3, k, none⟩ = some (.slice (some ⟨g4, 0, none⟩) m cap4) := by rw [htop.cellAt k (by omega)]; exact hu
          have hdiff := hO.diff hu g4 rfl
          have HD := hid_ (deleteInt1_calls (i := j) hro (ints_oneCell .i64 _) hjm hd1)
          have HP := hid_ (fun (w5 : World) (u' : Value) (r : List Int) hg5 hu5 hat5 => hO.put (i := k) (w' := w5) (u' := u') (r := r) hFl.symm hu hg5 hu5 hat5)
          have Htop := hid_ htop
          have Hdiff := hid_ hdiff
          have hel : ((T.getD k []).eraseIdx j).length = m - 1 := by rw [List.length_eraseIdx_of_lt (by rw [Hrow.out k hlt]; exact hjm), Hrow.out k hlt]
          have hem : ((T.getD k []).map (Value.int .i64)).take j ++ ((T.getD k []).map (Value.int .i64)).drop (j + 1) = ((T.getD k []).eraseIdx j).map (Value.int .i64) := by
            rw [List.eraseIdx_eq_take_drop_succ, List.map_append, List.map_take, List.map_drop]
          have Hel := hid_ hel
          have Hem := hid_ hem
          have Hset := hid_ (HFs.out k hlt)
          have Hd3 := hid_ hd3
          clear hO htop hro hel hem hdiff hd3 hd4 hu
          go_wp2_with (go_at_call 102; (with_reducible refine HD.out.mono ?_); rintro e w5 ⟨rfl, ho5, hg5⟩; rw [Hem.out, ← Hel.out] at ho5; have ht5 := Htop.out.kept hg5 (.inr Hdiff.out); have q5 : w5.cell? ⟨g3, k, none⟩ = some (.slice (some ⟨g4, 0, none⟩) m cap4) := (ht5.cellAt k (by omega)).trans ((Htop.out.cellAt k (by omega)).symm.trans qk); have f5 : w5.frozen? ⟨g3, k, none⟩ = false := ht5.frozenAt k; have hP5 := HP.out w5 _ _ hg5 ho5 (fun b9 hb9 => .inl hb9); rw [Hset.out] at hP5; rw [Hel.out] at hP5; have HP5 := hid_ hP5; have Hb5 := hid_ (Below.setCell (p := ⟨g3, k, none⟩) (hbr.grown hg5 hbr.size (fun k9 hk9 => by injection hk9 with hk9; rw [← hk9]; exact Hd3.out)) Hg1.out (.slice (some ⟨g4, 0, none⟩) (m - 1) cap4)); clear hP5 ho5 hg5 ht5)
          go_roundw
          case rel => exact ⟨k + 1, _, by omega, by go_num, HP5.out, Hb5.out⟩
          case measure => simp [intOf]; omega
        · obtain rfl : k = n := by omega
          rw [HFn.out] at hO
          have HO := hid_ hO
          clear hO
          go_wp2
          go_ret2
          exact ⟨_, us, rfl, HO.out, hbr⟩
  · have HE' : Hid (E = placesE T [p]) := hid_ (HE.out.trans (if_neg he))
    have HR' : Hid (R = []) := hid_ (HR.out.trans (if_neg (by rw [HE'.out]; exact he)))
    have hq : (placesE T [p] != 0) = true := by simpa using he
    rw [HE'.out, HR'.out]
    generalize placesE T [p] = x at *
    clear he HE HR
    go_enter Try.func48, Try.ntmps48
    go_wp2_with (go_at_call 94; (with_reducible refine (HV.out _ (below_alloc _ _) _ _ _ (IntsAt.one _ _ _)).mono ?_); rintro e w2 ⟨rfl, rfl⟩)
    go_ret2
    exact ⟨_, [], rfl, OwnRw.nil _ _ (by decide), below_alloc _ _⟩
end Go.Proofs.Ytdnlpikfibdjoaa
