import Derived.Test.YtoopgmoopmbfnaaSndT
import Derived.Test.YtoopgmoopmbfnaaSndR
import Derived.Test.YtoopgmoopmbfnaaShelfB
namespace Go.Proofs.Kv
open Go.RowKit
theorem own_setCells_at {B e size n g cap : Nat} : ∀ (vs : List Value) (o : Nat) {w : World} {xs : List Value}, w.ownsRow B e size (.slice (some ⟨g, 0, none⟩) n cap) n xs → o + vs.length ≤ xs.length →
    (w.setCells g o vs).ownsRow B e size (.slice (some ⟨g, 0, none⟩) n cap) n (xs.take o ++ vs ++ xs.drop (o + vs.length)) ∧ w.grownBy (w.setCells g o vs) (some g)
  | [], o, w, xs, h, _ => ⟨by simpa [World.setCells] using h, World.grownBy.refl w _⟩
  | v :: vs, o, w, xs, h, hl => by
    obtain ⟨h1, h2⟩ := h.stored o v
    rw [List.length_cons] at hl
    obtain ⟨h3, h4⟩ := own_setCells_at vs (o + 1) h1 (by simp; omega)
    refine ⟨?_, h2.trans h4⟩
    have e : (xs.set o v).take (o + 1) ++ vs ++ (xs.set o v).drop (o + 1 + vs.length) = xs.take o ++ v :: vs ++ xs.drop (o + (v :: vs).length) := by
      have e1 : (xs.set o v).take (o + 1) = xs.take o ++ [v] := by
        rw [Kv.take_snoc _ v o (by simp; omega), List.take_set, List.set_eq_of_length_le (by rw [List.length_take]; omega)]
        simp [List.getD, show o < xs.length by omega]
      have e2 : o + (v :: vs).length = o + 1 + vs.length := by rw [List.length_cons]; omega
      rw [e1, List.drop_set_of_lt (by omega), e2]
      simp
    rw [← e]; exact h3
theorem own_form {B e size n : Nat} {v : Value} {w : World} {xs : List Value} (h : w.ownsRow B e size v n xs) (h0 : 0 < n) : ∃ g cap, v = .slice (some ⟨g, 0, none⟩) n cap ∧ n ≤ cap ∧ cap ≤ 9223372036854775807 ∧ B ≤ g ∧ g < w.heap.size := by
  rcases h.2 with ⟨_, rfl⟩ | ⟨g, cap, cur, rfl, hb, hg, hnc, hm, _⟩
  · omega
  · exact ⟨g, cap, rfl, hnc, by unfold maxLen at hm; omega, hb, (Array.getElem?_eq_some_iff.1 hg).1⟩
theorem below_setCells {B : Nat} {a w : World} (h : Below B a w) {g : Nat} (hg : B ≤ g) : ∀ (vs : List Value) (o : Nat), Below B a (w.setCells g o vs)
  | [], _ => h
  | v :: vs, o => below_setCells (h.setCell (p := ⟨g, o, none⟩) hg v) hg vs (o + 1)
end Go.Proofs.Kv
namespace Go.Proofs.Ytoopgmoopmbfnaa
open Go.RowKit Go.Proofs.Kv Go.Proofs.Snd

/-! ### slices.Delete of one number of an own row -/
theorem delete_calls {B n : Nat} {v : Value} {l : List Int} {w : World} {i : Nat} (hown : w.ownsRow B 3 1 v n (l.map (Value.int .i64))) (hi : i < n) :
    Calls Try.prog 73 #[v, .int .i64 i, .int .i64 (i + 1)] w fun e w' => ∃ v', e = .returned v' ∧ w'.ownsRow B 3 1 v' (n - 1) ((l.take i ++ l.drop (i + 1)).map (Value.int .i64)) ∧ Below B w w' := by
  have hl : l.length = n := by simpa using hown.1
  obtain ⟨g, cap, rfl, h1, h2, h3, h4⟩ := own_form hown (by omega)
  have hc := Try.slices_Delete_int_cells g 0 n cap i (i + 1) l w (by omega) h1 h2 (by omega) (by omega)
    (fun j hj => by
      rw [Nat.zero_add, hown.cellAt j (by omega)]; simp [List.getD, show j < l.length from hj])
    (fun j _ => by rw [Nat.zero_add]; exact hown.frozenAt j)
  refine hc.mono ?_
  rintro e w' ⟨rfl, q, rfl⟩
  have hk : i + 1 - i = 1 := by omega
  rw [hk]
  refine ⟨_, rfl, ?_, below_setCells (below_drewN (Below.refl _ _) q) h3 _ _⟩
  have hA : (l.take i ++ l.drop (i + 1)).length = n - 1 := by
    rw [List.length_append, List.length_take, List.length_drop]; omega
  have ht : l.take n = l := List.take_of_length_le (by omega)
  rw [ht]
  generalize l.take i ++ l.drop (i + 1) = A at hA
  have hlen : ((A ++ List.replicate 1 0).map (Value.int .i64)).length = l.length := by
    rw [List.length_map, List.length_append, hA, List.length_replicate]; omega
  obtain ⟨q1, _⟩ := own_setCells_at ((A ++ List.replicate 1 0).map (Value.int .i64)) 0 (own_drewN hown q) (by rw [hlen, List.length_map]; omega)
  have q2 := own_cut q1 (show n - 1 ≤ n by omega)
  have he : ((l.map (Value.int .i64)).take 0 ++ (A ++ List.replicate 1 0).map (Value.int .i64) ++ (l.map (Value.int .i64)).drop (0 + ((A ++ List.replicate 1 0).map (Value.int .i64)).length)).take ((n - 1) * 1) = A.map (Value.int .i64) := by
    rw [hlen, List.drop_of_length_le (by rw [List.length_map]; omega), List.append_nil, List.take_zero, List.nil_append, List.map_append, Nat.mul_one]
    exact List.take_left' (by rw [List.length_map, hA])
  rw [he] at q2
  exact q2

/-! ### rows and their ends -/
def endsF (f : Nat) : List (List Int) → List Nat
  | [] => []
  | r :: L => (f + r.length) :: endsF (f + r.length) L
theorem endsF_eq : ∀ (f : Nat) (L : List (List Int)), endsF f L = (List.range L.length).map fun i => f + (L.take (i + 1)).flatten.length
  | _, [] => rfl
  | f, r :: L => by
    rw [endsF, endsF_eq (f + r.length) L, List.length_cons, List.range_succ_eq_map, List.map_cons, List.map_map]
    congr 1
    · simp
    · apply List.map_congr_left
      intro i _
      simp; omega
theorem endsN_eq (L : List (List Int)) : endsN L L.length = endsF 0 L := by rw [endsF_eq]; simp [endsN]
theorem endsF_append : ∀ (f : Nat) (A B : List (List Int)), endsF f (A ++ B) = endsF f A ++ endsF (f + A.flatten.length) B
  | f, [], B => by simp [endsF]
  | f, r :: A, B => by
    rw [List.cons_append, endsF, endsF, endsF_append (f + r.length) A B, List.cons_append]
    congr 2
    rw [List.flatten_cons, List.length_append, Nat.add_assoc]
theorem endsF_len : ∀ (f : Nat) (L : List (List Int)), (endsF f L).length = L.length
  | _, [] => rfl
  | f, r :: L => by rw [endsF, List.length_cons, endsF_len, List.length_cons]
theorem cutF_ends : ∀ (L : List (List Int)) (p : List Int), cutF (p ++ L.flatten) p.length (endsF p.length L) = L
  | [], _ => rfl
  | r :: L, p => by
    rw [endsF, cutF, List.flatten_cons]
    have h := cutF_ends L (p ++ r)
    rw [List.length_append, List.append_assoc] at h
    rw [h]
    congr 1
    rw [← List.append_assoc, ← List.length_append, List.take_left' rfl, List.drop_left' rfl]
theorem cut_ends (L : List (List Int)) : cutF L.flatten 0 (endsF 0 L) = L := cutF_ends L []
theorem asc_ends : ∀ (L : List (List Int)) (f m : Nat), (∀ r ∈ L, r ≠ []) → f + L.flatten.length ≤ m → Asc m f (endsF f L)
  | [], _, _, _, _ => trivial
  | r :: L, f, m, h, hm => by
    rw [List.flatten_cons, List.length_append] at hm
    have := List.length_pos_iff.2 (h r (by simp))
    exact ⟨by omega, by omega, asc_ends L _ _ (fun x hx => h x (by simp [hx])) (by omega)⟩
/-- two rows made one -/
def joinL (L : List (List Int)) (r : Nat) : List (List Int) := L.take r ++ ((L.getD r [] ++ L.getD (r + 1) []) :: L.drop (r + 2))
theorem split_two {L : List (List Int)} {r : Nat} (h : r + 1 < L.length) : L = L.take r ++ (L.getD r [] :: L.getD (r + 1) [] :: L.drop (r + 2)) := by
  have e1 : L.drop r = L.getD r [] :: L.drop (r + 1) := by
    rw [List.drop_eq_getElem_cons (by omega)]; simp [List.getD, show r < L.length by omega]
  have e2 : L.drop (r + 1) = L.getD (r + 1) [] :: L.drop (r + 2) := by
    rw [List.drop_eq_getElem_cons h]; simp [List.getD, h]
  rw [← e2, ← e1, List.take_append_drop]
theorem joinL_flat {L : List (List Int)} {r : Nat} (h : r + 1 < L.length) : (joinL L r).flatten = L.flatten := by
  have e := congrArg List.flatten (split_two h)
  rw [e, joinL]; simp
theorem joinL_ends {L : List (List Int)} {r : Nat} (h : r + 1 < L.length) : endsF 0 (joinL L r) = (endsF 0 L).take r ++ (endsF 0 L).drop (r + 1) := by
  have e := congrArg (endsF 0) (split_two h)
  rw [endsF_append, endsF, endsF] at e
  have hl : (endsF 0 (L.take r)).length = r := by rw [endsF_len, List.length_take]; omega
  rw [e, List.take_left' hl, joinL, endsF_append, endsF]
  congr 1
  have hd : ∀ (A B : List Nat) (x y : Nat), A.length = r → (A ++ x :: y :: B).drop (r + 1) = y :: B := fun A B x y ha => by
    rw [← List.drop_drop, List.drop_left' ha]; rfl
  rw [hd _ _ _ _ hl, List.length_append]
  simp only [Nat.add_assoc]

/-! ### Join -/
def joinErr (L : List (List Int)) (r : Int) : Int := if validT L = 0 then (if r < 0 ∨ (L.length : Int) - 1 ≤ r then 4 else 0) else validT L
def joinRes (L : List (List Int)) (r : Int) : List (List Int) := if joinErr L r = 0 then joinL L r.toNat else []
set_option maxRecDepth 100000 in
theorem sndJoin_calls (a : Option Addr) (n c : Nat) (L : List (List Int)) (r : Int) (w : World) (h : ListsAt w a n c L) :
    Calls Try.prog 24 #[.slice a n c, .int .i64 r] w fun e w' => ∃ v, e = .returned (.tuple #[v, .int .i64 (joinErr L r)]) ∧ MadeL 23 w w' v (joinRes L r) := by
  have hval := sndValidate_calls a n c L w h
  have hlen := h.len
  by_cases he : validT L = 0
  · rw [he] at hval
    have Hv := hid_ hval; clear hval
    have hg := good_of he
    have hn6 : n ≤ 6 := by have := hg.n6; omega
    have hn1 : 1 ≤ n := by have := hg.n1; omega
    by_cases hr : r < 0
    · have He : Hid (joinErr L r = 4) := hid_ (by rw [joinErr, if_pos he, if_pos (.inl hr)])
      have Hf : Hid (joinRes L r = []) := hid_ (by rw [joinRes, He.out]; rfl)
      clear he hg hlen
      go_enter Try.func24, Try.ntmps24
      go_wp2_with fail
      refine Hv.out.mono ?_
      rintro e w1 ⟨rfl, hb1⟩
      go_wp2
      go_ret2
      exact ⟨_, by rw [He.out]; rfl, by rw [Hf.out]; exact MadeL.none_ _ hb1⟩
    · by_cases hr2 : (n : Int) - 1 ≤ r
      · have He : Hid (joinErr L r = 4) := hid_ (by rw [joinErr, if_pos he, if_pos (.inr (by omega))])
        have Hf : Hid (joinRes L r = []) := hid_ (by rw [joinRes, He.out]; rfl)
        clear he hg hlen
        go_enter Try.func24, Try.ntmps24
        go_wp2_with fail
        refine Hv.out.mono ?_
        rintro e w1 ⟨rfl, hb1⟩
        go_wp2
        go_ret2
        exact ⟨_, by rw [He.out]; rfl, by rw [Hf.out]; exact MadeL.none_ _ hb1⟩
      · obtain ⟨r', rfl⟩ := Int.eq_ofNat_of_zero_le (show 0 ≤ r by omega)
        have hrl : r' + 1 < L.length := by omega
        have He : Hid (joinErr L r' = 0) := hid_ (by rw [joinErr, if_pos he, if_neg (by omega)])
        have Hf : Hid (joinRes L r' = cutF L.flatten 0 (((endsF 0 L).take r' ++ (endsF 0 L).drop (r' + 1)))) := hid_ (by
          rw [joinRes, He.out, ← joinL_ends hrl, ← joinL_flat hrl, cut_ends]; rfl)
        obtain ⟨m, hm⟩ : ∃ m, L.flatten.length = m := ⟨_, rfl⟩
        have Hm := hid_ hm
        have Hasc : Hid (Asc m 0 ((endsF 0 L).take r' ++ (endsF 0 L).drop (r' + 1))) := hid_ (by
          rw [← joinL_ends hrl]
          refine asc_ends _ _ _ (fun x hx => ?_) (by rw [joinL_flat hrl]; omega)
          unfold joinL at hx
          rcases List.mem_append.1 hx with hx | hx
          · exact hg.ne x (List.mem_of_mem_take hx)
          · rcases List.mem_cons.1 hx with hx | hx
            · rw [hx]
              intro e
              have e1 := (List.append_eq_nil_iff.1 e).1
              exact hg.ne (L.getD r' []) (by rw [List.getD, List.getElem?_eq_getElem (by omega), Option.getD_some]; exact List.getElem_mem _) e1
            · exact hg.ne x (List.mem_of_mem_drop hx))
        have Hends : Hid (endsI L n = (endsF 0 L).map fun x : Nat => (x : Int)) := hid_ (by rw [endsI, ← hlen, endsN_eq])
        have hpos : 0 < L.flatten.length := by
          have hm : L.getD 0 [] ∈ L := by rw [List.getD, List.getElem?_eq_getElem (by omega), Option.getD_some]; exact List.getElem_mem _
          exact Nat.lt_of_lt_of_le (List.length_pos_iff.2 (hg.ne _ hm)) (List.sublist_flatten_of_mem hm).length_le
        have hfl : L.flatten.length ≤ 100000 := by have := hg.flat; omega
        have HL := hid_ (fun W (hW : Below w.heap.size w W) => h.below hW (Nat.le_refl _))
        have hel : (endsF 0 L).length = n := by rw [endsF_len, hlen]
        have hrw : IntKind.i64.wrap ((r' : Int) + 1) = r' + 1 := IntWalk.i64_in _ (by omega)
        have hrlt : (r' : Int) < (n : Int) - 1 := by omega
        clear he hg h hr hr2 hrw hm
        go_enter Try.func24, Try.ntmps24
        go_wp2_with fail
        refine Hv.out.mono ?_
        rintro e w1 ⟨rfl, hb1⟩
        have Hc := hid_ (concat_calls a n c L w1 (HL.out w1 hb1) hfl)
        go_wp2_with fail
        refine Hc.out.mono ?_
        rintro e w2 ⟨v2, rfl, hm2⟩
        obtain ⟨g2, cap2, rfl, -, -, hg2, hg2'⟩ := own_form hm2.own hpos
        obtain ⟨a2, c2, e2, hI2⟩ := hm2.at_
        injection e2 with q1 q2 q3
        subst q1; subst q3
        rw [Hm.out] at hI2 ⊢
        have hb2 : Below w.heap.size w w2 := below_then hb1 hm2.bel
        have Hre := hid_ (rowEnds_calls a n c L w2 (HL.out w2 hb2) hfl (by omega))
        clear Hc Hv
        go_wp2_with fail
        refine Hre.out.mono ?_
        rintro e w3 ⟨v3, rfl, hm3⟩
        have hb3 : Below w.heap.size w w3 := below_then hb2 hm3.bel
        have hown3 := hm3.own
        rw [endsI_len, Hends.out] at hown3
        have Hd := hid_ (delete_calls hown3 (show r' < n by omega))
        clear Hre
        go_wp2_with fail
        refine Hd.out.mono ?_
        rintro e w4 ⟨v4, rfl, hown4, hb4⟩
        rw [← List.map_take, ← List.map_drop, ← List.map_append] at hown4
        obtain ⟨a4, c4, rfl, hI4⟩ := IntsAt.own hown4
        have hb4' : Below w2.heap.size w2 w4 := hm3.bel.trans hb4
        have hI2' := hI2.below hb4' (Nat.le_refl _)
        have hb5 : Below w.heap.size w w4 := below_then hb2 hb4'
        have hgw4 : g2 < w4.heap.size := Nat.lt_of_lt_of_le hg2' hb4'.size
        have Hcut := hid_ (cut_calls g2 0 _ _ _ _ _ _ _ w4 hI2' hI4 Hasc.out (by omega))
        have HI := hid_ hI2'
        have Hb5 := hid_ hb5
        clear Hd hown3 hown4 hI4 hI2 hI2' hb4 hb4' hb5 hm3 hb3 hm2 hb2 hb1
        go_wp2_with fail
        refine Hcut.out.mono ?_
        rintro e w5 ⟨v5, rfl, hown5, hb6⟩
        have Hres : Hid (OwnL 23 w5 w.heap.size v5 (joinRes L r')) := hid_ (by
          rw [Hf.out]
          refine (ownL_cut hown5 (HI.out.below hb6 (Nat.le_refl _)) Hasc.out fun e => ?_).base Hb5.out.size
          have := (hown5.lt g2 e).1
          omega)
        clear hown5
        go_wp2
        go_ret2
        exact ⟨v5, by rw [He.out]; rfl, ⟨Hres.out, below_then Hb5.out hb6⟩⟩
  · have He : Hid (joinErr L r = validT L) := hid_ (if_neg he)
    have Hf : Hid (joinRes L r = []) := hid_ (by rw [joinRes, if_neg (by rw [He.out]; exact he)])
    generalize validT L = er at hval he He
    have hq : (er != 0) = true := by simpa using he
    have Hv := hid_ hval; clear hval he hlen
    go_enter Try.func24, Try.ntmps24
    go_wp2_with fail
    refine Hv.out.mono ?_
    rintro e w2 ⟨rfl, hb2⟩
    go_wp2
    go_ret2
    exact ⟨_, by rw [He.out]; rfl, by rw [Hf.out]; exact MadeL.none_ _ hb2⟩
end Go.Proofs.Ytoopgmoopmbfnaa
