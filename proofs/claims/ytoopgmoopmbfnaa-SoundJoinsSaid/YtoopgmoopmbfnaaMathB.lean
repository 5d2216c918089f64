import Derived.Test.YtoopgmoopmbfnaaSndO
import Derived.Test.YtoopgmoopmbfnaaRefK
import Derived.Test.YtoopgmoopmbfnaaKitB
namespace Go.Proofs.Ytoopgmoopmbfnaa
open Go.RowKit Go.Proofs.Kv Go.Proofs.Snd Go.Sort Go.Shelf Go.Proofs

/-! ### all names, by either way -/
def LtP (x y : Int × Int) : Prop := x.1 < y.1 ∨ x.1 = y.1 ∧ x.2 < y.2
theorem LtP_irr (a : Int × Int) : ¬ LtP a a := by unfold LtP; omega
theorem LtP_tr (a b c : Int × Int) : LtP a b → LtP b c → LtP a c := by unfold LtP; omega
theorem asc_part (r s : Int) (j : Nat) : (partFor r s j).Pairwise LtP := by
  unfold partFor
  rw [List.pairwise_map]
  refine List.Pairwise.filter _ (List.pairwise_lt_range.imp ?_)
  intro a b h
  exact .inr ⟨rfl, by simpa using h⟩
theorem part_fst {r s : Int} {j : Nat} {p : Int × Int} (h : p ∈ partFor r s j) : p.1 = s := by
  obtain ⟨y, _, _, _, rfl⟩ := mem_partFor.1 h; rfl
theorem asc_namesR (L : List (List Int)) : (namesR L).Pairwise LtP := by
  unfold namesR
  rw [List.pairwise_flatMap]
  refine ⟨fun s _ => asc_part _ _ _, sixSorted.imp ?_⟩
  intro a b h x hx y hy
  exact .inl (by rw [part_fst hx, part_fst hy]; exact h)
theorem getD_at {L : List (List Int)} {i : Nat} (h : i < L.length) : L.getD i [] = L[i] := by simp [List.getD, List.getElem?_eq_getElem h]
theorem good_row {L : List (List Int)} (h : Good L) {i : Nat} (hi : i < L.length) : (L.getD i []).Nodup := by
  rw [getD_at hi]; exact (List.pairwise_flatten.1 h.nd).1 _ (List.getElem_mem _)
theorem good_dis {L : List (List Int)} (h : Good L) {i j : Nat} (hij : i < j) (hj : j < L.length) : ∀ x ∈ L.getD i [], ∀ y ∈ L.getD j [], x ≠ y := by
  rw [getD_at hj, getD_at (by omega)]
  exact List.pairwise_iff_getElem.1 (List.pairwise_flatten.1 h.nd).2 i j (by omega) hj hij
theorem nodup_rkTo {L : List (List Int)} (h : Good L) : (rkTo L L.length).Nodup := by
  unfold rkTo List.Nodup
  rw [List.pairwise_flatMap]
  refine ⟨fun i hi => ?_, ?_⟩
  · have hi' : i < L.length := List.mem_range.1 hi
    unfold rkRow
    rw [List.take_length, List.pairwise_flatMap]
    refine ⟨fun s _ => (asc_part _ _ _).imp (fun h e => by subst e; exact LtP_irr _ h), List.Pairwise.imp ?_ (good_row h hi')⟩
    intro a b hab x hx y hy e
    exact hab (by rw [← part_fst hx, ← part_fst hy, e])
  · rw [List.pairwise_iff_getElem]
    intro i j hi hj hij x hx y hy e
    simp at hi hj
    simp only [List.getElem_range, rkRow, List.take_length] at hx hy
    obtain ⟨s, hs, hx⟩ := List.mem_flatMap.1 hx
    obtain ⟨t, ht, hy⟩ := List.mem_flatMap.1 hy
    exact good_dis h hij hj s hs t ht (by rw [← part_fst hx, ← part_fst hy, e])
theorem rowTo_in {L : List (List Int)} (h : Good L) {i : Nat} (hi : i < L.length) {s : Int} (hs : s ∈ L.getD i []) : rowTo L s = i :=
  rowTo_hit hi (fun j hj => by
    cases hh : Has (L.getD j []) s with
    | false => rfl
    | true => exact absurd rfl (good_dis h hj hi s (Has_iff.1 hh) s hs)) (Has_iff.2 hs)
theorem rowTo_some {L : List (List Int)} {x : Int} (h : 0 ≤ rowTo L x) : ∃ i : Nat, rowTo L x = i ∧ i < L.length ∧ x ∈ L.getD i [] := by
  unfold rowTo at h ⊢
  split
  · rename_i hlt
    refine ⟨_, rfl, hlt, ?_⟩
    rw [getD_at hlt]
    have := List.findIdx_getElem (w := hlt)
    exact Has_iff.1 this
  · rename_i hge
    rw [if_neg hge] at h; omega
theorem mem_namesR {L : List (List Int)} (h : Good L) {p : Int × Int} : p ∈ namesR L ↔ p ∈ rkTo L L.length := by
  unfold namesR namesFor
  simp only [List.mem_flatMap, mem_partFor, mem_rkTo]
  constructor
  · rintro ⟨s, hs, y, hy, h0, h1, rfl⟩
    obtain ⟨i, hi, hlt, hm⟩ := rowTo_some h0
    exact ⟨i, hlt, s, hm, y, hy, by omega, rfl⟩
  · rintro ⟨i, hi, s, hs, y, hy, hiy, rfl⟩
    have hr := rowTo_in h hi hs
    have hf : s ∈ L.flatten := List.mem_flatten.2 ⟨L.getD i [], by rw [getD_at hi]; exact List.getElem_mem _, hs⟩
    exact ⟨s, (mem_six s).2 (h.rg s hf), y, hy, by omega, by omega, rfl⟩
theorem asc_namesS {L : List (List Int)} (h : Good L) : (namesS L).Pairwise LtP := by
  have hs : (namesS L).Pairwise fun a b => leP a b = true := List.pairwise_mergeSort
    (fun a b c h1 h2 => by simp only [leP, Bool.not_eq_true'] at *; exact swoP.ntrans c b a h2 h1)
    (fun a b => by
      simp only [leP, ltP]
      simp; omega) _
  have hn : (namesS L).Nodup := (List.mergeSort_perm _ _).symm.nodup (nodup_rkTo h)
  refine (hs.and hn).imp ?_
  rintro a b ⟨h1, h2⟩
  simp only [leP, ltP] at h1
  simp at h1
  have h3 : ¬ (a.1 = b.1 ∧ a.2 = b.2) := fun e => h2 (Prod.ext e.1 e.2)
  unfold LtP; omega
theorem namesS_eq {L : List (List Int)} (h : Good L) : namesS L = namesR L :=
  asc_unique LtP_irr LtP_tr (asc_namesS h) (asc_namesR L) fun p => by rw [mem_namesS, mem_namesR h]

/-! ### different names stand for different sets -/
theorem nodup_at {F : List Int} (nd : F.Nodup) {i j : Nat} (hi : i < F.length) (hj : j < F.length) (e : F[i] = F[j]) : i = j := by
  rcases Nat.lt_trichotomy i j with h | h | h
  · exact absurd e (List.pairwise_iff_getElem.1 nd i j hi hj h)
  · exact h
  · exact absurd e.symm (List.pairwise_iff_getElem.1 nd j i hj hi h)
theorem mem_seg {F : List Int} (nd : F.Nodup) {k e j : Nat} (hj : j < F.length) : F[j] ∈ (F.take e).drop k ↔ k ≤ j ∧ j < e := by
  constructor
  · intro h
    obtain ⟨i, hi, hx⟩ := List.mem_iff_getElem.1 h
    simp at hi
    rw [List.getElem_drop, List.getElem_take] at hx
    have := nodup_at nd (by omega) hj hx
    omega
  · rintro ⟨h1, h2⟩
    refine List.mem_iff_getElem.2 ⟨j - k, by simp; omega, ?_⟩
    rw [List.getElem_drop, List.getElem_take]
    congr 1; omega
theorem seg_inj {F : List Int} (nd : F.Nodup) {k e k' e' : Nat} (hk : k < e) (he : e ≤ F.length) (hk' : k' < e') (he' : e' ≤ F.length)
    (hm : ∀ z, z ∈ (F.take e).drop k ↔ z ∈ (F.take e').drop k') : k = k' ∧ e = e' := by
  have h1 := (mem_seg nd (by omega)).1 ((hm (F[k]'(by omega))).1 ((mem_seg nd (by omega)).2 ⟨Nat.le_refl _, hk⟩))
  have h2 := (mem_seg nd (by omega)).1 ((hm (F[k']'(by omega))).2 ((mem_seg nd (by omega)).2 ⟨Nat.le_refl _, hk'⟩))
  have h3 := (mem_seg nd (by omega)).1 ((hm (F[e - 1]'(by omega))).1 ((mem_seg nd (by omega)).2 ⟨by omega, by omega⟩))
  have h4 := (mem_seg nd (by omega)).1 ((hm (F[e' - 1]'(by omega))).2 ((mem_seg nd (by omega)).2 ⟨by omega, by omega⟩))
  omega
theorem take_flat_eq (L : List (List Int)) (k : Nat) : (L.take k).flatten = L.flatten.take (L.take k).flatten.length := by
  have : L.flatten = (L.take k).flatten ++ (L.drop k).flatten := by rw [← List.flatten_append, List.take_append_drop]
  rw [this, List.take_left']
  rfl
theorem mem_standL {L : List (List Int)} (h : Good L) {x y z : Int} : z ∈ standL L x y ↔ z ∈ from_ x (L.take (y.toNat + 1)).flatten := by
  rw [standL, Go.Proofs.Snd.mem_sorted]
  refine ⟨fun h => h.1, fun hz => ⟨hz, h.rg z ?_⟩⟩
  have h1 : z ∈ (L.take (y.toNat + 1)).flatten := (List.dropWhile_sublist _).subset hz
  rw [take_flat_eq] at h1
  exact List.mem_of_mem_take h1
theorem names_in {L : List (List Int)} {p : Int × Int} (h : p ∈ namesR L) (hg : Good L) : ∃ y : Nat, p.2 = y ∧ y < L.length ∧ p.1 ∈ (L.take (y + 1)).flatten := by
  obtain ⟨i, hi, s, hs, y, hy, hiy, rfl⟩ := mem_rkTo.1 ((mem_namesR hg).1 h)
  exact ⟨y, rfl, hy, mem_take_flatten hi hiy hs⟩
theorem flat_mono {L : List (List Int)} (h : Good L) {y y' : Nat} (hy : y < y') (hl : y' < L.length) : (L.take (y + 1)).flatten.length < (L.take (y' + 1)).flatten.length := by
  have h1 : (L.take (y + 1)).flatten.length ≤ (L.take y').flatten.length := by
    have e : L.take (y + 1) = (L.take y').take (y + 1) := by rw [List.take_take, Nat.min_eq_left (by omega)]
    rw [e]; exact flat_take_le _ _
  have h2 := flat_take_len hl
  have h3 : 0 < (L.getD y' []).length := List.length_pos_iff.2 (h.ne _ (by rw [getD_at hl]; exact List.getElem_mem _))
  omega
theorem stand_inj {L : List (List Int)} (hg : Good L) {p q : Int × Int} (hp : p ∈ namesR L) (hq : q ∈ namesR L) (e : standL L p.1 p.2 = standL L q.1 q.2) : p = q := by
  obtain ⟨y, hy, hyl, hym⟩ := names_in hp hg
  obtain ⟨y', hy', hyl', hym'⟩ := names_in hq hg
  obtain ⟨p1, p2⟩ := p
  obtain ⟨q1, q2⟩ := q
  simp only at hy hy' hym hym' e
  subst hy; subst hy'
  obtain ⟨f1, f2⟩ := from_idx hym
  obtain ⟨f1', f2'⟩ := from_idx hym'
  have hm : ∀ z, z ∈ from_ p1 (L.take (y + 1)).flatten ↔ z ∈ from_ q1 (L.take (y' + 1)).flatten := fun z => by
    rw [← Int.toNat_natCast y, ← Int.toNat_natCast y', ← mem_standL hg, ← mem_standL hg, e]
  have g1 : (L.take (y + 1)).flatten[(L.take (y + 1)).flatten.findIdx fun z => z == p1] = p1 := by
    have := List.findIdx_getElem (w := f2); simpa using this
  have g1' : (L.take (y' + 1)).flatten[(L.take (y' + 1)).flatten.findIdx fun z => z == q1] = q1 := by
    have := List.findIdx_getElem (w := f2'); simpa using this
  rw [f1, f1'] at hm
  generalize hk : (L.take (y + 1)).flatten.findIdx (fun z => z == p1) = k at f2 g1 hm
  generalize hk' : (L.take (y' + 1)).flatten.findIdx (fun z => z == q1) = k' at f2' g1' hm
  have ht := take_flat_eq L (y + 1)
  have ht' := take_flat_eq L (y' + 1)
  have hle : (L.take (y + 1)).flatten.length ≤ L.flatten.length := flat_take_le _ _
  have hle' : (L.take (y' + 1)).flatten.length ≤ L.flatten.length := flat_take_le _ _
  have hmono := @flat_mono L hg y y'
  have hmono' := @flat_mono L hg y' y
  generalize (L.take (y + 1)).flatten = T at *
  generalize (L.take (y' + 1)).flatten = T' at *
  obtain ⟨s1, s2⟩ := seg_inj hg.nd f2 hle f2' hle' (fun z => by rw [← ht, ← ht']; exact hm z)
  have hyy : y = y' := by
    rcases Nat.lt_trichotomy y y' with h | h | h
    · have := hmono h hyl'; omega
    · exact h
    · have := hmono' h hyl; omega
  subst hyy
  subst s1
  have hTT : T = T' := by rw [ht, ht', s2]
  subst hTT
  rw [← g1, ← g1']

/-! ### all classes, by either way -/
def LtL (x y : List Int) : Prop := ltL x y = true
theorem LtL_irr (a : List Int) : ¬ LtL a a := by unfold LtL; rw [swoL.irrefl]; simp
theorem LtL_tr (a b c : List Int) : LtL a b → LtL b c → LtL a c := fun h k => swoL.trans _ _ _ h k
theorem before_lt : ∀ l m : List Int, beforeL l m = ltL l m
  | [], [] => rfl
  | [], _ :: _ => rfl
  | _ :: _, [] => rfl
  | x :: l, y :: m => by
    have ih := before_lt l m
    rw [beforeL, ltL, cmpL]
    rcases cmpI_cases x y with ⟨h0, h1⟩ | ⟨h0, h1⟩ | ⟨h0, h1⟩
    · rw [if_neg (by omega), h1]; simpa using h0
    · rw [if_neg (by omega), h1]; simp; omega
    · rw [if_pos h0, if_pos h1, ih]; rfl
theorem insertL_nil (x : List Int) : insertL [] x = [x] := rfl
theorem insertL_cons (y : List Int) (L : List (List Int)) (x : List Int) : insertL (y :: L) x = if beforeL y x then y :: insertL L x else if y = x then y :: L else x :: y :: L := by
  unfold insertL insAt
  cases h : beforeL y x with
  | true =>
    simp only [List.takeWhile_cons, h, if_true, List.length_cons, Nat.add_lt_add_iff_right, List.take_succ_cons, List.drop_succ_cons, List.cons_append]
    have : (y :: L).getD ((L.takeWhile fun y => beforeL y x).length + 1) [] = L.getD (L.takeWhile fun y => beforeL y x).length [] := by simp [List.getD]
    rw [this]
    split <;> rfl
  | false =>
    simp only [List.takeWhile_cons, h, List.length_cons]
    by_cases e : y = x
    · subst e; simp [List.getD]
    · simp [List.getD, e]
theorem mem_insertL {L : List (List Int)} {x z : List Int} : z ∈ insertL L x ↔ z = x ∨ z ∈ L := by
  induction L with
  | nil => simp [insertL_nil]
  | cons y L ih =>
    rw [insertL_cons]
    split
    · rw [List.mem_cons, ih, List.mem_cons]
      constructor
      · rintro (h | h | h)
        · exact .inr (.inl h)
        · exact .inl h
        · exact .inr (.inr h)
      · rintro (h | h | h)
        · exact .inr (.inl h)
        · exact .inl h
        · exact .inr (.inr h)
    · split
      · rename_i e; subst e; simp
      · simp
theorem asc_insertL {L : List (List Int)} (x : List Int) (h : L.Pairwise LtL) : (insertL L x).Pairwise LtL := by
  induction L with
  | nil => simp [insertL_nil]
  | cons y L ih =>
    obtain ⟨h1, h2⟩ := List.pairwise_cons.1 h
    rw [insertL_cons]
    cases hb : beforeL y x with
    | true =>
      simp only [if_true]
      refine List.pairwise_cons.2 ⟨fun z hz => ?_, ih h2⟩
      rcases mem_insertL.1 hz with e | hz
      · rw [e]; unfold LtL; rw [← before_lt]; exact hb
      · exact h1 z hz
    | false =>
      simp only [Bool.false_eq_true, if_false]
      by_cases e : y = x
      · rw [if_pos e]; exact h
      · rw [if_neg e]
        have hxy : LtL x y := by
          unfold LtL
          cases hh : ltL x y with
          | true => rfl
          | false => exact absurd (ltL_anti x y hh (by rw [← before_lt]; exact hb)).symm e
        refine List.pairwise_cons.2 ⟨fun z hz => ?_, h⟩
        rcases List.mem_cons.1 hz with e | hz
        · rw [e]; exact hxy
        · exact LtL_tr _ _ _ hxy (h1 z hz)
theorem fold_ins : ∀ (M : List (List Int)) {acc : List (List Int)}, acc.Pairwise LtL → (M.foldl insertL acc).Pairwise LtL ∧ ∀ z, z ∈ M.foldl insertL acc ↔ z ∈ acc ∨ z ∈ M
  | [], acc, h => ⟨h, fun z => by simp⟩
  | x :: M, acc, h => by
    obtain ⟨h1, h2⟩ := fold_ins M (asc_insertL x h)
    refine ⟨h1, fun z => ?_⟩
    rw [List.foldl_cons, h2, mem_insertL, List.mem_cons]
    constructor
    · rintro ((h | h) | h)
      · exact .inr (.inl h)
      · exact .inl h
      · exact .inr (.inr h)
    · rintro (h | h | h)
      · exact .inl (.inr h)
      · exact .inl (.inl h)
      · exact .inr h
def foldI (M : List (List Int)) : List (List Int) := M.foldl insertL []
def classesR (L : List (List Int)) : List (List Int) := foldI ((namesR L).map fun p => standL L p.1 p.2)
theorem leL_total (a b : List Int) : (leL a b || leL b a) = true := by
  simp only [leL]
  cases h : ltL b a with
  | false => simp
  | true =>
    cases h' : ltL a b with
    | false => simp
    | true =>
      have := swoL.trans _ _ _ h h'
      rw [swoL.irrefl] at this; cases this
theorem leL_tr (a b c : List Int) : leL a b = true → leL b c = true → leL a c = true := by
  simp only [leL, Bool.not_eq_true']
  exact fun h1 h2 => swoL.ntrans c b a h2 h1
theorem sortL_asc {M : List (List Int)} (h : M.Nodup) : (M.mergeSort leL).Pairwise LtL := by
  have hs : (M.mergeSort leL).Pairwise fun a b => leL a b = true := List.pairwise_mergeSort leL_tr leL_total M
  refine (hs.and ((List.mergeSort_perm M leL).symm.nodup h)).imp ?_
  rintro a b ⟨h1, h2⟩
  simp only [leL, Bool.not_eq_true'] at h1
  unfold LtL
  cases hh : ltL a b with
  | true => rfl
  | false => exact absurd (ltL_anti a b hh h1) h2
/-- lists that are sorted, and lists that are put one by one, are the same if none is twice -/
theorem sortL_eq {M : List (List Int)} (h : M.Nodup) : M.mergeSort leL = foldI M := by
  obtain ⟨h1, h2⟩ := fold_ins M (acc := []) List.Pairwise.nil
  exact asc_unique LtL_irr LtL_tr (sortL_asc h) h1 fun x => by
    unfold foldI
    rw [h2, (List.mergeSort_perm M leL).mem_iff]; simp
theorem nodup_namesR (L : List (List Int)) : (namesR L).Nodup := (asc_namesR L).imp (fun h e => by subst e; exact LtP_irr _ h)
theorem nodup_map_on {α β : Type} {f : α → β} : ∀ {l : List α}, l.Nodup → (∀ x ∈ l, ∀ y ∈ l, f x = f y → x = y) → (l.map f).Nodup
  | [], _, _ => List.nodup_nil
  | x :: l, hn, h => by
    obtain ⟨h1, h2⟩ := List.nodup_cons.1 hn
    rw [List.map_cons, List.nodup_cons]
    refine ⟨fun hm => ?_, nodup_map_on h2 fun a ha b hb => h a (by simp [ha]) b (by simp [hb])⟩
    obtain ⟨y, hy, e⟩ := List.mem_map.1 hm
    exact h1 (h x (by simp) y (by simp [hy]) e.symm ▸ hy)
theorem nodup_stands {L : List (List Int)} (h : Good L) : ((namesR L).map fun p => standL L p.1 p.2).Nodup :=
  nodup_map_on (nodup_namesR L) fun _ hx _ hy e => stand_inj h hx hy e
theorem classesS_eq {L : List (List Int)} (h : Good L) : classesS L = classesR L := by
  unfold classesS classesR
  rw [namesS_eq h]
  exact sortL_eq (nodup_stands h)
theorem classes_len (L : List (List Int)) : (classesS L).length = (namesS L).length := by simp [classesS]
end Go.Proofs.Ytoopgmoopmbfnaa
