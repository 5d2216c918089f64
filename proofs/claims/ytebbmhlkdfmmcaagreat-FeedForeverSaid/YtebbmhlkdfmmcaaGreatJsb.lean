import Derived.Test.YtebbmhlkdfmmcaaGreatJa
import Derived.Test.YtebbmhlkdfmmcaaGreatJk
import Derived.Test.YtebbmhlkdfmmcaaGreatPv
import Derived.Test.YtebbmhlkdfmmcaaGreatJsa
import Derived.Test.YtebbmhlkdfmmcaaGreatJy
namespace Go.Proofs.YtebbmhlkdfmmcaaGreat
open Go.RowKit Go.Proofs.Kv

theorem asc_unique {α : Type} {lt : α → α → Prop} (irr : ∀ a, ¬ lt a a) (tr : ∀ a b c, lt a b → lt b c → lt a c) :
    ∀ {l m : List α}, l.Pairwise lt → m.Pairwise lt → (∀ x, x ∈ l ↔ x ∈ m) → l = m
  | [], [], _, _, _ => rfl
  | [], b :: m, _, _, h => absurd ((h b).2 (by simp)) (by simp)
  | a :: l, [], _, _, h => absurd ((h a).1 (by simp)) (by simp)
  | a :: l, b :: m, hl, hm, h => by
    rw [List.pairwise_cons] at hl hm
    have e : a = b := by
      rcases List.mem_cons.1 ((h a).1 (by simp)) with e | ha
      · exact e
      · rcases List.mem_cons.1 ((h b).2 (by simp)) with e | hb
        · exact e.symm
        · exact absurd (tr _ _ _ (hl.1 _ hb) (hm.1 _ ha)) (irr _)
    subst e
    congr 1
    refine asc_unique irr tr hl.2 hm.2 fun x => ?_
    constructor
    · intro hx
      rcases List.mem_cons.1 ((h x).1 (List.mem_cons_of_mem _ hx)) with e | hx'
      · exact absurd (e ▸ hl.1 _ hx) (irr _)
      · exact hx'
    · intro hx
      rcases List.mem_cons.1 ((h x).2 (List.mem_cons_of_mem _ hx)) with e | hx'
      · exact absurd (e ▸ hm.1 _ hx) (irr _)
      · exact hx'

def LtL (x y : List Int) : Prop := ltL x y = true
theorem LtL_irr (a : List Int) : ¬ LtL a a := by unfold LtL; rw [swoL.irrefl]; simp
theorem LtL_tr (a b c : List Int) : LtL a b → LtL b c → LtL a c := fun h k => swoL.trans _ _ _ h k
theorem before_lt : ∀ l m : List Int, beforeL l m = ltL l m
  | [], [] => rfl
  | [], _ :: _ => rfl
  | _ :: _, [] => rfl
  | x :: l, y :: m => by
    have ih := before_lt l m
    rw [beforeL, ltL, cmpL]
    rcases cmpI_cases x y with ⟨h0, h1⟩ | ⟨h0, h1⟩ | ⟨h0, h1⟩
    · rw [if_neg (by omega), h1]; simpa using h0
    · rw [if_neg (by omega), h1]; simp; omega
    · rw [if_pos h0, if_pos h1, ih]; rfl
theorem insertL_nil (x : List Int) : insertL [] x = [x] := rfl
theorem insertL_cons (y : List Int) (L : List (List Int)) (x : List Int) : insertL (y :: L) x = if beforeL y x then y :: insertL L x else if y = x then y :: L else x :: y :: L := by
  unfold insertL insAt
  cases h : beforeL y x with
  | true =>
    simp only [List.takeWhile_cons, h, if_true, List.length_cons, Nat.add_lt_add_iff_right, List.take_succ_cons, List.drop_succ_cons, List.cons_append]
    have : (y :: L).getD ((L.takeWhile fun y => beforeL y x).length + 1) [] = L.getD (L.takeWhile fun y => beforeL y x).length [] := by simp [List.getD]
    rw [this]
    split <;> rfl
  | false =>
    simp only [List.takeWhile_cons, h, List.length_cons]
    by_cases e : y = x
    · subst e; simp [List.getD]
    · simp [List.getD, e]
theorem mem_insertL {L : List (List Int)} {x z : List Int} : z ∈ insertL L x ↔ z = x ∨ z ∈ L := by
  induction L with
  | nil => simp [insertL_nil]
  | cons y L ih =>
    rw [insertL_cons]
    split
    · rw [List.mem_cons, ih, List.mem_cons]
      constructor
      · rintro (h | h | h)
        · exact .inr (.inl h)
        · exact .inl h
        · exact .inr (.inr h)
      · rintro (h | h | h)
        · exact .inr (.inl h)
        · exact .inl h
        · exact .inr (.inr h)
    · split
      · rename_i e; subst e; simp
      · simp
theorem asc_insertL {L : List (List Int)} (x : List Int) (h : L.Pairwise LtL) : (insertL L x).Pairwise LtL := by
  induction L with
  | nil => simp [insertL_nil]
  | cons y L ih =>
    obtain ⟨h1, h2⟩ := List.pairwise_cons.1 h
    rw [insertL_cons]
    cases hb : beforeL y x with
    | true =>
      simp only [if_true]
      refine List.pairwise_cons.2 ⟨fun z hz => ?_, ih h2⟩
      rcases mem_insertL.1 hz with e | hz
      · rw [e]; unfold LtL; rw [← before_lt]; exact hb
      · exact h1 z hz
    | false =>
      simp only [Bool.false_eq_true, if_false]
      by_cases e : y = x
      · rw [if_pos e]; exact h
      · rw [if_neg e]
        have hxy : LtL x y := by
          unfold LtL
          cases hh : ltL x y with
          | true => rfl
          | false => exact absurd (ltL_anti x y hh (by rw [← before_lt]; exact hb)).symm e
        refine List.pairwise_cons.2 ⟨fun z hz => ?_, h⟩
        rcases List.mem_cons.1 hz with e | hz
        · rw [e]; exact hxy
        · exact LtL_tr _ _ _ hxy (h1 z hz)
theorem fold_ins : ∀ (M : List (List Int)) {acc : List (List Int)}, acc.Pairwise LtL → (M.foldl insertL acc).Pairwise LtL ∧ ∀ z, z ∈ M.foldl insertL acc ↔ z ∈ acc ∨ z ∈ M
  | [], acc, h => ⟨h, fun z => by simp⟩
  | x :: M, acc, h => by
    obtain ⟨h1, h2⟩ := fold_ins M (asc_insertL x h)
    refine ⟨h1, fun z => ?_⟩
    rw [List.foldl_cons, h2, mem_insertL, List.mem_cons]
    constructor
    · rintro ((h | h) | h)
      · exact .inr (.inl h)
      · exact .inl h
      · exact .inr (.inr h)
    · rintro (h | h | h)
      · exact .inl (.inr h)
      · exact .inl (.inl h)
      · exact .inr h
def foldI (M : List (List Int)) : List (List Int) := M.foldl insertL []
theorem leL_total (a b : List Int) : (leL a b || leL b a) = true := by
  simp only [leL]
  cases h : ltL b a with
  | false => simp
  | true =>
    cases h' : ltL a b with
    | false => simp
    | true =>
      have := swoL.trans _ _ _ h h'
      rw [swoL.irrefl] at this; cases this
theorem leL_tr (a b c : List Int) : leL a b = true → leL b c = true → leL a c = true := by
  simp only [leL, Bool.not_eq_true']
  exact fun h1 h2 => swoL.ntrans c b a h2 h1
theorem sortL_asc {M : List (List Int)} (h : M.Nodup) : (M.mergeSort leL).Pairwise LtL := by
  have hs : (M.mergeSort leL).Pairwise fun a b => leL a b = true := List.pairwise_mergeSort leL_tr leL_total M
  refine (hs.and ((List.mergeSort_perm M leL).symm.nodup h)).imp ?_
  rintro a b ⟨h1, h2⟩
  simp only [leL, Bool.not_eq_true'] at h1
  unfold LtL
  cases hh : ltL a b with
  | true => rfl
  | false => exact absurd (ltL_anti a b hh h1) h2
/-- lists that are sorted, and lists that are put one by one, are the same if none is twice -/
theorem sortL_eq {M : List (List Int)} (h : M.Nodup) : M.mergeSort leL = foldI M := by
  obtain ⟨h1, h2⟩ := fold_ins M (acc := []) List.Pairwise.nil
  exact asc_unique LtL_irr LtL_tr (sortL_asc h) h1 fun x => by
    unfold foldI
    rw [h2, (List.mergeSort_perm M leL).mem_iff]; simp
end Go.Proofs.YtebbmhlkdfmmcaaGreat
namespace Go.Proofs.YtebbmhlkdfmmcaaGreat
open Go.RowKit Go.Proofs.Kv

/-! ### neighbors that are the same, each once -/
def cpL (M : List (List Int)) : Nat → List (List Int)
  | 0 => []
  | m + 1 => if 0 < m ∧ M.getD m [] = M.getD (m - 1) [] then cpL M m else cpL M m ++ [M.getD m []]
abbrev z0 : Value × List Int := (.slice none 0 0, [])
def cpP (Z : List (Value × List Int)) : Nat → List (Value × List Int)
  | 0 => []
  | m + 1 => if 0 < m ∧ (Z.getD m z0).2 = (Z.getD (m - 1) z0).2 then cpP Z m else cpP Z m ++ [Z.getD m z0]
theorem cpP_snd (Z : List (Value × List Int)) : ∀ m, (cpP Z m).map (·.2) = cpL (Z.map (·.2)) m
  | 0 => rfl
  | m + 1 => by
    have e : ∀ i, (Z.map (·.2)).getD i [] = (Z.getD i z0).2 := fun i => by
      simp only [List.getD, List.getElem?_map]; cases Z[i]? <;> rfl
    have ih := cpP_snd Z m
    unfold cpP cpL
    rw [e, e]
    split
    · exact ih
    · rw [List.map_append, ih]; rfl
theorem cpP_le (Z : List (Value × List Int)) : ∀ m, (cpP Z m).length ≤ m
  | 0 => by simp [cpP]
  | m + 1 => by
    have ih := cpP_le Z m
    unfold cpP
    split
    · omega
    · simp; omega
theorem cpP_mem (Z : List (Value × List Int)) : ∀ m, m ≤ Z.length → ∀ z ∈ cpP Z m, z ∈ Z
  | 0, _, z, h => by simp [cpP] at h
  | m + 1, hm, z, h => by
    unfold cpP at h
    split at h
    · exact cpP_mem Z m (by omega) z h
    · rcases List.mem_append.1 h with h | h
      · exact cpP_mem Z m (by omega) z h
      · rw [List.mem_singleton] at h; subst h
        rw [show Z.getD m z0 = Z[m] by simp [List.getD, List.getElem?_eq_getElem (show m < Z.length by omega)]]; exact List.getElem_mem _
theorem cpP_full {Z : List (Value × List Int)} : ∀ {m}, m ≤ Z.length → (∀ j, 0 < j → j < m → (Z.getD j z0).2 ≠ (Z.getD (j - 1) z0).2) → cpP Z m = Z.take m
  | 0, _, _ => by simp [cpP]
  | m + 1, hm, h => by
    unfold cpP
    rw [if_neg (fun hh => h m hh.1 (by omega) hh.2), cpP_full (by omega) (fun j h1 h2 => h j h1 (by omega)), take_snoc Z z0 m (by omega)]
theorem cp_asc {M : List (List Int)} (hs : M.Pairwise fun x y => leL x y = true) : ∀ m, m ≤ M.length → (cpL M m).Pairwise LtL ∧ ∀ z, z ∈ cpL M m ↔ z ∈ M.take m
  | 0, _ => by simp [cpL]
  | m + 1, hm => by
    obtain ⟨h1, h2⟩ := cp_asc hs m (by omega)
    have hmm : m < M.length := by omega
    have em : M.getD m [] = M[m] := by simp [List.getD, List.getElem?_eq_getElem hmm]
    have hat : ∀ i (hi : i < m), leL M[i] M[m] = true := fun i hi => List.pairwise_iff_getElem.1 hs i m (by omega) hmm hi
    rw [take_snoc M [] m hmm]
    unfold cpL
    by_cases hc : 0 < m ∧ M.getD m [] = M.getD (m - 1) []
    · rw [if_pos hc]
      refine ⟨h1, fun z => ?_⟩
      rw [h2, List.mem_append, List.mem_singleton]
      refine ⟨.inl, fun h => h.elim id fun h => ?_⟩
      rw [h, hc.2, show M.getD (m - 1) [] = M[m - 1] by simp [List.getD, List.getElem?_eq_getElem (show m - 1 < M.length by omega)]]
      exact List.mem_take_iff_getElem.2 ⟨m - 1, by omega, rfl⟩
    · rw [if_neg hc]
      refine ⟨List.pairwise_append.2 ⟨h1, List.pairwise_singleton _ _, fun x hx y hy => ?_⟩, fun z => by rw [List.mem_append, List.mem_append, h2]⟩
      rw [List.mem_singleton] at hy; subst hy
      obtain ⟨i, hi, rfl⟩ := List.mem_take_iff_getElem.1 ((h2 x).1 hx)
      have hi' : i < m := by omega
      have hle := hat i hi'
      rw [em]
      unfold LtL
      cases hlt : ltL M[i] M[m] with
      | true => rfl
      | false =>
        exfalso
        rw [leL, Bool.not_eq_true'] at hle
        have e := ltL_anti _ _ hlt hle
        refine hc ⟨by omega, ?_⟩
        rw [em, show M.getD (m - 1) [] = M[m - 1] by simp [List.getD, List.getElem?_eq_getElem (show m - 1 < M.length by omega)]]
        have k1 := hat (m - 1) (by omega)
        rw [leL, Bool.not_eq_true'] at k1
        by_cases hi2 : i = m - 1
        · subst hi2; exact e.symm
        · have k2 : leL M[i] M[m - 1] = true := List.pairwise_iff_getElem.1 hs i (m - 1) (by omega) (by omega) (by omega)
          rw [leL, Bool.not_eq_true', e] at k2
          exact (ltL_anti _ _ k2 k1).symm
theorem foldI_eq (M : List (List Int)) : foldI M = cpL (M.mergeSort leL) M.length := by
  have hs : (M.mergeSort leL).Pairwise fun x y => leL x y = true := List.pairwise_mergeSort leL_tr leL_total M
  have hl : (M.mergeSort leL).length = M.length := by simp
  obtain ⟨h1, h2⟩ := cp_asc hs M.length (by omega)
  obtain ⟨k1, k2⟩ := fold_ins M (acc := []) List.Pairwise.nil
  refine asc_unique LtL_irr LtL_tr k1 h1 fun x => ?_
  show x ∈ List.foldl insertL [] M ↔ _
  rw [k2, h2, List.take_of_length_le (by omega)]
  simp

/-! ### slices.CompactFunc of lists -/
theorem Tryz.zeroInts (w : World) : (zeroValue 23).run Tryz.prog w = .ok (.slice none 0 0) w := by kernel_rfl
/-- what stands in the row while it is compacted: the first k cells hold those that were kept, and from m - 1 on all is as it was -/
structure CpAt (w w' : World) (B g n cap : Nat) (Z : List (Value × List Int)) (k m : Nat) (xs : List Value) : Prop where
  own : w'.ownsRow B 23 1 (.slice (some ⟨g, 0, none⟩) n cap) n xs
  old : ∀ j, m ≤ j + 1 → j < n → xs[j]? = some (Z.getD j z0).1
  new : xs.take k = (cpP Z m).map (·.1)
  grown : w.grownBy w' (some g)
theorem ints_grown' {w w' : World} {g : Nat} {a : Option Addr} {n c : Nat} {l : List Int} (h : IntsAt w a n c l) (hg : w.grownBy w' (some g)) (hd : ∀ b off, 0 < n → a = some ⟨b, off, none⟩ → b ≠ g) : IntsAt w' a n c l :=
  h.kept (F := fun b => some g = some b) ((Kept.refl _ _).grown hg fun _ _ e => e) fun b off hn ha e => hd b off hn ha (by injection e with e; exact e.symm)
end Go.Proofs.YtebbmhlkdfmmcaaGreat
namespace Go.Proofs.YtebbmhlkdfmmcaaGreat
open Go.RowKit Go.Proofs.Kv

/-! ### Next: the program -/
def resNext (L : List Rl) (l : List Int) : List (List Int) := if errSW L [l] = 0 then foldI ((movesL L l).map (·.2)) else []
end Go.Proofs.YtebbmhlkdfmmcaaGreat
namespace Go.Proofs.YtebbmhlkdfmmcaaGreat
open Go.RowKit Go.Proofs.Kv

/-! ### Next: the document -/
theorem OwnT.ownL {w : World} {B : Nat} {v : Value} {W : List (List Int)} (h : OwnT w B v W) : OwnL 23 w B v W := by
  obtain ⟨vs, h1, h2⟩ := h
  have hvl : vs.length = W.length := by have := h1.1; simpa using this
  refine ⟨vs, h1, fun i hi => ?_⟩
  have hv : vs[i]? = some vs[i] := List.getElem?_eq_getElem (by omega)
  obtain ⟨a, n, c, e, hI, hd⟩ := h2 i _ hv
  refine ⟨a, n, c, by rw [hv, e], hI, fun b off hn ha e' => ?_⟩
  obtain ⟨_, c1, e1⟩ := hd b off hn ha
  obtain ⟨c2, e2⟩ := own_obj' h1 e'
  rw [e1] at e2; injection e2 with e2; injection e2 with _ e3 _; exact absurd e3 (by decide)
theorem foldI_snoc (W : List (List Int)) {k : Nat} (hk : k < W.length) : foldI (W.take (k + 1)) = insertL (foldI (W.take k)) (W.getD k []) := by
  rw [take_snoc W [] k hk, foldI, List.foldl_append]; rfl
theorem fold_le : ∀ (M : List (List Int)) (acc : List (List Int)), (M.foldl insertL acc).length ≤ acc.length + M.length
  | [], acc => by simp
  | x :: M, acc => by
    have h1 := fold_le M (insertL acc x)
    have h2 := insertL_le acc x
    rw [List.foldl_cons, List.length_cons]; omega
theorem foldI_le (M : List (List Int)) : (foldI M).length ≤ M.length := by have := fold_le M []; rw [foldI]; simpa using this
set_option maxRecDepth 100000 in
set_option maxHeartbeats 4000000 in
theorem r3next_calls (A : Option Addr) (N C : Nat) (L : List Rl) (a : Option Addr) (n c : Nat) (l : List Int) (w : World) (h : RulesAt w A N C L) (hI : IntsAt w a n c l) (he : errSW L [l] = 0) :
    Calls Tryz.prog 67 #[.slice A N C, .slice a n c] w fun e w' => ∃ v, e = .returned v ∧ OwnL 23 w' 0 v (resNext L l) ∧ Below w.heap.size w w' := by
  have Hr : Hid (resNext L l = foldI ((movesL L l).map (·.2))) := hid_ (if_pos he)
  obtain ⟨g1, g2⟩ := errSW_ok' he
  have HM := hid_ (r3steps_calls A N C L a n c l w h hI (validS_ok g1).2 (by rw [← h.len]; exact (validS_ok g1).1) g2)
  have hle := movesL_le L he
  have hlm : ((movesL L l).map (·.2)).length = (movesL L l).length := List.length_map _
  generalize (movesL L l).map (·.2) = W at *
  have Hle : Hid (W.length ≤ 54) := hid_ (by omega)
  clear he g1 g2 h hI hle hlm
  have hW54 := Hle.out
  go_enter Tryz.func67, Tryz.ntmps67
  go_wp2_with (go_at_call 91; (with_reducible refine HM.out.mono ?_); rintro e w3 ⟨v1, v2, rfl, -, hT, hb3⟩; obtain ⟨a2, c2, rfl, hL⟩ := hT.ownL.at_; have HL := hid_ hL; have Hb3 := hid_ hb3; clear hT hL hb3)
  go_loopw [7, 8] (fun v i wr => ∃ k : Nat, k ≤ W.length ∧ i = .int .i64 k ∧ OwnL 23 wr 0 v (foldI (W.take k)) ∧ Below w3.heap.size w3 wr) (fun _ i _ => W.length - (intOf i).toNat)
  case atStart => exact ⟨0, Nat.zero_le _, rfl, OwnL.nil _ _ _, Below.refl _ _⟩
  case round =>
    obtain ⟨k, hk, rfl, hO, hb⟩ := hrel
    by_cases hlt : k < W.length
    · obtain ⟨b, off, a', n', c', rfl, hbl, hcell, hi⟩ := HL.out.cells k hlt
      have hcell' := cell_below hcell hb
      have HIn := hid_ (insertL_calls _ _ a' n' c' _ wr hO (hi.below hb (Nat.le_refl _)) (by have := foldI_le (W.take k); rw [List.length_take] at this; omega))
      have Hn := hid_ (foldI_snoc W hlt)
      have Hb := hid_ hb
      clear hcell hi hO hb
      go_wp2_with (go_at_call 51; (with_reducible refine HIn.out.mono ?_); rintro e w5 ⟨v5, rfl, hO5, hb5⟩)
      go_roundw
      case rel => exact ⟨k + 1, by omega, by go_num, by rw [Hn.out]; exact hO5, Hb.out.trans (hb5.mono Hb.out.size)⟩
      case measure => simp [intOf]; omega
    · obtain rfl : W.length = k := by omega
      rw [List.take_length] at hO
      have HO := hid_ hO
      have Hb := hid_ hb
      clear hO hb
      go_wp2
      go_ret
      exact ⟨_, rfl, by rw [Hr.out]; exact HO.out, Hb3.out.trans (Hb.out.mono Hb3.out.size)⟩
end Go.Proofs.YtebbmhlkdfmmcaaGreat
