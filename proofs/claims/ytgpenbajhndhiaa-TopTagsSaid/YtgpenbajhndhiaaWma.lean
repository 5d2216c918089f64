import Derived.Test.YtgpenbajhndhiaaWf
import Derived.Test.YtgpenbajhndhiaaVmh
import Derived.Test.YtgpenbajhndhiaaVlt
import Derived.Test.YtgpenbajhndhiaaVmi
import Derived.Test.YtgpenbajhndhiaaRz
import Derived.ArgAppend
import Derived.Test.YtgpenbajhndhiaaVsr
import Derived.Deep.LoopGhost
import Derived.Scope
import Derived.Test.YtgpenbajhndhiaaVn
import Derived.Test.YtgpenbajhndhiaaVmf
namespace Go.Proofs.Ytgpenbajhndhiaa
open Go.RowKit Go.Proofs.Kv Go

/-! ### splits found from the end on: what is cheap, what is not visited yet -/
def cheap (L : Lx) (t : List Int) (lim : Int) (s : List Int) : Prop := isS L t s ∧ sumC L s < lim
def fI (l : List Nat) : List Int := l.map fun (x : Nat) => (x : Int)
theorem fI_len (l : List Nat) : (fI l).length = l.length := by simp [fI]
/-- what is not visited yet when 'found' is what was found and 'next' is tried next in front of it -/
def Unv : List Nat → Nat → List Int → Prop
  | [], next, s => (next = 0 ∧ s = []) ∨ (∃ (pre : List Int) (j : Nat), next ≤ j ∧ s = pre ++ [(j : Int)])
  | f :: rest, next, s => (next = 0 ∧ s = fI (f :: rest)) ∨ (∃ (pre : List Int) (j : Nat), next ≤ j ∧ s = pre ++ (j : Int) :: fI (f :: rest)) ∨ Unv rest (f + 1) s
def Upv : List Nat → List Int → Prop
  | [], _ => False
  | f :: rest, s => Unv rest (f + 1) s
theorem Unv.cases (found : List Nat) (next : Nat) (s : List Int) : Unv found next s ↔ (next = 0 ∧ s = fI found) ∨ (∃ (pre : List Int) (j : Nat), next ≤ j ∧ s = pre ++ (j : Int) :: fI found) ∨ Upv found s := by
  cases found with
  | nil => constructor
           · rintro (h | h)
             · exact .inl h
             · exact .inr (.inl h)
           · rintro (h | h | h)
             · exact .inl h
             · exact .inr h
             · exact h.elim
  | cons f rest => exact Iff.rfl
theorem cons_end {pre pre' rest : List Int} {a b : Int} (h : pre ++ a :: rest = pre' ++ b :: rest) : a = b ∧ pre = pre' := by
  have h1 : (pre ++ [a]) ++ rest = (pre' ++ [b]) ++ rest := by simpa using h
  have h2 := List.append_cancel_right h1
  exact ⟨(snoc_inj h2).2, (snoc_inj h2).1⟩
/-- nothing below 'f' in front of 'rest' is left when more than f comes next -/
theorem Unv.not_back : ∀ {rest : List Nat} {p : List Int} {f m : Nat}, f < m → ¬ Unv rest m (p ++ (f : Int) :: fI rest)
  | [], p, f, m, hm, h => by
    rcases h with ⟨h0, _⟩ | ⟨pre, j, hj, e⟩
    · omega
    · have := (cons_end (rest := []) e).1
      omega
  | x :: rest, p, f, m, hm, h => by
    rcases h with ⟨h0, _⟩ | ⟨pre, j, hj, e⟩ | h
    · omega
    · have := (cons_end e).1
      omega
    · rw [show p ++ (f : Int) :: fI (x :: rest) = (p ++ [(f : Int)]) ++ (x : Int) :: fI rest by simp [fI]] at h
      exact Unv.not_back (Nat.lt_succ_self x) h
structure DInv (L : Lx) (t : List Int) (lim : Int) (found : List Nat) (next : Nat) (R : List (List Int)) : Prop where
  reach : found = [] ∨ ∃ pre, cheap L t lim (pre ++ fI found)
  nodup : R.Nodup
  iff : ∀ s, s ∈ R ↔ cheap L t lim s ∧ ¬ Unv found next s
  le : next ≤ L.items.length
  zero : (wordsL L (fI found)).length = t.length → next = 0
theorem reach_facts {L : Lx} (g : GoodL L) {t : List Int} {lim : Int} {found : List Nat} (h : found = [] ∨ ∃ pre, cheap L t lim (pre ++ fI found)) : itemsB L (fI found) = true ∧ (wordsL L (fI found)).length ≤ t.length ∧ wordsL L (fI found) = t.drop (t.length - (wordsL L (fI found)).length) ∧ found.length ≤ (wordsL L (fI found)).length := by
  rcases h with rfl | ⟨pre, hs, -⟩
  · refine ⟨rfl, Nat.zero_le _, ?_, Nat.zero_le _⟩
    show [] = t.drop (t.length - 0)
    rw [Nat.sub_zero, List.drop_length]
  · obtain ⟨h1, h2, -⟩ := hs
    have h3 := (itemsB_app.1 h1).2
    rw [wordsL_app] at h2
    have hl : t.length = (wordsL L pre).length + (wordsL L (fI found)).length := by rw [← h2, List.length_append]
    refine ⟨h3, by omega, ?_, itemsB_len g _ (fI_len found) h3⟩
    rw [show t.length - (wordsL L (fI found)).length = (wordsL L pre).length by omega, ← h2, List.drop_left]
theorem DInv.start (L : Lx) (t : List Int) (lim : Int) : DInv L t lim [] 0 [] := by
  refine ⟨.inl rfl, List.nodup_nil, fun s => ⟨fun h => (by cases h), fun ⟨h, hn⟩ => absurd ?_ hn⟩, Nat.zero_le _, fun _ => rfl⟩
  rcases snoc_cases s with rfl | ⟨s', x, rfl⟩
  · exact .inl ⟨rfl, rfl⟩
  · obtain ⟨-, h2, -⟩ := itemsB_snoc.1 h.1.1
    obtain ⟨j, rfl⟩ : ∃ j : Nat, x = (j : Int) := ⟨x.toNat, by omega⟩
    exact .inr ⟨s', j, Nat.zero_le _, rfl⟩
theorem cheap_full {L : Lx} {t : List Int} {lim : Int} {s : List Int} (h : cheap L t lim s) : (wordsL L s).length = t.length := by rw [h.1.2.1]
/-- at the beginning of the text: what was found is a split -/
theorem reach_full {L : Lx} (g : GoodL L) {t : List Int} {lim : Int} {found : List Nat} (h : found = [] ∨ ∃ pre, cheap L t lim (pre ++ fI found)) (h0 : (wordsL L (fI found)).length = t.length) (hlim : 0 < lim) : cheap L t lim (fI found) := by
  rcases h with rfl | ⟨pre, hs⟩
  · have ht : t = [] := List.length_eq_zero_iff.1 h0.symm
    subst ht
    exact ⟨⟨rfl, rfl, rfl⟩, hlim⟩
  · have h1 := hs.1.2.1
    rw [wordsL_app] at h1
    have hl : t.length = (wordsL L pre).length + (wordsL L (fI found)).length := by rw [← h1, List.length_append]
    have h2 := itemsB_len g pre.length rfl (itemsB_app.1 hs.1.1).1
    have : pre = [] := List.length_eq_zero_iff.1 (by omega)
    subst this; exact hs
/-- one step deeper -/
theorem DInv.down {L : Lx} {t : List Int} {lim : Int} {found : List Nat} {next j : Nat} {R : List (List Int)} (h : DInv L t lim found next R) (h0 : (wordsL L (fI found)).length ≠ t.length) (hn : next ≤ j) (hc : ∃ pre, cheap L t lim (pre ++ (j : Int) :: fI found)) (hno : ∀ i, next ≤ i → i < j → ¬ ∃ pre, cheap L t lim (pre ++ (i : Int) :: fI found)) : DInv L t lim (j :: found) 0 R := by
  refine ⟨.inr hc, h.nodup, fun s => ?_, Nat.zero_le _, fun _ => rfl⟩
  rw [h.iff s]
  refine and_congr_right fun hs => not_congr ?_
  rw [Unv.cases, Unv.cases]
  constructor
  · rintro (⟨-, rfl⟩ | ⟨pre, i, hi, rfl⟩ | hu)
    · exact absurd (cheap_full hs) h0
    · rcases Nat.lt_trichotomy i j with hij | rfl | hij
      · exact absurd ⟨pre, hs⟩ (hno i hi hij)
      · rcases snoc_cases pre with rfl | ⟨p, x, rfl⟩
        · exact .inl ⟨rfl, rfl⟩
        · obtain ⟨k, rfl⟩ : ∃ k : Nat, x = (k : Int) := by
            obtain ⟨-, h2, -⟩ := itemsB_snoc.1 (itemsB_app.1 hs.1.1).1
            exact ⟨x.toNat, by omega⟩
          exact .inr (.inl ⟨p, k, Nat.zero_le _, by simp [fI]⟩)
      · refine .inr (.inr ?_)
        show Unv found (j + 1) _
        rw [Unv.cases]
        exact .inr (.inl ⟨pre, i, hij, rfl⟩)
    · refine .inr (.inr ?_)
      show Unv found (j + 1) _
      rw [Unv.cases]
      exact .inr (.inr hu)
  · rintro (⟨-, rfl⟩ | ⟨pre, i, hi, rfl⟩ | hu)
    · exact .inr (.inl ⟨[], j, hn, rfl⟩)
    · exact .inr (.inl ⟨pre ++ [(i : Int)], j, hn, by simp [fI]⟩)
    · have hu : Unv found (j + 1) s := hu
      rw [Unv.cases] at hu
      rcases hu with ⟨h9, -⟩ | ⟨pre, i, hi, rfl⟩ | hu
      · omega
      · exact .inr (.inl ⟨pre, i, by omega, rfl⟩)
      · exact .inr (.inr hu)
/-- the way back -/
theorem DInv.up {L : Lx} (g : GoodL L) {t : List Int} {lim : Int} {f : Nat} {rest : List Nat} {next : Nat} {R : List (List Int)} (h : DInv L t lim (f :: rest) next R) (h0 : (wordsL L (fI (f :: rest))).length ≠ t.length) (hno : ∀ i, next ≤ i → ¬ ∃ pre, cheap L t lim (pre ++ (i : Int) :: fI (f :: rest))) : DInv L t lim rest (f + 1) R := by
  obtain ⟨hi, hle, -, -⟩ := reach_facts g h.reach
  have hf : f < L.items.length := by
    obtain ⟨j, e, hj⟩ := itemsB_at hi (k := 0) (by simp [fI])
    have e : (f : Int) = (j : Int) := e
    omega
  have hcons : wordsL L (fI (f :: rest)) = wordL L (f : Int) ++ wordsL L (fI rest) := rfl
  have hw1 : 1 ≤ (wordL L (f : Int)).length := by rw [wordL_nat]; exact (g.word f hf).1
  refine ⟨?_, h.nodup, fun s => ?_, hf, fun h9 => ?_⟩
  · rcases h.reach with h9 | ⟨pre, hp⟩
    · cases h9
    · exact .inr ⟨pre ++ [(f : Int)], by simpa [fI] using hp⟩
  · rw [h.iff s]
    refine and_congr_right fun hs => not_congr ?_
    constructor
    · rintro (⟨-, rfl⟩ | ⟨pre, i, hi, rfl⟩ | hu)
      · exact absurd (cheap_full hs) h0
      · exact absurd ⟨pre, hs⟩ (hno i hi)
      · exact hu
    · exact fun hu => .inr (.inr hu)
  · exfalso
    rw [hcons, List.length_append] at hle
    omega
/-- a split is put down, and the way back from it -/
theorem DInv.put {L : Lx} (g : GoodL L) {t : List Int} {lim : Int} {f : Nat} {rest : List Nat} {next : Nat} {R : List (List Int)} (h : DInv L t lim (f :: rest) next R) (h0 : (wordsL L (fI (f :: rest))).length = t.length) (hlim : 0 < lim) (hno : ∀ i, ¬ ∃ pre, cheap L t lim (pre ++ (i : Int) :: fI (f :: rest))) : DInv L t lim rest (f + 1) (R ++ [fI (f :: rest)]) := by
  have hz := h.zero h0
  subst hz
  have hc := reach_full g h.reach h0 hlim
  obtain ⟨hi, hle, -, -⟩ := reach_facts g h.reach
  have hf : f < L.items.length := by
    obtain ⟨j, e, hj⟩ := itemsB_at hi (k := 0) (by simp [fI])
    have e : (f : Int) = (j : Int) := e
    omega
  have hcons : wordsL L (fI (f :: rest)) = wordL L (f : Int) ++ wordsL L (fI rest) := rfl
  have hw1 : 1 ≤ (wordL L (f : Int)).length := by rw [wordL_nat]; exact (g.word f hf).1
  have hnr : fI (f :: rest) ∉ R := fun h9 => ((h.iff _).1 h9).2 (.inl ⟨rfl, rfl⟩)
  refine ⟨?_, ?_, fun s => ?_, hf, fun h9 => ?_⟩
  · rcases h.reach with h9 | ⟨pre, hp⟩
    · cases h9
    · exact .inr ⟨pre ++ [(f : Int)], by simpa [fI] using hp⟩
  · rw [List.nodup_append]
    exact ⟨h.nodup, by simp, fun a ha b hb => by rw [List.mem_singleton] at hb; subst hb; exact fun e => hnr (e ▸ ha)⟩
  · rw [List.mem_append, List.mem_singleton, h.iff s]
    constructor
    · rintro (⟨hs, hu⟩ | rfl)
      · exact ⟨hs, fun h9 => hu (.inr (.inr h9))⟩
      · exact ⟨hc, Unv.not_back (p := []) (Nat.lt_succ_self f)⟩
    · rintro ⟨hs, hu⟩
      by_cases e : s = fI (f :: rest)
      · exact .inr e
      · refine .inl ⟨hs, ?_⟩
        rintro (⟨-, h9⟩ | ⟨pre, i, -, rfl⟩ | h9)
        · exact e h9
        · exact hno i ⟨pre, hs⟩
        · exact hu h9
  · exfalso
    rw [hcons, List.length_append] at hle
    omega
/-- nothing is left -/
theorem DInv.all {L : Lx} {t : List Int} {lim : Int} {next : Nat} {R : List (List Int)} (h : DInv L t lim [] next R) (h0 : t.length ≠ 0) (hno : ∀ i, next ≤ i → ¬ ∃ pre, cheap L t lim (pre ++ (i : Int) :: fI [])) : ∀ s, cheap L t lim s → s ∈ R := fun s hs => by
  rw [h.iff s]
  refine ⟨hs, ?_⟩
  rintro (⟨-, rfl⟩ | ⟨pre, i, hi, rfl⟩)
  · exact h0 (cheap_full hs).symm
  · exact hno i hi ⟨pre, hs⟩
theorem DInv.sub {L : Lx} {t : List Int} {lim : Int} {found : List Nat} {next : Nat} {R : List (List Int)} (h : DInv L t lim found next R) : ∀ s ∈ R, cheap L t lim s := fun s hs => ((h.iff s).1 hs).1
end Go.Proofs.Ytgpenbajhndhiaa
namespace Go.Proofs.Ytgpenbajhndhiaa
open Go.RowKit Go.Proofs.Kv Go

/-! ### what items cost behind one -/
theorem last_join (p : List Int) (j : Int) (b : List Int) : (p ++ j :: b).getD ((p ++ j :: b).length - 1) 0 = (j :: b).getD ((j :: b).length - 1) 0 := by
  simp only [List.getD]
  rw [List.getElem?_append_right (by simp)]
  congr 2
  simp
theorem okF_one (L : Lx) (j : Int) : okF L [j] = true := by simp [okF, okC]
theorem sumC_one (L : Lx) (j : Int) : sumC L [j] = costI L j := by
  show sumK L [j] 0 + stepC L [j] 0 = _
  simp [sumK, stepC]
theorem okF_join (L : Lx) (p : List Int) (j : Int) : ∀ (n : Nat) (b : List Int), b.length = n → okF L (p ++ j :: b) = (okF L (p ++ [j]) && okF L (j :: b))
  | 0, b, hb => by
    obtain rfl := List.length_eq_zero_iff.1 hb
    rw [okF_one, Bool.and_true]
  | n + 1, b, hb => by
    rcases snoc_cases b with rfl | ⟨b', x, rfl⟩
    · simp at hb
    · have ih := okF_join L p j n b' (by simpa using hb)
      have e1 : p ++ j :: (b' ++ [x]) = (p ++ j :: b') ++ [x] := by simp
      have e2 : j :: (b' ++ [x]) = (j :: b') ++ [x] := by simp
      rw [e1, e2, okF_snoc L (p ++ j :: b') x, okF_snoc L (j :: b') x, ih, last_join, decide_eq_false (by simp : ¬ (p ++ j :: b').length = 0), decide_eq_false (by simp : ¬ (j :: b').length = 0), Bool.and_assoc]
theorem sumC_join (L : Lx) (p : List Int) (j : Int) : ∀ (n : Nat) (b : List Int), b.length = n → sumC L (p ++ j :: b) + costI L j = sumC L (p ++ [j]) + sumC L (j :: b)
  | 0, b, hb => by
    obtain rfl := List.length_eq_zero_iff.1 hb
    rw [sumC_one]
  | n + 1, b, hb => by
    rcases snoc_cases b with rfl | ⟨b', x, rfl⟩
    · simp at hb
    · have ih := sumC_join L p j n b' (by simpa using hb)
      have e1 : p ++ j :: (b' ++ [x]) = (p ++ j :: b') ++ [x] := by simp
      have e2 : j :: (b' ++ [x]) = (j :: b') ++ [x] := by simp
      rw [e1, e2, sumC_snoc L (p ++ j :: b') x, sumC_snoc L (j :: b') x, last_join, if_neg (by simp : ¬ (p ++ j :: b').length = 0), if_neg (by simp : ¬ (j :: b').length = 0)]
      omega
theorem stepC_pos {L : Lx} (g : GoodL L) {l : List Int} (hi : itemsB L l = true) {k : Nat} (hk : k < l.length) (hok : okC L l k = true) : 0 ≤ stepC L l k := by
  obtain ⟨j, e, hj⟩ := itemsB_at hi hk
  have hc := (g.cost j hj).1
  unfold stepC
  rw [e]
  have : costI L (j : Int) = (L.items.getD j I0).cost := by unfold costI; rw [Int.toNat_natCast]
  rw [this]
  by_cases h0 : k = 0
  · rw [if_pos h0]; omega
  · rw [if_neg h0]
    unfold okC at hok
    rw [decide_eq_false h0, Bool.false_or, decide_eq_true_eq, e] at hok
    omega
theorem okF_at {L : Lx} {l : List Int} (h : okF L l = true) {k : Nat} (hk : k < l.length) : okC L l k = true := by
  unfold okF at h
  rw [List.all_eq_true] at h
  exact h k (List.mem_range.2 hk)
theorem sumC_ge {L : Lx} (g : GoodL L) {j : Int} {b : List Int} (hi : itemsB L (j :: b) = true) (hok : okF L (j :: b) = true) : costI L j ≤ sumC L (j :: b) := by
  have key : ∀ k, k ≤ b.length → costI L j ≤ sumK L (j :: b) (k + 1) := fun k => by
    induction k with
    | zero =>
      intro _
      show costI L j ≤ 0 + stepC L (j :: b) 0
      simp [stepC]
    | succ k ih =>
      intro hk
      have := stepC_pos g hi (k := k + 1) (by simp; omega) (okF_at hok (by simp; omega))
      have := ih (by omega)
      show _ ≤ sumK L (j :: b) (k + 1) + stepC L (j :: b) (k + 1)
      omega
  exact key b.length (Nat.le_refl _)
def costBh (L : Lx) (j : Nat) (found : List Nat) : Int := if okF L ((j : Int) :: fI found) = true then sumC L ((j : Int) :: fI found) - costI L (j : Int) else 100000
theorem costBh_pos {L : Lx} (g : GoodL L) {j : Nat} {found : List Nat} (hi : itemsB L ((j : Int) :: fI found) = true) : 0 ≤ costBh L j found := by
  unfold costBh
  split
  · rename_i h; have := sumC_ge g hi h; omega
  · omega
theorem cons_items {L : Lx} {j : Nat} {s : List Int} (hj : j < L.items.length) (h : itemsB L s = true) : itemsB L ((j : Int) :: s) = true := itemsB_cons.2 ⟨⟨j, rfl, hj⟩, h⟩
/-- there is a cheap split that goes on with j just if the cheapest ending and what comes behind cost less -/
theorem test_iff {L : Lx} (g : GoodL L) {t : List Int} (ht : t.length ≤ 12) {lim : Int} (hlim : lim ≤ 100000) {found : List Nat} (h : found = [] ∨ ∃ pre, cheap L t lim (pre ++ fI found)) {j : Nat} (hj : j < L.items.length) :
    lstS L t (t.length - (wordsL L (fI found)).length) j + costBh L j found < lim ↔ ∃ pre, cheap L t lim (pre ++ (j : Int) :: fI found) := by
  obtain ⟨hi, hle, hdr, -⟩ := reach_facts g h
  obtain ⟨pl, hpl⟩ : ∃ pl, t.length - (wordsL L (fI found)).length = pl := ⟨_, rfl⟩
  rw [hpl] at hdr ⊢
  have hpt : pl ≤ t.length := by omega
  have hij := cons_items hj hi
  obtain ⟨l0, l1, l2, l3⟩ := lstS_in g ht hpt hj
  have hcp := costBh_pos g hij
  constructor
  · intro hlt
    have hok : okF L ((j : Int) :: fI found) = true := by
      cases hk : okF L ((j : Int) :: fI found) with
      | true => rfl
      | false => unfold costBh at hlt; rw [hk, if_neg (by decide)] at hlt; omega
    have hne : S8 L t pl j ≠ [] := fun e => by have := l3 e; omega
    have hmem := minN_in (l := (S8 L t pl j).map (sumC L)) (by simpa using hne) (fun x hx => by have := (S8_sum g ht hpt hj x hx).2; omega)
    obtain ⟨s0, hs0, es⟩ := List.mem_map.1 hmem
    obtain ⟨⟨s', rfl⟩, k1, k2, k3⟩ := (mem_S8 g t pl j hpt hj s0).1 hs0
    refine ⟨s', ⟨?_, ?_, ?_⟩, ?_⟩
    · exact itemsB_app.2 ⟨(itemsB_app.1 k1).1, hij⟩
    · rw [show s' ++ (j : Int) :: fI found = (s' ++ [(j : Int)]) ++ fI found by simp, wordsL_app, k2, hdr, List.take_append_drop]
    · rw [okF_join L s' _ _ _ rfl, k3, hok]; rfl
    · have h9 := sumC_join L s' (j : Int) _ (fI found) rfl
      have h8 : sumC L (s' ++ [(j : Int)]) = lstS L t pl j := es
      unfold costBh at hlt
      rw [if_pos hok] at hlt
      omega
  · rintro ⟨pre, ⟨h1, h2, h3⟩, h4⟩
    rw [okF_join L pre _ _ _ rfl, Bool.and_eq_true] at h3
    have h9 := sumC_join L pre (j : Int) _ (fI found) rfl
    have hw : wordsL L (pre ++ [(j : Int)]) = t.take pl := by
      rw [show pre ++ (j : Int) :: fI found = (pre ++ [(j : Int)]) ++ fI found by simp, wordsL_app, hdr] at h2
      have h8 : wordsL L (pre ++ [(j : Int)]) ++ t.drop pl = t.take pl ++ t.drop pl := by rw [h2, List.take_append_drop]
      exact List.append_cancel_right h8
    have hS : pre ++ [(j : Int)] ∈ S8 L t pl j := (mem_S8 g t pl j hpt hj _).2 ⟨⟨pre, rfl⟩, by
      rw [show pre ++ (j : Int) :: fI found = (pre ++ [(j : Int)]) ++ fI found by simp] at h1
      exact (itemsB_app.1 h1).1, hw, h3.1⟩
    have hm : lstS L t pl j ≤ sumC L (pre ++ [(j : Int)]) := minN_mem (List.mem_map.2 ⟨_, hS, rfl⟩)
    unfold costBh
    rw [if_pos h3.2]
    omega
/-- how many steps are left at most -/
def mesV : List Nat → Nat
  | [] => 0
  | f :: rest => f * 10 ^ (12 - rest.length) + mesV rest
def mesN (found : List Nat) (next : Nat) : Nat := (10 ^ 14 - (next * 10 ^ (12 - found.length) + mesV found)) * 20 + (20 - found.length)
theorem mesV_le : ∀ (found : List Nat), found.length ≤ 12 → (∀ x ∈ found, x < 8) → mesV found * 9 + 8 * 10 ^ (13 - found.length) ≤ 8 * 10 ^ 13
  | [], _, _ => by simp [mesV]
  | f :: rest, hl, hx => by
    have hl' : rest.length + 1 ≤ 12 := by simpa using hl
    have ih := mesV_le rest (by omega) fun x h => hx x (by simp [h])
    have hf : f ≤ 7 := by have := hx f (by simp); omega
    have e1 : 10 ^ (13 - rest.length) = 10 * 10 ^ (12 - rest.length) := by rw [show 13 - rest.length = (12 - rest.length) + 1 by omega, Nat.pow_succ, Nat.mul_comm]
    rw [e1] at ih
    show (f * 10 ^ (12 - rest.length) + mesV rest) * 9 + 8 * 10 ^ (13 - (rest.length + 1)) ≤ _
    rw [show 13 - (rest.length + 1) = 12 - rest.length by omega]
    have hm : f * 10 ^ (12 - rest.length) ≤ 7 * 10 ^ (12 - rest.length) := Nat.mul_le_mul_right _ hf
    omega
theorem mes_down {found : List Nat} {next j : Nat} (hl : found.length < 12) (hx : ∀ x ∈ found, x < 8) (hn : next ≤ j) (_ : j < 8) : mesN (j :: found) 0 < mesN found next := by
  unfold mesN
  have h1 := mesV_le found (by omega) hx
  have h2 : next * 10 ^ (12 - found.length) ≤ j * 10 ^ (12 - found.length) := Nat.mul_le_mul_right _ hn
  have h3 : mesV (j :: found) = j * 10 ^ (12 - found.length) + mesV found := rfl
  rw [h3, List.length_cons]
  generalize 10 ^ (12 - found.length) = P at *
  omega
theorem mes_up {f : Nat} {rest : List Nat} {next : Nat} (hl : rest.length < 12) (hx : ∀ x ∈ f :: rest, x < 8) (hn : next ≤ 8) : mesN rest (f + 1) < mesN (f :: rest) next := by
  unfold mesN
  have h1 := mesV_le rest (by omega) fun x h => hx x (by simp [h])
  have hf : f ≤ 7 := by have := hx f (by simp); omega
  have h3 : mesV (f :: rest) = f * 10 ^ (12 - rest.length) + mesV rest := rfl
  have e1 : 10 ^ (13 - rest.length) = 10 * 10 ^ (12 - rest.length) := by rw [show 13 - rest.length = (12 - rest.length) + 1 by omega, Nat.pow_succ, Nat.mul_comm]
  have e2 : 10 ^ (12 - rest.length) = 10 * 10 ^ (12 - (rest.length + 1)) := by rw [show 12 - rest.length = (12 - (rest.length + 1)) + 1 by omega, Nat.pow_succ, Nat.mul_comm]
  rw [e1] at h1
  rw [h3, List.length_cons]
  have hq : 1 ≤ 10 ^ (12 - (rest.length + 1)) := Nat.pow_pos (by omega)
  rw [e2] at h1 ⊢
  generalize 10 ^ (12 - (rest.length + 1)) = P at *
  have h4 : next * P ≤ 8 * P := Nat.mul_le_mul_right _ hn
  have h5 : (f + 1) * (10 * P) = f * (10 * P) + 10 * P := by rw [Nat.add_mul, Nat.one_mul]
  have h6 : f * (10 * P) ≤ 7 * (10 * P) := Nat.mul_le_mul_right _ hf
  rw [h5]
  generalize f * (10 * P) = Q at *
  generalize next * P = N at *
  omega
end Go.Proofs.Ytgpenbajhndhiaa
namespace Go.Proofs.Ytgpenbajhndhiaa
open Go.RowKit Go.Proofs.Kv Go

set_option maxRecDepth 100000 in
set_option maxHeartbeats 4000000 in
theorem costBh_calls (v : Value) (L : Lx) (j : Nat) (a : Option Addr) (n c : Nat) (found : List Nat) (w : World) (h : LexAt w v L) (hI : IntsAt w a n c (fI found)) (g : GoodL L) (hi : itemsB L (fI found) = true) (hj : j < L.items.length) (hn : n ≤ 100) :
    Calls Try.prog 55 #[v, .int .i64 (j : Int), .slice a n c] w fun e w' => e = .returned (.int .i64 (costBh L j found)) ∧ Below w.heap.size w w' := by
  have HP := hid_ h
  obtain ⟨a1, n1, c1, a2, n2, c2, rfl, h1, h2⟩ := h
  obtain ⟨w1, hw1⟩ : ∃ w1, w.alloc (.cells #[.slice a1 n1 c1, .slice a2 n2 c2] 25) = w1 := ⟨_, rfl⟩
  have cb : Below w.heap.size w w1 := by rw [← hw1]; exact below_alloc _ _
  have q0 : w1.cell? ⟨w.heap.size, 0, none⟩ = some (.slice a1 n1 c1) := by rw [← hw1]; exact cells_alloc _ _ _ 0
  have q1 : w1.cell? ⟨w.heap.size, 1, none⟩ = some (.slice a2 n2 c2) := by rw [← hw1]; exact cells_alloc _ _ _ 1
  have HP1 := hid_ (HP.out.below cb (Nat.le_refl _)); have Hc1 := hid_ cb
  have hl1 := h1.len
  have hij := cons_items hj hi
  have hln : ((j : Int) :: fI found).length = 1 + n := by rw [List.length_cons, hI.len]; omega
  have HCo := hid_ (fun W (hW : Below w1.heap.size w1 W) a2 c2 (h2' : IntsAt W a2 (1 + n) c2 ((j : Int) :: fI found)) => tacost_calls _ L a2 (1 + n) c2 _ W (HP1.out.below hW (Nat.le_refl _)) h2' g hij (by omega))
  have HX : Hid (costBh L j found = if okF L ((j : Int) :: fI found) = true then sumC L ((j : Int) :: fI found) - costI L (j : Int) else 100000) := hid_ rfl
  have HV : Hid (costV L ((j : Int) :: fI found) = if okF L ((j : Int) :: fI found) = true then sumC L ((j : Int) :: fI found) else 0) := hid_ rfl
  have HQ := hid_ (fun W (hW : Below w1.heap.size w1 W) => (⟨cell_below q0 hW, cell_below q1 hW⟩ : _ ∧ _))
  have hcI : costI L (j : Int) = (L.items.getD j I0).cost := by unfold costI; rw [Int.toNat_natCast]
  obtain ⟨hc0, hc1⟩ := g.cost j hj
  have hge : okF L ((j : Int) :: fI found) = true → 0 ≤ sumC L ((j : Int) :: fI found) ∧ sumC L ((j : Int) :: fI found) ≤ 198 * ((1 + n : Nat) : Int) := fun hok => by
    have := sumK_in g hij ((j : Int) :: fI found).length (Nat.le_refl _) (fun k hk => okF_at hok hk)
    rw [hln] at this
    have e : sumC L ((j : Int) :: fI found) = sumK L ((j : Int) :: fI found) (1 + n) := by unfold sumC; rw [hln]
    rw [e]; exact this
  have H1 := hid_ (h1.below cb (Nat.le_refl _))
  have Hd := hid_ ((hI.below cb (Nat.le_refl _)).below ((Below.drew (Below.refl _ w1)).alloc (Nat.le_refl _) (.cells #[.int .i64 (j : Int)] 3)) (Nat.le_refl _))
  rw [hcI] at HX
  rw [hl1] at hj
  obtain ⟨bi, oi, ai, ni, ci, rfl, -, k0, k1, k2, -⟩ := H1.out.cells j hj
  generalize costBh L j found = X at *
  generalize costV L ((j : Int) :: fI found) = V at *
  generalize sumC L ((j : Int) :: fI found) = S at *
  generalize (L.items.getD j I0).cost = co at *
  clear h1 h2 HP HP1 hl1 hij hln hcI hi hI g
  have bd : Below w1.heap.size w1 w1.drew := Below.drew (Below.refl _ _)
  have b8 : Below w1.heap.size w1 (w1.drew.alloc (.cells #[.int .i64 (j : Int)] 3)) := bd.alloc (Nat.le_refl _) _
  go_enter Try.func55, Try.ntmps55
  go_wp2
  refine wp_region_last2 (n := 10) (S := fun W => W.cell? ⟨w.heap.size, 0, none⟩ = some (.slice (some ⟨bi, oi, none⟩) n1 c1) ∧ W.cell? ⟨w.heap.size, 1, none⟩ = some (.slice a2 n2 c2)) (by kernel_rfl) (by kernel_rfl) (HQ.out _ bd) (fun hHeld => ?_)
  refine wpAnyH_take (i := 0) (oi := ?oi0h1) (v := ?v0h1) ?hi0h1 (by kernel_rfl) ?hf0h1 (by kernel_rfl) ?hQ0h1 ?hy0h1 (by assumption) ?rest0h1
  case hi0h1 => (simp only [List.getElem?_toArray, List.getElem?_cons_zero]; rfl)
  case hf0h1 => kernel_rfl
  case hQ0h1 => exact fun _ _ _ h => h
  case hy0h1 => (refine Or.inl ⟨by rfl, ?_⟩; intro W hSw; (try dsimp only at hSw); obtain ⟨g0, g1⟩ := hSw; go_simp; try with_reducible rfl)
  try simp only [Act.put, List.setIfInBounds_toArray, List.set_cons_zero, List.set_cons_succ]
  refine wpAnyH_take (i := 1) (oi := ?oi1h2) (v := ?v1h2) ?hi1h2 (by kernel_rfl) ?hf1h2 (by kernel_rfl) ?hQ1h2 ?hy1h2 (by assumption) ?rest1h2
  case hi1h2 => (simp only [List.getElem?_toArray, List.getElem?_cons_succ, List.getElem?_cons_zero]; rfl)
  case hf1h2 => kernel_rfl
  case hQ1h2 => exact fun _ _ _ h => h
  case hy1h2 => (refine Or.inl ⟨by rfl, ?_⟩; intro W hSw; (try dsimp only at hSw); go_simp; try with_reducible rfl)
  try simp only [Act.put, List.setIfInBounds_toArray, List.set_cons_zero, List.set_cons_succ]
  refine wpAnyH_take (i := 3) (oi := ?oi3h3) (v := ?v3h3) ?hi3h3 (by kernel_rfl) ?hf3h3 (by kernel_rfl) ?hQ3h3 ?hy3h3 (by assumption) ?rest3h3
  case hi3h3 => (simp only [List.getElem?_toArray, List.getElem?_cons_succ, List.getElem?_cons_zero]; rfl)
  case hf3h3 => kernel_rfl
  case hQ3h3 => exact fun _ _ _ h => h
  case hy3h3 => (refine Or.inl ⟨by rfl, ?_⟩; intro W hSw; (try dsimp only at hSw); go_simp; try with_reducible rfl)
  try simp only [Act.put, List.setIfInBounds_toArray, List.set_cons_zero, List.set_cons_succ]
  refine wpAnyH_ready (rs := [2]) (by kernel_rfl) (by simp) ?_
  refine AllReadyH.cons (o := _) (by (simp only [List.getElem?_toArray, List.getElem?_cons_succ, List.getElem?_cons_zero]; rfl)) (fun K hK => ?_) AllReadyH.nil
  go_simp
  refine hK.out _ _ ?_ (fun hHeld => ?_)
  · exact HQ.out _ b8
  clear hK K
  try simp only [Act.put, List.setIfInBounds_toArray, List.set_cons_zero, List.set_cons_succ]
  refine wpAnyH_ready (rs := [4]) (by kernel_rfl) (by simp) ?_
  refine AllReadyH.cons (o := _) (by (simp only [List.getElem?_toArray, List.getElem?_cons_succ, List.getElem?_cons_zero]; rfl)) (fun K hK => ?_) AllReadyH.nil
  refine step_append_row rfl (.tmp 12) (.tmp 13) rfl w1.heap.size _ 1 [(j : Int)] (by rfl) (World.ownsRow_lit (base := w1.heap.size) (e := 3) (size := 1) w1.drew #[.int .i64 (j : Int)] 1 (Nat.le_refl _) (by unfold maxLen; omega) rfl) a n c (fI found) (by rfl) Hd.out (by omega) (by simp) ?_; intro v5 w5 ho5 hg5 hat5; simp only [List.singleton_append] at ho5; have bw5 : Below w1.heap.size w1 w5 := b8.grown hg5 (by simp) (fun r e => by cases e; exact Nat.le_refl _); obtain ⟨a5, c5, rfl, hI5⟩ := IntsAt.own ho5; have HC5 := hid_ (HCo.out w5 bw5 a5 c5 hI5)
  refine hK.out _ _ ?_ (fun hHeld => ?_)
  · exact HQ.out _ bw5
  clear hK K
  try simp only [Act.put, List.setIfInBounds_toArray, List.set_cons_zero, List.set_cons_succ]
  refine wpAnyH_ready (rs := [5]) (by kernel_rfl) (by simp) ?_
  refine AllReadyH.cons (o := _) (by (simp only [List.getElem?_toArray, List.getElem?_cons_succ, List.getElem?_cons_zero]; rfl)) (fun K hK => ?_) AllReadyH.nil
  go_simp
  (with_reducible refine HC5.out.mono ?_); rintro e w6 ⟨rfl, hb6'⟩; have bw6 : Below w1.heap.size w1 w6 := bw5.trans (hb6'.mono bw5.size)
  refine hK.out _ _ ?_ (fun hHeld => ?_)
  · exact HQ.out _ bw6
  clear hK K
  try simp only [Act.put, List.setIfInBounds_toArray, List.set_cons_zero, List.set_cons_succ]
  refine wpAnyH_take (i := 6) (oi := ?oi6h4) (v := ?v6h4) ?hi6h4 (by kernel_rfl) ?hf6h4 (by kernel_rfl) ?hQ6h4 ?hy6h4 (by assumption) ?rest6h4
  case hi6h4 => (simp only [List.getElem?_toArray, List.getElem?_cons_succ, List.getElem?_cons_zero]; rfl)
  case hf6h4 => kernel_rfl
  case hQ6h4 => exact fun _ _ _ h => h
  case hy6h4 => (refine Or.inl ⟨by rfl, ?_⟩; intro W hSw; (try dsimp only at hSw); go_simp; try with_reducible rfl)
  try simp only [Act.put, List.setIfInBounds_toArray, List.set_cons_zero, List.set_cons_succ]
  refine wpAnyH_take (i := 7) (oi := ?oi7h5) (v := ?v7h5) ?hi7h5 (by kernel_rfl) ?hf7h5 (by kernel_rfl) ?hQ7h5 ?hy7h5 (by assumption) ?rest7h5
  case hi7h5 => (simp only [List.getElem?_toArray, List.getElem?_cons_succ, List.getElem?_cons_zero]; rfl)
  case hf7h5 => kernel_rfl
  case hQ7h5 => exact fun _ _ _ h => h
  case hy7h5 => (refine Or.inl ⟨by rfl, ?_⟩; intro W hSw; (try dsimp only at hSw); go_simp; try with_reducible rfl)
  try simp only [Act.put, List.setIfInBounds_toArray, List.set_cons_zero, List.set_cons_succ]
  refine wpAnyH_take (i := 8) (oi := ?oi8h6) (v := ?v8h6) ?hi8h6 (by kernel_rfl) ?hf8h6 (by kernel_rfl) ?hQ8h6 ?hy8h6 (by assumption) ?rest8h6
  case hi8h6 => (simp only [List.getElem?_toArray, List.getElem?_cons_succ, List.getElem?_cons_zero]; rfl)
  case hf8h6 => kernel_rfl
  case hQ8h6 => exact fun _ _ _ h => h
  case hy8h6 => (refine Or.inl ⟨by rfl, ?_⟩; intro W hSw; (try dsimp only at hSw); go_simp; try with_reducible rfl)
  try simp only [Act.put, List.setIfInBounds_toArray, List.set_cons_zero, List.set_cons_succ]
  refine wpAnyH_take (i := 9) (oi := ?oi9h7) (v := ?v9h7) ?hi9h7 (by kernel_rfl) ?hf9h7 (by kernel_rfl) ?hQ9h7 ?hy9h7 (by assumption) ?rest9h7
  case hi9h7 => (simp only [List.getElem?_toArray, List.getElem?_cons_succ, List.getElem?_cons_zero]; rfl)
  case hf9h7 => kernel_rfl
  case hQ9h7 => exact fun _ _ _ h => h
  case hy9h7 => (refine Or.inl ⟨by rfl, ?_⟩; intro W hSw; (try dsimp only at hSw); go_simp; try with_reducible rfl)
  try simp only [Act.put, List.setIfInBounds_toArray, List.set_cons_zero, List.set_cons_succ]
  have Hb6 := hid_ (Hc1.out.trans (bw6.mono Hc1.out.size))
  obtain ⟨q6, r6⟩ := HQ.out w6 bw6
  have k6 := cell_below k2 bw6
  clear ho5 hg5 hat5 hI5 bw5 bw6 b8 bd
  cases hok : okF L ((j : Int) :: fI found) with
  | true =>
    rw [hok] at HX HV
    obtain ⟨s0, s1⟩ := hge hok
    have HX' := hid_ (HX.out.trans (if_pos rfl))
    have HV' := hid_ (HV.out.trans (if_pos rfl))
    have hwr : IntKind.i64.wrap (S - co) = S - co := IntWalk.i64_in _ (by omega)
    rw [HV'.out]
    clear hok hge HX HV
    refine wpAnyH_done (by kernel_rfl) ?_ _
    clear hHeld
    refine last_of ?_
    refine wpOp_step (o := _) (by (simp only [List.getElem?_toArray, List.getElem?_cons_succ, List.getElem?_cons_zero]; rfl)) (fun K hK => ?_)
    go_simp
    refine hK _ _ ?_
    clear hK K
    try simp only [Act.put, List.setIfInBounds_toArray, List.set_cons_zero, List.set_cons_succ]
    go_wp2
    go_ret
    exact ⟨by rw [HX'.out]; rfl, Hb6.out⟩
  | false =>
    rw [hok] at HX HV
    have HX' := hid_ (HX.out.trans (if_neg (by decide)))
    clear hok hge HX HV
    refine wpAnyH_done (by kernel_rfl) ?_ _
    clear hHeld
    refine last_of ?_
    refine wpOp_step (o := _) (by (simp only [List.getElem?_toArray, List.getElem?_cons_succ, List.getElem?_cons_zero]; rfl)) (fun K hK => ?_)
    go_simp
    refine hK _ _ ?_
    clear hK K
    try simp only [Act.put, List.setIfInBounds_toArray, List.set_cons_zero, List.set_cons_succ]
    go_wp2
    go_ret
    exact ⟨by rw [HX'.out]; rfl, Hb6.out⟩
end Go.Proofs.Ytgpenbajhndhiaa
namespace Go.Proofs.Kv
open Go.RowKit Go

/-! ### an own row of numbers that may begin within its block -/
/-- gb is the row's block; E is the type of its cells -/
structure OwnS (E : TypeId) (w : World) (B : Nat) (gb : Option Nat) (v : Value) (l : List Int) : Prop where
  row : (gb = none ∧ v = .slice none 0 0 ∧ l = []) ∨ ∃ g o c, ∃ cur : List Value, gb = some g ∧ v = .slice (some ⟨g, o, none⟩) l.length c ∧ B ≤ g ∧ g < w.heap.size ∧ w.heap[g]? = some (.cells cur.toArray E (0, 0)) ∧
    o + c ≤ cur.length ∧ l.length ≤ c ∧ cur.length ≤ 9223372036854775807 ∧ (cur.drop o).take l.length = l.map (Value.int .i64)
theorem OwnS.none_ (E : TypeId) (w : World) (B : Nat) : OwnS E w B none (.slice none 0 0) [] := ⟨.inl ⟨rfl, rfl, rfl⟩⟩
theorem OwnS.of_own {E : TypeId} {w : World} {B n : Nat} {v : Value} {l : List Int} (h : w.ownsRow B E 1 v n (l.map (Value.int .i64))) : OwnS E w B v.ownBlock v l := by
  have hn : l.length = n := by simpa using h.1
  rcases own_open h with ⟨rfl, rfl, h0⟩ | ⟨g, cap, cur, rfl, hg1, hg2, hg3, hcl, hnc, hcm, hct⟩
  · exact ⟨.inl ⟨rfl, rfl, by simpa using h0⟩⟩
  · exact ⟨.inr ⟨g, 0, cap, cur, rfl, by rw [hn], hg1, hg2, hg3, by omega, by omega, by omega, by rw [List.drop_zero, hn]; exact hct⟩⟩
theorem OwnS.base {E : TypeId} {w : World} {B B' : Nat} {gb : Option Nat} {v : Value} {l : List Int} (h : OwnS E w B' gb v l) (hB : B ≤ B') : OwnS E w B gb v l := by
  rcases h.row with h | ⟨g, o, c, cur, h1, h2, h3, h4⟩
  · exact ⟨.inl h⟩
  · exact ⟨.inr ⟨g, o, c, cur, h1, h2, by omega, h4⟩⟩
theorem OwnS.grown {E : TypeId} {w w' : World} {B : Nat} {gb row : Option Nat} {v : Value} {l : List Int} (h : OwnS E w B gb v l) (hg : w.grownBy w' row) (hne : ∀ g, gb = some g → row ≠ some g) : OwnS E w' B gb v l := by
  rcases h.row with h | ⟨g, o, c, cur, h1, h2, h3, h4, h5, h6⟩
  · exact ⟨.inl h⟩
  · exact ⟨.inr ⟨g, o, c, cur, h1, h2, h3, Nat.lt_of_lt_of_le h4 hg.size, by rw [hg.block g h4 (fun e => hne g h1 e.symm)]; exact h5, h6⟩⟩
theorem OwnS.below {E : TypeId} {w w' : World} {B B' : Nat} {gb : Option Nat} {v : Value} {l : List Int} (h : OwnS E w B gb v l) (hb : Below B' w w') (hB : w.heap.size ≤ B') : OwnS E w' B gb v l := by
  rcases h.row with h | ⟨g, o, c, cur, h1, h2, h3, h4, h5, h6⟩
  · exact ⟨.inl h⟩
  · exact ⟨.inr ⟨g, o, c, cur, h1, h2, h3, Nat.lt_of_lt_of_le h4 hb.size, by rw [hb.block g (by omega)]; exact h5, h6⟩⟩
theorem OwnS.drewN {E : TypeId} {w : World} {B : Nat} {gb : Option Nat} {v : Value} {l : List Int} (h : OwnS E w B gb v l) (q : Nat) : OwnS E (w.drewN q) B gb v l := ⟨h.row⟩
theorem OwnS.lt {E : TypeId} {w : World} {B : Nat} {gb : Option Nat} {v : Value} {l : List Int} (h : OwnS E w B gb v l) : ∀ g, gb = some g → B ≤ g ∧ g < w.heap.size := by
  intro g hg
  rcases h.row with h | ⟨g', o, c, cur, h1, h2, h3, h4, h5, h6⟩
  · rw [h.1] at hg; cases hg
  · rw [h1] at hg; injection hg with hg; subst hg; exact ⟨h3, h4⟩
/-- .. it reads as its numbers -/
theorem OwnS.ints {E : TypeId} {w : World} {B : Nat} {gb : Option Nat} {v : Value} {l : List Int} (h : OwnS E w B gb v l) (hs : l.length ≤ 1000000) : ∃ a c, v = .slice a l.length c ∧ IntsAt w a l.length c l := by
  rcases h.row with ⟨h1, rfl, rfl⟩ | ⟨g, o, c, cur, h1, rfl, h3, h4, h5, h6, h7, h8, h9⟩
  · exact ⟨_, _, rfl, IntsAt.nil w none 0 (by omega)⟩
  · refine ⟨_, _, rfl, ⟨rfl, h7, by omega, fun i hi => ⟨g, o, rfl, h4, ?_⟩⟩⟩
    rw [row_cell h5]
    have e := congrArg (fun t => t[i]?) h9
    simp only [List.getElem?_take, List.getElem?_drop, if_pos hi, List.getElem?_map] at e
    rw [e, List.getElem?_eq_getElem hi]
    simp [List.getD, hi]
/-- .. cut in front -/
theorem OwnS.tail {E : TypeId} {w : World} {B g o n c : Nat} {j : Int} {l : List Int} (h : OwnS E w B (some g) (.slice (some ⟨g, o, none⟩) n c) (j :: l)) : OwnS E w B (some g) (.slice (if c = 1 then some ⟨g, o, none⟩ else some ⟨g, o + 1, none⟩) (n - 1) (c - 1)) l := by
  rcases h.row with ⟨h1, _⟩ | ⟨g', o', c', cur, h1, h2, h3, h4, h5, h6, h7, h8, h9⟩
  · cases h1
  · injection h2 with e1 e2 e3
    injection e1 with e1
    injection e1 with e4 e5
    subst e4; subst e5; subst e3
    rw [List.length_cons] at e2 h7
    have e2' : n - 1 = l.length := by omega
    by_cases hc : c = 1
    · have hl : l = [] := List.eq_nil_of_length_eq_zero (by omega)
      subst hl
      rw [if_pos hc, e2']
      exact ⟨.inr ⟨g, o, c - 1, cur, rfl, rfl, h3, h4, h5, by omega, by simp, h8, by simp⟩⟩
    · rw [if_neg hc, e2']
      refine ⟨.inr ⟨g, o + 1, c - 1, cur, rfl, rfl, h3, h4, h5, by omega, by omega, h8, ?_⟩⟩
      have e := congrArg (fun t => t.drop 1) h9
      simpa [List.drop_take, List.drop_drop] using e
theorem drop_splice {α : Type} (L : List α) {o k : Nat} (X : List α) (h : o + k ≤ L.length) : (splice L (o + k) X).drop o = splice (L.drop o) k X := by
  unfold splice
  rw [List.drop_append_of_le_length (by rw [List.length_take]; omega), List.drop_take, List.drop_drop]
  congr 2
  · congr 1; omega
  · rw [show o + k + X.length = o + (k + X.length) by omega]
theorem heap_setCell_at {w : World} {g : Nat} {cur : List Value} {E : TypeId} (hg : w.heap[g]? = some (.cells cur.toArray E (0, 0))) (k : Nat) (v : Value) : (w.setCell ⟨g, k, none⟩ v).heap[g]? = some (.cells (cur.set k v).toArray E (0, 0)) := by
  unfold World.setCell
  simp only [Array.getElem?_modify, hg]
  simp
theorem heap_setCells_at {g : Nat} {E : TypeId} : ∀ (vs : List Value) (k : Nat) {w : World} {cur : List Value}, w.heap[g]? = some (.cells cur.toArray E (0, 0)) → k + vs.length ≤ cur.length →
    (w.setCells g k vs).heap[g]? = some (.cells (splice cur k vs).toArray E (0, 0))
  | [], k, w, cur, h, _ => by simpa [World.setCells, splice] using h
  | v :: vs, k, w, cur, h, hl => by
    rw [List.length_cons] at hl
    have h1 := heap_setCells_at vs (k + 1) (heap_setCell_at h k v) (by rw [List.length_set]; omega)
    rw [World.setCells, h1]
    have e1 : (cur.set k v).take (k + 1) = cur.take k ++ [v] := by
      rw [take_snoc _ v k (by simp; omega), List.take_set, List.set_eq_of_length_le (by rw [List.length_take]; omega)]
      simp [List.getD, show k < cur.length by omega]
    have e : splice (cur.set k v) (k + 1) vs = splice cur k (v :: vs) := by
      unfold splice
      rw [e1, List.drop_set_of_lt (by omega), List.length_cons, show k + 1 + vs.length = k + (vs.length + 1) by omega]
      simp
    rw [e]
/-- what is put in: an own row again; of all that was there nothing turns but its block -/
def InsPost (E : TypeId) (B : Nat) (gb : Option Nat) (l : List Int) (w : World) (e : Ending) (w' : World) : Prop := ∃ v' gb', e = .returned v' ∧ OwnS E w' B gb' v' l ∧ w.grownBy w' gb ∧ (gb' = gb ∨ ∃ g, gb' = some g ∧ w.heap.size ≤ g)
theorem append_S {P : Program} {w : World} {t ty e : TypeId} {i : TypeInfo} (ht : P.underlying t = some (.slice e)) (hi : P.info? e = some i) (hz : i.zero = some (.int .i64 0)) (hsize : i.size = 1) (hby : i.bytes = 8)
    {B g o cap m c : Nat} {l vs : List Int} {A : Option Addr} (hown : OwnS e w B (some g) (.slice (some ⟨g, o, none⟩) l.length cap) l) (hB : B ≤ w.heap.size) (hv : IntsAt w A m c vs) (hm0 : 0 < m)
    (hne : ∀ b off, A = some ⟨b, off, none⟩ → g ≠ b) (hs : l.length + m ≤ 100000) :
    ∃ v' w' gb', (Builtin.append_ #[t, t] ty #[.slice (some ⟨g, o, none⟩) l.length cap, .slice A m c]).run P w = .ok v' w' ∧ OwnS e w' B gb' v' (l ++ vs) ∧ w.grownBy w' (some g) ∧ (gb' = some g ∨ ∃ g', gb' = some g' ∧ w.heap.size ≤ g') := by
  rcases hown.row with ⟨h1, _⟩ | ⟨g', o', c', cur, h1, h2, h3, h4, h5, h6, h7, h8, h9⟩
  · cases h1
  · injection h2 with e1 e2 e3
    injection e1 with e1
    injection e1 with e4 e5
    subst e4; subst e5; subst e3
    obtain ⟨b, off, rfl, hb, _⟩ := hv.cells 0 hm0
    have hvl : (vs.map (Value.int .i64)).length = m := by rw [List.length_map, hv.len]
    have hcell : ∀ j u, (vs.map (Value.int .i64))[j]? = some u → w.cell? ((⟨b, off, none⟩ : Addr).add j) = some u := hv.cellsIn
    by_cases hr : l.length + m ≤ cap
    · have hrun := run_append_room_cells (P := P) w t ty e i ht hi g o l.length cap ⟨b, off, none⟩ m c (vs.map (Value.int .i64)) (by rw [hsize, hvl]; omega) hcell
        (by intro u hu; obtain ⟨x, _, rfl⟩ := List.mem_map.1 hu; rfl) hr (by
          intro j hj
          rw [row_cell h5, hsize, List.getElem?_eq_getElem (by omega)]; rfl) (fun j _ => row_free h5 _)
      rw [hsize, Nat.mul_one] at hrun
      refine ⟨_, _, some g, hrun, ⟨.inr ⟨g, o, cap, _, rfl, by rw [List.length_append, hv.len], h3, ?_, heap_setCells_at _ _ h5 (by omega), ?_, ?_, ?_, ?_⟩⟩, grown_setCells _ _ (grown_refl _ _), .inl rfl⟩
      · exact Nat.lt_of_lt_of_le h4 (grown_setCells (w0 := w) (g := g) _ _ (grown_refl _ _)).size
      · rw [length_splice _ _ _ (by omega)]; exact h6
      · rw [List.length_append, hv.len]; exact hr
      · rw [length_splice _ _ _ (by omega)]; exact h8
      · rw [drop_splice _ _ (by omega), splice, ← List.append_assoc, h9, List.map_append, List.take_left' (by simp)]
    · obtain ⟨v', w', hrun, h10, h11⟩ := run_append_arg_grows (P := P) w t ty e i _ 1 8 ht hi hz hsize hby rfl (by omega) ⟨g, o, none⟩ l.length cap (l.map (Value.int .i64)) (by simp) (by
          intro j u hu
          rw [add_at, row_cell h5, ← hu, ← h9, List.getElem?_take, if_pos, List.getElem?_drop]
          have := (List.getElem?_eq_some_iff.1 hu).1
          simpa using this) ⟨b, off, none⟩ m c (vs.map (Value.int .i64)) (by rw [hvl]; omega) hcell (by omega) (by unfold maxLen; omega) (by omega)
      rw [← List.map_append] at h10
      refine ⟨v', w', v'.ownBlock, hrun, (OwnS.of_own h10).base hB, ⟨h11.os, h11.tape, h11.output, h11.size, fun k hk _ => h11.block k hk (by simp)⟩, .inr ?_⟩
      rcases own_open h10 with ⟨_, h0, _⟩ | ⟨g', cap', cur', rfl, hg1, _⟩
      · omega
      · exact ⟨g', rfl, hg1⟩
end Go.Proofs.Kv
namespace Go.Proofs.Ytgpenbajhndhiaa
open Go.RowKit Go.Proofs.Kv Go
set_option maxRecDepth 100000 in
set_option maxHeartbeats 2000000 in
theorem insertO_calls {B n i m c : Nat} {gb : Option Nat} {v : Value} {l : List Int} {w : World} {A : Option Addr} {vs : List Int} (hown : OwnS 3 w B gb v l) (hl : l.length = n) (hB : B ≤ w.heap.size) (hi : i ≤ n)
    (hv : IntsAt w A m c vs) (hm0 : 0 < m) (hne : ∀ b off, A = some ⟨b, off, none⟩ → gb ≠ some b) (hs : n + m ≤ 100000) :
    Calls Try.prog 56 #[v, .int .i64 i, .slice A m c] w fun e w' => InsPost 3 B gb (putL l i i vs) w e w' := by
  obtain ⟨i0, hi0, hz0, hz1, hz2⟩ := info_parts Try.infoInt
  have hmz : ((m : Int) == 0) = false := by simp; omega
  by_cases hin : i = n
  · subst hin
    have Hf : Hid (putL l i i vs = l ++ vs) := hid_ (by rw [putL, List.take_of_length_le (by omega), List.drop_of_length_le (by omega), List.append_nil])
    have Hown := hid_ hown
    have hin' : ((i : Int) == (i : Int)) = true := by simp
    rcases hown.row with ⟨rfl, rfl, rfl⟩ | ⟨g, o, cap, cur, rfl, rfl, hg1, hg2, hg3, hcl, hnc, hcm, hct⟩
    · obtain rfl : i = 0 := by simpa using hl.symm
      have hn0 : w.ownsRow B 3 1 (.slice none 0 0) 0 (([] : List Int).map (Value.int .i64)) := World.ownsRow_nil _ _ _ _
      clear hown
      go_enter Try.func56, Try.ntmps56
      go_wp2_with (at_builtin; refine wpList_append_ints _ rfl (.tmp 23) (.tmp 24) _ rfl B 3 i0 Try.underlying26 hi0 hz0 hz1 hz2 _ _ _ rfl hn0 _ _ _ _ rfl hv (by omega) hB ?_; intro v' w1 hown1 hg1 hat1)
      go_ret
      exact ⟨_, v'.ownBlock, rfl, by rw [Hf.out]; exact OwnS.of_own hown1, hg1, hat1.imp id fun h => ⟨_, h, Nat.le_refl _⟩⟩
    · subst hl
      have hrun : ∀ ty, ∃ v' w' gb', (Builtin.append_ #[26, 26] ty #[.slice (some ⟨g, o, none⟩) l.length cap, .slice A m c]).run Try.prog w = .ok v' w' ∧ OwnS 3 w' B gb' v' (l ++ vs) ∧ w.grownBy w' (some g) ∧ (gb' = some g ∨ ∃ g', gb' = some g' ∧ w.heap.size ≤ g') := fun ty =>
        append_S Try.underlying26 hi0 hz0 hz1 hz2 hown hB hv hm0 (fun b off e e2 => hne b off e (by rw [e2])) hs
      have Hrun := hid_ (hrun 26)
      obtain ⟨v1, w1, gb1, h1, h2, h3, h4⟩ := Hrun.out
      have hr1 := h1
      clear hown hg3 hct hrun h1
      have HK := hid_ h2; have H3 := hid_ h3; have H4 := hid_ h4
      clear h2 h3 h4 Hown Hrun
      by_cases hci : cap = l.length
      all_goals
        go_enter Try.func56, Try.ntmps56
        go_wp2_with (at_builtin; refine Lib.wpList_append_run _ rfl (.tmp 23) (.tmp 24) _ _ rfl _ _ rfl rfl _ _ hr1 ?_)
        go_ret
        exact ⟨_, gb1, rfl, by rw [Hf.out]; exact HK.out, H3.out, H4.out⟩
  · have hin2 : ((i : Int) == (n : Int)) = false := by simp; omega
    have hilt : i < n := by omega
    clear hin
    rcases hown.row with ⟨rfl, rfl, rfl⟩ | ⟨g, o, cap, cur, rfl, rfl, hg1, hg2, hg3, hcl, hnc, hcm, hct⟩
    · have : n = 0 := by simpa using hl.symm
      omega
    · rw [hl] at hnc hct ⊢
      have Hx := hid_ hct
      clear hown
      have HPL : Hid ((putL l i i vs).length = n + m) := hid_ (by rw [putL, List.length_append, List.length_append, List.length_take, List.length_drop, hv.len]; omega)
      have hcd : (cur.drop o).length = cur.length - o := List.length_drop
      have hX : ((l.drop i).map (Value.int .i64)).length = n - i := by rw [List.length_map, List.length_drop]; omega
      obtain ⟨X, hXe⟩ : ∃ X, X = (l.drop i).map (Value.int .i64) := ⟨_, rfl⟩
      obtain ⟨V, hVe⟩ : ∃ V, V = vs.map (Value.int .i64) := ⟨_, rfl⟩
      have hV : V.length = m := by rw [hVe, List.length_map, hv.len]
      have hVc : ∀ w' : World, (∀ b, some g ≠ some b → b < w.heap.size → w'.heap[b]? = w.heap[b]?) → ∃ ad, A = some ad ∧ ∀ j u, V[j]? = some u → w'.cell? (ad.add j) = some u := fun w' hw' => by
        obtain ⟨b, off, rfl, hb, _⟩ := hv.cells 0 hm0
        refine ⟨_, rfl, ?_⟩
        rw [hVe]
        exact (hv.keep fun b' off' e => by injection e with e; injection e with e1 _; subst e1; exact hw' _ (hne _ _ rfl) hb).cellsIn
      have hcurX : ∀ w' : World, w'.heap[g]? = some (.cells cur.toArray 3 (0, 0)) → ∀ j u, X[j]? = some u → w'.cell? ((⟨g, o + i, none⟩ : Addr).add j) = some u := fun w' hw' j u hj => by
        have hjX : j < X.length := by
          rcases Nat.lt_or_ge j X.length with h | h
          · exact h
          · rw [List.getElem?_eq_none h] at hj; cases hj
        rw [hXe, hX] at hjX
        rw [add_at, row_cell hw', ← hj, hXe, List.map_drop, ← Hx.out, List.getElem?_drop, List.getElem?_take, if_pos (by omega), List.getElem?_drop, Nat.add_assoc]
      have hX' : X.length = n - i := by rw [hXe]; exact hX
      have hX1 : ∀ v ∈ X, v.oneCell' = true := by rw [hXe]; exact ints_one _
      have hV1 : ∀ v ∈ V, v.oneCell' = true := by rw [hVe]; exact ints_one _
      have HR : Hid ((cur.drop o).take i ++ V ++ X = (putL l i i vs).map (Value.int .i64)) := hid_ (by
        rw [putL, List.map_append, List.map_append, ← hVe, ← hXe]
        congr 2
        rw [List.map_take, ← Hx.out, List.take_take, Nat.min_eq_left hi])
      have HXe := hid_ hXe; have HVe := hid_ hVe
      clear hXe hVe hX hct
      have hw1 : IntKind.i64.wrap ((n : Int) + (m : Int)) = (n : Int) + m := IntWalk.i64_in _ (by omega)
      have hw2 : IntKind.i64.wrap ((i : Int) + (m : Int)) = (i : Int) + m := IntWalk.i64_in _ (by omega)
      have hw3 : ((i : Int) + (m : Int)).toNat = i + m := by omega
      have hw4 : ((n : Int) + (m : Int)).toNat = n + m := by omega
      have hw5 : (0 : Int) ≤ (i : Int) + m := by omega
      by_cases hcap : cap < n + m
      · obtain ⟨k, hk⟩ : ∃ k, n + m = i + k := ⟨n + m - i, by omega⟩
        have hold : (Builtin.firstCells i0.size i (.slice (some ⟨g, o, none⟩) i cap)).run Try.prog w.drew = .ok ((cur.drop o).take i).toArray w.drew := by
          rw [hz1]
          refine run_firstCells_some w.drew 1 i ⟨g, o, none⟩ i cap ((cur.drop o).take i) (by rw [List.length_take]; omega) (fun j v hj => ?_)
          rw [add_at]
          have := row_cell (w := w) hg3 (o + j)
          rw [List.getElem?_take] at hj
          split at hj
          · rw [List.getElem?_drop] at hj; exact this.trans hj
          · cases hj
        have hrz : ∀ ty, (Builtin.append_ #[26, 3] ty #[.slice (some ⟨g, o, none⟩) i cap, .int .i64 ((n : Int) + (m : Int) - (i : Int))]).run Try.prog w =
            .ok (.slice (some ⟨w.heap.size, 0, none⟩) (n + m) (grownCap w (n + m) cap 3)) (w.drew.alloc (.cells (((cur.drop o).take i).toArray ++ Builtin.zeroCells (Value.int .i64 0).cells k ++ Builtin.zeroCells (Value.int .i64 0).cells (grownCap w (n + m) cap 3 - (n + m))) 3)) := fun ty => by
          have h := Lib.run_append_grow_zeros w 26 3 ty 3 i0 _ .i64 .i64 Try.underlying26 Try.underlying3 hi0 hz0 (some ⟨g, o, none⟩) i cap ((cur.drop o).take i) hold k (by omega) (by omega) (by omega) (by omega) (by rw [hz2]; omega) (by rw [hz2, ← hk]; exact growslice_fits hcap (by omega))
          rw [← hk] at h
          rw [show (n : Int) + (m : Int) - (i : Int) = (k : Int) by omega]
          exact h
        have hGn : n + m ≤ grownCap w (n + m) cap 3 := grownCap_ge w _ _ _
        have hG63 : grownCap w (n + m) cap 3 ≤ 9223372036854775807 := by
          have := grownCap_le_maxLen w (n + m) cap 3 (by unfold maxLen; omega)
          unfold maxLen at this
          omega
        generalize grownCap w (n + m) cap 3 = G at hrz hGn hG63
        obtain ⟨ROW, hROW⟩ : ∃ ROW : List Value, ROW.toArray = ((cur.drop o).take i).toArray ++ Builtin.zeroCells (Value.int .i64 0).cells k ++ Builtin.zeroCells (Value.int .i64 0).cells (G - (n + m)) := ⟨_, Array.toArray_toList⟩
        have HRl : Hid (ROW.length = G ∧ ROW.take i = (cur.drop o).take i) := hid_ (by
          have h1 : ROW = (cur.drop o).take i ++ ((Builtin.zeroCells (Value.int .i64 0).cells k).toList ++ (Builtin.zeroCells (Value.int .i64 0).cells (G - (n + m))).toList) := by
            have := congrArg Array.toList hROW
            simpa using this
          have h2 : ((cur.drop o).take i).length = i := by rw [List.length_take]; omega
          refine ⟨?_, by rw [h1, List.take_left' h2]⟩
          rw [h1, List.length_append, h2, List.length_append]
          simp [Builtin.zeroCells, Value.cells]
          omega)
        rw [← hROW] at hrz
        obtain ⟨W1, hW1⟩ : ∃ W1, W1 = w.drew.alloc (.cells ROW.toArray 3) := ⟨_, rfl⟩
        rw [← hW1] at hrz
        have HW1 : Hid (W1.heap[w.heap.size]? = some (.cells ROW.toArray 3 (0, 0)) ∧ Below w.heap.size w W1) := hid_ (by
          rw [hW1]
          refine ⟨?_, ?_⟩
          · show (w.heap.push _)[w.heap.size]? = _
            simp
          · exact (Below.drew (Below.refl _ w)).alloc (Nat.le_refl _) _)
        have hXw : ∀ w', Below w.heap.size w w' → ∀ j u, X[j]? = some u → w'.cell? ((⟨g, o + i, none⟩ : Addr).add j) = some u := fun w' hw' => hcurX w' (by rw [hw'.block g hg2]; exact hg3)
        have hVw : ∀ w', Below w.heap.size w w' → ∃ ad, A = some ad ∧ ∀ j u, V[j]? = some u → w'.cell? (ad.add j) = some u := fun w' hw' => hVc w' (fun b _ hb => hw'.block b hb)
        have hc1 : ¬ cap = i := by omega
        have hc2 : ¬ G = i + m := by omega
        have hc3 : decide ((cap : Int) < (n : Int) + m) = true := by simp; omega
        have hc4 : ¬ G = i := by omega
        have hc5 : (i : Int) + m ≤ (n : Int) + m := by omega
        have hc6 : (i : Int) ≤ (n : Int) + m := by omega
        have hc7 : (i : Int) ≤ (n : Int) := by omega
        have hw6 : IntKind.i64.wrap ((n : Int) + (m : Int) - i) = (n : Int) + m - i := IntWalk.i64_in _ (by omega)
        have HX := hid_ hX'
        have HV := hid_ hV
        have Hmin2 : Hid (V.length = Nat.min m (n + m - i)) := hid_ (by rw [HV.out]; simp only [Nat.min_def]; split <;> omega)
        have Hfit2 : Hid (i + V.length ≤ ROW.length) := hid_ (by rw [HRl.out.1, HV.out]; omega)
        have Hl2 : Hid ((splice ROW i V).length = G) := hid_ (by rw [length_splice _ _ _ Hfit2.out, HRl.out.1])
        have Hmin : Hid (X.length = Nat.min (n - i) (n + m - (i + m))) := hid_ (by rw [HX.out]; simp only [Nat.min_def]; split <;> omega)
        have Hfit : Hid (i + m + X.length ≤ (splice ROW i V).length) := hid_ (by rw [HX.out, Hl2.out]; omega)
        have hVw1 := hVw W1 HW1.out.2
        have HXw := hid_ hXw
        have Hk := hid_ hk
        have HW := hid_ hW1
        clear hVw hXw hold hROW hcurX hVc hX' hV hcap hin2 hk hW1
        go_enter Try.func56, Try.ntmps56
        go_wp2_with (first
          | (at_builtin; refine Lib.wpList_append_run _ rfl (.tmp 34) (.tmp 39) _ _ rfl _ _ rfl rfl _ _ (hrz _) ?_)
          | (refine wpList_copy_splice rfl (.tmp 43) (.tmp 44) 26 26 rfl 3 Try.underlying26 Try.oneInt _ _ _ _ _ _ rfl rfl w.heap.size i ROW 3 HW1.out.1 V Hmin2.out (fun _ => ⟨rfl, hVw1⟩) Hfit2.out hV1 w.heap.size w HW1.out.2 (Nat.le_refl _) ?_; intro w2 hh2 hb2))
        have hXd := HXw.out w2.drew (Below.drew hb2)
        have Hd : Hid (Below w.heap.size w w2.drew) := hid_ (Below.drew hb2)
        go_region_law (refine step_copy_splice rfl (.tmp 50) (.tmp 53) 26 26 rfl 3 Try.underlying26 Try.oneInt (some ⟨w.heap.size, i + m, none⟩) (some ⟨g, o + i, none⟩) (n + m - (i + m)) (G - (i + m)) (n - i) (cap - i) (by simp [Act.eval, Act.put]) (by simp [Act.eval, Act.put]) w.heap.size (i + m) (splice ROW i V) 3 hh2.out X Hmin.out (fun _ => ⟨rfl, _, rfl, hXd⟩) Hfit.out hX1 w.heap.size w Hd.out (Nat.le_refl _) ?_; intro w3 hh3 hb3)
        go_wp2
        go_ret
        refine ⟨_, some w.heap.size, rfl, OwnS.of_own (own_close hB hh3.out (by rw [length_splice _ _ _ Hfit.out, Hl2.out]) hGn hG63 ?_), grown_of_below hb3 _, .inr ⟨_, rfl, Nat.le_refl _⟩⟩
        rw [← HR.out, ← HRl.out.2, show n + m = i + m + (n - i) by omega]
        exact splice_in' ROW X V HX.out HV.out (by rw [HRl.out.1]; omega)
      · have hc1 : ¬ cap = i := by omega
        have hc2 : ¬ cap = i + m := by omega
        have hc3 : decide ((cap : Int) < (n : Int) + m) = false := by simp; omega
        have hc4 : ((n : Int) + m) ≤ (cap : Int) := by omega
        have hc5 : (i : Int) + m ≤ (n : Int) + m := by omega
        have hc6 : (i : Int) ≤ (n : Int) + m := by omega
        have hov : ∀ lb cb, (callFunc 68 #[.slice A m c, .slice (some ⟨g, o + (i + m), none⟩) lb cb]).run Try.prog w = .ok (.value (.bool false)) w := fun lb cb => by
          obtain ⟨b, off, rfl, hb, _⟩ := hv.cells 0 hm0
          obtain ⟨T, k, hsh, hk0⟩ := ints_shape hv hm0
          have hlt := hne b off rfl
          exact overlaps_own (a := ⟨b, off, none⟩) (b := ⟨g, o + (i + m), none⟩) (by show b ≠ g; exact fun e => hlt (by rw [e])) hsh (row_shape hg3) hk0 (by omega) (.inr ⟨row_free hg3 _, row_free hg3 _⟩)
        clear hcap hin2
        go_enter Try.func56, Try.ntmps56
        go_wp2
        have HX := hid_ hX'
        have Hmin : Hid (X.length = Nat.min (n + m - i) (n + m - (i + m))) := hid_ (by rw [HX.out]; simp only [Nat.min_def]; split <;> omega)
        have Hfit : Hid (o + (i + m) + X.length ≤ cur.length) := hid_ (by rw [HX.out]; omega)
        have Hd : Hid (w.grownBy w.drew (some g)) := hid_ (grown_drew (grown_refl _ _))
        have HV := hid_ hV
        go_region_law (refine step_copy_row rfl (.tmp 73) (.tmp 76) 26 26 rfl 3 Try.underlying26 Try.oneInt (some ⟨g, o + (i + m), none⟩) (some ⟨g, o + i, none⟩) (n + m - (i + m)) (cap - (i + m)) (n + m - i) (cap - i) (by simp [Act.eval, Act.put]) (by simp [Act.eval, Act.put]) g (o + (i + m)) cur 3 hg3 X Hmin.out (fun _ => ⟨rfl, _, rfl, hcurX _ hg3⟩) Hfit.out hX1 w Hd.out ?_; intro w2 hh2 hb2)
        have Hl2 : Hid ((splice cur (o + (i + m)) X).length = cur.length) := hid_ (by rw [length_splice _ _ _ Hfit.out])
        have Hmin2 : Hid (V.length = Nat.min m (n + m - i)) := hid_ (by rw [HV.out]; simp only [Nat.min_def]; split <;> omega)
        have Hfit2 : Hid (o + i + V.length ≤ (splice cur (o + (i + m)) X).length) := hid_ (by rw [Hl2.out, HV.out]; omega)
        have hVw := hVc w2 (fun b hb hb' => hb2.block b hb' (fun e => hb e.symm))
        go_wp2_with (refine wpList_copy_row rfl (.tmp 80) (.tmp 81) 26 26 rfl 3 Try.underlying26 Try.oneInt _ _ _ _ _ _ rfl rfl g (o + i) (splice cur (o + (i + m)) X) 3 hh2.out V Hmin2.out (fun _ => ⟨rfl, hVw⟩) Hfit2.out hV1 w hb2 ?_; intro w3 hh3 hb3)
        go_ret
        refine ⟨_, some g, rfl, ⟨.inr ⟨g, o, cap, _, rfl, by rw [HPL.out]; rfl, hg1, Nat.lt_of_lt_of_le hg2 hb3.size, hh3.out, ?_, ?_, ?_, ?_⟩⟩, hb3, .inl rfl⟩
        · rw [length_splice _ _ _ Hfit2.out, Hl2.out]; exact hcl
        · rw [HPL.out]; omega
        · rw [length_splice _ _ _ Hfit2.out, Hl2.out]; exact hcm
        · rw [← HR.out, HPL.out, drop_splice _ _ (by rw [Hl2.out]; omega), drop_splice _ _ (by omega)]
          exact splice_in (cur.drop o) X V HX.out HV.out hi (by omega)
end Go.Proofs.Ytgpenbajhndhiaa
namespace Go.Proofs.Kv
open Go.RowKit Go
theorem OwnRw.other {E E1 : TypeId} {w w' : World} {B : Nat} {row : Option Nat} {v : Value} {us : List Value} {L : List (List Int)} (h : OwnRw E E1 w B v us L) (hg : w.grownBy w' row)
    (hne : ∀ g, row = some g → v.ownBlock ≠ some g ∧ ∀ u ∈ us, u.ownBlock ≠ some g) : OwnRw E E1 w' B v us L := by
  have key : ∀ x : Value, (∀ g, row = some g → x.ownBlock ≠ some g) → x.ownBlock = none ∨ x.ownBlock ≠ row := fun x hx => by
    rcases hq : x.ownBlock with _ | b
    · exact .inl rfl
    · exact .inr fun e => hx b e.symm hq
  refine ⟨h.ne, h.top.kept hg (key _ fun g e => (hne g e).1), fun i hi => ?_, h.apart⟩
  obtain ⟨u, e, ho⟩ := h.row i hi
  exact ⟨u, e, ho.kept hg (key _ fun g e2 => (hne g e2).2 u (List.mem_iff_getElem?.2 ⟨i, e⟩))⟩
end Go.Proofs.Kv
namespace Go.Proofs.Ytgpenbajhndhiaa
open Go.RowKit Go.Proofs.Kv Go

/-! ### the search: what holds at each round -/
theorem no_more {L : Lx} (g : GoodL L) {t : List Int} {lim : Int} {found : List Nat} (h0 : (wordsL L (fI found)).length = t.length) {j : Nat} : ¬ ∃ pre, cheap L t lim (pre ++ (j : Int) :: fI found) := by
  intro hc
  obtain ⟨hi, hle, -, -⟩ := reach_facts g (found := j :: found) (.inr hc)
  have hj : j < L.items.length := by
    obtain ⟨k, e, hk⟩ := itemsB_at hi (k := 0) (by simp [fI])
    have e : (j : Int) = (k : Int) := e
    omega
  have hcons : wordsL L (fI (j :: found)) = wordL L (j : Int) ++ wordsL L (fI found) := rfl
  have hw1 : 1 ≤ (wordL L (j : Int)).length := by rw [wordL_nat]; exact (g.word j hj).1
  rw [hcons, List.length_append] at hle
  omega
theorem not_item {L : Lx} (g : GoodL L) {t : List Int} {lim : Int} {found : List Nat} {j : Nat} (hj : L.items.length ≤ j) : ¬ ∃ pre, cheap L t lim (pre ++ (j : Int) :: fI found) := by
  intro hc
  obtain ⟨hi, -, -, -⟩ := reach_facts g (found := j :: found) (.inr hc)
  obtain ⟨k, e, hk⟩ := itemsB_at hi (k := 0) (by simp [fI])
  have e : (j : Int) = (k : Int) := e
  omega
theorem found_lt {L : Lx} (g : GoodL L) {found : List Nat} (hi : itemsB L (fI found) = true) : ∀ x ∈ found, x < 8 := by
  intro x hx
  obtain ⟨k, hk, e⟩ := List.mem_iff_getElem.1 hx
  obtain ⟨j, e2, hj⟩ := itemsB_at hi (k := k) (by simpa [fI] using hk)
  have := g.le
  have e3 : (fI found).getD k 0 = (x : Int) := by simp [fI, List.getD, hk, e]
  rw [e3] at e2
  omega
/-- the own rows of the search: the list of splits, and what is found -/
structure SpI (B : Nat) (v10 v11 : Value) (R : List (List Int)) (us : List Value) (found : List Nat) (gb : Option Nat) (wr : World) : Prop where
  O : OwnRw 26 3 wr B v10 us R
  S : OwnS 3 wr B gb v11 (fI found)
  ne : ∀ g, gb = some g → v10.ownBlock ≠ some g ∧ ∀ u ∈ us, u.ownBlock ≠ some g
theorem SpI.start (w2 : World) : SpI w2.heap.size (.slice none 0 0) (.slice none 0 0) [] [] [] none w2 :=
  ⟨OwnRw.nil _ _ (by decide), OwnS.none_ _ _ _, by simp⟩
theorem SpI.below {B : Nat} {v10 v11 : Value} {R : List (List Int)} {us : List Value} {found : List Nat} {gb : Option Nat} {wr w' : World}
    (h : SpI B v10 v11 R us found gb wr) (hb : Below wr.heap.size wr w') : SpI B v10 v11 R us found gb w' :=
  ⟨h.O.below hb (Nat.le_refl _), h.S.below hb (Nat.le_refl _), h.ne⟩
/-- an item more is put in front -/
theorem SpI.down {B : Nat} {w2 : World} (hB : B = w2.heap.size) {v10 v11 : Value} {R : List (List Int)} {us : List Value} {found : List Nat} {j : Nat} {gb : Option Nat} {wr w' : World} {e : Ending}
    (h : SpI B v10 v11 R us found gb wr) (hb : Below B w2 wr) (hI : InsPost 3 B gb ((j : Int) :: fI found) wr e w') :
    ∃ v' gb', e = .returned v' ∧ SpI B v10 v' R us (j :: found) gb' w' ∧ Below B w2 w' := by
  obtain ⟨v', gb', rfl, h1, h2, h3⟩ := hI
  refine ⟨v', gb', rfl, ⟨h.O.other h2 (fun g' hg' => h.ne g' hg'), h1, ?_⟩, ?_⟩
  · intro g' hg'
    rcases h3 with rfl | ⟨g2, rfl, hg2⟩
    · exact h.ne g' hg'
    · injection hg' with e; subst e
      refine ⟨fun e => ?_, fun u hu e => ?_⟩
      · have := (h.O.top.lt _ e).2; omega
      · obtain ⟨i, hi, e2⟩ := List.mem_iff_getElem.1 hu
        have := h.O.lt (i := i) (u := u) (by rw [List.getElem?_eq_getElem hi, e2]) _ e
        omega
  · exact hb.trans ⟨h2.os, h2.tape, h2.output, h2.size, fun k hk => h2.block k (Nat.lt_of_lt_of_le (by rw [← hB]; exact hk) hb.size) (fun e => by have := h.S.lt k e.symm; omega)⟩
/-- what is found is cut in front -/
theorem SpI.tail {B : Nat} {v10 v11 : Value} {R : List (List Int)} {us : List Value} {f : Nat} {rest : List Nat} {gb : Option Nat} {wr : World} (h : SpI B v10 v11 R us (f :: rest) gb wr) :
    ∃ g o c, v11 = .slice (some ⟨g, o, none⟩) (rest.length + 1) c ∧ gb = some g ∧ rest.length + 1 ≤ c ∧ wr.cell? ⟨g, o, none⟩ = some (.int .i64 (f : Int)) ∧
      SpI B v10 (.slice (if c = 1 then some ⟨g, o, none⟩ else some ⟨g, o + 1, none⟩) rest.length (c - 1)) R us rest gb wr := by
  rcases h.S.row with ⟨_, _, h0⟩ | ⟨g, o, c, cur, rfl, rfl, h3, h4, h5, h6, h7, h8, h9⟩
  · cases h0
  · rw [fI_len, List.length_cons] at h7
    refine ⟨g, o, c, by rw [fI_len, List.length_cons], rfl, h7, ?_, ⟨h.O, ?_, h.ne⟩⟩
    · rw [row_cell h5]
      have e := congrArg (fun t => t[0]?) h9
      simp only [List.getElem?_take, List.getElem?_drop, List.getElem?_map] at e
      simpa [fI] using e
    · have ht := h.S.tail (l := fI rest) (j := (f : Int))
      rw [fI_len, List.length_cons] at ht
      exact ht
/-- the list grows -/
theorem SpI.push {B : Nat} {v10 v11 v2 u : Value} {R : List (List Int)} {us : List Value} {found : List Nat} {gb : Option Nat} {wr w1 w2 : World} {r : List Int} {o : Obj} (hB : B ≤ wr.heap.size)
    (h : SpI B v10 v11 R us found gb wr) (hb1 : Below wr.heap.size wr w1) (hown1 : w1.ownsRow wr.heap.size 3 1 u r.length (r.map (Value.int .i64)))
    (hown2 : w2.ownsRow B 26 1 v2 (R.length + 1) (us ++ [u])) (hg2 : (w1.alloc o).grownBy w2 v10.ownBlock) (hat : v2.ownBlock = v10.ownBlock ∨ ∃ g, v2.ownBlock = some g ∧ wr.heap.size ≤ g) :
    SpI B v2 v11 (R ++ [r]) (us ++ [u]) found gb w2 := by
  have hS1 : OwnS 3 (w1.alloc o) B gb v11 (fI found) := (h.S.below hb1 (Nat.le_refl _)).below (below_alloc w1 o) (Nat.le_refl _)
  refine ⟨h.O.push hB hb1 hown1 hown2 hg2, hS1.grown hg2 (fun g e => (h.ne g e).1), fun g e => ⟨fun e2 => ?_, fun x hx e2 => ?_⟩⟩
  · rcases hat with e3 | ⟨g2, e3, h2⟩
    · exact (h.ne g e).1 (e3 ▸ e2)
    · rw [e3] at e2; injection e2 with e2
      have := (h.S.lt g e).2; omega
  · rcases List.mem_append.1 hx with hx | hx
    · exact (h.ne g e).2 x hx e2
    · rw [List.mem_singleton.1 hx] at e2
      have := (hown1.lt g e2).1
      have := (h.S.lt g e).2; omega
end Go.Proofs.Ytgpenbajhndhiaa
namespace Go.Proofs.Ytgpenbajhndhiaa
open Go.RowKit Go.Proofs.Kv Go

/-! ### splits that cost less than a limit, of the program -/
def SplPost (L : Lx) (t : List Int) (lim : Int) (most : Nat) (w : World) (e : Ending) (w' : World) : Prop := ∃ (v : Value) (R : List (List Int)) (B : Nat), e = .returned v ∧ w.heap.size ≤ B ∧ OwnL 26 w' B v (R.mergeSort leL) ∧ Below w.heap.size w w' ∧
  R.Nodup ∧ (∀ s ∈ R, cheap L t lim s) ∧ R.length ≤ most ∧ (R.length = most ∨ ∀ s, cheap L t lim s → s ∈ R)
theorem ownL_of {w : World} {B : Nat} {v : Value} {us : List Value} {R : List (List Int)} (h : OwnRw 26 3 w B v us R) : OwnL 26 w B v R := by
  refine ⟨us, h.top, fun i hi => ?_⟩
  obtain ⟨u, e, ho⟩ := h.row i hi
  obtain ⟨a, c, rfl, hI⟩ := IntsAt.own ho
  exact ⟨a, _, c, e, hI, fun b off h0 ea => by subst ea; exact fun q => h.diff e b rfl q⟩
theorem spl_endG {B : Nat} {v10 v11 : Value} {R : List (List Int)} {us : List Value} {found : List Nat} {gb : Option Nat} {L : Lx} {t : List Int} {lim : Int} {most : Nat} {w wr : World} (h : SpI B v10 v11 R us found gb wr) (hnd : R.Nodup) (hsub : ∀ s ∈ R, cheap L t lim s) (hle : R.length ≤ most)
    (hB : w.heap.size ≤ B) (hBr : B ≤ wr.heap.size) (hb : Below w.heap.size w wr) (hend : R.length = most ∨ ∀ s, cheap L t lim s → s ∈ R) (h0 : 0 < R.length) (hm : most ≤ 100000) :
    Calls Try.prog 57 #[v10, .func (.func 58) #[] #[]] wr fun e w' => e = .returned (.tuple #[]) ∧ SplPost L t lim most w (.returned v10) w' :=
  (sortLists_calls (ownL_of h.O) h0 (by omega) hBr).mono fun e w' ⟨h1, h2, h3⟩ => ⟨h1, _, R, B, rfl, hB, h2, hb.trans (h3.mono hB), hnd, hsub, hle, hend⟩
/-- the empty text: the one split is that without items -/
theorem DInv.none {L : Lx} (g : GoodL L) {t : List Int} {lim : Int} {next : Nat} {R : List (List Int)} (h : DInv L t lim [] next R) (ht : t.length = 0) (hlim : 0 < lim) : R = [] ∧ (∀ s, cheap L t lim s ↔ s = []) := by
  obtain rfl := List.length_eq_zero_iff.1 ht
  have hz : next = 0 := h.zero rfl
  subst hz
  have h1 : ∀ s, cheap L [] lim s ↔ s = [] := fun s => by
    constructor
    · intro hs
      have h2 := itemsB_len g s.length rfl hs.1.1
      rw [hs.1.2.1] at h2
      exact List.length_eq_zero_iff.1 (by simpa using h2)
    · rintro rfl
      exact ⟨⟨rfl, rfl, rfl⟩, hlim⟩
  refine ⟨?_, h1⟩
  cases R with
  | nil => rfl
  | cons s R =>
    obtain ⟨h2, h3⟩ := (h.iff s).1 (by simp)
    exact absurd (.inl ⟨rfl, (h1 s).1 h2⟩) h3
theorem spl_end {B : Nat} {v10 v11 : Value} {R : List (List Int)} {us : List Value} {found : List Nat} {gb : Option Nat} {L : Lx} {t : List Int} {lim : Int} {most next : Nat} {w wr : World} (h : SpI B v10 v11 R us found gb wr) (hD : DInv L t lim found next R) (hle : R.length ≤ most)
    (hB : w.heap.size ≤ B) (hBr : B ≤ wr.heap.size) (hb : Below w.heap.size w wr) (hend : R.length = most ∨ ∀ s, cheap L t lim s → s ∈ R) (h0 : 0 < R.length) (hm : most ≤ 100000) :
    Calls Try.prog 57 #[v10, .func (.func 58) #[] #[]] wr fun e w' => e = .returned (.tuple #[]) ∧ SplPost L t lim most w (.returned v10) w' :=
  (sortLists_calls (ownL_of h.O) h0 (by omega) hBr).mono fun e w' ⟨h1, h2, h3⟩ => ⟨h1, _, R, B, rfl, hB, h2, hb.trans (h3.mono hB), hD.nodup, hD.sub, hle, hend⟩
theorem no_more_int {L : Lx} (g : GoodL L) {t : List Int} {lim : Int} {found : List Nat} (h0 : (wordsL L (fI found)).length = t.length) (i : Int) : ¬ ∃ pre, cheap L t lim (pre ++ i :: fI found) := by
  rintro ⟨pre, hc⟩
  obtain ⟨k, e, hk⟩ := itemsB_at hc.1.1 (k := pre.length) (by simp)
  have e2 : (pre ++ i :: fI found).getD pre.length 0 = i := by simp [List.getD]
  rw [e2] at e; subst e
  exact no_more g h0 ⟨pre, hc⟩
theorem ins0 {B : Nat} {gb : Option Nat} {v : Value} {l : List Int} {k : Int} {wq : World} (h : OwnS 3 wq B gb v l) (hB : B ≤ wq.heap.size) (hl : l.length ≤ 1000) :
    Calls Try.prog 56 #[v, .int .i64 0, .slice (some ⟨wq.heap.size, 0, none⟩) 1 1] (wq.alloc (.cells #[.int .i64 k] 3)) fun e w' => InsPost 3 B gb (k :: l) (wq.alloc (.cells #[.int .i64 k] 3)) e w' := by
  have h1 := insertO_calls (i := 0) (m := 1) (c := 1) (vs := [k]) (A := some ⟨wq.heap.size, 0, none⟩) (h.below (below_alloc wq (.cells #[.int .i64 k] 3)) (Nat.le_refl _)) rfl (by simp; omega) (Nat.zero_le _) (IntsAt.one _ _ _) (by omega) (fun b off e e2 => by
    injection e with e; injection e with e1 e3
    have := (h.lt b e2).2; omega) (by omega)
  simpa [putL] using h1
theorem costBh_le {L : Lx} (g : GoodL L) {j : Nat} (hj : j < L.items.length) {found : List Nat} (hi : itemsB L (fI found) = true) (hn : found.length ≤ 100) : 0 ≤ costBh L j found ∧ costBh L j found ≤ 100000 := by
  have hij := cons_items hj hi
  refine ⟨costBh_pos g hij, ?_⟩
  unfold costBh
  split
  · rename_i hok
    have h1 := sumK_in g hij ((j : Int) :: fI found).length (Nat.le_refl _) (fun k hk => okF_at hok hk)
    have h2 : sumC L ((j : Int) :: fI found) = sumK L ((j : Int) :: fI found) ((j : Int) :: fI found).length := rfl
    have h3 : 0 ≤ costI L (j : Int) := by rw [costI, Int.toNat_natCast]; exact (g.cost j hj).1
    rw [List.length_cons, fI_len] at h1 h2
    omega
  · omega
set_option maxRecDepth 100000 in
set_option maxHeartbeats 4000000 in
theorem splits_calls (v : Value) (L : Lx) (a : Option Addr) (n c : Nat) (t : List Int) (lim : Int) (most : Nat) (w : World) (h : LexAt w v L) (ht : IntsAt w a n c t) (g : GoodL L) (hn : n ≤ 12) (hl0 : 0 < lim) (hl1 : lim ≤ 100000)
    (hm1 : 1 ≤ most) (hm2 : most ≤ 100000) (hsome : ∃ s, cheap L t lim s) :
    Calls Try.prog 31 #[v, .slice a n c, .int .i64 lim, .int .i64 (most : Int)] w fun e w' => SplPost L t lim most w e w' := by
  have HP := hid_ h
  obtain ⟨a1, n1, c1, a2, n2, c2, rfl, h1, h2⟩ := h
  obtain ⟨w1, hw1⟩ : ∃ w1, w.alloc (.cells #[.slice a1 n1 c1, .slice a2 n2 c2] 25) = w1 := ⟨_, rfl⟩
  have cb : Below w.heap.size w w1 := by rw [← hw1]; exact below_alloc _ _
  have q0 : w1.cell? ⟨w.heap.size, 0, none⟩ = some (.slice a1 n1 c1) := by rw [← hw1]; exact cells_alloc _ _ _ 0
  have q1 : w1.cell? ⟨w.heap.size, 1, none⟩ = some (.slice a2 n2 c2) := by rw [← hw1]; exact cells_alloc _ _ _ 1
  have HP1 := hid_ (HP.out.below cb (Nat.le_refl _)); have Hc1 := hid_ cb
  have HE := hid_ (endings_calls _ L a n c t w1 HP1.out (ht.below cb (Nat.le_refl _)) g hn)
  have HQ := hid_ (fun W (hW : Below w1.heap.size w1 W) => (⟨cell_below q0 hW, cell_below q1 hW⟩ : _ ∧ _))
  have HLx := hid_ (fun W (hW : Below w1.heap.size w1 W) => HP1.out.below hW (Nat.le_refl _))
  have Hsome := hid_ hsome
  have Htl := hid_ ht.len
  have hil : n1 = L.items.length := h1.len.symm
  have Hil := hid_ hil
  clear h1 h2 HP HP1 cb ht hsome hil
  go_enter Try.func31, Try.ntmps31
  go_wp2_with fail
  refine wp_scope_straight ?_
  go_wp2_with (go_at_call 28; (with_reducible refine HE.out.mono ?_); rintro e w2 ⟨tb, rfl, hTb, hb2⟩; have HTb := hid_ hTb; clear hTb)
  go_step3
  simp only [Exit.then]
  rename_i K hK
  refine hK _ _ ?_
  go_wp2_with fail
  go_loopg [10, 11, 12] (mesN [] 0) (fun m v10 v11 v12 wr => ∃ R us found next gb, v12 = .int .i64 ((next : Nat) : Int) ∧ SpI w2.heap.size v10 v11 R us found gb wr ∧ Below w2.heap.size w2 wr ∧ DInv L t lim found next R ∧ R.length ≤ most ∧ m = mesN found next)
  case atStart => exact ⟨_, _, _, _, _, rfl, SpI.start w2, Below.refl _ _, DInv.start L t lim, Nat.zero_le _, rfl⟩
  case round =>
    rename World => wo
    obtain ⟨R, us, found, next, gb, rfl, hI, hb, hD, hle, rfl⟩ := hrel
    obtain ⟨a10, c10, rfl⟩ := own_sliceV hI.O.top
    obtain ⟨r1, r2, r3, r4⟩ := reach_facts g hD.reach
    have htl := Htl.out
    obtain ⟨a11, c11, e11, hI11⟩ := hI.S.ints (by rw [fI_len]; omega)
    rw [fI_len] at e11 hI11
    subst e11
    have Hbr : Hid (Below w1.heap.size w1 wo) := hid_ (hb2.trans (hb.mono hb2.size))
    obtain ⟨q0r, q1r⟩ := HQ.out wo Hbr.out
    obtain ⟨nR, hnR⟩ : ∃ nR, R.length = nR := ⟨_, rfl⟩
    rw [hnR] at hle
    rw [hnR] at hI
    have HD := hid_ hD; have Hb := hid_ hb; have HnR := hid_ hnR
    rw [hnR]
    by_cases hmost : nR < most
    · have hdm : (nR : Int) < (most : Int) := by omega
      have hnI := hI11.small
      have HW := hid_ (tawords_calls _ L _ _ _ (fI found) wo (HLx.out wo Hbr.out) hI11 g r1 (by omega))
      obtain ⟨wl, hwl⟩ : ∃ wl, (wordsL L (fI found)).length = wl := ⟨_, rfl⟩
      obtain ⟨fl, hfl⟩ : ∃ fl, found.length = fl := ⟨_, rfl⟩
      rw [htl] at r2
      rw [hwl] at r2 r4
      rw [hfl] at r4 hI11 HW hI
      have HI := hid_ hI
      rw [hfl]
      obtain ⟨p, hp⟩ : ∃ p, n - wl = p := ⟨_, rfl⟩
      have hpn : (p : Int) < (n : Int) + 1 := by omega
      have hpn2 : p < n + 1 := by omega
      have hwp : IntKind.i64.wrap ((n : Int) - (wl : Int)) = ((p : Nat) : Int) := by rw [IntKind.wrap_i64]; omega
      have Hnl := hid_ hD.le
      rw [← Hil.out] at Hnl
      by_cases h0 : wl = n
      · obtain rfl : p = 0 := by omega
        obtain ⟨i1, hi1, hz0', hz1', hz2'⟩ := info_parts Try.infoInts
        have Hp := hid_ hp
        have Hr1 := hid_ r1
        have Hwl := hid_ hwl; have Hfl := hid_ hfl
        have HI11 := hid_ hI11
        have HCl := hid_ (fun W (hW : Below wo.heap.size wo W) => clone_calls a11 fl c11 (fI found) W (HI11.out.below hW (Nat.le_refl _)) (by omega))
        have H0 := hid_ h0
        clear hI hD hb hnR r3 hwl hfl r1 hI11 htl hp
        go_wp2_with (first
          | (go_at_call 38; (with_reducible refine HW.out.mono ?_); rintro e w4 ⟨v4, rfl, hm4⟩; obtain ⟨a4, c4, rfl, hi4⟩ := hm4.at_; rw [Hwl.out]; have hb4 := hm4.bel; have Hb4 := hid_ hb4; clear hm4 hi4)
          | (go_at_call 54; (with_reducible refine (HCl.out _ hb4).mono ?_); rintro e w5 ⟨v5, rfl, hm5⟩; obtain ⟨a5, c5, rfl, hi5⟩ := hm5.at_; have Hm5 := hid_ hm5; rw [fI_len, Hfl.out]; have htx := (HI.out.below (Hb4.out.trans (hm5.bel.mono Hb4.out.size))).O.top; rw [HnR.out] at htx; have hzx : w2.heap.size ≤ w5.heap.size := Nat.le_trans Hb.out.size (Nat.le_trans Hb4.out.size hm5.bel.size); clear hm5 hi5 hb4)
          | (at_builtin; refine wpList_push_val2 _ rfl (.tmp 31) (.tmp 34) _ rfl w2.heap.size 26 i1 Try.underlying23 hi1 hz0' rfl hz1' hz2' (by omega) _ _ _ rfl htx (.slice a5 fl c5) rfl 26 rfl (by omega) hzx ?_; intro v6 w6 hown6 hg6 hat6; obtain ⟨a6, c6, e6⟩ := own_sliceV hown6; subst e6))
        have hb45 := Hm5.out.bel
        have hown5 : w5.ownsRow w4.heap.size 3 1 (.slice a5 fl c5) (fI found).length ((fI found).map (Value.int .i64)) := by
          have h9 := Hm5.out.own
          rw [show (Value.slice a5 (fI found).length c5) = .slice a5 fl c5 by rw [fI_len, Hfl.out]] at h9
          exact h9
        have hI4 := HI.out.below Hb4.out
        have hB4 : w2.heap.size ≤ w4.heap.size := Nat.le_trans Hb.out.size Hb4.out.size
        have h24 : Below w2.heap.size w2 w4 := Hb.out.trans (Hb4.out.mono Hb.out.size)
        have h25 : Below w2.heap.size w2 w5 := h24.trans (hb45.mono hB4)
        have h2a : Below w2.heap.size w2 (w5.alloc (.cells #[.slice a5 fl c5] 26)) := h25.trans ((below_alloc w5 _).mono h25.size)
        have HI6 := hid_ (SpI.push hB4 hI4 hb45 hown5 (by rw [HnR.out]; exact hown6) hg6 (hat6.imp id fun h9 => ⟨_, h9, by have := hb45.size; omega⟩))
        have Hb6 := hid_ (h2a.grown hg6 h2a.size (fun q hq => ((hI4.O.top).lt q hq).1))
        have HD6 := hid_ (fun f rest (e : found = f :: rest) (hno : ∀ i : Int, ¬ ∃ pre, cheap L t lim (pre ++ i :: fI (f :: rest))) => by
          show DInv L t lim rest (f + 1) (R ++ [fI (f :: rest)])
          have hd := HD.out
          have hw9 : (wordsL L (fI found)).length = t.length := by rw [Hwl.out, Htl.out]; exact H0.out
          rw [e] at hd hw9
          exact hd.put g hw9 hl0 hno)
        have Hno := hid_ (fun j : Int => no_more_int (lim := lim) g (show (wordsL L (fI found)).length = t.length by rw [Hwl.out, Htl.out]; exact H0.out) j)
        clear hI4 hown5 hown6 hg6 hat6 htx hb45 h24 h25 h2a h0
        go_loopw [11, 14] (fun fo j wr => ∃ k : Nat, fo = .slice a11 fl c11 ∧ j = .int .i64 (k : Int) ∧ k ≤ n1 ∧ Below w6.heap.size w6 wr) (fun _ j _ => n1 - (intOf j).toNat)
        case atStart => exact ⟨next, rfl, rfl, Hnl.out, Below.refl _ _⟩
        case round =>
          obtain ⟨k, rfl, rfl, hk2, hbj⟩ := hrel
          have H2j : Hid (Below w2.heap.size w2 wr) := hid_ (Hb6.out.trans (hbj.mono Hb6.out.size))
          have H1j : Hid (Below w1.heap.size w1 wr) := hid_ (hb2.trans (H2j.out.mono hb2.size))
          obtain ⟨q0j, q1j⟩ := HQ.out wr H1j.out
          have Hbj := hid_ hbj
          have HIr := hid_ (HI6.out.below hbj)
          have HIi : Hid (IntsAt wr a11 fl c11 (fI found)) := hid_ (by
            obtain ⟨a9, c9, e9, h9⟩ := HIr.out.S.ints (by rw [fI_len, Hfl.out]; omega)
            injection e9 with e1 e2 e3
            rw [fI_len, Hfl.out] at h9
            rw [e1, e3]; exact h9)
          have hn8 : n1 ≤ 8 := by rw [Hil.out]; exact g.le
          have hwk : IntKind.i64.wrap ((k : Int) + 1) = (k : Int) + 1 := IntWalk.i64_in _ (by omega)
          by_cases hk : k < n1
          · have hkL : k < L.items.length := by rw [← Hil.out]; exact hk
            have htest := test_iff g (by rw [Htl.out]; exact hn) hl1 HD.out.reach hkL
            rw [Hwl.out, Htl.out, Hp.out] at htest
            obtain ⟨b, hc0, hc1, hc2, hcs⟩ := (HTb.out.below H2j.out (Nat.le_refl _)) 0 hpn2
            obtain ⟨-, cB, -, -⟩ := hcs k hkL
            rw [← Hil.out] at hc0
            have cB : wr.cell? ⟨b, k * 2 + 1, none⟩ = some (.int .i64 (lstS L t 0 k)) := cB
            have hls := lstS_in g (by rw [Htl.out]; exact hn) (i := 0) (j := k) (by omega) hkL
            have hcb := costBh_le g hkL Hr1.out (by rw [Hfl.out]; omega)
            have HC := hid_ (fun d os => costBh_calls _ L k a11 fl c11 found (Go.Sort.grow (redrawn wr d) os) (HLx.out _ (H1j.out.trans ((below_regrown wr d os).mono H1j.out.size))) (HIi.out.below (below_regrown wr d os) (Nat.le_refl _)) g Hr1.out hkL (by omega))
            obtain ⟨hs1, hs2, -, -⟩ := hls
            generalize lstS L t 0 k = ls at *
            generalize costBh L k found = cbk at *
            have hwr : IntKind.i64.wrap (ls + cbk) = ls + cbk := IntWalk.i64_in _ (by omega)
            have gA := cell_regrown q0j; have gB := cell_regrown q1j; have gC := cell_regrown hc0; have gD := cell_regrown cB
            have hlt : ¬ ls + cbk < lim := fun h9 => Hno.out k (htest.1 h9)
            clear htest hbj hs1 hs2 hcb
            go_wp2
            refine wp_region_quiet_below (by kernel_rfl) (by kernel_rfl) ?_
            repeat (first | go_big_quiet_skip | (go_big_quiet_want; go_big_quiet_op; first | go_big_quiet_on | go_big_quiet_call ((go_at_call 55; with_reducible exact Calls.regrown_of (HC.out _ _)))))
            refine wpQuiet_nil ?_
            rintro wq ⟨pq, hpq⟩
            have hbq := below_wq hpq
            have Hjq := hid_ hbq
            clear hpq hbq gA gB gC gD
            go_wp2
            go_roundw
            case rel => exact ⟨k + 1, rfl, by go_num, by omega, Hbj.out.trans (Hjq.out.mono Hbj.out.size)⟩
            case measure => simp [intOf]; omega
          · have hdk : ¬ (k : Int) < (n1 : Int) := by omega
            clear hbj
            cases found with
            | nil =>
              obtain rfl : fl = 0 := by have := Hfl.out; simpa using this.symm
              obtain ⟨hR0, hck⟩ := HD.out.none g (by rw [Htl.out, ← H0.out]; exact Hwl.out.symm) hl0
              have HS := hid_ (spl_endG (L := L) (t := t) (lim := lim) (most := most) (w := w) HIr.out (by rw [hR0]; simp) (fun s hs => by rw [hR0] at hs; exact (hck s).2 (by simpa [fI] using hs)) (by rw [hR0]; simpa using hm1) (Nat.le_trans Hc1.out.size hb2.size) H2j.out.size (Hc1.out.trans (H1j.out.mono Hc1.out.size)) (.inr fun s hs => by rw [(hck s).1 hs]; simp [fI]) (by simp) hm2)
              clear hR0 hck
              go_wp2_with (go_at_call 57; (with_reducible refine HS.out.mono ?_); rintro e w8 ⟨rfl, hp⟩)
              simp only [Exit.noGoto]
              go_ret
              exact hp
            | cons f rest =>
              obtain ⟨gg, o, c, e1, rfl, hcl, hcf, hT⟩ := HIr.out.tail
              injection e1 with e1 e2 e3
              subst e1; subst e2; subst e3
              have hf8 := found_lt g Hr1.out f (by simp)
              have hwf : IntKind.i64.wrap ((f : Int) + 1) = (f : Int) + 1 := IntWalk.i64_in _ (by omega)
              have HT := hid_ hT
              have gE := cell_regrown hcf
              have hfz : (((rest.length + 1 : Nat) : Int) == 0) = false := by simp; omega
              have HD7 := hid_ (HD6.out f rest rfl (fun i => Hno.out i))
              clear hT
              by_cases hc1 : c11 = 1
              · go_wp2
                go_quiet (fail)
                go_wp2
                go_roundg (mesN rest (f + 1))
                case rel => exact ⟨_, _, rest, f + 1, some gg, by go_num, by have h9 := HT.out.below (below_drewN (Below.refl _ wr) nq); simpa [hc1, HnR.out] using h9, H2j.out.trans ((below_drewN (Below.refl _ wr) nq).mono H2j.out.size), HD7.out, by rw [List.length_append, HnR.out]; simp; omega, rfl⟩
                case measure => exact mes_up (by have := hn; have := r4; omega) (found_lt g Hr1.out) (by have := Hnl.out; omega)
              · go_wp2
                go_quiet (fail)
                go_wp2
                go_roundg (mesN rest (f + 1))
                case rel => exact ⟨_, _, rest, f + 1, some gg, by go_num, by have h9 := HT.out.below (below_drewN (Below.refl _ wr) nq); simpa [hc1, HnR.out] using h9, H2j.out.trans ((below_drewN (Below.refl _ wr) nq).mono H2j.out.size), HD7.out, by rw [List.length_append, HnR.out]; simp; omega, rfl⟩
                case measure => exact mes_up (by have := hn; have := r4; omega) (found_lt g Hr1.out) (by have := Hnl.out; omega)
      · have hpz : ((p : Int) == 0) = false := by simp; omega
        have Hp := hid_ hp
        have Hr1 := hid_ r1
        have Hwl := hid_ hwl; have Hfl := hid_ hfl
        have HI11 := hid_ hI11
        clear hI hD hb hnR r3 hwl hfl r1 hI11 htl hp
        go_wp2_with (go_at_call 38; (with_reducible refine HW.out.mono ?_); rintro e w4 ⟨v4, rfl, hm4⟩; obtain ⟨a4, c4, rfl, hi4⟩ := hm4.at_; rw [Hwl.out]; have hb4 := hid_ hm4.bel; clear hm4 hi4)
        go_loopw [11, 14] (fun fo j wr => ∃ k : Nat, fo = .slice a11 fl c11 ∧ j = .int .i64 (k : Int) ∧ next ≤ k ∧ k ≤ n1 ∧ (∀ i, next ≤ i → i < k → ¬ ∃ pre, cheap L t lim (pre ++ (i : Int) :: fI found)) ∧ Below w4.heap.size w4 wr) (fun _ j _ => n1 - (intOf j).toNat)
        case atStart => exact ⟨next, rfl, rfl, Nat.le_refl _, Hnl.out, fun i h1 h2 => absurd h2 (by omega), Below.refl _ _⟩
        case round =>
          obtain ⟨k, rfl, rfl, hk1, hk2, hno, hbj⟩ := hrel
          have Hrj : Hid (Below wo.heap.size wo wr) := hid_ (hb4.out.trans (hbj.mono hb4.out.size))
          have H1j : Hid (Below w1.heap.size w1 wr) := hid_ (Hbr.out.trans (Hrj.out.mono Hbr.out.size))
          have H2j : Hid (Below w2.heap.size w2 wr) := hid_ (Hb.out.trans (Hrj.out.mono Hb.out.size))
          obtain ⟨q0j, q1j⟩ := HQ.out wr H1j.out
          have Hno := hid_ hno; have Hbj := hid_ hbj
          have hn8 : n1 ≤ 8 := by rw [Hil.out]; exact g.le
          have hwk : IntKind.i64.wrap ((k : Int) + 1) = (k : Int) + 1 := IntWalk.i64_in _ (by omega)
          by_cases hk : k < n1
          · have hkL : k < L.items.length := by rw [← Hil.out]; exact hk
            have htest := test_iff g (by rw [Htl.out]; exact hn) hl1 HD.out.reach hkL
            rw [Hwl.out, Htl.out, Hp.out] at htest
            obtain ⟨b, hc0, hc1, hc2, hcs⟩ := (HTb.out.below H2j.out (Nat.le_refl _)) p hpn2
            obtain ⟨-, cB, -, -⟩ := hcs k hkL
            rw [← Hil.out] at hc0
            have cB : wr.cell? ⟨b, k * 2 + 1, none⟩ = some (.int .i64 (lstS L t p k)) := cB
            have hls := lstS_in g (by rw [Htl.out]; exact hn) (i := p) (j := k) (by rw [Htl.out]; omega) hkL
            have hcb := costBh_le g hkL Hr1.out (by rw [Hfl.out]; omega)
            have HC := hid_ (fun d os => costBh_calls _ L k a11 fl c11 found (Go.Sort.grow (redrawn wr d) os) (HLx.out _ (H1j.out.trans ((below_regrown wr d os).mono H1j.out.size))) ((HI11.out.below Hrj.out (Nat.le_refl _)).below (below_regrown wr d os) (Nat.le_refl _)) g Hr1.out hkL (by omega))
            obtain ⟨hs1, hs2, -, -⟩ := hls
            generalize lstS L t p k = ls at *
            generalize costBh L k found = cbk at *
            have hwr : IntKind.i64.wrap (ls + cbk) = ls + cbk := IntWalk.i64_in _ (by omega)
            have gA := cell_regrown q0j; have gB := cell_regrown q1j; have gC := cell_regrown hc0; have gD := cell_regrown cB
            have Htest := hid_ htest
            by_cases hlt : ls + cbk < lim
            · clear htest hno hbj hs1 hs2 hcb
              go_wp2
              refine wp_region_quiet_below (by kernel_rfl) (by kernel_rfl) ?_
              repeat (first | go_big_quiet_skip | (go_big_quiet_want; go_big_quiet_op; first | go_big_quiet_on | go_big_quiet_call ((go_at_call 55; with_reducible exact Calls.regrown_of (HC.out _ _)))))
              refine wpQuiet_nil ?_
              rintro wq ⟨pq, hpq⟩
              have hbq := below_wq hpq
              have HIq := hid_ ((HI.out.below Hrj.out).below hbq)
              have hzq : w2.heap.size ≤ wq.heap.size := Nat.le_trans H2j.out.size hbq.size
              have HIn := hid_ (ins0 (k := (k : Int)) HIq.out.S hzq (by rw [fI_len, Hfl.out]; omega))
              have Hb2q := hid_ ((H2j.out.trans (hbq.mono H2j.out.size)).trans ((below_alloc wq (.cells #[.int .i64 (k : Int)] 3)).mono hzq))
              have HIa := hid_ (HIq.out.below (below_alloc wq (.cells #[.int .i64 (k : Int)] 3)))
              clear hpq hbq gA gB gC gD
              go_wp2_with (go_at_call 56; (with_reducible refine HIn.out.mono ?_); rintro e w7 hI7; obtain ⟨v7, gb7, rfl, hJ7, hb7⟩ := SpI.down rfl HIa.out Hb2q.out hI7; have HJ7 := hid_ hJ7; clear hI7 hJ7)
              go_roundg (mesN (k :: found) 0)
              case rel => exact ⟨R, us, k :: found, 0, gb7, rfl, HJ7.out, hb7, HD.out.down (by rw [Hwl.out, Htl.out]; exact h0) hk1 (Htest.out.1 hlt) Hno.out, by rw [HnR.out]; exact hle, rfl⟩
              case measure => exact mes_down (by rw [Hfl.out]; omega) (found_lt g Hr1.out) hk1 (by omega)
            · clear htest hno hbj hs1 hs2 hcb
              go_wp2
              refine wp_region_quiet_below (by kernel_rfl) (by kernel_rfl) ?_
              repeat (first | go_big_quiet_skip | (go_big_quiet_want; go_big_quiet_op; first | go_big_quiet_on | go_big_quiet_call ((go_at_call 55; with_reducible exact Calls.regrown_of (HC.out _ _)))))
              refine wpQuiet_nil ?_
              rintro wq ⟨pq, hpq⟩
              have hbq := below_wq hpq
              have Hjq := hid_ hbq
              clear hpq hbq gA gB gC gD
              go_wp2
              go_roundw
              case rel => exact ⟨k + 1, rfl, by go_num, by omega, by omega, fun i h1 h2 => by
                rcases Nat.lt_or_ge i k with h3 | h3
                · exact Hno.out i h1 h3
                · obtain rfl : i = k := by omega
                  exact fun hc => absurd (Htest.out.2 hc) (by omega), Hbj.out.trans (Hjq.out.mono Hbj.out.size)⟩
              case measure => simp [intOf]; omega
          · have hdk : ¬ (k : Int) < (n1 : Int) := by omega
            have Hall := hid_ (fun i (h1 : next ≤ i) => show ¬ ∃ pre, cheap L t lim (pre ++ (i : Int) :: fI found) from by
              rcases Nat.lt_or_ge i k with h3 | h3
              · exact Hno.out i h1 h3
              · exact not_item g (by rw [← Hil.out]; omega))
            clear hno hbj
            cases found with
            | nil =>
              obtain rfl : fl = 0 := by have := Hfl.out; simpa using this.symm
              have hmem := HD.out.all (by rw [Htl.out]; omega) Hall.out
              have h0R : 0 < R.length := by
                obtain ⟨s, hs⟩ := Hsome.out
                exact List.length_pos_of_mem (hmem s hs)
              have HS := hid_ (spl_end (most := most) (w := w) (HI.out.below Hrj.out) HD.out (by rw [HnR.out]; exact hle) (Nat.le_trans Hc1.out.size hb2.size) H2j.out.size (Hc1.out.trans (H1j.out.mono Hc1.out.size)) (.inr hmem) h0R hm2)
              clear hmem h0R
              go_wp2_with (go_at_call 57; (with_reducible refine HS.out.mono ?_); rintro e w8 ⟨rfl, hp⟩)
              simp only [Exit.noGoto]
              go_ret
              exact hp
            | cons f rest =>
              obtain ⟨gg, o, c, e1, rfl, hcl, hcf, hT⟩ := (HI.out.below Hrj.out).tail
              injection e1 with e1 e2 e3
              subst e1; subst e2; subst e3
              have hf8 := found_lt g Hr1.out f (by simp)
              have hwf : IntKind.i64.wrap ((f : Int) + 1) = (f : Int) + 1 := IntWalk.i64_in _ (by omega)
              have HT := hid_ hT
              have gE := cell_regrown hcf
              have hfz : (((rest.length + 1 : Nat) : Int) == 0) = false := by simp; omega
              clear hT
              by_cases hc1 : c11 = 1
              · go_wp2
                go_quiet (fail)
                go_wp2
                go_roundg (mesN rest (f + 1))
                case rel => exact ⟨R, us, rest, f + 1, some gg, by go_num, by have h9 := HT.out.below (below_drewN (Below.refl _ wr) nq); simpa [hc1] using h9, H2j.out.trans ((below_drewN (Below.refl _ wr) nq).mono H2j.out.size), HD.out.up g (by rw [Hwl.out, Htl.out]; exact h0) Hall.out, by rw [HnR.out]; exact hle, rfl⟩
                case measure => exact mes_up (by have := hn; have := r4; omega) (found_lt g Hr1.out) (by omega)
              · go_wp2
                go_quiet (fail)
                go_wp2
                go_roundg (mesN rest (f + 1))
                case rel => exact ⟨R, us, rest, f + 1, some gg, by go_num, by have h9 := HT.out.below (below_drewN (Below.refl _ wr) nq); simpa [hc1] using h9, H2j.out.trans ((below_drewN (Below.refl _ wr) nq).mono H2j.out.size), HD.out.up g (by rw [Hwl.out, Htl.out]; exact h0) Hall.out, by rw [HnR.out]; exact hle, rfl⟩
                case measure => exact mes_up (by have := hn; have := r4; omega) (found_lt g Hr1.out) (by omega)
    · have hdm : ¬ (nR : Int) < (most : Int) := by omega
      have HS := hid_ (spl_end hI hD (by omega) (Nat.le_trans Hc1.out.size hb2.size) hb.size ((Hc1.out.trans (Hbr.out.mono Hc1.out.size))) (.inl (by omega)) (by omega) hm2)
      clear hI hD hb hnR r1 r2 r3 r4 hI11 htl
      go_wp2_with (go_at_call 57; (with_reducible refine HS.out.mono ?_); rintro e w4 ⟨rfl, hp⟩)
      simp only [Exit.noGoto]
      go_ret
      exact hp
end Go.Proofs.Ytgpenbajhndhiaa
namespace Go.Proofs.Ytgpenbajhndhiaa
open Go.RowKit Go.Proofs.Kv Go

/-! ### Best and All of the program -/
theorem isS_small {L : Lx} (g : GoodL L) {t : List Int} (ht : t.length ≤ 12) {s : List Int} (h : isS L t s) : 0 ≤ sumC L s ∧ sumC L s ≤ 2376 ∧ s.length ≤ t.length := by
  have hl : s.length ≤ t.length := by
    have := itemsB_len g s.length rfl h.1
    rw [h.2.1] at this; exact this
  have h1 := sumK_in g h.1 s.length (Nat.le_refl _) (fun k hk => okF_at h.2.2 hk)
  have h2 : sumC L s = sumK L s s.length := rfl
  omega
theorem leL_trans (a b c : List Int) (h1 : leL a b = true) (h2 : leL b c = true) : leL a c = true := by
  simp only [leL, Bool.not_eq_true'] at h1 h2 ⊢
  exact swoL.ntrans c b a h2 h1
theorem leL_total (a b : List Int) : (leL a b || leL b a) = true := by
  cases h : ltL b a with
  | false => simp [leL, h]
  | true =>
    cases h' : ltL a b with
    | false => simp [leL, h, h']
    | true =>
      have := swoL.trans _ _ _ h h'
      rw [swoL.irrefl] at this; cases this
theorem leL_anti (a b : List Int) (h1 : leL a b = true) (h2 : leL b a = true) : a = b := by
  simp only [leL, Bool.not_eq_true'] at h1 h2
  exact ltL_anti a b h2 h1
theorem sort_is {R S : List (List Int)} (hp : R.Perm S) (hs : S.Pairwise fun x y => leL x y = true) : R.mergeSort leL = S :=
  List.Perm.eq_of_pairwise (le := fun x y => leL x y = true) (fun a b _ _ => leL_anti a b) (List.pairwise_mergeSort leL_trans leL_total _) hs ((List.mergeSort_perm _ _).trans hp)
theorem sort_same {R S : List (List Int)} (hp : R.Perm S) : R.mergeSort leL = S.mergeSort leL :=
  sort_is (hp.trans (List.mergeSort_perm S leL).symm) (List.pairwise_mergeSort leL_trans leL_total _)
theorem perm_of_nodup {R S : List (List Int)} (hR : R.Nodup) (hS : S.Nodup) (h : ∀ x, x ∈ R ↔ x ∈ S) : R.Perm S := (List.perm_ext_iff_of_nodup hR hS).2 h
theorem sub_full {R S : List (List Int)} (hR : R.Nodup) (h : ∀ x ∈ R, x ∈ S) (hl : R.length = S.length) : ∀ x ∈ S, x ∈ R := fun x hx => by
  refine Classical.byContradiction fun hn => ?_
  have := len_le_sub8 (l := x :: R) (m := S) (List.nodup_cons.2 ⟨hn, hR⟩) (fun y hy => by
    rcases List.mem_cons.1 hy with rfl | hy
    · exact hx
    · exact h y hy)
  simp at this; omega
theorem cheap_all {L : Lx} (g : GoodL L) {t : List Int} (ht : t.length ≤ 12) (s : List Int) : cheap L t 100000 s ↔ s ∈ allS L t := by
  rw [mem_allS g]
  exact ⟨fun h => h.1, fun h => ⟨h, by have := isS_small g ht h; omega⟩⟩
theorem cheap_least {L : Lx} (g : GoodL L) {t : List Int} (ht : t.length ≤ 12) (hc : cntA L t ≠ 0) : ∃ s, isS L t s ∧ sumC L s = lstA L t := by
  have hne : allS L t ≠ [] := fun e => hc (cntA_ne.2 e)
  have h1 := minN_in (l := (allS L t).map (sumC L)) (by simpa using hne) (fun x hx => by
    obtain ⟨s, hs, rfl⟩ := List.mem_map.1 hx
    have := isS_small g ht ((mem_allS g t s).1 hs)
    omega)
  obtain ⟨s, hs, e⟩ := List.mem_map.1 h1
  exact ⟨s, (mem_allS g t s).1 hs, e⟩
theorem lst_min {L : Lx} (g : GoodL L) {t : List Int} {s : List Int} (h : isS L t s) : lstA L t ≤ sumC L s := minN_mem (List.mem_map.2 ⟨s, (mem_allS g t s).2 h, rfl⟩)
theorem spl_all {L : Lx} (g : GoodL L) {t : List Int} (ht : t.length ≤ 12) {m : Nat} (hm : cntA L t = (m : Int)) {w : World} {v : Value} {w' : World} (h : SplPost L t 100000 m w (.returned v) w') :
    ∃ a c, v = .slice a m c ∧ ListsAt w' a m c ((allS L t).mergeSort leL) ∧ Below w.heap.size w w' := by
  obtain ⟨v', R, B, e, hB, hO, hb, hnd, hsub, hle, hend⟩ := h
  injection e with e; subst e
  have hmm : (allS L t).length = m := by unfold cntA at hm; omega
  have hs2 : ∀ x ∈ R, x ∈ allS L t := fun x hx => (cheap_all g ht x).1 (hsub x hx)
  have hp : R.Perm (allS L t) := perm_of_nodup hnd (nodup_allS g t) fun x => ⟨hs2 x, fun hx => by
    rcases hend with h9 | h9
    · exact sub_full hnd hs2 (by omega) x hx
    · exact h9 x ((cheap_all g ht x).2 hx)⟩
  rw [sort_same hp] at hO
  obtain ⟨a, c, e1, h1⟩ := hO.at_
  rw [List.length_mergeSort, hmm] at e1 h1
  exact ⟨a, c, e1, h1, hb⟩
theorem spl_ret {L : Lx} {t : List Int} {lim : Int} {m : Nat} {w w' : World} {e : Ending} (h : SplPost L t lim m w e w') : ∃ v, e = .returned v ∧ SplPost L t lim m w (.returned v) w' := by
  obtain ⟨v9, R9, B9, e9, h9⟩ := h
  exact ⟨v9, e9, v9, R9, B9, rfl, h9⟩
theorem spl_one {L : Lx} {t : List Int} {lim : Int} (hs : ∃ s, cheap L t lim s) {w : World} {v : Value} {w' : World} (h : SplPost L t lim 1 w (.returned v) w') :
    ∃ b off c a n k s, v = .slice (some ⟨b, off, none⟩) 1 c ∧ b < w'.heap.size ∧ w'.cell? ⟨b, off, none⟩ = some (.slice a n k) ∧ IntsAt w' a n k s ∧ cheap L t lim s ∧ Below w.heap.size w w' := by
  obtain ⟨v', R, B, e, hB, hO, hb, hnd, hsub, hle, hend⟩ := h
  injection e with e; subst e
  have hR : R.length = 1 := by
    rcases hend with h9 | h9
    · exact h9
    · obtain ⟨s, h8⟩ := hs
      have := List.length_pos_of_mem (h9 s h8)
      omega
  obtain ⟨s, rfl⟩ := List.length_eq_one_iff.1 hR
  obtain ⟨a, c, e1, h1⟩ := hO.at_
  rw [List.mergeSort_singleton] at e1 h1
  obtain ⟨b, off, a', n', c', rfl, hlt, hc, hI⟩ := h1.cells 0 (by simp)
  rw [Nat.add_zero] at hc
  exact ⟨b, off, c, a', n', c', s, e1, hlt, hc, hI, hsub s (by simp), hb⟩
theorem splits1_calls (v : Value) (L : Lx) (a : Option Addr) (n c : Nat) (t : List Int) (lim : Int) (w : World) (h : LexAt w v L) (ht : IntsAt w a n c t) (g : GoodL L) (hn : n ≤ 12) (hl0 : 0 < lim) (hl1 : lim ≤ 100000) (hsome : ∃ s, cheap L t lim s) :
    Calls Try.prog 31 #[v, .slice a n c, .int .i64 lim, .int .i64 1] w fun e w' => SplPost L t lim 1 w e w' :=
  splits_calls v L a n c t lim 1 w h ht g hn hl0 hl1 (by omega) (by omega) hsome
def BestPost (L : Lx) (t : List Int) (w : World) (e : Ending) (w' : World) : Prop := ∃ a n c s, e = .returned (.tuple #[.slice a n c, .bool (leastB L t), .int .i64 (textE L t)]) ∧ IntsAt w' a n c s ∧ (leastB L t = true → isS L t s ∧ sumC L s = leastV L t) ∧ (leastB L t = false → n = 0) ∧ Below w.heap.size w w'
set_option maxRecDepth 100000 in
set_option maxHeartbeats 4000000 in
theorem taBest_calls (v : Value) (L : Lx) (a : Option Addr) (n c : Nat) (t : List Int) (w : World) (h : LexAt w v L) (ht : IntsAt w a n c t) :
    Calls Try.prog 12 #[v, .slice a n c] w fun e w' => BestPost L t w e w' := by
  have HP := hid_ h
  obtain ⟨a1, n1, c1, a2, n2, c2, rfl, h1, h2⟩ := h
  obtain ⟨w1, hw1⟩ : ∃ w1, w.alloc (.cells #[.slice a1 n1 c1, .slice a2 n2 c2] 25) = w1 := ⟨_, rfl⟩
  have cb : Below w.heap.size w w1 := by rw [← hw1]; exact below_alloc _ _
  have q0 : w1.cell? ⟨w.heap.size, 0, none⟩ = some (.slice a1 n1 c1) := by rw [← hw1]; exact cells_alloc _ _ _ 0
  have q1 : w1.cell? ⟨w.heap.size, 1, none⟩ = some (.slice a2 n2 c2) := by rw [← hw1]; exact cells_alloc _ _ _ 1
  have HP1 := hid_ (HP.out.below cb (Nat.le_refl _)); have Hc1 := hid_ cb
  have HLe := hid_ (taLeast_calls _ L a n c t w1 HP1.out (ht.below cb (Nat.le_refl _)))
  have HQ := hid_ (fun W (hW : Below w1.heap.size w1 W) => (⟨cell_below q0 hW, cell_below q1 hW⟩ : _ ∧ _))
  cases hl : leastB L t with
  | false =>
    have HG : Hid (∀ W, Below w.heap.size w W → BestPost L t w (.returned (.tuple #[.slice none 0 0, .bool false, .int .i64 (textE L t)])) W) := hid_ fun W hW => ⟨none, 0, 0, [], by rw [hl], IntsAt.nil _ _ _ (by omega), fun h9 => by (rw [hl] at h9; cases h9), fun _ => rfl, hW⟩
    rw [hl] at HLe
    generalize textE L t = x at *
    clear hl HP HP1 h1 h2 cb ht
    go_enter Try.func12, Try.ntmps12
    go_wp2_with (go_at_call 8; (with_reducible refine HLe.out.mono ?_); rintro e w2 ⟨rfl, hb2⟩)
    go_ret3
    exact HG.out _ (Hc1.out.trans (hb2.mono Hc1.out.size))
  | true =>
    obtain ⟨he, hc⟩ : textE L t = 0 ∧ cntA L t ≠ 0 := by
      unfold leastB at hl
      rw [Bool.and_eq_true, decide_eq_true_eq, decide_eq_true_eq] at hl
      exact hl
    obtain ⟨g, h12, -⟩ := textE_ok he
    have hv : leastV L t = lstA L t := by unfold leastV; rw [if_pos hl]
    obtain ⟨s0, hs0, hc0⟩ := cheap_least g h12 hc
    have hsm := isS_small g h12 hs0
    have HG : Hid (∀ W a' n' c' s, IntsAt W a' n' c' s → cheap L t (leastV L t + 1) s → Below w.heap.size w W → BestPost L t w (.returned (.tuple #[.slice a' n' c', .bool true, .int .i64 0])) W) := hid_ fun W a' n' c' s hI hch hW => ⟨a', n', c', s, by rw [hl, he], hI, fun _ => ⟨hch.1, by have := lst_min g hch.1; have := hch.2; omega⟩, fun h9 => by (rw [hl] at h9; cases h9), hW⟩
    have hsome : ∃ s, cheap L t (leastV L t + 1) s := ⟨s0, hs0, by omega⟩
    have HSp := hid_ (fun W (hW : Below w1.heap.size w1 W) => splits1_calls _ L a n c t (leastV L t + 1) W (HP1.out.below hW (Nat.le_refl _)) ((ht.below cb (Nat.le_refl _)).below hW (Nat.le_refl _)) g (by rw [← ht.len]; exact h12) (by omega) (by omega) hsome)
    have Hsome := hid_ hsome
    rw [hl, he] at HLe
    have hm1 : 0 ≤ leastV L t := by omega
    have hm2 : leastV L t ≤ 2376 := by omega
    generalize leastV L t = m at *
    clear hl HP HP1 h1 h2 cb ht he hc hv hs0 hc0 hsm hsome
    have hwm : IntKind.i64.wrap (m + 1) = m + 1 := IntWalk.i64_in _ (by omega)
    go_enter Try.func12, Try.ntmps12
    go_wp2_with (first
      | (go_at_call 8; (with_reducible refine HLe.out.mono ?_); rintro e w2 ⟨rfl, hb2⟩; obtain ⟨q2, r2⟩ := HQ.out w2 hb2)
      | (go_at_call 31; (with_reducible refine (HSp.out _ hb2).mono ?_); rintro e w3 hS; obtain ⟨v3, rfl, hS'⟩ := spl_ret hS; obtain ⟨b, off, c3, a4, n4, c4, s, rfl, hlt, hcell, hI, hch, hb3⟩ := spl_one Hsome.out hS'; have HI := hid_ hI; have Hch := hid_ hch; have Hb3 := hid_ hb3; clear hS hS' hI hch hb3))
    go_ret3
    exact HG.out _ _ _ _ _ HI.out Hch.out (Hc1.out.trans ((hb2.trans (Hb3.out.mono hb2.size)).mono Hc1.out.size))
def allE (L : Lx) (t : List Int) : Int := if textE L t = 0 then (if 50 < cntA L t then 3 else 0) else textE L t
def allR (L : Lx) (t : List Int) : List (List Int) := if allE L t = 0 then (allS L t).mergeSort leL else []
def AllPost (L : Lx) (t : List Int) (w : World) (e : Ending) (w' : World) : Prop := ∃ a n c, e = .returned (.tuple #[.slice a n c, .int .i64 (allE L t)]) ∧ ListsAt w' a n c (allR L t) ∧ Below w.heap.size w w'
set_option maxRecDepth 100000 in
set_option maxHeartbeats 4000000 in
theorem splits0_calls (v : Value) (L : Lx) (a : Option Addr) (n c : Nat) (t : List Int) (lim : Int) (w : World) (h : LexAt w v L) (ht : IntsAt w a n c t) (g : GoodL L) (hn : n ≤ 12) :
    Calls Try.prog 31 #[v, .slice a n c, .int .i64 lim, .int .i64 0] w fun e w' => e = .returned (.slice none 0 0) ∧ Below w.heap.size w w' := by
  have HP := hid_ h
  obtain ⟨a1, n1, c1, a2, n2, c2, rfl, h1, h2⟩ := h
  obtain ⟨w1, hw1⟩ : ∃ w1, w.alloc (.cells #[.slice a1 n1 c1, .slice a2 n2 c2] 25) = w1 := ⟨_, rfl⟩
  have cb : Below w.heap.size w w1 := by rw [← hw1]; exact below_alloc _ _
  have q0 : w1.cell? ⟨w.heap.size, 0, none⟩ = some (.slice a1 n1 c1) := by rw [← hw1]; exact cells_alloc _ _ _ 0
  have q1 : w1.cell? ⟨w.heap.size, 1, none⟩ = some (.slice a2 n2 c2) := by rw [← hw1]; exact cells_alloc _ _ _ 1
  have HP1 := hid_ (HP.out.below cb (Nat.le_refl _)); have Hc1 := hid_ cb
  have HE := hid_ (endings_calls _ L a n c t w1 HP1.out (ht.below cb (Nat.le_refl _)) g hn)
  have HN := hid_ (fun W => Try.slices_SortFunc_none (α := Nat) none 0 (.func (.func 58) #[] #[]) W)
  clear h1 h2 HP HP1 cb ht
  go_enter Try.func31, Try.ntmps31
  go_wp2_with fail
  refine wp_scope_straight ?_
  go_wp2_with (go_at_call 28; (with_reducible refine HE.out.mono ?_); rintro e w2 ⟨tb, rfl, hTb, hb2⟩; clear hTb)
  go_step3
  simp only [Exit.then]
  rename_i K hK
  refine hK _ _ ?_
  go_wp2_with fail
  go_loopg [10, 11, 12] 0 (fun m v10 v11 v12 wr => v10 = .slice none 0 0 ∧ v11 = .slice none 0 0 ∧ v12 = .int .i64 0 ∧ wr = w2)
  case atStart => exact ⟨rfl, rfl, rfl, rfl⟩
  case round =>
    obtain ⟨rfl, rfl, rfl, rfl⟩ := hrel
    go_wp2_with (go_at_call 57; (with_reducible refine (HN.out _).mono ?_); rintro e w4 ⟨rfl, rfl⟩)
    simp only [Exit.noGoto]
    go_ret
    exact ⟨rfl, Hc1.out.trans (hb2.mono Hc1.out.size)⟩
set_option maxRecDepth 100000 in
set_option maxHeartbeats 4000000 in
theorem taAll_calls (v : Value) (L : Lx) (a : Option Addr) (n c : Nat) (t : List Int) (w : World) (h : LexAt w v L) (ht : IntsAt w a n c t) :
    Calls Try.prog 14 #[v, .slice a n c] w fun e w' => AllPost L t w e w' := by
  have HP := hid_ h
  obtain ⟨a1, n1, c1, a2, n2, c2, rfl, h1, h2⟩ := h
  obtain ⟨w1, hw1⟩ : ∃ w1, w.alloc (.cells #[.slice a1 n1 c1, .slice a2 n2 c2] 25) = w1 := ⟨_, rfl⟩
  have cb : Below w.heap.size w w1 := by rw [← hw1]; exact below_alloc _ _
  have q0 : w1.cell? ⟨w.heap.size, 0, none⟩ = some (.slice a1 n1 c1) := by rw [← hw1]; exact cells_alloc _ _ _ 0
  have q1 : w1.cell? ⟨w.heap.size, 1, none⟩ = some (.slice a2 n2 c2) := by rw [← hw1]; exact cells_alloc _ _ _ 1
  have HP1 := hid_ (HP.out.below cb (Nat.le_refl _)); have Hc1 := hid_ cb
  have HCo := hid_ (taCount_calls _ L a n c t w1 HP1.out (ht.below cb (Nat.le_refl _)))
  have HQ := hid_ (fun W (hW : Below w1.heap.size w1 W) => (⟨cell_below q0 hW, cell_below q1 hW⟩ : _ ∧ _))
  by_cases he : textE L t = 0
  · obtain ⟨g, h12, -⟩ := textE_ok he
    have hcv : countV L t = cntA L t := by unfold countV; rw [if_pos he]
    obtain ⟨m, hm⟩ : ∃ m : Nat, cntA L t = (m : Int) := ⟨_, rfl⟩
    rw [hcv, he, hm] at HCo
    by_cases h50 : (50 : Int) < (m : Int)
    · have hE : allE L t = 3 := by unfold allE; rw [if_pos he, hm, if_pos h50]
      have HG : Hid (∀ W, Below w.heap.size w W → AllPost L t w (.returned (.tuple #[.slice none 0 0, .int .i64 3])) W) := hid_ fun W hW => ⟨none, 0, 0, by rw [hE], by (unfold allR; rw [hE, if_neg (by decide)]; exact ListsAt.nil _ _ _ (by omega)), hW⟩
      clear he hm hcv HP HP1 h1 h2 cb ht hE g h12
      go_enter Try.func14, Try.ntmps14
      go_wp2_with (go_at_call 10; (with_reducible refine HCo.out.mono ?_); rintro e w2 ⟨rfl, hb2⟩)
      go_ret2
      exact HG.out _ (Hc1.out.trans (hb2.mono Hc1.out.size))
    · have hE : allE L t = 0 := by unfold allE; rw [if_pos he, hm, if_neg h50]
      have HG : Hid (∀ W a' c', ListsAt W a' m c' ((allS L t).mergeSort leL) → Below w.heap.size w W → AllPost L t w (.returned (.tuple #[.slice a' m c', .int .i64 0])) W) := hid_ fun W a' c' hL hW => ⟨a', m, c', by rw [hE], by (unfold allR; rw [hE, if_pos rfl]; exact hL), hW⟩
      by_cases hm0 : m = 0
      · subst hm0
        rw [show ((0 : Nat) : Int) = 0 from rfl] at HCo h50 hm
        have HS := hid_ (fun W (hW : Below w1.heap.size w1 W) => splits0_calls _ L a n c t 100000 W (HP1.out.below hW (Nat.le_refl _)) ((ht.below cb (Nat.le_refl _)).below hW (Nat.le_refl _)) g (by rw [← ht.len]; exact h12))
        have hA : (allS L t).mergeSort leL = [] := by rw [cntA_ne.1 hm, List.mergeSort_nil]
        rw [hA] at HG
        clear he hm hcv HP HP1 h1 h2 cb ht hE g h12 hA h50
        go_enter Try.func14, Try.ntmps14
        go_wp2_with (first
          | (go_at_call 10; (with_reducible refine HCo.out.mono ?_); rintro e w2 ⟨rfl, hb2⟩; obtain ⟨q2, r2⟩ := HQ.out w2 hb2)
          | (go_at_call 31; (with_reducible refine (HS.out _ hb2).mono ?_); rintro e w3 ⟨rfl, hb3⟩))
        go_ret2
        exact HG.out _ _ _ (ListsAt.nil _ _ _ (by omega)) (Hc1.out.trans ((hb2.trans (hb3.mono hb2.size)).mono Hc1.out.size))
      · have hne : ∃ s, cheap L t 100000 s := by
          obtain ⟨s, hs, -⟩ := cheap_least g h12 (by omega)
          exact ⟨s, (cheap_all g h12 s).2 ((mem_allS g t s).2 hs)⟩
        have HS := hid_ (fun W (hW : Below w1.heap.size w1 W) => splits_calls _ L a n c t 100000 m W (HP1.out.below hW (Nat.le_refl _)) ((ht.below cb (Nat.le_refl _)).below hW (Nat.le_refl _)) g (by rw [← ht.len]; exact h12) (by omega) (by omega) (by omega) (by omega) hne)
        have HAl : Hid (∀ W v3 w3, SplPost L t 100000 m W (.returned v3) w3 → ∃ a c, v3 = .slice a m c ∧ ListsAt w3 a m c ((allS L t).mergeSort leL) ∧ Below W.heap.size W w3) := hid_ fun W v3 w3 h9 => spl_all g h12 hm h9
        clear he hm hcv HP HP1 h1 h2 cb ht hE g h12 hne hm0
        go_enter Try.func14, Try.ntmps14
        go_wp2_with (first
          | (go_at_call 10; (with_reducible refine HCo.out.mono ?_); rintro e w2 ⟨rfl, hb2⟩; obtain ⟨q2, r2⟩ := HQ.out w2 hb2)
          | (go_at_call 31; (with_reducible refine (HS.out _ hb2).mono ?_); rintro e w3 hS; obtain ⟨v3, rfl, hS'⟩ := spl_ret hS; obtain ⟨a3, c3, rfl, hL3, hb3⟩ := HAl.out _ _ _ hS'; have HL3 := hid_ hL3; clear hS hS' hL3))
        go_ret2
        exact HG.out _ _ _ HL3.out (Hc1.out.trans ((hb2.trans (hb3.mono hb2.size)).mono Hc1.out.size))
  · have hq : (textE L t != 0) = true := by simpa using he
    have hE : allE L t = textE L t := by unfold allE; rw [if_neg he]
    have hcv : countV L t = 0 := by unfold countV; rw [if_neg he]
    have HG : Hid (∀ W, Below w.heap.size w W → AllPost L t w (.returned (.tuple #[.slice none 0 0, .int .i64 (textE L t)])) W) := hid_ fun W hW => ⟨none, 0, 0, by rw [hE], by (unfold allR; rw [hE, if_neg he]; exact ListsAt.nil _ _ _ (by omega)), hW⟩
    rw [hcv] at HCo
    generalize textE L t = x at *
    clear he HP HP1 h1 h2 cb ht hE hcv
    go_enter Try.func14, Try.ntmps14
    go_wp2_with (go_at_call 10; (with_reducible refine HCo.out.mono ?_); rintro e w2 ⟨rfl, hb2⟩)
    go_ret2
    exact HG.out _ (Hc1.out.trans (hb2.mono Hc1.out.size))
end Go.Proofs.Ytgpenbajhndhiaa
namespace Go.Proofs.Ytgpenbajhndhiaa
open Go.RowKit Go.Proofs.Kv Go

/-! ### all splits of the document: from a place on, behind an item -/
def goB (L : Lx) (t : List Int) (p : Nat) (b : Int) (j : Nat) : Bool := begT (wd L j) (t.drop p) && (decide (b < 0) || decide (0 ≤ follV L b.toNat j))
def restL (L : Lx) (t : List Int) : Nat → Nat → Int → List (List Int)
  | 0, _, _ => []
  | f + 1, p, b => if p = t.length then [[]] else (List.range L.items.length).flatMap fun j => if goB L t p b j = true then (restL L t f (p + ln L j) (j : Int)).map ((j : Int) :: ·) else []
def genR (L : Lx) (t : List Int) (f p : Nat) (b : Int) (j : Nat) : List (List Int) := if goB L t p b j = true then (restL L t f (p + ln L j) (j : Int)).map ((j : Int) :: ·) else []
def preR (L : Lx) (t : List Int) (f p : Nat) (b : Int) (k : Nat) : List (List Int) := (List.range k).flatMap (genR L t f p b)
theorem preR_succ (L : Lx) (t : List Int) (f p : Nat) (b : Int) (k : Nat) : preR L t f p b (k + 1) = preR L t f p b k ++ genR L t f p b k := by simp [preR, List.range_succ]
theorem restL_eq {L : Lx} {t : List Int} {f p : Nat} {b : Int} (h : p ≠ t.length) : restL L t (f + 1) p b = preR L t f p b L.items.length := by
  show (if p = t.length then [[]] else _) = _
  rw [if_neg h]; rfl
theorem preR_len {L : Lx} {t : List Int} {f p : Nat} {b : Int} : ∀ {k m : Nat}, k ≤ m → (preR L t f p b k).length ≤ (preR L t f p b m).length := by
  intro k m h
  induction m with
  | zero => obtain rfl : k = 0 := by omega
            exact Nat.le_refl _
  | succ m ih =>
    rcases Nat.lt_or_ge k (m + 1) with h1 | h1
    · have := ih (by omega)
      rw [preR_succ, List.length_append]; omega
    · obtain rfl : k = m + 1 := by omega
      exact Nat.le_refl _
theorem genR_len {L : Lx} {t : List Int} {f p : Nat} {b : Int} {k m : Nat} (h : k < m) : (preR L t f p b k).length + (genR L t f p b k).length ≤ (preR L t f p b m).length := by
  have := preR_len (L := L) (t := t) (f := f) (p := p) (b := b) (show k + 1 ≤ m from h)
  rw [preR_succ, List.length_append] at this; exact this
/-! #### what they are -/
def okB (L : Lx) (b : Int) (s : List Int) : Bool := if b < 0 then okF L s else okF L (b :: s)
theorem okF_two (L : Lx) (b j : Int) : okF L [b, j] = decide (0 ≤ fvI L b j) := by
  have := okF_snoc L [b] j
  rw [show ([b] ++ [j] : List Int) = [b, j] from rfl, okF_one] at this
  rw [this]; simp
theorem okB_cons {L : Lx} {b : Int} {j : Nat} {s : List Int} : okB L b ((j : Int) :: s) = ((decide (b < 0) || decide (0 ≤ follV L b.toNat j)) && okB L (j : Int) s) := by
  have h0 : okB L (j : Int) s = okF L ((j : Int) :: s) := by unfold okB; rw [if_neg (by omega)]
  rw [h0]
  unfold okB
  by_cases h : b < 0
  · rw [if_pos h, decide_eq_true h, Bool.true_or, Bool.true_and]
  · rw [if_neg h, decide_eq_false h, Bool.false_or]
    have := okF_join L [b] (j : Int) s.length s rfl
    rw [show ([b] ++ (j : Int) :: s : List Int) = b :: (j : Int) :: s from rfl, show ([b] ++ [(j : Int)] : List Int) = [b, (j : Int)] from rfl, okF_two] at this
    rw [this]
    unfold fvI
    rw [Int.toNat_natCast]
theorem begT_step {L : Lx} {t : List Int} {p j : Nat} {s : List Int} : wordsL L ((j : Int) :: s) = t.drop p ↔ begT (wd L j) (t.drop p) = true ∧ wordsL L s = t.drop (p + ln L j) := by
  have h0 : wordsL L ((j : Int) :: s) = wd L j ++ wordsL L s := by
    show wordL L (j : Int) ++ wordsL L s = _
    rw [wordL_nat]
  have hln : (wd L j).length = ln L j := rfl
  rw [h0, begT_iff]
  constructor
  · intro h
    refine ⟨⟨_, h.symm⟩, ?_⟩
    rw [← hln, ← List.drop_drop, ← h, List.drop_left]
  · rintro ⟨⟨r, h⟩, h2⟩
    rw [← hln, ← List.drop_drop, h, List.drop_left] at h2
    rw [h2, h]
theorem mem_restL {L : Lx} (g : GoodL L) {t : List Int} : ∀ (f p : Nat) (b : Int), p ≤ t.length → t.length - p < f → ∀ s, s ∈ restL L t f p b ↔ itemsB L s = true ∧ wordsL L s = t.drop p ∧ okB L b s = true
  | 0, p, b, _, h => by omega
  | f + 1, p, b, hp, h => fun s => by
    by_cases e : p = t.length
    · rw [show restL L t (f + 1) p b = [[]] by (show (if p = t.length then [[]] else _) = _); rw [if_pos e], List.mem_singleton]
      constructor
      · rintro rfl
        refine ⟨rfl, by rw [e, List.drop_length]; rfl, ?_⟩
        unfold okB
        split
        · rfl
        · exact okF_one L b
      · rintro ⟨h1, h2, -⟩
        have := itemsB_len g s.length rfl h1
        rw [h2, e, List.drop_length] at this
        exact List.length_eq_zero_iff.1 (by simpa using this)
    · rw [restL_eq e]
      simp only [preR, List.mem_flatMap, List.mem_range]
      constructor
      · rintro ⟨j, hj, hs⟩
        unfold genR at hs
        by_cases hg : goB L t p b j = true
        · rw [if_pos hg, List.mem_map] at hs
          obtain ⟨s', hs', rfl⟩ := hs
          unfold goB at hg
          rw [Bool.and_eq_true] at hg
          have hle : p + ln L j ≤ t.length := by
            obtain ⟨r, hr⟩ := begT_iff.1 hg.1
            have := congrArg List.length hr
            rw [List.length_drop, List.length_append] at this
            have : (wd L j).length = ln L j := rfl
            omega
          have hl1 : 1 ≤ ln L j := (g.word j hj).1
          obtain ⟨h1, h2, h3⟩ := (mem_restL g f (p + ln L j) (j : Int) hle (by omega) s').1 hs'
          exact ⟨itemsB_cons.2 ⟨⟨j, rfl, hj⟩, h1⟩, begT_step.2 ⟨hg.1, h2⟩, by rw [okB_cons, hg.2, h3]; rfl⟩
        · rw [if_neg hg] at hs; cases hs
      · rintro ⟨h1, h2, h3⟩
        cases s with
        | nil =>
          have : (t.drop p).length = 0 := by rw [← h2]; rfl
          rw [List.length_drop] at this; omega
        | cons x s =>
          obtain ⟨⟨j, rfl, hj⟩, h1'⟩ := itemsB_cons.1 h1
          obtain ⟨h4, h5⟩ := begT_step.1 h2
          rw [okB_cons, Bool.and_eq_true] at h3
          have hl1 : 1 ≤ ln L j := (g.word j hj).1
          have hle : p + ln L j ≤ t.length := by
            obtain ⟨r, hr⟩ := begT_iff.1 h4
            have := congrArg List.length hr
            rw [List.length_drop, List.length_append] at this
            have : (wd L j).length = ln L j := rfl
            omega
          refine ⟨j, hj, ?_⟩
          have hg : goB L t p b j = true := by unfold goB; rw [h4, h3.1]; rfl
          unfold genR
          rw [if_pos hg]
          exact List.mem_map.2 ⟨s, (mem_restL g f (p + ln L j) (j : Int) hle (by omega) s).2 ⟨h1', h5, h3.2⟩, rfl⟩
theorem cmpL_head {x y : Int} {l m : List Int} (h : x < y) : ltL (x :: l) (y :: m) = true := by
  have e : cmpI x y = -1 := by unfold cmpI; rw [if_pos h]
  unfold ltL cmpL
  rw [e, if_neg (by decide)]; decide
theorem cmpL_cons (x : Int) (l m : List Int) : ltL (x :: l) (x :: m) = ltL l m := by
  have e : cmpI x x = 0 := by unfold cmpI; rw [if_neg (Int.lt_irrefl x), if_neg (Int.lt_irrefl x)]
  unfold ltL
  rw [show cmpL (x :: l) (x :: m) = cmpL l m by (show (if cmpI x x = 0 then _ else _) = _); rw [if_pos e]]
theorem restL_asc {L : Lx} {t : List Int} : ∀ (f p : Nat) (b : Int), (restL L t f p b).Pairwise fun x y => ltL x y = true
  | 0, _, _ => List.Pairwise.nil
  | f + 1, p, b => by
    by_cases e : p = t.length
    · rw [show restL L t (f + 1) p b = [[]] by (show (if p = t.length then [[]] else _) = _); rw [if_pos e]]
      exact List.pairwise_singleton _ _
    · rw [restL_eq e]
      unfold preR
      rw [List.pairwise_flatMap]
      refine ⟨fun j _ => ?_, ?_⟩
      · unfold genR
        split
        · rw [List.pairwise_map]
          exact (restL_asc f (p + ln L j) (j : Int)).imp fun {x y} h => by rw [cmpL_cons]; exact h
        · exact List.Pairwise.nil
      · refine List.pairwise_lt_range.imp fun {i j} hij => ?_
        intro x hx y hy
        unfold genR at hx hy
        split at hx
        · split at hy
          · obtain ⟨x', -, rfl⟩ := List.mem_map.1 hx
            obtain ⟨y', -, rfl⟩ := List.mem_map.1 hy
            exact cmpL_head (by omega)
          · cases hy
        · cases hx
theorem restL_all {L : Lx} (g : GoodL L) (t : List Int) : restL L t (t.length + 1) 0 (-1) = (allS L t).mergeSort leL := by
  have h1 := restL_asc (L := L) (t := t) (t.length + 1) 0 (-1)
  have hnd : (restL L t (t.length + 1) 0 (-1)).Nodup := h1.imp fun {x y} h e => by
    subst e
    rw [swoL.irrefl] at h; cases h
  have hle : (restL L t (t.length + 1) 0 (-1)).Pairwise fun x y => leL x y = true := h1.imp fun {x y} h => by
    unfold leL
    cases h' : ltL y x with
    | false => rfl
    | true =>
      have := swoL.trans _ _ _ h h'
      rw [swoL.irrefl] at this; cases this
  refine (sort_is (perm_of_nodup (nodup_allS g t) hnd fun s => ?_) hle).symm
  rw [mem_allS g, mem_restL g _ _ _ (Nat.zero_le _) (by omega)]
  unfold isS okB
  rw [if_pos (by decide), List.drop_zero]
structure RestI (w : World) (B : Nat) (v : Value) (us : List Value) (R : List (List Int)) (vm : Value) (um : List Value) (M : List (List Int)) : Prop where
  O : OwnRw 26 3 w B v us R
  M : OwnRw 26 3 w B vm um M
  ne : ∀ g, v.ownBlock = some g → vm.ownBlock ≠ some g ∧ ∀ u ∈ um, u.ownBlock ≠ some g
theorem own_row_lt {E E1 : TypeId} {w : World} {B : Nat} {v : Value} {us : List Value} {L : List (List Int)} (h : OwnRw E E1 w B v us L) {u : Value} (hu : u ∈ us) : ∀ b, u.ownBlock = some b → B ≤ b ∧ b < w.heap.size := by
  obtain ⟨i, hi, e⟩ := List.mem_iff_getElem.1 hu
  exact h.lt (i := i) (u := u) (by rw [List.getElem?_eq_getElem hi, e])
theorem RestI.push {B : Nat} {v v2 u vm : Value} {R M : List (List Int)} {us um : List Value} {wr w1 w2 : World} {r : List Int} {o : Obj} (hB : B ≤ wr.heap.size)
    (h : RestI wr B v us R vm um M) (hb1 : Below wr.heap.size wr w1) (hown1 : w1.ownsRow wr.heap.size 3 1 u r.length (r.map (Value.int .i64)))
    (hown2 : w2.ownsRow B 26 1 v2 (R.length + 1) (us ++ [u])) (hg2 : (w1.alloc o).grownBy w2 v.ownBlock) (hat : v2.ownBlock = v.ownBlock ∨ v2.ownBlock = some (w1.heap.size + 1)) :
    RestI w2 B v2 (us ++ [u]) (R ++ [r]) vm um M := by
  refine ⟨h.O.push hB hb1 hown1 hown2 hg2, ((h.M.below hb1 (Nat.le_refl _)).below (below_alloc w1 o) (Nat.le_refl _)).other hg2 h.ne, fun g e => ?_⟩
  rcases hat with e3 | e3
  · exact h.ne g (e3 ▸ e)
  · rw [e3] at e; injection e with e
    have hs := hb1.size
    refine ⟨fun e2 => ?_, fun x hx e2 => ?_⟩
    · have := (h.M.top.lt g e2).2; omega
    · have := (own_row_lt h.M hx g e2).2; omega
end Go.Proofs.Ytgpenbajhndhiaa
