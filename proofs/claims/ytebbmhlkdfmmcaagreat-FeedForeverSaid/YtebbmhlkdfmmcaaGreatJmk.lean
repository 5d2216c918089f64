import Derived.Test.YtebbmhlkdfmmcaaGreatJk7
import Derived.Test.YtebbmhlkdfmmcaaGreatJl
namespace Go.Proofs.YtebbmhlkdfmmcaaGreat
open Go.RowKit Go.Proofs.Kv Go

/-! ### walks: how many steps one after another -/
def Wlk (L : List Rl) : Nat → List Int → List Int → Prop
  | 0, u, v => u = v
  | m + 1, u, v => ∃ p ∈ movesL L u, Wlk L m p.2 v
theorem Wlk.snoc {L : List Rl} : ∀ {m : Nat} {u v : List Int}, Wlk L m u v → ∀ {p : Mv}, p ∈ movesL L v → Wlk L (m + 1) u p.2
  | 0, _, _, h, p, hp => by cases h; exact ⟨p, hp, rfl⟩
  | _ + 1, _, _, ⟨q, hq, h⟩, _, hp => ⟨q, hq, h.snoc hp⟩
theorem Wlk.app {L : List Rl} : ∀ {m k : Nat} {u v x : List Int}, Wlk L m u v → Wlk L k v x → Wlk L (m + k) u x
  | 0, k, _, _, _, h, h' => by cases h; rw [Nat.zero_add]; exact h'
  | m + 1, k, _, _, _, ⟨q, hq, h⟩, h' => by rw [Nat.succ_add]; exact ⟨q, hq, h.app h'⟩
theorem Wlk.unsnoc {L : List Rl} : ∀ {m : Nat} {u v : List Int}, Wlk L (m + 1) u v → ∃ x, Wlk L m u x ∧ ∃ p ∈ movesL L x, p.2 = v
  | 0, u, _, ⟨q, hq, h⟩ => ⟨u, rfl, q, hq, h⟩
  | _ + 1, _, _, ⟨q, hq, h⟩ => by
    obtain ⟨x, hx, p, hp, e⟩ := h.unsnoc
    exact ⟨x, ⟨q, hq, hx⟩, p, hp, e⟩
theorem Wlk.rch {L : List Rl} : ∀ {m : Nat} {u v : List Int}, Wlk L m u v → Rch L u v
  | 0, _, _, h => by cases h; exact .refl _
  | _ + 1, _, _, ⟨_, hq, h⟩ => .step hq h.rch
theorem rch_wlk {L : List Rl} {u v : List Int} (h : Rch L u v) : ∃ m, Wlk L m u v := by
  induction h with
  | refl u => exact ⟨0, rfl⟩
  | step hm _ ih => obtain ⟨m, h⟩ := ih; exact ⟨m + 1, _, hm, h⟩
def Wk (L : List Rl) (m : Nat) (u : List Int) : Prop := ∃ v, Wlk L m u v
theorem Wk.less {L : List Rl} {m : Nat} {u : List Int} (h : Wk L (m + 1) u) : Wk L m u := by
  obtain ⟨v, h⟩ := h
  obtain ⟨x, hx, -⟩ := h.unsnoc
  exact ⟨x, hx⟩
theorem Wk.le {L : List Rl} {m k : Nat} {u : List Int} (h : Wk L m u) (hk : k ≤ m) : Wk L k u := by
  induction m with
  | zero => obtain rfl : k = 0 := by omega
            exact h
  | succ m ih =>
    rcases Nat.lt_or_ge m k with h1 | h1
    · obtain rfl : k = m + 1 := by omega
      exact h
    · exact ih h.less h1
theorem Wlk.cycle {L : List Rl} {m : Nat} {u : List Int} (h : Wlk L (m + 1) u u) (k : Nat) : Wk L k u := by
  have : ∀ j, ∃ n, j ≤ n ∧ Wlk L n u u := fun j => by
    induction j with
    | zero => exact ⟨0, Nat.le_refl _, rfl⟩
    | succ j ih => obtain ⟨n, h1, h2⟩ := ih; exact ⟨(m + 1) + n, by omega, h.app h2⟩
  obtain ⟨n, h1, h2⟩ := this k
  exact Wk.le ⟨u, h2⟩ h1
/-- the greatest number of steps, or that there is none -/
def MostOf (L : List Rl) (l : List Int) (r : Int × Bool) : Prop :=
  (r.2 = true → 0 ≤ r.1 ∧ Wk L r.1.toNat l ∧ ∀ m : Nat, Wk L m l → (m : Int) ≤ r.1) ∧ (r.2 = false → r.1 = 0 ∧ ∀ m, Wk L m l)
theorem MostOf.uniq {L : List Rl} {l : List Int} {r r' : Int × Bool} (h : MostOf L l r) (h' : MostOf L l r') : r = r' := by
  obtain ⟨a, b⟩ := r; obtain ⟨a', b'⟩ := r'
  cases b <;> cases b'
  · have h1 := (h.2 rfl).1; have h2 := (h'.2 rfl).1
    simp only at h1 h2; rw [h1, h2]
  · obtain ⟨h1, -, h3⟩ := h'.1 rfl
    have := h3 (a'.toNat + 1) ((h.2 rfl).2 _)
    simp only at this h1; omega
  · obtain ⟨h1, -, h3⟩ := h.1 rfl
    have := h3 (a.toNat + 1) ((h'.2 rfl).2 _)
    simp only at this h1; omega
  · obtain ⟨h1, h2, h3⟩ := h.1 rfl
    obtain ⟨g1, g2, g3⟩ := h'.1 rfl
    have q1 := h3 _ g2; have q2 := g3 _ h2
    simp only at q1 q2 h1 g1
    obtain rfl : a = a' := by omega
    rfl

/-! ### the search by depth finds it -/
structure Gd (A : List (List Ac)) (n : Nat) (V : Nat → Nat → Prop) (s : Ms) : Prop where
  gw : ∀ k, k < n → V (s.most k).toNat k
  gl : ∀ k, s.left k = true → ∀ a ∈ A.getD k [], s.left a.2 = true ∧ s.most a.2 + 1 ≤ s.most k
theorem measF_walk {n : Nat} {A : List (List Ac)} (hA : ArcsIn n A) (V : Nat → Nat → Prop) (P : Nat → Nat → Prop) (v0 : ∀ i, V 0 i) (v1 : ∀ i m, i < n → ∀ a ∈ A.getD i [], V m a.2 → V (m + 1) i)
    (p1 : ∀ i, i < n → ∀ a ∈ A.getD i [], P i a.2) (p2 : ∀ k i, P k i → i < n → ∀ a ∈ A.getD i [], P k a.2) (pc : ∀ i, P i i → ∀ m, V m i) : ∀ (f : Nat) {i : Nat} {s : Ms}, i < n → unE n s < f → MsOk n s → (∀ k, s.left k = true → s.ent k = true) →
    (∀ k, s.ent k = true → s.left k = true ∨ P k i) → Gd A n V s →
    ((measF A f i s).1 = false → ∀ m, V m i) ∧ Gd A n V (measF A f i s).2 ∧ (∀ k, s.ent k = true → (measF A f i s).2.most k = s.most k) ∧
      ((measF A f i s).1 = true → ∀ k, (measF A f i s).2.ent k = true → (measF A f i s).2.left k = true ∨ (s.ent k = true ∧ s.left k = false))
  | 0, i, s, _, h, _, _, _, _ => by omega
  | f + 1, i, s, hi, hf, hs, hle, hp, hg => by
    unfold measF
    by_cases he : s.ent i = true
    · rw [if_pos he]
      refine ⟨fun h => ?_, hg, fun _ _ => rfl, fun _ k hk => ?_⟩
      · exact pc i ((hp i he).resolve_left (by rw [show s.left i = false from h]; simp))
      · cases h : s.left k with
        | true => exact .inl rfl
        | false => exact .inr ⟨hk, rfl⟩
    · rw [if_neg he]
      have he' : s.ent i = false := by simpa using he
      have hli : s.left i = false := by
        cases h : s.left i with
        | false => rfl
        | true => exact absurd (hle i h) he
      have key : ∀ (l : List Ac) (t : Ms), (∀ a ∈ l, a ∈ A.getD i []) → unE n t < f → MsOk n t → (∀ k, t.left k = true → t.ent k = true) → t.ent i = true → t.left i = false →
          (∀ k, t.ent k = true → t.left k = true ∨ k = i ∨ (s.ent k = true ∧ s.left k = false)) → Gd A n V t →
          ((rowF (measF A f) i l t).1 = false → ∀ m, V m i) ∧ Gd A n V (rowF (measF A f) i l t).2 ∧ (∀ k, t.ent k = true → k ≠ i → (rowF (measF A f) i l t).2.most k = t.most k) ∧ t.most i ≤ (rowF (measF A f) i l t).2.most i ∧
          (∀ k, t.left k = true → (rowF (measF A f) i l t).2.left k = true) ∧ ((rowF (measF A f) i l t).1 = true → (∀ a ∈ l, (rowF (measF A f) i l t).2.left a.2 = true ∧ (rowF (measF A f) i l t).2.most a.2 + 1 ≤ (rowF (measF A f) i l t).2.most i) ∧
            ∀ k, (rowF (measF A f) i l t).2.ent k = true → (rowF (measF A f) i l t).2.left k = true ∨ k = i ∨ (s.ent k = true ∧ s.left k = false)) := by
        intro l
        induction l with
        | nil => exact fun t _ _ _ _ _ _ h1 h2 => ⟨fun h => (by cases h), h2, fun _ _ _ => rfl, Int.le_refl _, fun _ h => h, fun _ => ⟨fun a ha => (by cases ha), h1⟩⟩
        | cons a l ih =>
          intro t hl hu ho hle' hei hti h1 h2
          have ha := hl a (by simp)
          have han := hA i a ha
          have hgo : ∀ k, t.ent k = true → t.left k = true ∨ P k a.2 := fun k hk => by
            rcases h1 k hk with h | rfl | ⟨h, h'⟩
            · exact .inl h
            · exact .inr (p1 _ hi a ha)
            · rcases hp k h with q | q
              · rw [h'] at q; cases q
              · exact .inr (p2 k i q hi a ha)
          obtain ⟨q1, q2, q3, q4⟩ := measF_walk hA V P v0 v1 p1 p2 pc f han hu ho hle' hgo h2
          obtain ⟨d, d2⟩ := measF_did hA f han ho hle'
          rw [rowF]
          cases hmt : measF A f a.2 t with
          | mk b t' =>
            rw [hmt] at q1 q2 q3 q4 d d2
            simp only at q1 q2 q3 q4
            have hh := d.hold i hei hti
            have hei' := d.le.ent i hei
            simp only at hh hei'
            cases b with
            | false =>
              refine ⟨fun _ m => ?_, q2, fun k hk _ => q3 k hk, by rw [q3 i hei]; exact Int.le_refl _, d.le.left, fun h => (by cases h)⟩
              cases m with
              | zero => exact v0 i
              | succ m => exact v1 i m hi a ha (q1 rfl m)
            | true =>
              have hla : t'.left a.2 = true := d.lft rfl
              have hai : i ≠ a.2 := fun e => by rw [← e, hh] at hla; cases hla
              have e1 : ∀ k, i ≠ k → (t'.raise i a.2).most k = t'.most k := fun k hk => if_neg hk
              have e2 : (t'.raise i a.2).most i = max (t'.most i) (t'.most a.2 + 1) := if_pos rfl
              have hnn := (d.ok.nn a.2).1
              simp only at hnn
              have hg2 : Gd A n V (t'.raise i a.2) := by
                refine ⟨fun k hk => ?_, fun k hk c hc => ?_⟩
                · by_cases e : i = k
                  · subst e
                    rw [e2]
                    rcases Int.le_total (t'.most i) (t'.most a.2 + 1) with h | h
                    · rw [Int.max_eq_right h, show (t'.most a.2 + 1).toNat = (t'.most a.2).toNat + 1 by omega]
                      exact v1 i _ hi a ha (q2.gw _ han)
                    · rw [Int.max_eq_left h]; exact q2.gw i hk
                  · rw [e1 k e]; exact q2.gw k hk
                · obtain ⟨g1, g2⟩ := q2.gl k hk c hc
                  have n1 : i ≠ k := fun e => by subst e; change t'.left i = true at hk; rw [hh] at hk; cases hk
                  have n2 : i ≠ c.2 := fun e => by rw [← e, hh] at g1; cases g1
                  refine ⟨g1, ?_⟩
                  rw [e1 k n1, e1 c.2 n2]; exact g2
              obtain ⟨r1, r2, r3, r4, r5, r6⟩ := ih (t'.raise i a.2) (fun b hb => hl b (by simp [hb])) (Nat.lt_of_le_of_lt (unE_le (t := t'.raise i a.2) ⟨d.le.ent, d.le.left⟩) hu) (d.ok.raise han hla hh) d2 hei' hh (fun k hk => by
                rcases q4 rfl k hk with q | ⟨q, q'⟩
                · exact .inl q
                · rcases h1 k q with h | h
                  · rw [q'] at h; cases h
                  · exact .inr h) hg2
              refine ⟨r1, r2, fun k hk hki => ?_, ?_, fun k hk => r5 k (d.le.left k hk), fun h => ⟨fun c hc => ?_, (r6 h).2⟩⟩
              · rw [r3 k (d.le.ent k hk) hki, e1 k (Ne.symm hki)]; exact q3 k hk
              · refine Int.le_trans ?_ r4
                rw [e2, q3 i hei]; omega
              · rcases List.mem_cons.1 hc with rfl | hc
                · refine ⟨r5 _ hla, ?_⟩
                  rw [r3 _ (d2 _ hla) (Ne.symm hai), e1 _ hai]
                  refine Int.le_trans ?_ r4
                  rw [e2]; omega
                · exact (r6 h).1 c hc
      have hun := unE_enter hi he'
      obtain ⟨r1, r2, r3, r4, r5, r6⟩ := key (A.getD i []) (s.enter i) (fun a ha => ha) (by omega) (hs.enter i) (fun k hk => by
        show (s.ent k || _) = true
        rw [hle k hk]; rfl) (by show (s.ent i || decide (i = i)) = true; simp) hli (fun k hk => by
          change (s.ent k || decide (i = k)) = true at hk
          rcases Bool.or_eq_true _ _ ▸ hk with h | h
          · show s.left k = true ∨ _
            cases q : s.left k with
            | true => exact .inl rfl
            | false => exact .inr (.inr ⟨h, rfl⟩)
          · exact .inr (.inl (of_decide_eq_true h).symm)) ⟨hg.gw, hg.gl⟩
      have r3' : ∀ k, s.ent k = true → (rowF (measF A f) i (A.getD i []) (s.enter i)).2.most k = s.most k := fun k hk => r3 k (by show (s.ent k || _) = true; rw [hk]; rfl) (fun e => by subst e; rw [hk] at he'; cases he')
      cases hrw : rowF (measF A f) i (A.getD i []) (s.enter i) with
      | mk b t =>
        rw [hrw] at r1 r2 r3' r6
        simp only at r1 r2 r3' r6
        cases b with
        | false => exact ⟨r1, r2, r3', fun h => (by cases h)⟩
        | true =>
          refine ⟨fun h => (by cases h), ⟨r2.gw, fun k hk a ha => ?_⟩, r3', fun _ k hk => ?_⟩
          · have hk : (t.left k || decide (i = k)) = true := hk
            show (t.left a.2 || decide (i = a.2)) = true ∧ _
            rcases Bool.or_eq_true _ _ ▸ hk with h | h
            · obtain ⟨g1, g2⟩ := r2.gl k h a ha
              exact ⟨by rw [g1]; rfl, g2⟩
            · obtain rfl := of_decide_eq_true h
              obtain ⟨g1, g2⟩ := (r6 rfl).1 a ha
              exact ⟨by rw [g1]; rfl, g2⟩
          · show (t.left k || decide (i = k)) = true ∨ _
            rcases (r6 rfl).2 k hk with h | rfl | h
            · left; rw [h]; rfl
            · left; simp
            · exact .inr h
theorem longR_most {A : List (List Ac)} (hA : ArcsIn A.length A) (h0 : 0 < A.length) (V : Nat → Nat → Prop) (P : Nat → Nat → Prop) (v0 : ∀ i, V 0 i) (v1 : ∀ i m, i < A.length → ∀ a ∈ A.getD i [], V m a.2 → V (m + 1) i)
    (v2 : ∀ i m, i < A.length → V (m + 1) i → ∃ a ∈ A.getD i [], V m a.2)
    (p1 : ∀ i, i < A.length → ∀ a ∈ A.getD i [], P i a.2) (p2 : ∀ k i, P k i → i < A.length → ∀ a ∈ A.getD i [], P k a.2) (pc : ∀ i, P i i → ∀ m, V m i) :
    ((longR A).2 = true → 0 ≤ (longR A).1 ∧ (longR A).1 < A.length ∧ V (longR A).1.toNat 0 ∧ ∀ m : Nat, V m 0 → (m : Int) ≤ (longR A).1) ∧ ((longR A).2 = false → (longR A).1 = 0 ∧ ∀ m, V m 0) := by
  obtain ⟨q1, q2, -, -⟩ := measF_walk hA V P v0 v1 p1 p2 pc (A.length + 1) h0 (s := ms0) (by unfold unE; omega) (ms0_ok _) (fun _ h => by cases h) (fun _ h => by cases h) ⟨fun k _ => v0 k, fun _ h => by cases h⟩
  obtain ⟨d, d2⟩ := measF_did hA (A.length + 1) h0 (s := ms0) (ms0_ok _) (fun _ h => by cases h)
  unfold longR
  cases hm : measF A (A.length + 1) 0 ms0 with
  | mk b s =>
    rw [hm] at q1 q2 d
    simp only at q1 q2
    cases b with
    | false => exact ⟨fun h => (by cases h), fun _ => ⟨rfl, q1 rfl⟩⟩
    | true =>
      refine ⟨fun _ => ?_, fun h => (by cases h)⟩
      have hl : s.left 0 = true := d.lft rfl
      have hb := d.ok.lf 0 h0 hl
      have hnn := (d.ok.nn 0).1
      have hc := cntB_le A.length s.left
      simp only at hb hnn
      have hall : ∀ (m i : Nat), i < A.length → s.left i = true → V m i → (m : Int) ≤ s.most i := by
        intro m
        induction m with
        | zero => exact fun i _ _ _ => (d.ok.nn i).1
        | succ m ih =>
          intro i hi hli hv
          obtain ⟨a, ha, hv'⟩ := v2 i m hi hv
          obtain ⟨g1, g2⟩ := q2.gl i hli a ha
          have := ih a.2 (hA i a ha) g1 hv'
          omega
      exact ⟨hnn, by show s.most 0 < _; omega, q2.gw 0 h0, fun m hm => hall m 0 h0 hl hm⟩
theorem prog_most {L : List Rl} {l : List Int} {x : Web} (hs : validS L = 0) (hl : validW l = 0) (hx : exploreF L l = some x) : MostOf L l (longR x.arcs) ∧ ((longR x.arcs).2 = true → (longR x.arcs).1 < x.words.length) := by
  obtain ⟨g1, g2⟩ := exploreF_some (validS_ok hs).2 hl hx
  have hf := exploreF_full (validS_ok hs).2 hl hx
  have hlen := g1.same
  have hpos : 0 < x.words.length := List.length_pos_of_mem ((g2 l).2 (.refl _))
  have hin : ArcsIn x.arcs.length x.arcs := fun i a ha => by
    rw [hlen]
    by_cases hi : i < x.words.length
    · exact (hf i hi).lt a ha
    · rw [List.getD, List.getElem?_eq_none (by omega)] at ha; cases ha
  have st : ∀ i, i < x.arcs.length → ∀ a ∈ x.arcs.getD i [], tgt x a ∈ movesL L (x.words.getD i []) := fun i hi a ha => by
    rw [← (hf i (by omega)).eq]; exact List.mem_map_of_mem ha
  have := longR_most hin (by omega) (fun m i => Wk L m (x.words.getD i [])) (fun k i => ∃ m, Wlk L (m + 1) (x.words.getD k []) (x.words.getD i []))
    (fun i => ⟨_, rfl⟩) (fun i m hi a ha hv => by obtain ⟨v, hv⟩ := hv; exact ⟨v, tgt x a, st i hi a ha, hv⟩)
    (fun i m hi hv => by
      obtain ⟨v, p, hp, hv⟩ := hv
      rw [← (hf i (by omega)).eq] at hp
      obtain ⟨a, ha, rfl⟩ := List.mem_map.1 hp
      exact ⟨a, ha, v, hv⟩)
    (fun i hi a ha => ⟨0, tgt x a, st i hi a ha, rfl⟩) (fun k i hk hi a ha => by obtain ⟨m, hm⟩ := hk; exact ⟨m + 1, hm.snoc (st i hi a ha)⟩) (fun i hi m => by obtain ⟨k, hk⟩ := hi; exact hk.cycle m)
  rw [explore_first (validS_ok hs).2 hl hx, hlen] at this
  exact ⟨⟨fun h => ⟨(this.1 h).1, (this.1 h).2.2.1, (this.1 h).2.2.2⟩, this.2⟩, fun h => (this.1 h).2.1⟩
end Go.Proofs.YtebbmhlkdfmmcaaGreat
namespace Go.Proofs.YtebbmhlkdfmmcaaGreat
open Go.RowKit Go.Proofs.Kv Go

/-! ### where the rows of the graph lead -/
theorem inF_tgt (d : Int) : ∀ (vs : List (List Int)) {W : List (List Int)} {D r : List Int} {s : List (List Int) × List Int × List Int}, inF d W D r vs = some s →
    ∃ js, s.2.2 = r ++ js ∧ js.map (fun j => s.1.getD j.toNat []) = vs ∧ ∀ j ∈ js, 0 ≤ j ∧ j.toNat < s.1.length
  | [], W, D, r, s, h => by
    simp only [inF, Option.some.injEq] at h; subst h; exact ⟨[], by simp, rfl, fun j hj => by cases hj⟩
  | v :: vs, W, D, r, s, h => by
    unfold inF at h
    cases hf : findW W v with
    | some j =>
      rw [hf] at h
      obtain ⟨js, h1, h2, h3⟩ := inF_tgt d vs h
      have hp := (inF_len d vs h).2
      obtain ⟨f1, f2⟩ := findW_some hf
      refine ⟨(j : Int) :: js, by rw [h1]; simp, ?_, fun x hx => ?_⟩
      · rw [List.map_cons, h2, Int.toNat_natCast, prefix_getL hp f1, f2]
      · rcases List.mem_cons.1 hx with rfl | hx
        · exact ⟨by omega, by have := hp.length_le; simp; omega⟩
        · exact h3 x hx
    | none =>
      rw [hf] at h
      simp only at h
      by_cases h3 : W.length = 300
      · rw [if_pos h3] at h; cases h
      · rw [if_neg h3] at h
        obtain ⟨js, h1, h2, h4⟩ := inF_tgt d vs h
        have hp := (inF_len d vs h).2
        have hle := hp.length_le
        rw [List.length_append, List.length_singleton] at hle
        refine ⟨(W.length : Int) :: js, by rw [h1]; simp, ?_, fun x hx => ?_⟩
        · rw [List.map_cons, h2, Int.toNat_natCast, prefix_getL hp (by simp)]
          congr 1
          simp [List.getD]
        · rcases List.mem_cons.1 hx with rfl | hx
          · exact ⟨by omega, by simp; omega⟩
          · exact h4 x hx
structure RowTo (L : List Rl) (W N : List (List Int)) (k : Nat) : Prop where
  eq : (N.getD k []).map (fun j => W.getD j.toNat []) = resNext L (W.getD k [])
  lt : ∀ j ∈ N.getD k [], 0 ≤ j ∧ j.toNat < W.length
theorem outF_tgt {L : List Rl} : ∀ (f : Nat) {x y : Fd} {i : Nat}, x.next.length = i → i ≤ x.words.length → (∀ k, k < i → RowTo L x.words x.next k) → outF L f x i = some y →
    ∀ k, k < y.words.length → RowTo L y.words y.next k
  | 0, x, y, i, _, _, _, h => by cases h
  | f + 1, x, y, i, hn, hi, hk, h => by
    unfold outF at h
    by_cases hlt : i < x.words.length
    · rw [if_pos hlt] at h
      cases hs : inF (x.far.getD i 0) x.words x.far [] (resNext L (x.words.getD i [])) with
      | none => rw [hs] at h; cases h
      | some s =>
        rw [hs] at h
        have h : outF L f ⟨s.1, x.next ++ [s.2.2], s.2.1⟩ (i + 1) = some y := h
        obtain ⟨js, h1, h2, h3⟩ := inF_tgt _ _ hs
        have hp := (inF_len _ _ hs).2
        have hle := hp.length_le
        rw [List.nil_append] at h1
        refine outF_tgt f (x := ⟨s.1, x.next ++ [s.2.2], s.2.1⟩) (i := i + 1) (by show (x.next ++ [s.2.2]).length = _; simp [hn]) (by show i + 1 ≤ s.1.length; omega) (fun k hk' => ?_) h
        show RowTo L s.1 (x.next ++ [s.2.2]) k
        by_cases e : k = i
        · subst e
          have e1 : (x.next ++ [s.2.2]).getD k [] = js := by
            rw [List.getD, List.getElem?_append_right (by omega), hn, Nat.sub_self, h1]; rfl
          exact ⟨by rw [e1, h2, prefix_getL hp hlt], by rw [e1]; exact h3⟩
        · have e1 : (x.next ++ [s.2.2]).getD k [] = x.next.getD k [] := by rw [List.getD, List.getD, List.getElem?_append_left (by omega)]
          have hr := hk k (by omega)
          refine ⟨?_, by rw [e1]; exact fun j hj => ⟨(hr.lt j hj).1, Nat.lt_of_lt_of_le (hr.lt j hj).2 hle⟩⟩
          rw [e1, prefix_getL hp (by omega), ← hr.eq]
          exact List.map_congr_left fun j hj => prefix_getL hp (hr.lt j hj).2
    · rw [if_neg hlt] at h
      injection h with h
      subst h
      obtain rfl : i = x.words.length := by omega
      exact hk
theorem reached_tgt {L : List Rl} {l : List Int} {y : Fd} (h : reachedF L l = some y) : ∀ k, k < y.words.length → RowTo L y.words y.next k :=
  outF_tgt 301 (x := ⟨[l], [], [0]⟩) (i := 0) rfl (by simp) (fun k hk => absurd hk (by omega)) h

/-! ### the document's rounds -/
structure Lg where
  most : Nat → Int
  best : Int
  ch : Bool
def relax (i j : Nat) (s : Lg) : Lg := if s.most j < s.most i + 1 then ⟨fun k => if j = k then s.most i + 1 else s.most k, max s.best (s.most i + 1), true⟩ else s
def rowX (i : Nat) (js : List Int) (s : Lg) : Lg := js.foldl (fun s j => relax i j.toNat s) s
def rndX (N : List (List Int)) : Nat → Lg → Lg
  | 0, s => s
  | k + 1, s => rowX k (N.getD k []) (rndX N k s)
def Lg.fresh (s : Lg) : Lg := ⟨s.most, s.best, false⟩
def loopX (N : List (List Int)) (n : Nat) : Nat → Lg → Int × Bool
  | 0, _ => (0, false)
  | f + 1, s => if (rndX N n s.fresh).ch then loopX N n f (rndX N n s.fresh) else ((rndX N n s.fresh).best, true)
def lg0 : Lg := ⟨fun _ => 0, 0, false⟩
def longX (N : List (List Int)) (n : Nat) : Int × Bool := loopX N n (n + 1) lg0
/-- what a step of the rounds may do -/
structure Grow (s t : Lg) : Prop where
  up : ∀ k, s.most k ≤ t.most k
  ch : s.ch = true → t.ch = true
  same : t.ch = false → t = s
theorem Grow.refl (s : Lg) : Grow s s := ⟨fun _ => Int.le_refl _, fun h => h, fun _ => rfl⟩
theorem Grow.trans {s t u : Lg} (h : Grow s t) (k : Grow t u) : Grow s u := ⟨fun i => Int.le_trans (h.up i) (k.up i), fun e => k.ch (h.ch e), fun e => by
  have e1 := k.same e
  have e2 : t.ch = false := by rw [← e1]; exact e
  rw [e1]; exact h.same e2⟩
theorem relax_grow (i j : Nat) (s : Lg) : Grow s (relax i j s) ∧ s.most i + 1 ≤ (relax i j s).most j := by
  unfold relax
  by_cases h : s.most j < s.most i + 1
  · rw [if_pos h]
    refine ⟨⟨fun k => ?_, fun _ => rfl, fun e => (by cases e)⟩, ?_⟩
    · show s.most k ≤ if j = k then s.most i + 1 else s.most k
      by_cases e : j = k
      · subst e; rw [if_pos rfl]; omega
      · rw [if_neg e]; omega
    · show s.most i + 1 ≤ if j = j then s.most i + 1 else s.most j
      rw [if_pos rfl]; omega
  · rw [if_neg h]; exact ⟨Grow.refl s, by omega⟩
theorem rowX_grow (i : Nat) : ∀ (js : List Int) (s : Lg), Grow s (rowX i js s) ∧ ∀ j ∈ js, s.most i + 1 ≤ (rowX i js s).most j.toNat
  | [], s => ⟨Grow.refl s, fun j hj => by cases hj⟩
  | j :: js, s => by
    obtain ⟨g1, g2⟩ := relax_grow i j.toNat s
    obtain ⟨h1, h2⟩ := rowX_grow i js (relax i j.toNat s)
    refine ⟨g1.trans h1, fun x hx => ?_⟩
    show _ ≤ (rowX i js (relax i j.toNat s)).most _
    rcases List.mem_cons.1 hx with rfl | hx
    · exact Int.le_trans g2 (h1.up _)
    · have := h2 x hx
      have := g1.up i
      omega
theorem rndX_grow (N : List (List Int)) : ∀ (n : Nat) (s : Lg), Grow s (rndX N n s) ∧ ∀ i, i < n → ∀ j ∈ N.getD i [], s.most i + 1 ≤ (rndX N n s).most j.toNat
  | 0, s => ⟨Grow.refl s, fun i hi => by omega⟩
  | n + 1, s => by
    obtain ⟨g1, g2⟩ := rndX_grow N n s
    obtain ⟨h1, h2⟩ := rowX_grow n (N.getD n []) (rndX N n s)
    refine ⟨g1.trans h1, fun i hi j hj => ?_⟩
    show _ ≤ (rowX n (N.getD n []) (rndX N n s)).most _
    by_cases e : i = n
    · subst e
      have := h2 j hj
      have := g1.up i
      omega
    · exact Int.le_trans (g2 i (by omega) j hj) (h1.up _)
structure Jr (V : Nat → Nat → Prop) (n r : Nat) (s : Lg) : Prop where
  gw : ∀ k, k < n → 0 ≤ s.most k ∧ V (s.most k).toNat k ∧ s.most k ≤ s.best
  bt : 0 ≤ s.best ∧ ∃ k, k < n ∧ V s.best.toNat k
  rr : ∀ m k, m ≤ r → k < n → V m k → (m : Int) ≤ s.most k
  ch : s.ch = true → (r : Int) + 1 ≤ s.best
theorem Jr.relax {V : Nat → Nat → Prop} {n r : Nat} {s : Lg} (h : Jr V n r s) {i j : Nat} (hi : i < n) (hj : j < n) (hv : ∀ m, V m i → V (m + 1) j) : Jr V n r (relax i j s) := by
  unfold Go.Proofs.YtebbmhlkdfmmcaaGreat.relax
  by_cases hlt : s.most j < s.most i + 1
  · rw [if_pos hlt]
    obtain ⟨i1, i2, i3⟩ := h.gw i hi
    have hw : V (s.most i + 1).toNat j := by rw [show (s.most i + 1).toNat = (s.most i).toNat + 1 by omega]; exact hv _ i2
    have hbig : (r : Int) + 1 ≤ s.most i + 1 := by
      rcases Int.lt_or_le (s.most i + 1) ((r : Int) + 1) with hh | hh
      · have := h.rr (s.most i + 1).toNat j (by omega) hj hw
        omega
      · exact hh
    refine ⟨fun k hk => ?_, ⟨?_, ?_⟩, fun m k hm hk hvk => ?_, fun _ => ?_⟩
    · show 0 ≤ (if j = k then s.most i + 1 else s.most k) ∧ V (if j = k then s.most i + 1 else s.most k).toNat k ∧ (if j = k then s.most i + 1 else s.most k) ≤ max s.best (s.most i + 1)
      by_cases e : j = k
      · subst e; rw [if_pos rfl]; exact ⟨by omega, hw, by omega⟩
      · rw [if_neg e]
        obtain ⟨k1, k2, k3⟩ := h.gw k hk
        exact ⟨k1, k2, by omega⟩
    · show 0 ≤ max s.best (s.most i + 1)
      omega
    · show ∃ k, k < n ∧ V (max s.best (s.most i + 1)).toNat k
      rcases Int.le_total s.best (s.most i + 1) with q | q
      · rw [Int.max_eq_right q]; exact ⟨j, hj, hw⟩
      · rw [Int.max_eq_left q]; exact h.bt.2
    · show (m : Int) ≤ if j = k then s.most i + 1 else s.most k
      have := h.rr m k hm hk hvk
      by_cases e : j = k
      · subst e; rw [if_pos rfl]; omega
      · rw [if_neg e]; exact this
    · show (r : Int) + 1 ≤ max s.best (s.most i + 1)
      omega
  · rw [if_neg hlt]; exact h
theorem Jr.row {V : Nat → Nat → Prop} {n r i : Nat} (hi : i < n) : ∀ {js : List Int} {s : Lg}, Jr V n r s → (∀ j ∈ js, j.toNat < n ∧ ∀ m, V m i → V (m + 1) j.toNat) → Jr V n r (rowX i js s)
  | [], _, h, _ => h
  | j :: js, _, h, hj => Jr.row hi (js := js) (h.relax hi (hj j (by simp)).1 (hj j (by simp)).2) fun x hx => hj x (by simp [hx])
theorem Jr.rnd {V : Nat → Nat → Prop} {n r : Nat} {N : List (List Int)} (hN : ∀ i, i < n → ∀ j ∈ N.getD i [], j.toNat < n ∧ ∀ m, V m i → V (m + 1) j.toNat) : ∀ {k : Nat} {s : Lg}, k ≤ n → Jr V n r s → Jr V n r (rndX N k s)
  | 0, _, _, h => h
  | k + 1, _, hk, h => Jr.row (by omega) (Jr.rnd hN (k := k) (by omega) h) (hN k (by omega))
theorem loopX_most {V : Nat → Nat → Prop} {n : Nat} {N : List (List Int)} (hN : ∀ i, i < n → ∀ j ∈ N.getD i [], j.toNat < n ∧ ∀ m, V m i → V (m + 1) j.toNat)
    (v2 : ∀ k m, k < n → V (m + 1) k → ∃ i, i < n ∧ ∃ j ∈ N.getD i [], j.toNat = k ∧ V m i) : ∀ (f r : Nat) {s : Lg}, Jr V n r s.fresh → (r : Int) ≤ s.best →
      ((loopX N n f s).2 = true → 0 ≤ (loopX N n f s).1 ∧ (∃ k, k < n ∧ V (loopX N n f s).1.toNat k) ∧ ∀ m k, k < n → V m k → (m : Int) ≤ (loopX N n f s).1) ∧
      ((loopX N n f s).2 = false → (loopX N n f s).1 = 0 ∧ ∃ m k, k < n ∧ r + f ≤ m ∧ V m k)
  | 0, r, s, h, hb => ⟨fun e => (by cases e), fun _ => ⟨rfl, by
    obtain ⟨k, hk, hv⟩ := h.bt.2
    exact ⟨s.best.toNat, k, hk, by omega, hv⟩⟩⟩
  | f + 1, r, s, h, hb => by
    have h1 := Jr.rnd hN (Nat.le_refl n) h
    obtain ⟨g1, g2⟩ := rndX_grow N n s.fresh
    unfold loopX
    by_cases hc : (rndX N n s.fresh).ch = true
    · rw [if_pos hc]
      have hbt := h1.ch hc
      obtain ⟨t, ht⟩ : ∃ t, rndX N n s.fresh = t := ⟨_, rfl⟩
      rw [ht] at h1 g1 g2 hc hbt ⊢
      have h2 : Jr V n (r + 1) t.fresh := ⟨h1.gw, h1.bt, fun m k hm hk hv => by
        show (m : Int) ≤ t.most k
        cases m with
        | zero => exact (h1.gw k hk).1
        | succ m =>
          obtain ⟨i, hi, j, hj, e, hv'⟩ := v2 k m hk hv
          have q1 := g2 i hi j hj
          have q2 := h.rr m i (by omega) hi hv'
          rw [e] at q1
          omega, fun e => by cases e⟩
      obtain ⟨t1, t2⟩ := loopX_most hN v2 f (r + 1) h2 (by omega)
      refine ⟨t1, fun e => ?_⟩
      obtain ⟨t3, m, k, hk, hm, hv⟩ := t2 e
      exact ⟨t3, m, k, hk, by omega, hv⟩
    · rw [if_neg hc]
      have hc' : (rndX N n s.fresh).ch = false := by simpa using hc
      rw [g1.same hc'] at g2 ⊢
      refine ⟨fun _ => ⟨h.bt.1, h.bt.2, fun m k hk hv => ?_⟩, fun e => (by cases e)⟩
      have key : ∀ (m k : Nat), k < n → V m k → (m : Int) ≤ s.fresh.most k := by
        intro m
        induction m with
        | zero => exact fun k hk _ => (h.gw k hk).1
        | succ m ih =>
          intro k hk hv
          obtain ⟨i, hi, j, hj, e, hv'⟩ := v2 k m hk hv
          have q1 := g2 i hi j hj
          have q2 := ih i hi hv'
          rw [e] at q1
          omega
      exact Int.le_trans (key m k hk hv) (h.gw k hk).2.2
theorem longest_same {L : List Rl} {l : List Int} {x : Web} {y : Fd} (hs : validS L = 0) (hl : validW l = 0) (hx : exploreF L l = some x) (hy : reachedF L l = some y) : longR x.arcs = longX y.next y.words.length := by
  obtain ⟨p1, p2⟩ := prog_most hs hl hx
  obtain ⟨a1, a2⟩ := exploreF_some (validS_ok hs).2 hl hx
  obtain ⟨g1, g2⟩ := reachedF_some hs hl hy
  have hr := reached_tgt hy
  have hsz : x.words.length ≤ y.words.length := nodup_le a1.nd fun u hu => (g2 u).2 ((a2 u).1 hu)
  have hpos : 0 < y.words.length := List.length_pos_of_mem ((g2 l).2 (.refl _))
  have hmem : ∀ k, k < y.words.length → y.words.getD k [] ∈ y.words := fun k hk => mem_getW.2 ⟨k, hk, rfl⟩
  have hnx : ∀ i, i < y.words.length → ∀ v, (∃ m ∈ movesL L (y.words.getD i []), m.2 = v) ↔ ∃ j ∈ y.next.getD i [], y.words.getD j.toNat [] = v := fun i hi v => by
    rw [← mem_resNext hs (g1.ok _ (hmem i hi)), ← (hr i hi).eq, List.mem_map]
  have hX := loopX_most (V := fun m k => ∃ u, Rch L l u ∧ Wlk L m u (y.words.getD k [])) (n := y.words.length) (N := y.next) (fun i hi j hj => ⟨((hr i hi).lt j hj).2, fun m hv => by
      obtain ⟨u, hu, hw⟩ := hv
      obtain ⟨p, hp, e⟩ := (hnx i hi _).2 ⟨j, hj, rfl⟩
      exact ⟨u, hu, by rw [← e]; exact hw.snoc hp⟩⟩) (fun k m hk hv => by
      obtain ⟨u, hu, hw⟩ := hv
      obtain ⟨v, hv, p, hp, e⟩ := hw.unsnoc
      obtain ⟨i, hi, ei⟩ := mem_getW.1 ((g2 v).2 (hu.trans hv.rch))
      obtain ⟨j, hj, ej⟩ := (hnx i hi (y.words.getD k [])).1 ⟨p, by rw [ei]; exact hp, e⟩
      refine ⟨i, hi, j, hj, ?_, u, hu, by rw [ei]; exact hv⟩
      have hjl := ((hr i hi).lt j hj).2
      simp only [List.getD, List.getElem?_eq_getElem hjl, List.getElem?_eq_getElem hk, Option.getD_some] at ej
      exact (List.getElem_inj g1.nd).1 ej) (y.words.length + 1) 0 (s := lg0) ⟨fun k hk => ⟨Int.le_refl _, ⟨_, g1.rch _ (hmem k hk), rfl⟩, Int.le_refl _⟩, ⟨Int.le_refl _, 0, hpos, _, g1.rch _ (hmem 0 hpos), rfl⟩, fun m k hm _ _ => by
        show (m : Int) ≤ 0
        omega, fun e => by cases e⟩ (Int.le_refl _)
  refine p1.uniq ⟨fun e => ?_, fun e => ?_⟩
  · obtain ⟨q1, ⟨k, hk, u, hu, hw⟩, q3⟩ := hX.1 e
    refine ⟨q1, ?_, fun m hm => ?_⟩
    · obtain ⟨j, hj⟩ := rch_wlk hu
      exact Wk.le ⟨_, hj.app hw⟩ (Nat.le_add_left _ _)
    · obtain ⟨v, hv⟩ := hm
      obtain ⟨k, hk, ek⟩ := mem_getW.1 ((g2 v).2 hv.rch)
      exact q3 m k hk ⟨l, .refl _, by rw [ek]; exact hv⟩
  · obtain ⟨q1, m, k, hk, hm, u, hu, hw⟩ := hX.2 e
    refine ⟨q1, ?_⟩
    cases hb : (longR x.arcs).2 with
    | false => exact (p1.2 hb).2
    | true =>
      exfalso
      obtain ⟨-, -, h3⟩ := p1.1 hb
      obtain ⟨j, hj⟩ := rch_wlk hu
      have := h3 _ ⟨_, hj.app hw⟩
      have := p2 hb
      omega
end Go.Proofs.YtebbmhlkdfmmcaaGreat
namespace Go.Proofs.YtebbmhlkdfmmcaaGreat
open Go.RowKit Go.Proofs.Kv Go

/-! ### longest of the document -/
theorem rowX_snoc (i : Nat) (js : List Int) (s : Lg) {k : Nat} (hk : k < js.length) : rowX i (js.take (k + 1)) s = relax i (js.getD k 0).toNat (rowX i (js.take k) s) := by
  rw [take_snoc js 0 k hk]; simp [rowX, List.foldl_append]
def UpTo (s : Lg) (B : Int) : Prop := ∀ q, 0 ≤ s.most q ∧ s.most q ≤ B
theorem relax_up {s : Lg} {B : Int} (h : UpTo s B) (i j : Nat) : UpTo (relax i j s) (B + 1) := fun q => by
  have h1 := h i; have h2 := h q
  unfold relax
  by_cases hc : s.most j < s.most i + 1
  · rw [if_pos hc]
    show 0 ≤ (if j = q then s.most i + 1 else s.most q) ∧ (if j = q then s.most i + 1 else s.most q) ≤ B + 1
    by_cases e : j = q
    · rw [if_pos e]; omega
    · rw [if_neg e]; omega
  · rw [if_neg hc]; omega
theorem rowX_up (i : Nat) : ∀ {js : List Int} {s : Lg} {B : Int}, UpTo s B → UpTo (rowX i js s) (B + js.length)
  | [], _, _, h => by simpa [rowX] using h
  | j :: js, s, B, h => by
    have := rowX_up i (js := js) (relax_up h i j.toNat)
    intro q
    have := this q
    rw [List.length_cons]
    have e : rowX i (j :: js) s = rowX i js (relax i j.toNat s) := rfl
    rw [e]; omega
theorem rndX_up {N : List (List Int)} (hR : ∀ i, (N.getD i []).length ≤ 300) : ∀ {k : Nat} {s : Lg} {B : Int}, UpTo s B → UpTo (rndX N k s) (B + 300 * k)
  | 0, _, _, h => by simpa [rndX] using h
  | k + 1, s, B, h => by
    have := rowX_up k (js := N.getD k []) (rndX_up hR (k := k) h)
    intro q
    have h1 := this q
    have h2 := hR k
    have e : rndX N (k + 1) s = rowX k (N.getD k []) (rndX N k s) := rfl
    rw [e]; omega
set_option maxRecDepth 100000 in
set_option maxHeartbeats 4000000 in
theorem r3longest_calls (aw : Option Addr) (n cw : Nat) (an : Option Addr) (nl cn : Nat) (fv : Value) (N : List (List Int)) (w : World) (hN : ListsAt w an nl cn N) (hkn : n = nl) (hn : n ≤ 300) (hR : ∀ i, (N.getD i []).length ≤ 300) (hI : ∀ i, i < n → ∀ j ∈ N.getD i [], 0 ≤ j ∧ j.toNat < n) (af : Option Addr) (fl cf : Nat) (hf : fv = .slice af fl cf) :
    Calls Tryz.prog 35 #[.agg #[.slice aw n cw, .slice an nl cn, fv]] w fun e w' => e = .returned (.tuple #[.int .i64 (longX N n).1, .bool (longX N n).2]) ∧ Below w.heap.size w w' := by
  subst hf
  subst hkn
  obtain ⟨w1, hw1⟩ : ∃ w1, w.alloc (.cells #[.slice aw n cw, .slice an n cn, .slice af fl cf] 54) = w1 := ⟨_, rfl⟩
  have b1 : Below w.heap.size w w1 := by rw [← hw1]; exact below_alloc _ _
  have hz1 : w.heap.size < w1.heap.size := by rw [← hw1]; simp
  have q0 : w1.cell? ⟨w.heap.size, 0, none⟩ = some (.slice aw n cw) := by rw [← hw1]; exact cells_alloc _ _ _ 0
  have q1 : w1.cell? ⟨w.heap.size, 1, none⟩ = some (.slice an n cn) := by rw [← hw1]; exact cells_alloc _ _ _ 1
  have HN := hid_ (fun V (hV : Below w1.heap.size w1 V) => (hN.below b1 (Nat.le_refl _)).below hV (Nat.le_refl _))
  have Hb1 := hid_ b1
  have HR := hid_ hR; have HI := hid_ hI
  obtain ⟨i0, hi0, hz0, hiz1, hiz2⟩ := info_parts Tryz.infoInt
  have HY2 : Hid (i0.bytes * n ≤ 281474976710656) := hid_ (by rw [hiz2]; omega)
  clear hN b1 hR hI
  go_enter Tryz.func35, Tryz.ntmps35
  go_wp2_with (at_make; refine wpList_make_vals _ rfl (.tmp 13) (.tmp 13) _ rfl 3 i0 _ Tryz.underlying23 hi0 hz0 hiz1 rfl n rfl rfl HY2.out (by omega) ?_; intro w2 hv2 hc2)
  have HB := hid_ (fun W (hk : Kept (fun b => b = w1.heap.size) w2 W) => (show Below w1.heap.size w1 W from hc2.trans ((hk.below (B := w1.heap.size) hc2.size fun i hi => by omega))))
  have HV2 := hid_ (show ValsAt 3 w2 w1.heap.size n (fun k => .int .i64 (lg0.most k)) from hv2)
  clear hv2 hc2 hw1
  go_loopw [5, 6] (fun bv rv wr => ∃ (r : Nat) (s : Lg), r ≤ n + 1 ∧ rv = .int .i64 (r : Int) ∧ bv = .int .i64 s.best ∧ Kept (fun b => b = w1.heap.size) w2 wr ∧ ValsAt 3 wr w1.heap.size n (fun k => .int .i64 (s.most k)) ∧ longX N n = loopX N n (n + 1 - r) s ∧ UpTo s (90000 * r)) (fun _ rv _ => n + 1 - (intOf rv).toNat)
  case atStart => exact ⟨0, lg0, Nat.zero_le _, rfl, rfl, Kept.refl _ _, HV2.out, rfl, fun _ => ⟨Int.le_refl _, by show (0 : Int) ≤ _; omega⟩⟩
  case round =>
    obtain ⟨r, s, hr, rfl, rfl, hkp, hva, hlx, hup⟩ := hrel
    have q0r := cell_below q0 (HB.out wr hkp)
    by_cases hlt : r < n + 1
    · have hwr : IntKind.i64.wrap ((r : Int) + 1) = (r : Int) + 1 := IntWalk.i64_in _ (by omega)
      have Hlx : Hid (longX N n = if (rndX N n s.fresh).ch then loopX N n (n + 1 - (r + 1)) (rndX N n s.fresh) else ((rndX N n s.fresh).best, true)) := hid_ (by
        rw [hlx, show n + 1 - r = (n + 1 - (r + 1)) + 1 by omega]; rfl)
      have Hkp := hid_ hkp; have Hva := hid_ hva; have Hup := hid_ hup
      clear hlx hkp hva hup
      go_wp2
      have hrn : r ≤ n := by omega
      simp only [show (r ≤ n) = True from eq_true hrn, decide_true]
      clear hrn
      obtain ⟨wo, rfl⟩ : ∃ wo, wo = wr := ⟨_, rfl⟩
      go_loopw [5, 7, 8] (fun bv cv iv wr2 => ∃ i : Nat, i ≤ n ∧ iv = .int .i64 (i : Int) ∧ bv = .int .i64 (rndX N i s.fresh).best ∧ cv = .bool (rndX N i s.fresh).ch ∧ Kept (fun b => b = w1.heap.size) w2 wr2 ∧ ValsAt 3 wr2 w1.heap.size n (fun k => .int .i64 ((rndX N i s.fresh).most k))) (fun _ _ iv _ => n - (intOf iv).toNat)
      case atStart => exact ⟨0, Nat.zero_le _, rfl, rfl, rfl, Hkp.out, Hva.out⟩
      case round =>
        obtain ⟨i, hi, rfl, rfl, rfl, hkp, hva⟩ := hrel
        have q0r2 := cell_below q0 (HB.out wr hkp)
        by_cases hlt2 : i < n
        · have hwi : IntKind.i64.wrap ((i : Int) + 1) = (i : Int) + 1 := IntWalk.i64_in _ (by omega)
          obtain ⟨bn, on, a2, n2, c2, hane, -, hc2, hi2⟩ := (HN.out w1 (Below.refl _ _)).cells i hlt2
          have hl2 := hi2.len
          obtain ⟨js, hjs⟩ : ∃ js, N.getD i [] = js := ⟨_, rfl⟩
          obtain ⟨t, ht⟩ : ∃ t, rndX N i s.fresh = t := ⟨_, rfl⟩
          have Hnext : Hid (rndX N (i + 1) s.fresh = rowX i js t) := hid_ (by rw [← hjs, ← ht]; rfl)
          have HupT : Hid (UpTo t (90000 * r + 300 * i)) := hid_ (by rw [← ht]; exact rndX_up HR.out (k := i) (s := s.fresh) Hup.out)
          have HjR : Hid (js.length ≤ 300) := hid_ (by rw [← hjs]; exact HR.out i)
          have HjI : Hid (∀ j ∈ js, 0 ≤ j ∧ j.toNat < n) := hid_ (by rw [← hjs]; exact HI.out i hlt2)
          have HC := hid_ (fun W (hk : Kept (fun b => b = w1.heap.size) w2 W) => show W.cell? ⟨w.heap.size, 1, none⟩ = some (.slice (some ⟨bn, on, none⟩) n cn) ∧ W.cell? ⟨bn, on + i, none⟩ = some (.slice a2 n2 c2) ∧ IntsAt W a2 n2 c2 js from ⟨by rw [← hane]; exact cell_below q1 (HB.out W hk), cell_below hc2 (HB.out W hk), by rw [← hjs]; exact hi2.below (HB.out W hk) (Nat.le_refl _)⟩)
          rw [ht] at hva ⊢
          rw [hjs] at hl2
          have Hkp := hid_ hkp; have Hva := hid_ hva
          clear hkp hva hi2 hc2 ht hjs hane
          go_wp2
          obtain ⟨wo2, rfl⟩ : ∃ wo2, wo2 = wr := ⟨_, rfl⟩
          go_loopw [5, 7, 9] (fun bv cv kv wr3 => ∃ k : Nat, k ≤ n2 ∧ kv = .int .i64 (k : Int) ∧ bv = .int .i64 (rowX i (js.take k) t).best ∧ cv = .bool (rowX i (js.take k) t).ch ∧ Kept (fun b => b = w1.heap.size) w2 wr3 ∧ ValsAt 3 wr3 w1.heap.size n (fun q => .int .i64 ((rowX i (js.take k) t).most q))) (fun _ _ kv _ => n2 - (intOf kv).toNat)
          case atStart => exact ⟨0, Nat.zero_le _, rfl, rfl, rfl, Hkp.out, Hva.out⟩
          case round =>
            obtain ⟨k, hk, rfl, rfl, rfl, hkp, hva⟩ := hrel
            obtain ⟨r1, r2, r3⟩ := HC.out wr hkp
            by_cases hlt3 : k < n2
            · obtain ⟨b3, o3, e3, -, r4⟩ := r3.cells k hlt3
              obtain ⟨j1, j2⟩ := HjI.out (js.getD k 0) (List.mem_of_getElem? (getD_is (by rw [hl2]; exact hlt3) 0))
              obtain ⟨g, hg⟩ := Int.eq_ofNat_of_zero_le j1
              have Hsn := hid_ (rowX_snoc i js t (k := k) (by rw [hl2]; exact hlt3))
              rw [hg] at r4 j2 Hsn
              rw [Int.toNat_natCast] at j2 Hsn
              have hupk := rowX_up i (js := js.take k) HupT.out
              have hjR := HjR.out
              obtain ⟨u, hu⟩ : ∃ u, rowX i (js.take k) t = u := ⟨_, rfl⟩
              rw [hu] at hva hupk Hsn ⊢
              have m1 := hva.cell hlt2; have m2 := hva.cell j2; have m3 := hva.free g
              have u1 := hupk i
              rw [List.length_take] at u1
              have hwk : IntKind.i64.wrap ((k : Int) + 1) = (k : Int) + 1 := IntWalk.i64_in _ (by omega)
              have hwm : IntKind.i64.wrap (u.most i + 1) = u.most i + 1 := IntWalk.i64_in _ (by omega)
              subst e3
              by_cases hlm : u.most g < u.most i + 1
              · have Hst : Hid (rowX i (js.take (k + 1)) t = ⟨fun k => if g = k then u.most i + 1 else u.most k, max u.best (u.most i + 1), true⟩) := hid_ (by rw [Hsn.out, relax, if_pos hlm])
                have Hkp := hid_ hkp; have Hva := hid_ hva
                have hMr := hid_ (Hva.out.set (r := g) (.int .i64 (u.most i + 1)))
                have hKr := hid_ (Hkp.out.setCell (p := ⟨w1.heap.size, g, none⟩) (fun _ => rfl) (.int .i64 (u.most i + 1)))
                clear hkp hva Hsn hu hupk r3
                go_wp2
                go_region
                go_wp2
                go_roundw
                case rel => exact ⟨k + 1, by omega, by go_num, by rw [Hst.out], by rw [Hst.out], hKr.out.next (below_drew1 (Below.refl _ _)), by rw [Hst.out]; exact (hMr.out.kept ((below_drew1 (Below.refl _ _)).kept (F := fun _ => False)) fun h => h).congr fun q => by by_cases e : g = q <;> simp [e]⟩
                case measure => (simp [intOf]; try omega)
              · have Hst : Hid (rowX i (js.take (k + 1)) t = u) := hid_ (by rw [Hsn.out, relax, if_neg hlm])
                have Hkp := hid_ hkp; have Hva := hid_ hva
                clear hkp hva Hsn hu hupk r3
                go_wp2
                go_region
                go_wp2
                go_roundw
                case rel => exact ⟨k + 1, by omega, by go_num, by rw [Hst.out], by rw [Hst.out], Hkp.out.next (below_drew1 (Below.refl _ _)), by rw [Hst.out]; exact Hva.out.kept ((below_drew1 (Below.refl _ _)).kept (F := fun _ => False)) fun h => h⟩
                case measure => (simp [intOf]; try omega)
            · obtain rfl : k = n2 := by omega
              rw [List.take_of_length_le (by omega)] at hva ⊢
              have Hkp := hid_ hkp; have Hva := hid_ hva
              clear hkp hva r3
              go_wp2
              go_roundw
              case rel => exact ⟨i + 1, by omega, by go_num, by rw [Hnext.out], by rw [Hnext.out], Hkp.out, by rw [Hnext.out]; exact Hva.out⟩
              case measure => (simp [intOf]; try omega)
        · obtain rfl : i = n := by omega
          have Hkp := hid_ hkp; have Hva := hid_ hva
          have HupN := hid_ (rndX_up HR.out (k := i) (s := s.fresh) Hup.out)
          obtain ⟨t, ht⟩ : ∃ t, rndX N i s.fresh = t := ⟨_, rfl⟩
          rw [ht] at Hva Hlx HupN ⊢
          clear hkp hva ht
          cases hc : t.ch with
          | true =>
            rw [hc, if_pos rfl] at Hlx
            go_wp2
            go_roundw
            case rel => exact ⟨r + 1, t, by omega, by go_num, rfl, Hkp.out, Hva.out, Hlx.out, fun q => ⟨(HupN.out q).1, Int.le_trans (HupN.out q).2 (by omega)⟩⟩
            case measure => (simp [intOf]; try omega)
          | false =>
            rw [hc] at Hlx
            have Hl2 : Hid (longX N i = (t.best, true)) := hid_ (by rw [Hlx.out]; rfl)
            clear Hlx
            have Hb := hid_ (Hb1.out.trans ((HB.out wr Hkp.out).mono Hb1.out.size))
            go_wp2
            go_ret2
            exact ⟨by rw [Hl2.out]; rfl, Hb.out⟩
    · obtain rfl : r = n + 1 := by omega
      have Hl2 : Hid (longX N n = (0, false)) := hid_ (by rw [hlx, Nat.sub_self]; rfl)
      have Hb := hid_ (Hb1.out.trans ((HB.out wr hkp).mono Hb1.out.size))
      clear hlx hkp hva hup
      go_wp2
      go_ret2
      exact ⟨by rw [Hl2.out]; rfl, Hb.out⟩
def resLongestR (L : List Rl) (l : List Int) : Int × Bool := match graphR L l with | some y => longX y.next y.words.length | none => (0, false)
theorem longest_eq (L : List Rl) (l : List Int) : resLongestR L l = resLongest L l := by
  unfold resLongestR resLongest
  cases hx : webR L l with
  | none =>
    cases hy : graphR L l with
    | none => rfl
    | some y => exact absurd (graphR_some hy).1 (webR_none hx)
  | some x =>
    obtain ⟨w0, he, hx⟩ := webR_some hx
    obtain ⟨hs, hl⟩ := errSW_ok' he
    cases hy : graphR L l with
    | none => exact absurd w0 (graphR_none hy)
    | some y => exact (longest_same hs hl hx (graphR_some hy).2.2).symm
theorem row_small {L : List Rl} {l : List Int} {y : Fd} (hs : validS L = 0) (hl : validW l = 0) (h : reachedF L l = some y) (i : Nat) : (y.next.getD i []).length ≤ 300 := by
  obtain ⟨g1, g2⟩ := reachedF_some hs hl h
  obtain ⟨r1, r2⟩ := reached_rows h
  by_cases hi : i < y.words.length
  · rw [r2 i hi]
    have hm := mem_getW.2 ⟨i, hi, rfl⟩
    have hv := g1.ok _ hm
    refine Nat.le_trans (nodup_le (T := y.words) ?_ fun u hu => ?_) g1.le
    · rw [resNext, if_pos (errSW_one hs hv)]
      exact (fold_ins _ (acc := []) List.Pairwise.nil).1.imp fun h e => by subst e; exact LtL_irr _ h
    · obtain ⟨m, hm', e⟩ := (mem_resNext hs hv).1 hu
      rw [← e]; exact (g2 _).2 (((g2 _).1 hm).tail hm')
  · rw [List.getD, List.getElem?_eq_none (by omega)]; simp
set_option maxRecDepth 100000 in
set_option maxHeartbeats 4000000 in
theorem r3Longest_calls (A : Option Addr) (N C : Nat) (L : List Rl) (a : Option Addr) (n c : Nat) (l : List Int) (w : World) (h : RulesAt w A N C L) (hI : IntsAt w a n c l) :
    Calls Tryz.prog 18 #[.slice A N C, .slice a n c] w fun e w' => e = .returned (.tuple #[.int .i64 (resLongest L l).1, .bool (resLongest L l).2, .int .i64 (errWeb L l)]) ∧ Below w.heap.size w w' := by
  rw [← longest_eq]
  cases hy : graphR L l with
  | none =>
    have HW := hid_ (graphed_bad h hI hy)
    have hne := graphR_none hy
    have Hr : Hid (resLongestR L l = (0, false)) := hid_ (by rw [resLongestR, hy])
    generalize errWeb L l = x at *
    have hq : (x != 0) = true := by simpa using hne
    clear hy hne h hI
    go_enter Tryz.func18, Tryz.ntmps18
    go_wp2_with (go_at_call 30; (with_reducible refine HW.out.mono ?_); rintro e w3 ⟨rfl, hb3⟩)
    go_ret3
    exact ⟨by rw [Hr.out]; rfl, hb3.trans ((below_alloc w3 _).mono hb3.size)⟩
  | some y =>
    obtain ⟨h0, he, hx⟩ := graphR_some hy
    obtain ⟨hs, hl⟩ := errSW_ok' he
    have hn := (reached_rows hx).1
    have hle := (reachedF_some hs hl hx).1.le
    have hrs := row_small hs hl hx
    have hrt := reached_tgt hx
    have HW := hid_ (graphed_good h hI hy)
    have Hr : Hid (resLongestR L l = longX y.next y.words.length) := hid_ (by rw [resLongestR, hy])
    rw [h0, Hr.out]
    obtain ⟨xl, hxl⟩ : ∃ xl, y.words.length = xl := ⟨_, rfl⟩
    obtain ⟨fl, hfl⟩ : ∃ fl, y.far.length = fl := ⟨_, rfl⟩
    rw [hxl] at hn hle hrt
    rw [hn, hxl, hfl] at HW
    rw [hxl]
    have HL := hid_ (fun aw cw an cn V (hV : ListsAt V an xl cn y.next) af cf => r3longest_calls aw xl cw an xl cn _ y.next V hV rfl hle hrs (fun i hi j hj => by have := (hrt i hi).lt j hj; rw [hxl] at this; exact this) af fl cf rfl)
    clear hy h0 he hx hs hl hn h hI Hr hxl hfl hrs hrt
    go_enter Tryz.func18, Tryz.ntmps18
    go_wp2_with (first
      | (go_at_call 30; (with_reducible refine HW.out.mono ?_); rintro e w3 ⟨F, Bx, aw, cw, an, cn, af, cf, rfl, hG3, hb3⟩; have HE3 := hid_ (fun V (hV : Below w3.heap.size w3 V) => HL.out aw cw an cn V ((graph_next hG3).below hV (Nat.le_refl _)) af cf); have Hb3 := hid_ hb3; clear hG3 hb3)
      | (go_at_call 35; (with_reducible refine (HE3.out _ (below_alloc w3 _)).mono ?_); rintro e w5 ⟨rfl, hb5⟩))
    go_ret3
    exact ⟨rfl, Hb3.out.trans (((below_alloc w3 _).trans (hb5.mono (by simp))).mono Hb3.out.size)⟩
set_option maxRecDepth 100000 in
set_option maxHeartbeats 4000000 in
theorem r3Forever_calls (A : Option Addr) (N C : Nat) (L : List Rl) (a : Option Addr) (n c : Nat) (l : List Int) (w : World) (h : RulesAt w A N C L) (hI : IntsAt w a n c l) :
    Calls Tryz.prog 16 #[.slice A N C, .slice a n c] w fun e w' => e = .returned (.tuple #[.bool (decide (errWeb L l = 0) && !(resLongest L l).2), .int .i64 (errWeb L l)]) ∧ Below w.heap.size w w' := by
  have HL := hid_ (r3Longest_calls A N C L a n c l w h hI)
  generalize (resLongest L l).1 = p at *
  generalize (resLongest L l).2 = q at *
  generalize errWeb L l = x at *
  clear h hI
  by_cases hx : x = 0
  · subst hx
    rw [decide_eq_true rfl, Bool.true_and]
    go_enter Tryz.func16, Tryz.ntmps16
    go_wp2_with (go_at_call 18; (with_reducible refine HL.out.mono ?_); rintro e w3 ⟨rfl, hb3⟩)
    go_ret2
    exact ⟨rfl, hb3⟩
  · rw [decide_eq_false hx, Bool.false_and]
    have hq : (x == 0) = false := by simpa using hx
    go_enter Tryz.func16, Tryz.ntmps16
    go_wp2_with (go_at_call 18; (with_reducible refine HL.out.mono ?_); rintro e w3 ⟨rfl, hb3⟩)
    go_ret2
    exact ⟨rfl, hb3⟩
end Go.Proofs.YtebbmhlkdfmmcaaGreat
namespace Go.Proofs.YtebbmhlkdfmmcaaGreat
open Go.RowKit Go.Proofs.Kv Go

/-! ### the law FeedForever -/
set_option maxRecDepth 100000 in
set_option maxHeartbeats 8000000 in
theorem feedForever_calls (A : Option Addr) (N C : Nat) (L : List Rl) (a : Option Addr) (n c : Nat) (l : List Int) (w : World) (h : RulesAt w A N C L) (hI : IntsAt w a n c l) :
    Calls Tryz.prog 4 #[.slice A N C, .slice a n c] w fun e w' => e = .returned (.bool true) ∧ Below w.heap.size w w' := by
  have HK := hid_ known3_calls
  have HG := hid_ (long3_calls A N C L w h)
  have HB := hid_ (fun W (hW : Below w.heap.size w W) => large3_calls a n c l W (hI.below hW (Nat.le_refl _)))
  have HE := hid_ (fun W (hW : Below w.heap.size w W) => feForever_calls A N C L a n c l W (h.below hW (Nat.le_refl _)) (hI.below hW (Nat.le_refl _)))
  have HF := hid_ (fun W (hW : Below w.heap.size w W) => r3Forever_calls A N C L a n c l W (h.below hW (Nat.le_refl _)) (hI.below hW (Nat.le_refl _)))
  have HP := hid_ (fun W (hW : Below w.heap.size w W) => feLongest_calls A N C L a n c l W (h.below hW (Nat.le_refl _)) (hI.below hW (Nat.le_refl _)))
  have HQ := hid_ (fun W (hW : Below w.heap.size w W) => r3Longest_calls A N C L a n c l W (h.below hW (Nat.le_refl _)) (hI.below hW (Nat.le_refl _)))
  clear h hI
  cases hg : bigS L with
  | true =>
    rw [hg] at HG
    go_enter Tryz.func4, Tryz.ntmps4
    go_wp2_with (first
      | (go_at_call 7; (with_reducible refine HG.out.mono ?_); rintro e w2 ⟨rfl, hb2⟩)
      | (go_at_call 9; (with_reducible refine (HK.out _).mono ?_); rintro e w3 ⟨rfl, hb3⟩))
    go_ret
    exact ⟨rfl, hb2.trans (hb3.mono hb2.size)⟩
  | false =>
    rw [hg] at HG
    cases hl : bigOne3 l with
    | true =>
      rw [hl] at HB
      go_enter Tryz.func4, Tryz.ntmps4
      go_wp2_with (first
        | (go_at_call 7; (with_reducible refine HG.out.mono ?_); rintro e w2 ⟨rfl, hb2⟩)
        | (go_at_call 8; (with_reducible refine (HB.out w2 hb2).mono ?_); rintro e w3 ⟨rfl, rfl⟩)
        | (go_at_call 9; (with_reducible refine (HK.out _).mono ?_); rintro e w3 ⟨rfl, hb3⟩))
      go_ret
      exact ⟨rfl, hb2.trans (hb3.mono hb2.size)⟩
    | false =>
      rw [hl] at HB
      clear hg hl
      generalize (resLongest L l).1 = p at *
      generalize (resLongest L l).2 = q at *
      generalize errWeb L l = x at *
      by_cases hx : x = 0
      · subst hx
        rw [decide_eq_true rfl, Bool.true_and] at HE HF
        cases q with
        | true =>
          go_enter Tryz.func4, Tryz.ntmps4
          go_wp2_with (first
            | (go_at_call 7; (with_reducible refine HG.out.mono ?_); rintro e w2 ⟨rfl, hb2⟩)
            | (go_at_call 8; (with_reducible refine (HB.out w2 hb2).mono ?_); rintro e w3 ⟨rfl, rfl⟩)
            | (go_at_call 14; (with_reducible refine (HE.out _ hb2).mono ?_); rintro e w4 ⟨rfl, hc4⟩; have hb4 := hb2.trans (hc4.mono hb2.size))
            | (go_at_call 16; (with_reducible refine (HF.out _ hb4).mono ?_); rintro e w5 ⟨rfl, hc5⟩; have hb5 := hb4.trans (hc5.mono hb4.size))
            | (go_at_call 17; (with_reducible refine (HP.out _ hb5).mono ?_); rintro e w6 ⟨rfl, hc6⟩; have hb6 := hb5.trans (hc6.mono hb5.size))
            | (go_at_call 18; (with_reducible refine (HQ.out _ hb6).mono ?_); rintro e w7 ⟨rfl, hc7⟩; have hb7 := hb6.trans (hc7.mono hb6.size))
            | (go_at_call 9; (with_reducible refine (HK.out _).mono ?_); rintro e wk ⟨rfl, hbk⟩))
          go_ret
          exact ⟨rfl, hb7.trans (hbk.mono hb7.size)⟩
        | false =>
          go_enter Tryz.func4, Tryz.ntmps4
          go_wp2_with (first
            | (go_at_call 7; (with_reducible refine HG.out.mono ?_); rintro e w2 ⟨rfl, hb2⟩)
            | (go_at_call 8; (with_reducible refine (HB.out w2 hb2).mono ?_); rintro e w3 ⟨rfl, rfl⟩)
            | (go_at_call 14; (with_reducible refine (HE.out _ hb2).mono ?_); rintro e w4 ⟨rfl, hc4⟩; have hb4 := hb2.trans (hc4.mono hb2.size))
            | (go_at_call 16; (with_reducible refine (HF.out _ hb4).mono ?_); rintro e w5 ⟨rfl, hc5⟩; have hb5 := hb4.trans (hc5.mono hb4.size))
            | (go_at_call 17; (with_reducible refine (HP.out _ hb5).mono ?_); rintro e w6 ⟨rfl, hc6⟩; have hb6 := hb5.trans (hc6.mono hb5.size))
            | (go_at_call 18; (with_reducible refine (HQ.out _ hb6).mono ?_); rintro e w7 ⟨rfl, hc7⟩; have hb7 := hb6.trans (hc7.mono hb6.size))
            | (go_at_call 9; (with_reducible refine (HK.out _).mono ?_); rintro e wk ⟨rfl, hbk⟩))
          go_ret
          exact ⟨rfl, hb7.trans (hbk.mono hb7.size)⟩
      · have hq : (x != 0) = true := by simpa using hx
        rw [decide_eq_false hx, Bool.false_and] at HE HF
        clear hx
        go_enter Tryz.func4, Tryz.ntmps4
        go_wp2_with (first
          | (go_at_call 7; (with_reducible refine HG.out.mono ?_); rintro e w2 ⟨rfl, hb2⟩)
          | (go_at_call 8; (with_reducible refine (HB.out w2 hb2).mono ?_); rintro e w3 ⟨rfl, rfl⟩)
          | (go_at_call 14; (with_reducible refine (HE.out _ hb2).mono ?_); rintro e w4 ⟨rfl, hc4⟩; have hb4 := hb2.trans (hc4.mono hb2.size))
          | (go_at_call 16; (with_reducible refine (HF.out _ hb4).mono ?_); rintro e w5 ⟨rfl, hc5⟩; have hb5 := hb4.trans (hc5.mono hb4.size))
          | (go_at_call 17; (with_reducible refine (HP.out _ hb5).mono ?_); rintro e w6 ⟨rfl, hc6⟩; have hb6 := hb5.trans (hc6.mono hb5.size))
          | (go_at_call 18; (with_reducible refine (HQ.out _ hb6).mono ?_); rintro e w7 ⟨rfl, hc7⟩; have hb7 := hb6.trans (hc7.mono hb6.size))
          | (go_at_call 9; (with_reducible refine (HK.out _).mono ?_); rintro e wk ⟨rfl, hbk⟩))
        go_ret
        exact ⟨rfl, hb7.trans (hbk.mono hb7.size)⟩
end Go.Proofs.YtebbmhlkdfmmcaaGreat
