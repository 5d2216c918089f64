import Derived.Test.YtebbmhlkdfmmcaaGreatJub
import Derived.Test.YtebbmhlkdfmmcaaGreatJwb
import Derived.Test.YtebbmhlkdfmmcaaGreatJwc
namespace Go.Proofs.YtebbmhlkdfmmcaaGreat
open Go.RowKit Go.Proofs.Kv

/-! ### how far steps go from a word: the search by depth -/
structure Ms where
  most : Nat → Int
  ent : Nat → Bool
  left : Nat → Bool
def Ms.enter (s : Ms) (i : Nat) : Ms := ⟨s.most, fun k => s.ent k || decide (i = k), s.left⟩
def Ms.leave (s : Ms) (i : Nat) : Ms := ⟨s.most, s.ent, fun k => s.left k || decide (i = k)⟩
def Ms.raise (s : Ms) (i j : Nat) : Ms := ⟨fun k => if i = k then max (s.most i) (s.most j + 1) else s.most k, s.ent, s.left⟩
def rowF (v : Nat → Ms → Bool × Ms) (i : Nat) : List Ac → Ms → Bool × Ms
  | [], s => (true, s)
  | a :: r, s => match v a.2 s with
    | (false, s') => (false, s')
    | (true, s') => rowF v i r (s'.raise i a.2)
def measF (A : List (List Ac)) : Nat → Nat → Ms → Bool × Ms
  | 0, _, s => (false, s)
  | f + 1, i, s => if s.ent i then (s.left i, s) else match rowF (measF A f) i (A.getD i []) (s.enter i) with
    | (true, s') => (true, s'.leave i)
    | (false, s') => (false, s')
def cntB (n : Nat) (u : Nat → Bool) : Nat := ((List.range n).filter u).length
theorem cntB_le (n : Nat) (u : Nat → Bool) : cntB n u ≤ n := by
  unfold cntB
  refine Nat.le_trans (List.length_filter_le _ _) ?_
  simp
theorem cntB_succ (n : Nat) (u : Nat → Bool) : cntB (n + 1) u = cntB n u + if u n then 1 else 0 := by
  unfold cntB
  rw [List.range_succ, List.filter_append, List.length_append]
  congr 1
  cases h : u n <;> simp [h]
theorem cntB_mono {u v : Nat → Bool} (h : ∀ k, u k = true → v k = true) : ∀ n, cntB n u ≤ cntB n v
  | 0 => Nat.le_refl _
  | n + 1 => by
    have := cntB_mono h n
    rw [cntB_succ, cntB_succ]
    cases hu : u n with
    | true => rw [h n hu]; simp; omega
    | false => simp; omega
theorem cntB_add {u : Nat → Bool} {i : Nat} (hu : u i = false) : ∀ n, cntB n (fun k => u k || decide (i = k)) = cntB n u + if i < n then 1 else 0
  | 0 => rfl
  | n + 1 => by
    rw [cntB_succ, cntB_succ, cntB_add hu n]
    by_cases e : i = n
    · subst e; simp [hu]
    · have : decide (i = n) = false := by simpa using e
      rw [this, Bool.or_false]
      have h1 : (i < n + 1) = (i < n) := propext ⟨fun h => by omega, fun h => by omega⟩
      simp only [h1]; omega
def unE (n : Nat) (s : Ms) : Nat := n - cntB n s.ent
/-- the numbers are no larger than the words that were left -/
structure MsOk (n : Nat) (s : Ms) : Prop where
  nn : ∀ k, 0 ≤ s.most k ∧ s.most k ≤ (cntB n s.left : Int)
  lf : ∀ k, k < n → s.left k = true → s.most k + 1 ≤ (cntB n s.left : Int)
structure MsLe (s t : Ms) : Prop where
  ent : ∀ k, s.ent k = true → t.ent k = true
  left : ∀ k, s.left k = true → t.left k = true
theorem MsLe.refl (s : Ms) : MsLe s s := ⟨fun _ h => h, fun _ h => h⟩
theorem MsLe.trans {s t u : Ms} (h : MsLe s t) (k : MsLe t u) : MsLe s u := ⟨fun i e => k.ent i (h.ent i e), fun i e => k.left i (h.left i e)⟩
theorem MsOk.enter {n : Nat} {s : Ms} (h : MsOk n s) (i : Nat) : MsOk n (s.enter i) := ⟨h.nn, h.lf⟩
theorem MsOk.raise {n : Nat} {s : Ms} (h : MsOk n s) {i j : Nat} (hj : j < n) (hl : s.left j = true) (hi : s.left i = false) : MsOk n (s.raise i j) := by
  have h1 := h.nn i; have h2 := h.nn j; have h3 := h.lf j hj hl
  refine ⟨fun k => ?_, fun k hk hkl => ?_⟩
  · show 0 ≤ (if i = k then max (s.most i) (s.most j + 1) else s.most k) ∧ (if i = k then max (s.most i) (s.most j + 1) else s.most k) ≤ (cntB n s.left : Int)
    by_cases e : i = k
    · rw [if_pos e]; omega
    · rw [if_neg e]; exact h.nn k
  · show (if i = k then max (s.most i) (s.most j + 1) else s.most k) + 1 ≤ (cntB n s.left : Int)
    have e : i ≠ k := fun e => by subst e; change s.left i = true at hkl; rw [hi] at hkl; cases hkl
    rw [if_neg e]; exact h.lf k hk hkl
theorem MsOk.leave {n : Nat} {s : Ms} (h : MsOk n s) {i : Nat} (hi : i < n) (hl : s.left i = false) : MsOk n (s.leave i) := by
  have hc : cntB n (s.leave i).left = cntB n s.left + 1 := by
    show cntB n (fun k => s.left k || decide (i = k)) = _
    rw [cntB_add hl, if_pos hi]
  refine ⟨fun k => ?_, fun k hk hkl => ?_⟩
  · rw [hc]; have := h.nn k; show 0 ≤ s.most k ∧ s.most k ≤ _; omega
  · rw [hc]; have := h.nn k; show s.most k + 1 ≤ _; omega
/-- what the search does to its state -/
structure Did (n : Nat) (i : Nat) (s : Ms) (r : Bool × Ms) : Prop where
  ok : MsOk n r.2
  le : MsLe s r.2
  lft : r.1 = true → r.2.left i = true
  /-- no word that was entered and not left is left by it -/
  hold : ∀ k, s.ent k = true → s.left k = false → r.2.left k = false
def ArcsIn (n : Nat) (A : List (List Ac)) : Prop := ∀ i, ∀ a ∈ A.getD i [], a.2 < n
theorem measF_did {n : Nat} {A : List (List Ac)} (hA : ArcsIn n A) : ∀ (f : Nat) {i : Nat} {s : Ms}, i < n → MsOk n s → (∀ k, s.left k = true → s.ent k = true) → Did n i s (measF A f i s) ∧ ∀ k, (measF A f i s).2.left k = true → (measF A f i s).2.ent k = true
  | 0, i, s, _, hs, hle => ⟨⟨hs, MsLe.refl _, fun h => (by cases h), fun _ _ h => h⟩, hle⟩
  | f + 1, i, s, hi, hs, hle => by
    unfold measF
    by_cases he : s.ent i = true
    · rw [if_pos he]
      exact ⟨⟨hs, MsLe.refl _, fun h => h, fun _ _ h => h⟩, hle⟩
    · rw [if_neg he]
      have hli : s.left i = false := by
        cases h : s.left i with
        | false => rfl
        | true => exact absurd (hle i h) he
      have key : ∀ (l : List Ac) (t : Ms), (∀ a ∈ l, a.2 < n) → MsOk n t → (∀ k, t.left k = true → t.ent k = true) → t.ent i = true → t.left i = false →
          MsOk n (rowF (measF A f) i l t).2 ∧ MsLe t (rowF (measF A f) i l t).2 ∧ (∀ k, t.ent k = true → t.left k = false → (rowF (measF A f) i l t).2.left k = false) ∧ ∀ k, (rowF (measF A f) i l t).2.left k = true → (rowF (measF A f) i l t).2.ent k = true := by
        intro l
        induction l with
        | nil => exact fun t _ h1 h2 _ _ => ⟨h1, MsLe.refl _, fun _ _ h => h, h2⟩
        | cons a l ih =>
          intro t hl h1 h2 h3 h4
          obtain ⟨d, d2⟩ := measF_did hA f (hl a (by simp)) h1 h2
          rw [rowF]
          cases hm : measF A f a.2 t with
          | mk b t' =>
            rw [hm] at d d2
            have hh := d.hold i h3 h4
            cases b with
            | false => exact ⟨d.ok, d.le, d.hold, d2⟩
            | true =>
              obtain ⟨q1, q2, q3, q4⟩ := ih (t'.raise i a.2) (fun b hb => hl b (by simp [hb])) (d.ok.raise (hl a (by simp)) (d.lft rfl) hh) d2 (d.le.ent i h3) hh
              exact ⟨q1, (d.le.trans (t := t') ⟨q2.ent, q2.left⟩), fun k k1 k2 => q3 k (d.le.ent k k1) (d.hold k k1 k2), q4⟩
      obtain ⟨q1, q2, q3, q4⟩ := key (A.getD i []) (s.enter i) (hA i) (hs.enter i) (fun k hk => by
        show (s.ent k || _) = true
        rw [hle k hk]; rfl) (by show (s.ent i || decide (i = i)) = true; simp) hli
      have hle1 : MsLe s (s.enter i) := ⟨fun k h => by show (s.ent k || _) = true; rw [h]; rfl, fun _ h => h⟩
      have hold1 : ∀ k, s.ent k = true → s.left k = false → (rowF (measF A f) i (A.getD i []) (s.enter i)).2.left k = false := fun k k1 k2 => q3 k (hle1.ent k k1) k2
      cases hm : rowF (measF A f) i (A.getD i []) (s.enter i) with
      | mk b t =>
        rw [hm] at q1 q2 q3 q4 hold1
        have hent : t.ent i = true := q2.ent i (by show (s.ent i || decide (i = i)) = true; simp)
        have hlt : t.left i = false := q3 i (by show (s.ent i || decide (i = i)) = true; simp) hli
        cases b with
        | false => exact ⟨⟨q1, hle1.trans q2, fun h => (by cases h), hold1⟩, q4⟩
        | true =>
          refine ⟨⟨q1.leave hi hlt, ⟨fun k h => q2.ent k (hle1.ent k h), fun k h => ?_⟩, fun _ => ?_, fun k k1 k2 => ?_⟩, fun k h => ?_⟩
          · show (t.left k || _) = true
            rw [q2.left k h]; rfl
          · show (t.left i || decide (i = i)) = true; simp
          · show (t.left k || decide (i = k)) = false
            rw [hold1 k k1 k2]
            have : i ≠ k := fun e => by subst e; exact he k1
            simpa using this
          · change (t.left k || decide (i = k)) = true at h
            rcases Bool.or_eq_true _ _ ▸ h with h | h
            · exact q4 k h
            · have := of_decide_eq_true h; subst this; exact hent
end Go.Proofs.YtebbmhlkdfmmcaaGreat
namespace Go.Proofs.YtebbmhlkdfmmcaaGreat
open Go.RowKit Go.Proofs.Kv

/-! ### measure -/
/-- block b holds the values of f below n -/
def ValsAt (T : TypeId) (w : World) (b n : Nat) (f : Nat → Value) : Prop := w.heap[b]? = some (.cells ((List.range n).map f).toArray T (0, 0))
theorem ValsAt.cell {T : TypeId} {w : World} {b n : Nat} {f : Nat → Value} (h : ValsAt T w b n f) {k : Nat} (hk : k < n) : w.cell? ⟨b, k, none⟩ = some (f k) := by
  rw [Go.Joins.cell_of_block h]; simp [hk]
theorem ValsAt.free {T : TypeId} {w : World} {b n : Nat} {f : Nat → Value} (h : ValsAt T w b n f) (k : Nat) : w.frozen? ⟨b, k, none⟩ = false := Go.Joins.unfrozen_of_block h k
theorem ValsAt.set {T : TypeId} {w : World} {b n r : Nat} {f : Nat → Value} (h : ValsAt T w b n f) (v : Value) : ValsAt T (w.setCell ⟨b, r, none⟩ v) b n (fun k => if r = k then v else f k) := by
  have := Go.Joins.block_setCell h (i := r) v
  rw [ValsAt, this]
  congr 2
  rw [List.setIfInBounds_toArray]
  congr 1
  refine List.ext_getElem (by simp) fun i h1 h2 => ?_
  simp only [List.length_map, List.length_range] at h2
  rw [List.getElem_set]
  by_cases e : r = i
  · subst e; simp
  · simp [e]
theorem ValsAt.kept {F : Nat → Prop} {T : TypeId} {w w' : World} {b n : Nat} {f : Nat → Value} (h : ValsAt T w b n f) (hk : Kept F w w') (hF : ¬ F b) : ValsAt T w' b n f := (hk.block b (Go.lt_of_block h) hF).trans h
theorem ValsAt.congr {T : TypeId} {w : World} {b n : Nat} {f g : Nat → Value} (h : ValsAt T w b n f) (e : ∀ k, f k = g k) : ValsAt T w b n g := by
  have : f = g := funext e
  rw [← this]; exact h
/-- the state of the search in memory -/
structure MsAt (w : World) (be bl bm n : Nat) (s : Ms) : Prop where
  ent : BoolsAt 4 w be n s.ent
  left : BoolsAt 4 w bl n s.left
  most : ValsAt 3 w bm n (fun k => .int .i64 (s.most k))
theorem MsAt.next {w w' : World} {be bl bm n : Nat} {s : Ms} (h : MsAt w be bl bm n s) (hb : Below w.heap.size w w') : MsAt w' be bl bm n s :=
  ⟨h.ent.kept (hb.kept (F := fun _ => False)) fun h => h, h.left.kept (hb.kept (F := fun _ => False)) fun h => h, h.most.kept (hb.kept (F := fun _ => False)) fun h => h⟩
theorem setOne (w : World) (b i : Nat) (v : Value) : Kept (fun k => k = b) w (w.setCell ⟨b, i, none⟩ v) := (Kept.refl (fun k => k = b) w).setCell (p := ⟨b, i, none⟩) (fun _ => rfl) v
theorem MsAt.enter {w : World} {be bl bm n : Nat} {s : Ms} (h : MsAt w be bl bm n s) (d1 : be ≠ bl) (d2 : be ≠ bm) (i : Nat) : MsAt (w.setCell ⟨be, i, none⟩ (.bool true)) be bl bm n (s.enter i) :=
  ⟨h.ent.set, h.left.kept (setOne w be i _) (Ne.symm d1), h.most.kept (setOne w be i _) (Ne.symm d2)⟩
theorem MsAt.leave {w : World} {be bl bm n : Nat} {s : Ms} (h : MsAt w be bl bm n s) (d1 : be ≠ bl) (d3 : bl ≠ bm) (i : Nat) : MsAt (w.setCell ⟨bl, i, none⟩ (.bool true)) be bl bm n (s.leave i) :=
  ⟨h.ent.kept (setOne w bl i _) d1, h.left.set, h.most.kept (setOne w bl i _) (Ne.symm d3)⟩
theorem MsAt.raise {w : World} {be bl bm n : Nat} {s : Ms} (h : MsAt w be bl bm n s) (d2 : be ≠ bm) (d3 : bl ≠ bm) (i j : Nat) : MsAt (w.setCell ⟨bm, i, none⟩ (.int .i64 (max (s.most i) (s.most j + 1)))) be bl bm n (s.raise i j) :=
  ⟨h.ent.kept (setOne w bm i _) d2, h.left.kept (setOne w bm i _) d3, (h.most.set _).congr fun k => by
    show _ = Value.int .i64 (if i = k then max (s.most i) (s.most j + 1) else s.most k)
    by_cases e : i = k
    · rw [if_pos e, if_pos e]
    · rw [if_neg e, if_neg e]⟩
theorem unE_enter {n : Nat} {s : Ms} {i : Nat} (hi : i < n) (he : s.ent i = false) : unE n (s.enter i) + 1 = unE n s := by
  unfold unE
  show n - cntB n (fun k => s.ent k || decide (i = k)) + 1 = _
  have h1 := cntB_add he n
  have h2 := cntB_le n (fun k => s.ent k || decide (i = k))
  rw [if_pos hi] at h1
  omega
theorem unE_le {n : Nat} {s t : Ms} (h : MsLe s t) : unE n t ≤ unE n s := by
  have := cntB_mono h.ent n
  unfold unE; omega
theorem drop_getDA {r : List Ac} {k : Nat} (hk : k < r.length) : r.drop k = r.getD k Ac0 :: r.drop (k + 1) := by
  rw [List.drop_eq_getElem_cons hk]; simp [List.getD, List.getElem?_eq_getElem hk]
set_option maxRecDepth 100000 in
set_option maxHeartbeats 4000000 in
theorem measure_calls (A : List (List Ac)) (n : Nat) (hn : n ≤ 300) (hA : ArcsIn n A) (be bl bm xe xl xx xv xm : Nat) (d1 : be ≠ bl) (d2 : be ≠ bm) (d3 : bl ≠ bm) (aa : Option Addr) (ca : Nat) (w0 : World)
    (HE : ∀ W, Kept (fun b => b = be ∨ b = bl ∨ b = bm) w0 W → W.cell? ⟨xe, 0, none⟩ = some (.slice (some ⟨be, 0, none⟩) n n) ∧ W.cell? ⟨xl, 0, none⟩ = some (.slice (some ⟨bl, 0, none⟩) n n) ∧ W.cell? ⟨xx, 2, none⟩ = some (.slice aa n ca) ∧
      W.cell? ⟨xv, 0, none⟩ = some (.func (.func 55) #[] #[.pointer (some ⟨xe, 0, none⟩), .pointer (some ⟨xl, 0, none⟩), .pointer (some ⟨xx, 0, none⟩), .pointer (some ⟨xv, 0, none⟩), .pointer (some ⟨xm, 0, none⟩)]) ∧ W.cell? ⟨xm, 0, none⟩ = some (.slice (some ⟨bm, 0, none⟩) n n))
    (HC : ∀ k, k < n → ∃ g a2 c2, aa = some ⟨g, 0, none⟩ ∧ (∀ W, Kept (fun b => b = be ∨ b = bl ∨ b = bm) w0 W → W.cell? ⟨g, k, none⟩ = some (.slice a2 (A.getD k []).length c2)) ∧ (A.getD k []).length ≤ 9223372036854775807 ∧
      ∀ j, j < (A.getD k []).length → ∃ g2, a2 = some ⟨g2, 0, none⟩ ∧ ∀ W, Kept (fun b => b = be ∨ b = bl ∨ b = bm) w0 W → W.cell? ⟨g2, j * 3, none⟩ = some (.int .i64 ((A.getD k []).getD j Ac0).1.1) ∧ W.cell? ⟨g2, j * 3 + 1, none⟩ = some (.int .i64 ((A.getD k []).getD j Ac0).1.2) ∧ W.cell? ⟨g2, j * 3 + 2, none⟩ = some (.int .i64 (((A.getD k []).getD j Ac0).2 : Int))) :
    ∀ (f i : Nat) (s : Ms) (w : World), MsAt w be bl bm n s → MsOk n s → (∀ k, s.left k = true → s.ent k = true) → i < n → unE n s < f → Kept (fun b => b = be ∨ b = bl ∨ b = bm) w0 w →
      Calls Tryz.prog 55 #[.int .i64 (i : Int), .pointer (some ⟨xe, 0, none⟩), .pointer (some ⟨xl, 0, none⟩), .pointer (some ⟨xx, 0, none⟩), .pointer (some ⟨xv, 0, none⟩), .pointer (some ⟨xm, 0, none⟩)] w
        fun e w' => e = .returned (.bool (measF A f i s).1) ∧ MsAt w' be bl bm n (measF A f i s).2 ∧ Kept (fun b => b = be ∨ b = bl ∨ b = bm) w w' := by
  intro f
  induction f with
  | zero => intro i s w _ _ _ _ h; omega
  | succ f ih =>
    intro i s w hM hO hL hi hf hk
    obtain ⟨e1, e2, e3, e4, e5⟩ := HE w hk
    cases he : s.ent i with
    | true =>
      have Hres : Hid (measF A (f + 1) i s = (s.left i, s)) := hid_ (by rw [measF, if_pos he])
      have q0 := hM.ent.cell hi
      have q1 := hM.left.cell hi
      rw [he] at q0
      have HM := hid_ hM
      clear ih HE HC hM hO hL hf hk he
      go_enter Tryz.func55, Tryz.ntmps55
      go_wp2
      go_ret
      exact ⟨by rw [Hres.out]; rfl, by rw [Hres.out]; exact HM.out, Kept.refl _ _⟩
    | false =>
      have q0 := hM.ent.cell hi
      have f0 := hM.ent.free i
      rw [he] at q0
      have hM1 := hM.enter d1 d2 i
      have hk1 : Kept (fun b => b = be ∨ b = bl ∨ b = bm) w (w.setCell ⟨be, i, none⟩ (.bool true)) := (setOne w be i _).mono fun _ _ h => .inl h
      obtain ⟨w1, hw1⟩ : ∃ w1, w.setCell ⟨be, i, none⟩ (.bool true) = w1 := ⟨_, rfl⟩
      rw [hw1] at hM1 hk1
      have hk01 := hk.trans hk1 (fun _ _ h => h) (fun _ _ h => h)
      obtain ⟨g, a2, c2, rfl, hc, hm, hj⟩ := HC i hi
      have hli : s.left i = false := by
        cases h : s.left i with
        | false => rfl
        | true => rw [hL i h] at he; cases he
      have Hun := unE_enter hi he
      obtain ⟨t1, t2, t3, t4, t5⟩ := HE w1 hk01
      have r1 := hc w1 hk01
      have Hres : Hid (measF A (f + 1) i s = match rowF (measF A f) i (A.getD i []) (s.enter i) with | (true, s') => (true, s'.leave i) | (false, s') => (false, s')) := hid_ (by
        rw [measF, if_neg (by rw [he]; simp)] <;> (rcases rowF (measF A f) i (A.getD i []) (s.enter i) with ⟨b, t⟩; cases b <;> rfl))
      have Hin := hid_ (hA i)
      have HE := hid_ HE
      have Hj := hid_ hj
      have Hih := hid_ ih
      have HM1 := hid_ hM1
      have Hk1 := hid_ hk1
      have Hk0 := hid_ hk
      have HO1 := hid_ (hO.enter i)
      have HL1 : Hid (∀ k, (s.enter i).left k = true → (s.enter i).ent k = true) := hid_ (fun k hk => by show (s.ent k || _) = true; rw [hL k hk]; rfl)
      have Hei : Hid ((s.enter i).ent i = true) := hid_ (by show (s.ent i || decide (i = i)) = true; simp)
      have HA := hid_ hA
      have hf1 : unE n (s.enter i) < f := by omega
      clear ih HC hM hO hL hk he hk1 hk01 hc hM1 hj hf Hun hA
      generalize A.getD i [] = row at *
      go_enter Tryz.func55, Tryz.ntmps55
      go_wp2
      go_loopw [27] (fun ix wr => ∃ j : Nat, j ≤ row.length ∧ ix = .int .i64 j ∧ ∃ t : Ms, MsAt wr be bl bm n t ∧ MsOk n t ∧ (∀ k, t.left k = true → t.ent k = true) ∧ t.ent i = true ∧ t.left i = false ∧ unE n t < f ∧ rowF (measF A f) i row (s.enter i) = rowF (measF A f) i (row.drop j) t ∧ Kept (fun b => b = be ∨ b = bl ∨ b = bm) w wr) (fun ix _ => row.length - (intOf ix).toNat)
      case atStart => exact ⟨0, Nat.zero_le _, rfl, s.enter i, HM1.out, HO1.out, HL1.out, Hei.out, hli, hf1, rfl, Hk1.out⟩
      case round =>
        obtain ⟨j, hjl, rfl, t, hMt, hOt, hLt, het, hlt, hut, hrow, hkt⟩ := hrel
        by_cases hlt2 : j < row.length
        · obtain ⟨g2, rfl, hcj⟩ := Hj.out j hlt2
          have hk0r := Hk0.out.trans hkt (fun _ _ h => h) (fun _ _ h => h)
          obtain ⟨p0, p1, p2⟩ := hcj wr hk0r
          have htj := Hin.out (row.getD j Ac0) (List.mem_of_getElem? (getD_is hlt2 Ac0))
          rw [drop_getDA hlt2, rowF] at hrow
          generalize row.getD j Ac0 = ac at *
          obtain ⟨⟨x1, x2⟩, tj⟩ := ac
          simp only at p0 p1 p2 htj hrow
          obtain ⟨wb, hwb⟩ : ∃ wb, wr.alloc (.cells #[.int .i64 x1, .int .i64 x2, .int .i64 (tj : Int)] 84) = wb := ⟨_, rfl⟩
          have hcb : Below wr.heap.size wr wb := by rw [← hwb]; exact below_alloc _ _
          have hb2 : wb.cell? ⟨wr.heap.size, 1, none⟩ = some (.int .i64 x2) := by rw [← hwb]; exact cells_alloc _ _ _ 1
          have hb3 : wb.cell? ⟨wr.heap.size, 2, none⟩ = some (.int .i64 (tj : Int)) := by rw [← hwb]; exact cells_alloc _ _ _ 2
          have hz1 := Go.lt_of_block hMt.ent; have hz2 := Go.lt_of_block hMt.left; have hz3 := Go.lt_of_block hMt.most
          have hkb := hkt.next hcb
          have hk0b := hk0r.next hcb
          obtain ⟨-, -, -, s4, -⟩ := HE.out wb hk0b
          have hdid := measF_did HA.out f htj hOt hLt
          have HIH := hid_ (Hih.out tj t wb (hMt.next hcb) hOt hLt htj hut hk0b)
          have eg : ∀ args w, (callFunc 55 args).run Tryz.prog w = .ok (.enter 55 args) w := enters_of Tryz.func55 (by kernel_rfl) rfl
          have Hkb := hid_ hkb; have Hk0b := hid_ hk0b
          cases hmt : measF A f tj t with
          | mk b t' =>
            rw [hmt] at HIH hdid hrow
            obtain ⟨⟨g1, g2', g3, g4⟩, g5⟩ := hdid
            cases b with
            | false =>
              have Hr : Hid (measF A (f + 1) i s = (false, t')) := hid_ (by rw [Hres.out, hrow])
              clear hrow hmt g1 g2' g3 g4 g5 hMt hOt hLt hkt hk0r hcj hkb hk0b hcb
              go_wp2_with (go_at_call 55; (with_reducible refine HIH.out.mono ?_); rintro e w6 ⟨rfl, hM6, hk6⟩)
              go_ret
              exact ⟨by rw [Hr.out]; rfl, by rw [Hr.out]; exact hM6, Hkb.out.trans hk6 (fun _ _ h => h) (fun _ _ h => h)⟩
            | true =>
              have hlft := g3 rfl
              have hhold := g4 i het hlt
              have hent' := g2'.ent i het
              have Hrow := hid_ hrow
              have Hok' := hid_ (g1.raise htj hlft hhold)
              have Hun' : Hid (unE n (t'.raise i tj) < f) := hid_ (Nat.lt_of_le_of_lt (unE_le (t := t'.raise i tj) ⟨g2'.ent, g2'.left⟩) hut)
              have Hg5 : Hid (∀ k, (t'.raise i tj).left k = true → (t'.raise i tj).ent k = true) := hid_ g5
              have Hent' : Hid ((t'.raise i tj).ent i = true) := hid_ hent'
              have Hhold : Hid ((t'.raise i tj).left i = false) := hid_ hhold
              have hn1 := g1.nn i; have hn2 := g1.nn tj
              have hn3 := cntB_le n t'.left
              clear hrow hmt g1 g2' g3 g4 g5 hMt hOt hLt hkt hk0r hcj hkb hk0b hcb hlft hhold hent' het hlt hut
              go_wp2_with (go_at_call 55; (with_reducible refine HIH.out.mono ?_); rintro e w6 ⟨rfl, hM6, hk6⟩)
              have hk06 := Hk0b.out.trans hk6 (fun _ _ h => h) (fun _ _ h => h)
              obtain ⟨-, -, -, -, u5⟩ := HE.out w6 hk06
              have b3 := hk6.cell hb3 (by simp only; omega)
              have m1 := hM6.most.cell hi
              have m2 := hM6.most.cell htj
              have m3 := hM6.most.free i
              have hMr := (hM6.next (below_drew1 (Below.refl _ _))).raise d2 d3 i tj
              have Hkr := hid_ (((Hkb.out.trans hk6 (fun _ _ h => h) (fun _ _ h => h)).next (below_drew1 (Below.refl _ _))).setCell (p := ⟨bm, i, none⟩) (fun _ => .inr (.inr rfl)) (.int .i64 (max (t'.most i) (t'.most tj + 1))))
              have HMr := hid_ hMr
              clear hMr hM6 hk6 hk06 s4 hb2 hb3
              go_wp2_with fail
              have hwd : IntKind.i64.wrap (t'.most tj + 1) = t'.most tj + 1 := IntWalk.i64_in _ (by omega)
              go_region
              clear hwd
              go_wp2_with fail
              go_roundw
              case rel => exact ⟨j + 1, by omega, by go_num, t'.raise i tj, HMr.out, Hok'.out, Hg5.out, Hent'.out, Hhold.out, Hun'.out, Hrow.out, Hkr.out⟩
              case measure => simp [intOf]; omega
        · obtain rfl : row.length = j := by omega
          have hr0 : rowF (measF A f) i row (s.enter i) = (true, t) := by rw [hrow, List.drop_length, rowF]
          have Hr : Hid (measF A (f + 1) i s = (true, t.leave i)) := hid_ (by rw [Hres.out, hr0])
          have hk0r := Hk0.out.trans hkt (fun _ _ h => h) (fun _ _ h => h)
          obtain ⟨-, u2, -, -, -⟩ := HE.out wr hk0r
          have m1 := hMt.left.cell hi
          have m2 := hMt.left.free i
          have HMl := hid_ (hMt.leave d1 d3 i)
          have Hkl := hid_ (hkt.setCell (p := ⟨bl, i, none⟩) (fun _ => .inr (.inl rfl)) (.bool true))
          clear hMt hOt hLt hkt hk0r hrow hr0
          go_wp2
          go_ret
          exact ⟨by rw [Hr.out]; rfl, by rw [Hr.out]; exact HMl.out, Hkl.out⟩
end Go.Proofs.YtebbmhlkdfmmcaaGreat
namespace Go.Proofs.YtebbmhlkdfmmcaaGreat
open Go.RowKit Go.Proofs.Kv

/-! ### longest -/
theorem wpList_make_vals {P : Program} (w : World) {ops : Array Oper} {rest : List Oper} {o : Oper} {a : Act} {Q : Exit → Act → World → Prop}
    (hg : o.guard = none) (l c : Operand) (t : TypeId) (hop : o.op = Op.makeSlice t l c)
    (e : TypeId) (i : TypeInfo) (z : Value) (h1 : P.underlying t = some (.slice e)) (h2 : P.info? e = some i) (h3 : i.zero = some z) (h4 : i.size = 1) (hz : z.cells = #[z])
    (n : Nat) (hl : a.eval l = .int .i64 (n : Int)) (hc : a.eval c = .int .i64 (n : Int)) (b2 : i.bytes * n ≤ 281474976710656) (b3 : n ≤ 1000000)
    (hK : ∀ w', ValsAt e w' w.heap.size n (fun _ => z) → Below w.heap.size w w' → wpList P ops Q rest (a.put o.dst (.slice (some ⟨w.heap.size, 0, none⟩) n n)) w') :
    wpList P ops Q (o :: rest) a w := by
  refine wpList_make_full w hg l c t hop w.heap.size e i z 1 h1 h2 h3 h4 .i64 .i64 _ _ n hl hc rfl rfl b2 (by unfold maxLen; omega) (Nat.le_refl _) fun w' hown hgr => ?_
  refine hK w' ?_ ((Below.refl _ w).grown hgr (Nat.le_refl _) fun k hk => by cases hk)
  rcases hown.2 with ⟨q1, _⟩ | ⟨g, cap, cur, q1, q2, q3, q4, q5, q6, q7⟩
  · injection q1 with q1; cases q1
  · injection q1 with q1 _ q8
    injection q1 with q1
    injection q1 with q1
    subst q1; subst q8
    rw [ValsAt, q3]
    have e1 : cur.toList = (List.range n).map fun _ => z := by
      rw [← List.take_of_length_le (l := cur.toList) (i := n * 1) (by rw [Array.length_toList]; omega)]
      refine q7.trans ?_
      rw [hz]
      simp [madeCells, Nat.mod_one]
    rw [← e1]
def ms0 : Ms := ⟨fun _ => 0, fun _ => false, fun _ => false⟩
def longR (A : List (List Ac)) : Int × Bool := match measF A (A.length + 1) 0 ms0 with
  | (true, s) => (s.most 0, true)
  | (false, _) => (0, false)
theorem ms0_ok (n : Nat) : MsOk n ms0 := ⟨fun _ => ⟨Int.le_refl _, by show (0 : Int) ≤ _; omega⟩, fun _ _ h => by cases h⟩
theorem heap_at (w : World) (o : Obj) : (w.alloc o).heap[w.heap.size]? = some o := heap_alloc_at _ _
set_option maxRecDepth 100000 in
set_option maxHeartbeats 4000000 in
theorem longest_calls (A : List (List Ac)) (aw : Option Addr) (cw : Nat) (aa : Option Addr) (ca : Nat) (mm : Option Nat) (w : World) (h : ArcsAt w aa A.length ca A) (hn : A.length ≤ 300) (h0 : 0 < A.length) (hA : ArcsIn A.length A) :
    Calls Tryz.prog 34 #[.agg #[.slice aw A.length cw, .map mm, .slice aa A.length ca]] w fun e w' => e = .returned (.tuple #[.int .i64 (longR A).1, .bool (longR A).2]) ∧ Below w.heap.size w w' := by
  obtain ⟨n, hnl⟩ : ∃ n, A.length = n := ⟨_, rfl⟩
  have hHR : Hid (longR A = match measF A (n + 1) 0 ms0 with | (true, s) => (s.most 0, true) | (false, _) => (0, false)) := hid_ (by rw [← hnl]; rfl)
  rw [hnl] at h hn h0 hA ⊢
  obtain ⟨w1, hw1⟩ : ∃ w1, w.alloc (.cells #[.slice aw n cw, .map mm, .slice aa n ca] 49) = w1 := ⟨_, rfl⟩
  have b1 : w1.heap[w.heap.size]? = some (.cells #[.slice aw n cw, .map mm, .slice aa n ca] 49 (0, 0)) := by rw [← hw1]; exact heap_alloc_at _ _
  have c1 : Below w.heap.size w w1 := by rw [← hw1]; exact below_alloc _ _
  have Hb1 := hid_ b1; have Hc1 := hid_ c1
  obtain ⟨q0, q1, q2⟩ := box3 hw1
  have hz1 : w.heap.size < w1.heap.size := Go.lt_of_block b1
  obtain ⟨i0, hi0, hz0, hiz1, hiz2⟩ := info_parts Tryz.infoInt
  obtain ⟨i1, hi1, hy0, hiy1, hiy2⟩ := info_parts Tryz.infoBool
  have HY2 : Hid (i0.bytes * n ≤ 281474976710656) := hid_ (by rw [hiz2]; omega)
  have HY3 : Hid (i1.bytes * n ≤ 281474976710656) := hid_ (by rw [hiy2]; omega)
  have eg : ∀ args w, (callFunc 55 args).run Tryz.prog w = .ok (.enter 55 args) w := enters_of Tryz.func55 (by kernel_rfl) rfl
  have hmf : ∀ (fn : Fn) (first cap : Array Value) (w : World), (Instr.makeFunc fn first cap).run Tryz.prog w = .ok (.func fn first cap) w := fun _ _ _ _ => rfl
  have Hh := hid_ h; have HA := hid_ hA
  clear h hA hnl b1 c1
  go_enter Tryz.func34, Tryz.ntmps34
  go_wp2_with (first
    | (at_make; refine wpList_make_vals _ rfl (.tmp 10) (.tmp 10) _ rfl 3 i0 _ Tryz.underlying23 hi0 hz0 hiz1 rfl n rfl rfl HY2.out (by omega) ?_; intro w2 hv2 hc2; have hc2' := hid_ hc2; have hv2' := hid_ hv2; obtain ⟨w3, hw3⟩ : ∃ w3, w2.alloc (.cells #[.slice (some ⟨w1.heap.size, 0, none⟩) n n] 23) = w3 := ⟨_, rfl⟩; have p3 := cell_below (cell_below q0 hc2) (by rw [← hw3]; exact below_alloc _ _ : Below w2.heap.size w2 w3))
    | (at_make; refine wpList_make_vals _ rfl (.tmp 14) (.tmp 14) _ rfl 4 i1 _ Tryz.underlying70 hi1 hy0 hiy1 rfl n rfl rfl HY3.out (by omega) ?_; intro w4 hv4 hc4; have hc4' := hid_ hc4; have hv4' := hid_ hv4; obtain ⟨w5, hw5⟩ : ∃ w5, w4.alloc (.cells #[.slice (some ⟨w3.heap.size, 0, none⟩) n n] 70) = w5 := ⟨_, rfl⟩; have p5 := cell_below (cell_below p3 hc4) (by rw [← hw5]; exact below_alloc _ _ : Below w4.heap.size w4 w5))
    | (at_make; refine wpList_make_vals _ rfl (.tmp 18) (.tmp 18) _ rfl 4 i1 _ Tryz.underlying70 hi1 hy0 hiy1 rfl n rfl rfl HY3.out (by omega) ?_; intro w6 hv6 hc6; have hc6' := hid_ hc6; have hv6' := hid_ hv6; obtain ⟨w7, hw7⟩ : ∃ w7, w6.alloc (.cells #[.slice (some ⟨w5.heap.size, 0, none⟩) n n] 70) = w7 := ⟨_, rfl⟩; obtain ⟨w8, hw8⟩ : ∃ w8, w7.alloc (.cells #[.func (.func 55) #[] #[.pointer (some ⟨w4.heap.size, 0, none⟩), .pointer (some ⟨w6.heap.size, 0, none⟩), .pointer (some ⟨w.heap.size, 0, none⟩), .pointer (some ⟨w7.heap.size, 0, none⟩), .pointer (some ⟨w2.heap.size, 0, none⟩)]] 80) = w8 := ⟨_, rfl⟩; have p8 : w8.cell? ⟨w7.heap.size, 0, none⟩ = some (.func (.func 55) #[] #[.pointer (some ⟨w4.heap.size, 0, none⟩), .pointer (some ⟨w6.heap.size, 0, none⟩), .pointer (some ⟨w.heap.size, 0, none⟩), .pointer (some ⟨w7.heap.size, 0, none⟩), .pointer (some ⟨w2.heap.size, 0, none⟩)]) := by rw [← hw8]; exact cells_alloc _ _ _ 0))
  have c12 := hc2'.out; have c34 := hc4'.out; have c56 := hc6'.out
  have v2 := hv2'.out; have v4 := hv4'.out; have v6 := hv6'.out
  have c23 : Below w2.heap.size w2 w3 := by rw [← hw3]; exact below_alloc _ _
  have c45 : Below w4.heap.size w4 w5 := by rw [← hw5]; exact below_alloc _ _
  have c67 : Below w6.heap.size w6 w7 := by rw [← hw7]; exact below_alloc _ _
  have c78 : Below w7.heap.size w7 w8 := by rw [← hw8]; exact below_alloc _ _
  have z3 : w3.heap.size = w2.heap.size + 1 := by rw [← hw3]; simp
  have z5 : w5.heap.size = w4.heap.size + 1 := by rw [← hw5]; simp
  have z7 : w7.heap.size = w6.heap.size + 1 := by rw [← hw7]; simp
  have z8 : w8.heap.size = w7.heap.size + 1 := by rw [← hw8]; simp
  have y2 := Go.lt_of_block v2; have y4 := Go.lt_of_block v4; have y6 := Go.lt_of_block v6
  have m3 : w3.cell? ⟨w2.heap.size, 0, none⟩ = some (.slice (some ⟨w1.heap.size, 0, none⟩) n n) := by rw [← hw3]; exact cells_alloc _ _ _ 0
  have m5 : w5.cell? ⟨w4.heap.size, 0, none⟩ = some (.slice (some ⟨w3.heap.size, 0, none⟩) n n) := by rw [← hw5]; exact cells_alloc _ _ _ 0
  have m7 : w7.cell? ⟨w6.heap.size, 0, none⟩ = some (.slice (some ⟨w5.heap.size, 0, none⟩) n n) := by rw [← hw7]; exact cells_alloc _ _ _ 0
  have c68 : Below w6.heap.size w6 w8 := c67.trans (c78.mono c67.size)
  have c58 : Below w5.heap.size w5 w8 := c56.trans (c68.mono c56.size)
  have c48 : Below w4.heap.size w4 w8 := c45.trans (c58.mono c45.size)
  have c38 : Below w3.heap.size w3 w8 := c34.trans (c48.mono c34.size)
  have c28 : Below w2.heap.size w2 w8 := c23.trans (c38.mono c23.size)
  have c18 : Below w1.heap.size w1 w8 := c12.trans (c28.mono c12.size)
  have c08 : Below w.heap.size w w8 := Hc1.out.trans (c18.mono Hc1.out.size)
  have HE : ∀ W, Kept (fun b => b = w3.heap.size ∨ b = w5.heap.size ∨ b = w1.heap.size) w8 W → W.cell? ⟨w4.heap.size, 0, none⟩ = some (.slice (some ⟨w3.heap.size, 0, none⟩) n n) ∧ W.cell? ⟨w6.heap.size, 0, none⟩ = some (.slice (some ⟨w5.heap.size, 0, none⟩) n n) ∧ W.cell? ⟨w.heap.size, 2, none⟩ = some (.slice aa n ca) ∧
      W.cell? ⟨w7.heap.size, 0, none⟩ = some (.func (.func 55) #[] #[.pointer (some ⟨w4.heap.size, 0, none⟩), .pointer (some ⟨w6.heap.size, 0, none⟩), .pointer (some ⟨w.heap.size, 0, none⟩), .pointer (some ⟨w7.heap.size, 0, none⟩), .pointer (some ⟨w2.heap.size, 0, none⟩)]) ∧ W.cell? ⟨w2.heap.size, 0, none⟩ = some (.slice (some ⟨w1.heap.size, 0, none⟩) n n) := fun W hk =>
    ⟨hk.cell (cell_below m5 c58) (by simp only; omega), hk.cell (cell_below m7 c78) (by simp only; omega), hk.cell (cell_below q2 c18) (by simp only; omega), hk.cell p8 (by simp only; omega), hk.cell (cell_below m3 c38) (by simp only; omega)⟩
  have HCx := fun k (hk : k < n) => Hh.out.rowsK (P := fun W => Kept (fun b => b = w3.heap.size ∨ b = w5.heap.size ∨ b = w1.heap.size) w8 W) (fun W hW b hb => (hW.block b (by have := c08.size; omega) (by omega)).trans (c08.block b hb)) hk
  have HMs : MsAt w8 w3.heap.size w5.heap.size w1.heap.size n ms0 :=
    ⟨(show BoolsAt 4 w4 w3.heap.size n ms0.ent from v4).kept (c48.kept (F := fun _ => False)) fun h => h, (show BoolsAt 4 w6 w5.heap.size n ms0.left from v6).kept (c68.kept (F := fun _ => False)) fun h => h, (show ValsAt 3 w2 w1.heap.size n (fun k => .int .i64 (ms0.most k)) from v2).kept (c28.kept (F := fun _ => False)) fun h => h⟩
  have HM := hid_ (measure_calls A n hn HA.out w3.heap.size w5.heap.size w1.heap.size w4.heap.size w6.heap.size w.heap.size w7.heap.size w2.heap.size (by omega) (by omega) (by omega) aa ca w8 HE HCx (n + 1) 0 ms0 w8 HMs (ms0_ok n) (fun _ h => by cases h) h0 (by unfold unE; omega) (Kept.refl _ _))
  have HEh := hid_ HE
  have Hfin := hid_ (fun W (hk : Kept (fun b => b = w3.heap.size ∨ b = w5.heap.size ∨ b = w1.heap.size) w8 W) => c08.trans (hk.below (B := w.heap.size) c08.size fun i hi => by omega))
  clear c12 c34 c56 v2 v4 v6 c23 c45 c67 c78 z3 z5 z7 z8 y2 y4 y6 m3 m5 m7 c68 c58 c48 c38 c28 c18 c08 HE HCx HMs hv2 hv4 hv6 hc2 hc4 hc6 p3 p5 hw3 hw5 hw7 hw8
  cases hm : measF A (n + 1) 0 ms0 with
  | mk b s =>
    rw [hm] at HM
    cases b with
    | false =>
      have Hr : Hid (longR A = (0, false)) := hid_ (by rw [hHR.out, hm])
      clear hm
      refine HM.out.mono ?_
      rintro e w9 ⟨rfl, hM9, hk9⟩
      go_wp2
      go_ret2
      exact ⟨by rw [Hr.out]; rfl, Hfin.out w9 hk9⟩
    | true =>
      have Hr : Hid (longR A = (s.most 0, true)) := hid_ (by rw [hHR.out, hm])
      clear hm
      refine HM.out.mono ?_
      rintro e w9 ⟨rfl, hM9, hk9⟩
      obtain ⟨-, -, -, -, u5⟩ := HEh.out w9 hk9
      have u0 := hM9.most.cell h0
      go_wp2
      go_ret2
      exact ⟨by rw [Hr.out]; rfl, Hfin.out w9 hk9⟩
end Go.Proofs.YtebbmhlkdfmmcaaGreat
namespace Go.Proofs.YtebbmhlkdfmmcaaGreat
open Go.RowKit Go.Proofs.Kv

/-! ### which weights hold, and the weight of a word: the document; Weigh of both -/
def errWg (ws l : List Int) : Int := if wtB ws then validW l else 1
def resWg (ws l : List Int) : Int := if errWg ws l = 0 then wtOf ws l else 0
theorem word_range {l : List Int} (h : validW l = 0) : l.length ≤ 8 ∧ ∀ x ∈ l, 0 ≤ x ∧ x ≤ 5 := by
  obtain ⟨h1, h2⟩ := validW_ok h
  refine ⟨h1, fun x hx => ?_⟩
  rw [isWord, List.all_eq_true] at h2
  have := h2 x hx
  simpa [Within] using this
def resLongest (L : List Rl) (l : List Int) : Int × Bool := match webR L l with | some y => longR y.arcs | none => (0, false)
set_option maxRecDepth 100000 in
set_option maxHeartbeats 4000000 in
theorem feLongest_calls (A : Option Addr) (N C : Nat) (L : List Rl) (a : Option Addr) (n c : Nat) (l : List Int) (w : World) (h : RulesAt w A N C L) (hI : IntsAt w a n c l) :
    Calls Tryz.prog 17 #[.slice A N C, .slice a n c] w fun e w' => e = .returned (.tuple #[.int .i64 (resLongest L l).1, .bool (resLongest L l).2, .int .i64 (errWeb L l)]) ∧ Below w.heap.size w w' := by
  cases hy : webR L l with
  | none =>
    have HW := hid_ (webOf_bad h hI hy)
    have hne := webR_none hy
    have Hr : Hid (resLongest L l = (0, false)) := hid_ (by rw [resLongest, hy])
    generalize errWeb L l = x at *
    have hq : (x != 0) = true := by simpa using hne
    clear hy hne
    go_enter Tryz.func17, Tryz.ntmps17
    go_wp2_with (go_at_call 28; (with_reducible refine HW.out.mono ?_); rintro e w3 ⟨rfl, hb3⟩)
    go_ret3
    exact ⟨by rw [Hr.out]; rfl, hb3.trans ((below_alloc w3 _).mono hb3.size)⟩
  | some y =>
    obtain ⟨h0, he, hx⟩ := webR_some hy
    obtain ⟨hs, hl⟩ := errSW_ok' he
    obtain ⟨hok, hm⟩ := exploreF_some (validS_ok hs).2 hl hx
    have hfu := exploreF_full (validS_ok hs).2 hl hx
    have hlen := hok.same
    have hle := hok.le
    have hpos : 0 < y.arcs.length := by rw [hlen]; exact List.length_pos_of_mem ((hm l).2 (.refl _))
    have hin : ArcsIn y.arcs.length y.arcs := fun i a ha => by
      rw [hlen]
      by_cases hi : i < y.words.length
      · exact (hfu i hi).lt a ha
      · rw [List.getD, List.getElem?_eq_none (by omega)] at ha; cases ha
    have Hr : Hid (resLongest L l = longR y.arcs) := hid_ (by rw [resLongest, hy])
    have HW := hid_ (webOf_good h hI hy)
    have HLo := hid_ (fun aw cw aa ca mm W (h1 : ArcsAt W aa y.arcs.length ca y.arcs) => longest_calls y.arcs aw cw aa ca mm W h1 (by omega) hpos hin)
    rw [h0, Hr.out]
    rw [← hlen] at HW
    clear hy h0 he hx hs hl hok hm hfu hpos hin h hI hlen hle Hr
    go_enter Tryz.func17, Tryz.ntmps17
    go_wp2_with (first
      | (go_at_call 28; (with_reducible refine HW.out.mono ?_); rintro e w3 ⟨F, Bx, Bm, aw, cw, aa, ca, rfl, hW3, hY3, hb3⟩; have hWa := hid_ (fun o => (hW3.next (below_alloc w3 o)).arcsAt); have Hb3 := hid_ hb3; clear hW3 hY3 hb3)
      | (go_at_call 34; (with_reducible refine (HLo.out aw cw aa ca _ _ (hWa.out _)).mono ?_); rintro e w5 ⟨rfl, hb5⟩))
    go_ret3
    exact ⟨rfl, Hb3.out.trans (((below_alloc w3 _).trans (hb5.mono (by simp))).mono Hb3.out.size)⟩
end Go.Proofs.YtebbmhlkdfmmcaaGreat
namespace Go.Proofs.YtebbmhlkdfmmcaaGreat
open Go.RowKit Go.Proofs.Kv

/-! ### weights bound the steps: mathematics -/
theorem wtOf_app (ws a b : List Int) : wtOf ws (a ++ b) = wtOf ws a + wtOf ws b := by simp [wtOf]
theorem wtOf_one (ws : List Int) (x : Int) : wtOf ws [x] = ws.getD x.toNat 0 := by simp [wtOf]
theorem step_less {L : List Rl} {ws u : List Int} (hh : holdB L ws = true) {m : Mv} (hm : m ∈ movesL L u) : wtOf ws m.2 < wtOf ws u := by
  obtain ⟨i, hi, p, hp, he, rfl⟩ := mem_mvTo.1 hm
  have hR : L.getD i R0 ∈ L := List.mem_of_getElem? (getD_is hi R0)
  generalize L.getD i R0 = R at *
  rw [holdB, List.all_eq_true] at hh
  have h1 := hh R hR
  simp only [holdR, Bool.and_eq_true, decide_eq_true_eq] at h1
  obtain ⟨hf, hw⟩ := h1
  obtain ⟨p0, p1, p2⟩ := mem_pl.1 hp
  obtain ⟨_, _, h3, _, _⟩ := plB_iff.1 p2
  have h4 : atL u p = R.f := h3.resolve_left (by omega)
  unfold atL at h4
  cases hwi : Within p 0 ((u.length : Int) - 1) with
  | false => rw [hwi] at h4; simp at h4; omega
  | true =>
    rw [hwi, if_pos rfl] at h4
    simp only [Within, Bool.and_eq_true, decide_eq_true_eq] at hwi
    have hpl : p.toNat < u.length := by omega
    have ht : tkN R = 1 := if_neg (by omega)
    show wtOf ws (putRes R [p] u) < _
    unfold putErr at he
    by_cases h8 : 8 < (putAll R [p] u).length
    · rw [if_pos h8] at he; cases he
    · rw [putRes, if_neg h8]
      simp only [putAll, List.foldr_cons, List.foldr_nil, putL, ht]
      have hu : u = u.take p.toNat ++ ([R.f] ++ u.drop (p.toNat + 1)) := by
        have e1 : u.drop p.toNat = R.f :: u.drop (p.toNat + 1) := by
          rw [List.drop_eq_getElem_cons hpl, ← h4]; simp [List.getD, List.getElem?_eq_getElem hpl]
        rw [List.singleton_append, ← e1, List.take_append_drop]
      have hsum : wtOf ws u = wtOf ws (u.take p.toNat) + (ws.getD R.f.toNat 0 + wtOf ws (u.drop (p.toNat + 1))) := by
        conv => lhs; rw [hu]
        rw [wtOf_app, wtOf_app, wtOf_one]
      rw [wtOf_app, wtOf_app, hsum]
      omega
/-- the search by depth where each arc leads to a smaller rank -/
theorem measF_rank {n : Nat} {A : List (List Ac)} (hA : ArcsIn n A) (ρ : Nat → Int) (hρ0 : ∀ k, 0 ≤ ρ k) (hρ : ∀ i, i < n → ∀ a ∈ A.getD i [], ρ a.2 < ρ i) : ∀ (f : Nat) {i : Nat} {s : Ms}, i < n → unE n s < f → MsOk n s → (∀ k, s.left k = true → s.ent k = true) →
    (∀ k, s.ent k = true → s.left k = true ∨ ρ i < ρ k) → (∀ k, s.most k ≤ ρ k) →
    (measF A f i s).1 = true ∧ (∀ k, (measF A f i s).2.most k ≤ ρ k) ∧ ∀ k, (measF A f i s).2.ent k = true → (measF A f i s).2.left k = true ∨ (s.ent k = true ∧ s.left k = false)
  | 0, i, s, _, h, _, _, _, _ => by omega
  | f + 1, i, s, hi, hf, hs, hle, hp, hm => by
    unfold measF
    by_cases he : s.ent i = true
    · rw [if_pos he]
      refine ⟨(hp i he).resolve_right (by omega), hm, fun k hk => ?_⟩
      cases h : s.left k with
      | true => exact .inl rfl
      | false => exact .inr ⟨hk, rfl⟩
    · rw [if_neg he]
      have he' : s.ent i = false := by simpa using he
      have hli : s.left i = false := by
        cases h : s.left i with
        | false => rfl
        | true => exact absurd (hle i h) he
      have key : ∀ (l : List Ac) (t : Ms), (∀ a ∈ l, a.2 < n) → (∀ a ∈ l, ρ a.2 < ρ i) → unE n t < f → MsOk n t → (∀ k, t.left k = true → t.ent k = true) → t.ent i = true → t.left i = false →
          (∀ k, t.ent k = true → t.left k = true ∨ k = i ∨ (s.ent k = true ∧ s.left k = false)) → (∀ k, t.most k ≤ ρ k) →
          (rowF (measF A f) i l t).1 = true ∧ (∀ k, (rowF (measF A f) i l t).2.most k ≤ ρ k) ∧ ∀ k, (rowF (measF A f) i l t).2.ent k = true → (rowF (measF A f) i l t).2.left k = true ∨ k = i ∨ (s.ent k = true ∧ s.left k = false) := by
        intro l
        induction l with
        | nil => exact fun t _ _ _ _ _ _ _ h1 h2 => ⟨rfl, h2, h1⟩
        | cons a l ih =>
          intro t hl hr hu ho hle' hei hti h1 h2
          have ha := hr a (by simp)
          have hgo : ∀ k, t.ent k = true → t.left k = true ∨ ρ a.2 < ρ k := fun k hk => by
            rcases h1 k hk with h | rfl | ⟨h, h'⟩
            · exact .inl h
            · exact .inr ha
            · rcases hp k h with q | q
              · rw [h'] at q; cases q
              · exact .inr (by omega)
          obtain ⟨q1, q2, q3⟩ := measF_rank hA ρ hρ0 hρ f (hl a (by simp)) hu ho hle' hgo h2
          obtain ⟨d, d2⟩ := measF_did hA f (hl a (by simp)) ho hle'
          rw [rowF]
          cases hmt : measF A f a.2 t with
          | mk b t' =>
            rw [hmt] at q1 q2 q3 d d2
            simp only at q1
            subst q1
            have hh := d.hold i hei hti
            refine ih (t'.raise i a.2) (fun b hb => hl b (by simp [hb])) (fun b hb => hr b (by simp [hb])) (Nat.lt_of_le_of_lt (unE_le (t := t'.raise i a.2) ⟨d.le.ent, d.le.left⟩) hu) (d.ok.raise (hl a (by simp)) (d.lft rfl) hh) d2 (d.le.ent i hei) hh (fun k hk => ?_) (fun k => ?_)
            · rcases q3 k hk with q | ⟨q, q'⟩
              · exact .inl q
              · rcases h1 k q with h | h
                · rw [q'] at h; cases h
                · exact .inr h
            · show (if i = k then max (t'.most i) (t'.most a.2 + 1) else t'.most k) ≤ ρ k
              by_cases e : i = k
              · subst e
                rw [if_pos rfl]
                have e1 : t'.most i ≤ ρ i := q2 i
                have e2 : t'.most a.2 ≤ ρ a.2 := q2 a.2
                omega
              · rw [if_neg e]; exact q2 k
      have hun := unE_enter hi he'
      obtain ⟨q1, q2, q3⟩ := key (A.getD i []) (s.enter i) (hA i) (hρ i hi) (by omega) (hs.enter i) (fun k hk => by
        show (s.ent k || _) = true
        rw [hle k hk]; rfl) (by show (s.ent i || decide (i = i)) = true; simp) hli (fun k hk => by
          change (s.ent k || decide (i = k)) = true at hk
          rcases Bool.or_eq_true _ _ ▸ hk with h | h
          · show s.left k = true ∨ _
            cases q : s.left k with
            | true => exact .inl rfl
            | false => exact .inr (.inr ⟨h, rfl⟩)
          · exact .inr (.inl (of_decide_eq_true h).symm)) hm
      cases hrw : rowF (measF A f) i (A.getD i []) (s.enter i) with
      | mk b t =>
        rw [hrw] at q1 q2 q3
        simp only at q1
        subst q1
        refine ⟨rfl, q2, fun k hk => ?_⟩
        show (t.left k || decide (i = k)) = true ∨ _
        rcases q3 k hk with h | rfl | h
        · left; rw [h]; rfl
        · left; simp
        · exact .inr h
theorem longR_rank {A : List (List Ac)} (hA : ArcsIn A.length A) (h0 : 0 < A.length) (ρ : Nat → Int) (hρ0 : ∀ k, 0 ≤ ρ k) (hρ : ∀ i, i < A.length → ∀ a ∈ A.getD i [], ρ a.2 < ρ i) : (longR A).2 = true ∧ (longR A).1 ≤ ρ 0 := by
  obtain ⟨q1, q2, _⟩ := measF_rank hA ρ hρ0 hρ (A.length + 1) h0 (s := ms0) (by unfold unE; omega) (ms0_ok _) (fun _ h => by cases h) (fun _ h => by cases h) (fun k => hρ0 k)
  unfold longR
  cases hm : measF A (A.length + 1) 0 ms0 with
  | mk b s =>
    rw [hm] at q1 q2
    simp only at q1
    subst q1
    exact ⟨rfl, q2 0⟩
theorem explore_first {L : List Rl} (hL : ∀ R ∈ L, validR R = 0) {l : List Int} (hl : validW l = 0) {y : Web} (h : exploreF L l = some y) : y.words.getD 0 [] = l := by
  obtain ⟨⟨i, y'⟩, hv, rfl⟩ := Option.map_eq_some_iff.1 h
  have hok := visitF_ok hL 301 (x := ⟨[], []⟩) ⟨by simp, rfl, List.nodup_nil, fun l hl => by cases hl⟩ hl hv
  have hi : i = 0 := by
    unfold visitF at hv
    have hf : findW ([] : List (List Int)) l = none := rfl
    simp only [hf] at hv
    rw [if_neg (by simp)] at hv
    obtain ⟨y2, _, e⟩ := Option.map_eq_some_iff.1 hv
    simp only [Prod.mk.injEq] at e
    exact e.1.symm
  rw [← hi]; exact hok.2.2.2
theorem longest_bound {L : List Rl} {ws l : List Int} (hw : WtL ws) (hh : holdB L ws = true) (h : errWeb L l = 0) : (resLongest L l).2 = true ∧ (resLongest L l).1 ≤ wtOf ws l := by
  cases hy : webR L l with
  | none => exact absurd h (webR_none hy)
  | some y =>
    obtain ⟨h0, he, hx⟩ := webR_some hy
    obtain ⟨hs, hl⟩ := errSW_ok' he
    obtain ⟨hok, hm⟩ := exploreF_some (validS_ok hs).2 hl hx
    have hfu := exploreF_full (validS_ok hs).2 hl hx
    have hlen := hok.same
    have hpos : 0 < y.arcs.length := by rw [hlen]; exact List.length_pos_of_mem ((hm l).2 (.refl _))
    have hin : ArcsIn y.arcs.length y.arcs := fun i a ha => by
      rw [hlen]
      by_cases hi : i < y.words.length
      · exact (hfu i hi).lt a ha
      · rw [List.getD, List.getElem?_eq_none (by omega)] at ha; cases ha
    rw [resLongest, hy]
    have := longR_rank hin hpos (fun k => wtOf ws (y.words.getD k [])) (fun k => (wtOf_range hw _).1) (fun i hi a ha => by
      have hf := hfu i (by rw [← hlen]; exact hi)
      have hmm : tgt y a ∈ movesL L (y.words.getD i []) := by rw [← hf.eq]; exact List.mem_map_of_mem ha
      exact step_less hh hmm)
    rw [explore_first (validS_ok hs).2 hl hx] at this
    exact this
/-! ### the smallest weights -/
def LeW (ws v : List Int) : Prop := ∀ i, ws.getD i 0 ≤ v.getD i 0
theorem wtOf_le {ws v : List Int} (h : LeW ws v) : ∀ l : List Int, wtOf ws l ≤ wtOf v l
  | [] => Int.le_refl _
  | x :: l => by
    have h1 := wtOf_le h l
    have h2 := h x.toNat
    simp only [wtOf, List.map_cons, List.sum_cons] at h1 ⊢
    omega
theorem stepR_le {ws v : List Int} {R : Rl} (h : LeW ws v) (hw : WtL ws) (hv : WtL v) (hh : holdR v R = true) (hf5 : R.f ≤ 5) : ∃ ws', stepR ws R = some ws' ∧ LeW ws' v ∧ WtL ws' := by
  simp only [holdR, Bool.and_eq_true, decide_eq_true_eq] at hh
  obtain ⟨hf, hlt⟩ := hh
  have h1 := wtOf_le h R.o
  have h2 := (hv.at_ R.f.toNat).2
  have hne : ¬ (R.f < 0 ∨ 1000 < wtOf ws R.o + 1) := by omega
  have hs : stepR ws R = some (ws.set R.f.toNat (max (ws.getD R.f.toNat 0) (wtOf ws R.o + 1))) := if_neg hne
  refine ⟨_, hs, fun i => ?_, (stepR_ok hw hf5 hs).1⟩
  have h3 := h R.f.toNat
  have hl : R.f.toNat < ws.length := by rw [hw.1]; omega
  by_cases e : R.f.toNat = i
  · subst e
    rw [List.getD, List.getElem?_set_self hl, Option.getD_some]
    omega
  · rw [show (ws.set R.f.toNat (max (ws.getD R.f.toNat 0) (wtOf ws R.o + 1))).getD i 0 = ws.getD i 0 by simp only [List.getD]; rw [List.getElem?_set_ne e]]
    exact h i
theorem roundR_le : ∀ {L : List Rl} {ws v : List Int}, LeW ws v → WtL ws → WtL v → holdB L v = true → (∀ R ∈ L, R.f ≤ 5) → ∃ ws', roundR L ws = some ws' ∧ LeW ws' v ∧ WtL ws'
  | [], ws, v, h, hw, _, _, _ => ⟨ws, rfl, h, hw⟩
  | R :: L, ws, v, h, hw, hv, hh, hf => by
    simp only [holdB, List.all_cons, Bool.and_eq_true] at hh
    obtain ⟨ws1, e1, h1, w1⟩ := stepR_le h hw hv hh.1 (hf R (by simp))
    obtain ⟨ws2, e2, h2, w2⟩ := roundR_le (L := L) h1 w1 hv hh.2 fun S hS => hf S (by simp [hS])
    exact ⟨ws2, by rw [roundR, e1]; exact e2, h2, w2⟩
theorem Runs.least {L : List Rl} {ws v : List Int} {r : Option (List Int)} (h : Runs L ws r) (hl : LeW ws v) (hw : WtL ws) (hv : WtL v) (hh : holdB L v = true) (hf : ∀ R ∈ L, R.f ≤ 5) : ∃ u, r = some u ∧ LeW u v ∧ WtL u := by
  induction h with
  | stop => exact ⟨_, rfl, hl, hw⟩
  | fail _ hr =>
    obtain ⟨_, e, _⟩ := roundR_le hl hw hv hh hf
    rw [hr] at e; cases e
  | more _ hr _ ih =>
    obtain ⟨_, e, h1, w1⟩ := roundR_le hl hw hv hh hf
    rw [hr] at e; injection e with e; subst e
    exact ih h1 w1
theorem LeW.zero {v : List Int} (h : WtL v) : LeW (List.replicate 6 0) v := fun i => by
  have := (h.at_ i).1
  by_cases hi : i < 6
  · rw [List.getD, List.getElem?_replicate, if_pos hi]; exact this
  · rw [show (List.replicate 6 (0 : Int)).getD i 0 = 0 by simp only [List.getD]; rw [List.getElem?_eq_none (by simp; omega)]; rfl]; exact this
end Go.Proofs.YtebbmhlkdfmmcaaGreat
