import Derived.Test.YtebbmhlkdfmmcaaGreatJg
import Derived.Test.YtebbmhlkdfmmcaaGreatJa
import Derived.Maps.AppendAt
import Derived.Maps.OwnSet
import Derived.Maps.OwnOps
namespace Go.Proofs.Kv
open Go.RowKit

/-! ### what stays while only some blocks are turned -/
/-- w' is w but for the blocks of F and new ones -/
structure Kept (F : Nat → Prop) (w w' : World) : Prop where
  os : w'.os = w.os
  tape : w'.tape = w.tape
  output : w'.output = w.output
  size : w.heap.size ≤ w'.heap.size
  block : ∀ k, k < w.heap.size → ¬ F k → w'.heap[k]? = w.heap[k]?
theorem Kept.refl (F : Nat → Prop) (w : World) : Kept F w w := ⟨rfl, rfl, rfl, Nat.le_refl _, fun _ _ _ => rfl⟩
theorem Kept.trans {F G H : Nat → Prop} {a b c : World} (h : Kept F a b) (k : Kept G b c) (hF : ∀ i, i < a.heap.size → F i → H i) (hG : ∀ i, i < a.heap.size → G i → H i) : Kept H a c :=
  ⟨k.os.trans h.os, k.tape.trans h.tape, k.output.trans h.output, Nat.le_trans h.size k.size, fun i hi hn =>
    (k.block i (Nat.lt_of_lt_of_le hi h.size) fun g => hn (hG i hi g)).trans (h.block i hi fun g => hn (hF i hi g))⟩
theorem Kept.mono {F G : Nat → Prop} {a b : World} (h : Kept F a b) (hF : ∀ i, i < a.heap.size → F i → G i) : Kept G a b := ⟨h.os, h.tape, h.output, h.size, fun i hi hn => h.block i hi fun g => hn (hF i hi g)⟩
theorem Kept.next {F : Nat → Prop} {a b c : World} (h : Kept F a b) (k : Below b.heap.size b c) : Kept F a c :=
  ⟨k.os.trans h.os, k.tape.trans h.tape, k.output.trans h.output, Nat.le_trans h.size k.size, fun i hi hn =>
    (k.block i (Nat.lt_of_lt_of_le hi h.size)).trans (h.block i hi hn)⟩
theorem Kept.grown {F : Nat → Prop} {a b c : World} {row : Option Nat} (h : Kept F a b) (k : b.grownBy c row) (hr : ∀ i, i < a.heap.size → row = some i → F i) : Kept F a c :=
  ⟨k.os.trans h.os, k.tape.trans h.tape, k.output.trans h.output, Nat.le_trans h.size k.size, fun i hi hn =>
    (k.block i (Nat.lt_of_lt_of_le hi h.size) fun e => hn (hr i hi e.symm)).trans (h.block i hi hn)⟩
theorem Kept.setCell {F : Nat → Prop} {a b : World} (h : Kept F a b) {p : Addr} (hp : p.block < a.heap.size → F p.block) (u : Value) : Kept F a (b.setCell p u) :=
  ⟨h.os, h.tape, h.output, by simpa [World.setCell] using h.size, fun i hi hn =>
    (Below.heap_setCell b p u i fun e => hn (by subst e; exact hp hi)).trans (h.block i hi hn)⟩
theorem Kept.below {F : Nat → Prop} {a b : World} {B : Nat} (h : Kept F a b) (hB : B ≤ a.heap.size) (hF : ∀ i, F i → B ≤ i) : Below B a b :=
  ⟨h.os, h.tape, h.output, h.size, fun i hi => h.block i (by omega) fun g => by have := hF i g; omega⟩
theorem Kept.cell {F : Nat → Prop} {a b : World} (h : Kept F a b) {p : Addr} {v : Value} (hc : a.cell? p = some v) (hF : ¬ F p.block) : b.cell? p = some v :=
  (World.cell?_of_block (h.block p.block (World.block_lt_of_cell? a p hc) hF)).trans hc
theorem _root_.Go.RowKit.Below.kept {F : Nat → Prop} {a b : World} (h : Below a.heap.size a b) : Kept F a b := (Kept.refl F a).next h
theorem IntsAt.kept {F : Nat → Prop} {w w' : World} {a : Option Addr} {n c : Nat} {l : List Int} (h : IntsAt w a n c l) (hk : Kept F w w') (hF : ∀ b off, 0 < n → a = some ⟨b, off, none⟩ → ¬ F b) : IntsAt w' a n c l :=
  ⟨h.len, h.le, h.small, fun i hi => by
    obtain ⟨b, off, ha, hlt, hc⟩ := h.cells i hi
    exact ⟨b, off, ha, Nat.lt_of_lt_of_le hlt hk.size, hk.cell hc (hF b off (by omega) ha)⟩⟩
theorem IntsAt.lt {w : World} {a : Option Addr} {n c : Nat} {l : List Int} (h : IntsAt w a n c l) {b off : Nat} (hn : 0 < n) (ha : a = some ⟨b, off, none⟩) : b < w.heap.size := by
  obtain ⟨b', off', ha', hlt, _⟩ := h.cells 0 hn
  rw [ha] at ha'; injection ha' with e; injection e with e1 e2; subst e1; exact hlt
theorem ownsRow_kept {F : Nat → Prop} {w w' : World} {B E size : Nat} {v : Value} {n : Nat} {xs : List Value} (h : w.ownsRow B E size v n xs) (hk : Kept F w w') (hF : ∀ b, v.ownBlock = some b → ¬ F b) : w'.ownsRow B E size v n xs := by
  refine ⟨h.1, h.2.imp id ?_⟩
  rintro ⟨g, cap, cur, h1, h2, h3, h4⟩
  exact ⟨g, cap, cur, h1, h2, by rw [hk.block g (Array.getElem?_eq_some_iff.1 h3).1 (hF g (by rw [h1]; rfl))]; exact h3, h4⟩
end Go.Proofs.Kv
namespace Go.Proofs.YtebbmhlkdfmmcaaGreat
open Go.RowKit Go.Proofs.Kv

/-! ### lists of steps with their words -/
/-- a step with the slice that holds its word, as cells -/
def encM (x : Mv × Value) : List Value := [.int .i64 x.1.1.1, .int .i64 x.1.1.2, x.2]
theorem encM_len : ∀ (l : List (Mv × Value)), (l.flatMap encM).length = l.length * 3
  | [] => rfl
  | x :: l => by simp only [List.flatMap_cons, List.length_append, encM_len l, List.length_cons]; simp [encM]; omega
theorem encM_at : ∀ (l : List (Mv × Value)) (i : Nat) (x : Mv × Value), l[i]? = some x → (l.flatMap encM)[i * 3]? = some (.int .i64 x.1.1.1) ∧ (l.flatMap encM)[i * 3 + 1]? = some (.int .i64 x.1.1.2) ∧ (l.flatMap encM)[i * 3 + 2]? = some x.2
  | [], i, x, h => by simp at h
  | y :: l, 0, x, h => by simp at h; subst h; exact ⟨rfl, rfl, rfl⟩
  | y :: l, i + 1, x, h => by
    have ih := encM_at l i x (by simpa using h)
    rw [List.flatMap_cons]
    have e2 : (encM y).length = 3 := rfl
    refine ⟨?_, ?_, ?_⟩
    · rw [List.getElem?_append_right (by rw [e2]; omega), e2, show (i + 1) * 3 - 3 = i * 3 by omega]; exact ih.1
    · rw [List.getElem?_append_right (by rw [e2]; omega), e2, show (i + 1) * 3 + 1 - 3 = i * 3 + 1 by omega]; exact ih.2.1
    · rw [List.getElem?_append_right (by rw [e2]; omega), e2, show (i + 1) * 3 + 2 - 3 = i * 3 + 2 by omega]; exact ih.2.2
/-- a slice that holds a word, in memory from B on that is no part of the block row -/
def WordV (w : World) (B : Nat) (row : Option Nat) (u : Value) (l : List Int) : Prop :=
  ∃ a n c, u = .slice a n c ∧ IntsAt w a n c l ∧ ∀ b off, 0 < n → a = some ⟨b, off, none⟩ → B ≤ b ∧ row ≠ some b
theorem WordV.row {w : World} {B : Nat} {row row' : Option Nat} {u : Value} {l : List Int} (h : WordV w B row u l) (hr : row' = row ∨ ∃ k, row' = some k ∧ w.heap.size ≤ k) : WordV w B row' u l := by
  obtain ⟨a, n, c, rfl, hi, hd⟩ := h
  refine ⟨a, n, c, rfl, hi, fun b off hn ha => ⟨(hd b off hn ha).1, ?_⟩⟩
  rcases hr with rfl | ⟨k, rfl, hk⟩
  · exact (hd b off hn ha).2
  · intro e; injection e with e; have := hi.lt hn ha; omega
theorem WordV.kept {F : Nat → Prop} {w w' : World} {B : Nat} {row : Option Nat} {u : Value} {l : List Int} (h : WordV w B row u l) (hk : Kept F w w') (hF : ∀ b, B ≤ b → row ≠ some b → b < w.heap.size → ¬ F b) : WordV w' B row u l := by
  obtain ⟨a, n, c, rfl, hi, hd⟩ := h
  exact ⟨a, n, c, rfl, hi.kept hk fun b off hn ha => hF b (hd b off hn ha).1 (hd b off hn ha).2 (hi.lt hn ha), hd⟩
theorem WordV.base {w : World} {B B' : Nat} {row : Option Nat} {u : Value} {l : List Int} (h : WordV w B' row u l) (hB : B ≤ B') : WordV w B row u l := by
  obtain ⟨a, n, c, rfl, hi, hd⟩ := h
  exact ⟨a, n, c, rfl, hi, fun b off hn ha => ⟨Nat.le_trans hB (hd b off hn ha).1, (hd b off hn ha).2⟩⟩
/-- v is a row of the call's own that holds the steps M and, in memory from B on, their words -/
def OwnM (w : World) (B : Nat) (v : Value) (M : List Mv) : Prop :=
  ∃ vs : List Value, vs.length = M.length ∧ w.ownsRow B 90 3 v M.length ((M.zip vs).flatMap encM) ∧ ∀ i u, vs[i]? = some u → WordV w B v.ownBlock u (M.getD i M0).2
theorem OwnM.nil (w : World) (B : Nat) : OwnM w B (.slice none 0 0) [] := ⟨[], rfl, World.ownsRow_nil _ _ _ _, fun i u h => by simp at h⟩
theorem OwnM.lt {w : World} {B : Nat} {v : Value} {M : List Mv} (h : OwnM w B v M) : ∀ k, v.ownBlock = some k → B ≤ k ∧ k < w.heap.size := by
  obtain ⟨vs, _, h1, _⟩ := h
  exact h1.lt
theorem OwnM.kept {F : Nat → Prop} {w w' : World} {B : Nat} {v : Value} {M : List Mv} (h : OwnM w B v M) (hk : Kept F w w') (hF : ∀ b, B ≤ b → b < w.heap.size → ¬ F b) : OwnM w' B v M := by
  obtain ⟨vs, h0, h1, h2⟩ := h
  exact ⟨vs, h0, ownsRow_kept h1 hk fun b hb => hF b (h1.lt b hb).1 (h1.lt b hb).2, fun i u hu => (h2 i u hu).kept hk fun b h3 _ h4 => hF b h3 h4⟩
theorem OwnM.next {w w' : World} {B : Nat} {v : Value} {M : List Mv} (h : OwnM w B v M) (hb : Below w.heap.size w w') : OwnM w' B v M := h.kept (F := fun _ => False) hb.kept fun _ _ _ h => h
/-- one more step put behind -/
theorem WordV.after {w w' : World} {B : Nat} {row row' : Option Nat} {u : Value} {l : List Int} (h : WordV w B row u l) (hg : w.grownBy w' row) (hat : row' = row ∨ ∃ k, row' = some k ∧ w.heap.size ≤ k) : WordV w' B row' u l := by
  obtain ⟨a, n, c, rfl, hi, hd⟩ := h
  have hk : Kept (fun b => row = some b) w w' := (Kept.refl _ _).grown hg fun _ _ e => e
  refine ⟨a, n, c, rfl, hi.kept hk fun b off hn ha => (hd b off hn ha).2, fun b off hn ha => ⟨(hd b off hn ha).1, ?_⟩⟩
  rcases hat with rfl | ⟨k, rfl, h2⟩
  · exact (hd b off hn ha).2
  · intro e; injection e with e; have := hi.lt hn ha; omega
/-- one more step put behind -/
theorem OwnM.push {w w1 w2 w3 : World} {B : Nat} {v v2 : Value} {M : List Mv} {m : Mv} {u : Value} {vs : List Value} (hB : B ≤ w.heap.size) (h0 : vs.length = M.length) (hv : ∀ k, v.ownBlock = some k → k < w.heap.size)
    (h2 : ∀ i u, vs[i]? = some u → WordV w B v.ownBlock u (M.getD i M0).2) (hb : Below w.heap.size w w1) (hu : WordV w1 w.heap.size none u m.2) (hb2 : Below w1.heap.size w1 w2)
    (hown : w3.ownsRow B 90 3 v2 (M.length + 1) ((M.zip vs).flatMap encM ++ encM (m, u))) (hg : w2.grownBy w3 v.ownBlock) (hat : v2.ownBlock = v.ownBlock ∨ v2.ownBlock = some w2.heap.size) : OwnM w3 B v2 (M ++ [m]) := by
  have hz : (M.zip vs) ++ [(m, u)] = (M ++ [m]).zip (vs ++ [u]) := by rw [List.zip_append h0.symm]; rfl
  have hat' : v2.ownBlock = v.ownBlock ∨ ∃ k, v2.ownBlock = some k ∧ w2.heap.size ≤ k := hat.imp id fun e => ⟨_, e, Nat.le_refl _⟩
  refine ⟨vs ++ [u], by simp [h0], ?_, fun i u' hu' => ?_⟩
  · rw [← hz, List.flatMap_append]
    simpa using hown
  · by_cases hi : i < vs.length
    · rw [List.getElem?_append_left hi] at hu'
      rw [show (M ++ [m]).getD i M0 = M.getD i M0 by simp only [List.getD]; rw [List.getElem?_append_left (by omega)]]
      exact (((h2 i u' hu').kept (F := fun _ => False) hb.kept fun _ _ _ _ h => h).kept (F := fun _ => False) hb2.kept fun _ _ _ _ h => h).after hg hat'
    · obtain rfl : i = vs.length := by
        rcases Nat.lt_or_ge i (vs.length + 1) with h | h
        · omega
        · rw [List.getElem?_eq_none (by simp; omega)] at hu'; cases hu'
      rw [List.getElem?_append_right (Nat.le_refl _), Nat.sub_self] at hu'
      simp at hu'; subst hu'
      rw [show (M ++ [m]).getD vs.length M0 = m by rw [h0]; simp [List.getD]]
      have hu2 : WordV w2 w.heap.size v.ownBlock u m.2 := by
        obtain ⟨a, n, c, rfl, hi, hd⟩ := hu.kept (F := fun _ => False) hb2.kept fun _ _ _ _ h => h
        exact ⟨a, n, c, rfl, hi, fun b off hn ha => ⟨(hd b off hn ha).1, fun e => by have := hv b e; have := (hd b off hn ha).1; omega⟩⟩
      exact (hu2.after hg hat').base hB
theorem Made.word {w w' : World} {v : Value} {l : List Int} (h : Made 3 w w' v l) : WordV w' w.heap.size none v l := by
  have hlt := h.own.lt
  obtain ⟨a, c, rfl, hi⟩ := h.at_
  refine ⟨a, _, c, rfl, hi, fun b off hn ha => ⟨?_, by simp⟩⟩
  subst ha
  exact (hlt b rfl).1
/-- the slice value (a, n, c) reads as the steps M; the row and the words lie from B on -/
structure MovesAt (w : World) (B : Nat) (a : Option Addr) (n c : Nat) (M : List Mv) : Prop where
  len : M.length = n
  le : n ≤ c
  small : c ≤ 9223372036854775807
  cells : ∀ i, i < n → ∃ b off u, a = some ⟨b, off, none⟩ ∧ B ≤ b ∧ b < w.heap.size ∧ w.cell? ⟨b, off + i * 3, none⟩ = some (.int .i64 (M.getD i M0).1.1) ∧ w.cell? ⟨b, off + i * 3 + 1, none⟩ = some (.int .i64 (M.getD i M0).1.2) ∧
    w.cell? ⟨b, off + i * 3 + 2, none⟩ = some u ∧ WordV w B none u (M.getD i M0).2
theorem OwnM.at_ {w : World} {B : Nat} {v : Value} {M : List Mv} (h : OwnM w B v M) : ∃ a c, v = .slice a M.length c ∧ MovesAt w B a M.length c M := by
  obtain ⟨vs, h0, h1, h2⟩ := h
  rcases h1.2 with ⟨rfl, hn⟩ | ⟨g, cap, cur, rfl, hB, hg, hn, hm, hs, ht⟩
  · exact ⟨none, 0, by rw [hn], by rw [hn], by rw [hn]; omega, by omega, fun i hi => absurd hi (by omega)⟩
  · refine ⟨_, cap, rfl, rfl, hn, by unfold maxLen at hm; omega, fun i hi => ?_⟩
    have hi' : i < vs.length := by omega
    have hz : (M.zip vs)[i]? = some (M.getD i M0, vs[i]) := by
      rw [List.getElem?_zip_eq_some]
      exact ⟨by simp [List.getD, List.getElem?_eq_getElem hi], List.getElem?_eq_getElem hi'⟩
    obtain ⟨e1, e2, e3⟩ := encM_at _ _ _ hz
    have ha : ∀ j, (⟨g, 0, none⟩ : Addr).add j = ⟨g, 0 + j, none⟩ := fun j => by unfold Addr.add; split <;> simp_all
    have c1 := h1.cells (g := g) rfl _ _ e1
    have c2 := h1.cells (g := g) rfl _ _ e2
    have c3 := h1.cells (g := g) rfl _ _ e3
    rw [ha] at c1 c2 c3
    obtain ⟨a, n, c, e, hI, hd⟩ := h2 i _ (List.getElem?_eq_getElem hi')
    exact ⟨g, 0, vs[i], rfl, hB, (Array.getElem?_eq_some_iff.1 hg).1, c1, c2, c3, a, n, c, e, hI, fun b off hn ha => ⟨(hd b off hn ha).1, by simp⟩⟩
theorem MovesAt.kept {F : Nat → Prop} {w w' : World} {B : Nat} {a : Option Addr} {n c : Nat} {M : List Mv} (h : MovesAt w B a n c M) (hk : Kept F w w') (hF : ∀ b, B ≤ b → b < w.heap.size → ¬ F b) : MovesAt w' B a n c M :=
  ⟨h.len, h.le, h.small, fun i hi => by
    obtain ⟨b, off, u, ha, hb, hlt, c1, c2, c3, hu⟩ := h.cells i hi
    exact ⟨b, off, u, ha, hb, Nat.lt_of_lt_of_le hlt hk.size, hk.cell c1 (hF b hb hlt), hk.cell c2 (hF b hb hlt), hk.cell c3 (hF b hb hlt), hu.kept hk fun b h1 _ h2 => hF b h1 h2⟩⟩
end Go.Proofs.YtebbmhlkdfmmcaaGreat
