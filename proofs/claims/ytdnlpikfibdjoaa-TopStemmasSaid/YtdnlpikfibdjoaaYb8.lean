import Derived.Test.YtdnlpikfibdjoaaYb6
import Derived.Test.YtdnlpikfibdjoaaYb7
import Derived.Test.YtdnlpikfibdjoaaYP
namespace Go.Proofs.Ytdnlpikfibdjoaa
open Go.RowKit Go.Proofs.Kv Go

/-! ### build of the program -/
theorem lists_take7 {w : World} {a : Option Addr} {n c : Nat} {S : List (List Int)} (h : ListsAt w a n c S) {k : Nat} (hk : k ≤ n) : ListsAt w a k c (S.take k) :=
  ⟨by rw [List.length_take, h.len]; omega, Nat.le_trans hk h.le, h.small, fun i hi => by
    obtain ⟨b, off, a1, n1, c1, ha, hb, hc, hr⟩ := h.cells i (by omega)
    refine ⟨b, off, a1, n1, c1, ha, hb, hc, ?_⟩
    have : (S.take k).getD i [] = S.getD i [] := by simp [List.getD, hi]
    rw [this]; exact hr⟩
theorem homK_take (S : List (List Int)) (x : Int) : ∀ {k i : Nat}, k ≤ i → homK (S.take i) x k = homK S x k
  | 0, _, _ => rfl
  | k + 1, i, h => by
    have e : (S.take i).getD k [] = S.getD k [] := by simp [List.getD, show k < i by omega]
    rw [homK, homK, e, homK_take S x (by omega)]
theorem row_other {w : World} {B E s n : Nat} {v : Value} {xs : List Value} (h : w.ownsRow B E s v n xs) {p : Addr} (hp : v.ownBlock ≠ some p.block) (y : Value) : (w.setCell p y).ownsRow B E s v n xs :=
  ⟨h.1, by
    rcases h.2 with hn | ⟨g, cap, cur, rfl, hb, hg, rest⟩
    · exact .inl hn
    · refine .inr ⟨g, cap, cur, rfl, hb, ?_, rest⟩
      rw [Below.heap_setCell _ _ _ _ (fun e => hp (by rw [e]; rfl))]; exact hg⟩
/-- the tree in hand: two own rows of numbers, and the box D that holds them -/
structure TreeI (w0 wr : World) (D : Nat) (pv av : Value) (Pl Al : List Int) : Prop where
  c0 : wr.cell? ⟨D, 0, none⟩ = some pv
  c1 : wr.cell? ⟨D, 1, none⟩ = some av
  f0 : wr.frozen? ⟨D, 0, none⟩ = false
  f1 : wr.frozen? ⟨D, 1, none⟩ = false
  p : wr.ownsRow w0.heap.size 3 1 pv Pl.length (Pl.map (Value.int .i64))
  a : wr.ownsRow w0.heap.size 3 1 av Al.length (Al.map (Value.int .i64))
  pd : pv.ownBlock ≠ some D
  ad : av.ownBlock ≠ some D
  pa : ∀ b, pv.ownBlock = some b → av.ownBlock ≠ some b
  lo : w0.heap.size ≤ D
  hi : D < wr.heap.size
  b : Below w0.heap.size w0 wr
theorem TreeI.next {w0 wr W : World} {D : Nat} {pv av : Value} {Pl Al : List Int} (h : TreeI w0 wr D pv av Pl Al) (hb : Below wr.heap.size wr W) : TreeI w0 W D pv av Pl Al :=
  ⟨(hb.cell (p := ⟨D, 0, none⟩) h.hi).trans h.c0, (hb.cell (p := ⟨D, 1, none⟩) h.hi).trans h.c1, (hb.frozen (p := ⟨D, 0, none⟩) h.hi).trans h.f0, (hb.frozen (p := ⟨D, 1, none⟩) h.hi).trans h.f1,
   own_below h.p hb (Nat.le_refl _), own_below h.a hb (Nat.le_refl _), h.pd, h.ad, h.pa, h.lo, Nat.lt_of_lt_of_le h.hi hb.size, h.b.trans (hb.mono h.b.size)⟩
theorem TreeI.pushP {w0 wr W : World} {D : Nat} {pv av v' : Value} {Pl Al : List Int} {x : Int} (h : TreeI w0 wr D pv av Pl Al) (h' : W.ownsRow w0.heap.size 3 1 v' (Pl.length + 1) ((Pl ++ [x]).map (Value.int .i64))) (hg : wr.grownBy W pv.ownBlock) (hat : v'.ownBlock = pv.ownBlock ∨ v'.ownBlock = some wr.heap.size) :
    TreeI w0 (W.setCell ⟨D, 0, none⟩ v') D v' av (Pl ++ [x]) Al ∧ W.cell? ⟨D, 0, none⟩ = some pv ∧ W.frozen? ⟨D, 0, none⟩ = false := by
  have e0 : W.cell? ⟨D, 0, none⟩ = some pv := hg.cell h.c0 (fun e => h.pd e.symm)
  have e1 : W.cell? ⟨D, 1, none⟩ = some av := hg.cell h.c1 (fun e => h.pd e.symm)
  have g0 : W.frozen? ⟨D, 0, none⟩ = false := (World.frozen?_of_block (a := ⟨D, 0, none⟩) (hg.block D h.hi (fun e => h.pd e.symm))).trans h.f0
  have g1 : W.frozen? ⟨D, 1, none⟩ = false := (World.frozen?_of_block (a := ⟨D, 1, none⟩) (hg.block D h.hi (fun e => h.pd e.symm))).trans h.f1
  have hvd : v'.ownBlock ≠ some D := by
    rcases hat with e | e
    · rw [e]; exact h.pd
    · rw [e]; intro e2; injection e2 with e2; have := h.hi; omega
  have hva : ∀ b, v'.ownBlock = some b → av.ownBlock ≠ some b := by
    intro b hb
    rcases hat with e | e
    · exact h.pa b (by rw [← e]; exact hb)
    · rw [e] at hb; injection hb with hb
      intro e2
      have := (h.a.lt b e2).2
      omega
  have ha : W.ownsRow w0.heap.size 3 1 av Al.length (Al.map (Value.int .i64)) := h.a.kept hg (by
    cases hab : av.ownBlock with
    | none => exact .inl rfl
    | some q => exact .inr fun e => h.pa q e.symm hab)
  have hbW : Below w0.heap.size w0 W := h.b.grown hg h.b.size (fun r e => (h.p.lt r e).1)
  refine ⟨⟨World.cell?_setCell_same _ _ _ e0, ?_, ?_, ?_, ?_, row_other ha h.ad _, hvd, h.ad, hva, h.lo, ?_, hbW.setCell (p := ⟨D, 0, none⟩) h.lo _⟩, e0, g0⟩
  · rw [World.cell?_setCell_other _ _ _ _ (by simp)]; exact e1
  · rw [World.frozen?_setCell]; exact g0
  · rw [World.frozen?_setCell]; exact g1
  · rw [List.length_append]; exact row_other h' hvd _
  · simp [World.setCell]; exact Nat.lt_of_lt_of_le h.hi hg.size
theorem TreeI.pushA {w0 wr W : World} {D : Nat} {pv av v' : Value} {Pl Al : List Int} {x : Int} (h : TreeI w0 wr D pv av Pl Al) (h' : W.ownsRow w0.heap.size 3 1 v' (Al.length + 1) ((Al ++ [x]).map (Value.int .i64))) (hg : wr.grownBy W av.ownBlock) (hat : v'.ownBlock = av.ownBlock ∨ v'.ownBlock = some wr.heap.size) :
    TreeI w0 (W.setCell ⟨D, 1, none⟩ v') D pv v' Pl (Al ++ [x]) ∧ W.cell? ⟨D, 1, none⟩ = some av ∧ W.frozen? ⟨D, 1, none⟩ = false := by
  have e0 : W.cell? ⟨D, 0, none⟩ = some pv := hg.cell h.c0 (fun e => h.ad e.symm)
  have e1 : W.cell? ⟨D, 1, none⟩ = some av := hg.cell h.c1 (fun e => h.ad e.symm)
  have g0 : W.frozen? ⟨D, 0, none⟩ = false := (World.frozen?_of_block (a := ⟨D, 0, none⟩) (hg.block D h.hi (fun e => h.ad e.symm))).trans h.f0
  have g1 : W.frozen? ⟨D, 1, none⟩ = false := (World.frozen?_of_block (a := ⟨D, 1, none⟩) (hg.block D h.hi (fun e => h.ad e.symm))).trans h.f1
  have hvd : v'.ownBlock ≠ some D := by
    rcases hat with e | e
    · rw [e]; exact h.ad
    · rw [e]; intro e2; injection e2 with e2; have := h.hi; omega
  have hva : ∀ b, pv.ownBlock = some b → v'.ownBlock ≠ some b := by
    intro b hb
    rcases hat with e | e
    · rw [e]; exact h.pa b hb
    · rw [e]; intro e2; injection e2 with e2
      have := (h.p.lt b hb).2
      omega
  have hp : W.ownsRow w0.heap.size 3 1 pv Pl.length (Pl.map (Value.int .i64)) := h.p.kept hg (by
    cases hab : pv.ownBlock with
    | none => exact .inl rfl
    | some q => exact .inr fun e => h.pa q hab e.symm)
  have hbW : Below w0.heap.size w0 W := h.b.grown hg h.b.size (fun r e => (h.a.lt r e).1)
  refine ⟨⟨?_, World.cell?_setCell_same _ _ _ e1, ?_, ?_, row_other hp h.pd _, ?_, h.pd, hvd, hva, h.lo, ?_, hbW.setCell (p := ⟨D, 1, none⟩) h.lo _⟩, e1, g1⟩
  · rw [World.cell?_setCell_other _ _ _ _ (by simp)]; exact e0
  · rw [World.frozen?_setCell]; exact g0
  · rw [World.frozen?_setCell]; exact g1
  · rw [List.length_append]; exact row_other h' hvd _
  · simp [World.setCell]; exact Nat.lt_of_lt_of_le h.hi hg.size
def parS (S : List (List Int)) (k : Nat) : List Int := (-1 : Int) :: (List.range k).map fun i => (homK S ((S.getD i []).getD 0 0) i : Int)
def parC (S : List (List Int)) (c : Nat) : List Int := parS S S.length ++ (List.range c).map fun c : Nat => (homK S (c : Int) S.length : Int)
def atC (S : List (List Int)) (c : Nat) : List Int := (List.range c).map fun c => ((1 + S.length + c : Nat) : Int)
theorem parS_succ (S : List (List Int)) (k : Nat) : parS S (k + 1) = parS S k ++ [(homK S ((S.getD k []).getD 0 0) k : Int)] := by unfold parS; rw [List.range_succ, List.map_append]; rfl
theorem parS_len (S : List (List Int)) (k : Nat) : (parS S k).length = 1 + k := by unfold parS; simp; omega
theorem parC_succ (S : List (List Int)) (c : Nat) : parC S (c + 1) = parC S c ++ [(homK S (c : Int) S.length : Int)] := by unfold parC; rw [List.range_succ, List.map_append, List.append_assoc]; rfl
theorem parC_len (S : List (List Int)) (c : Nat) : (parC S c).length = 1 + S.length + c := by unfold parC; rw [List.length_append, parS_len]; simp
theorem parC_zero (S : List (List Int)) : parC S 0 = parS S S.length := by unfold parC; simp
theorem atC_succ (S : List (List Int)) (c : Nat) : atC S (c + 1) = atC S c ++ [((1 + S.length + c : Nat) : Int)] := by unfold atC; rw [List.range_succ, List.map_append]; rfl
theorem atC_len (S : List (List Int)) (c : Nat) : (atC S c).length = c := by unfold atC; simp
theorem build_of (S : List (List Int)) (n : Nat) : buildX S n = ⟨parC S n, atC S n⟩ := by unfold buildX parC parS atC; simp
end Go.Proofs.Ytdnlpikfibdjoaa
