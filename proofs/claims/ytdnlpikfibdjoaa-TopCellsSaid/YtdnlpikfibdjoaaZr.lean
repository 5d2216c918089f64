import Derived.Test.YtdnlpikfibdjoaaZ0
import Derived.Test.YtdnlpikfibdjoaaBz
import Derived.RangeFuncNested
import Derived.RangeFuncBound
import Derived.RangeFuncCalls
import Derived.RangeFuncLeaves
import Derived.RangeFuncWrites
import Derived.Shelf.Abstract
import Derived.Shelf.RegionOpen
import Derived.OwnWalkIn
import Derived.TacticsInMore
import Derived.LoopNIn
import Derived.LoopIn
import Derived.Sort.LoopGhostIn
/-! A range over a function whose iterator keeps one block of its own and hands out, in round k, a value that is told by Y (a row in new memory). -/
namespace Go.Proofs.Kv
open Go.RowKit Go

/-- The iterator's contract: its own block is the first one that it makes; Y B k W v: v is what round k hands out; N rounds. -/
def SeqNew (F : Fence) (n : Nat) (P : Program) (g : Nat) (lb : Array Value) (Y : Nat → Nat → World → Value → Prop) (N : Nat) (G : World → Prop) : Prop :=
  ∀ (l : Nat) (J Jx : Nat → World → Prop) (W : World), (∀ k A, J k A → G A) → (∀ k A A', J k A → A.grownBy A' (some W.heap.size) → J k A') →
    (∀ k A v, J k A → k < N → Y W.heap.size k A v → YieldAt F (n - 1) P l #[v] A fun e A' =>
      (e = .returned (.bool true) ∧ J (k + 1) A' ∧ A.heap.size ≤ A'.heap.size ∧ A'.heap[W.heap.size]? = A.heap[W.heap.size]?) ∨ (e = .returned (.bool false) ∧ Jx (k + 1) A')) →
    J 0 W →
    CallsIn F n P g (#[.func (.yield l) #[] #[]] ++ lb) W fun e W' => (∃ v, e = .returned v) ∧ (J N W' ∨ ∃ k, k ≤ N ∧ Jx k W')

/-- How the body of a round may be left. -/
def memPost (B : Nat) (I : Nat → World → Prop) (Ix : Code → Nat → World → Prop) (k : Nat) (W : World) : Exit → Act → World → Prop
  | .normal, _, W' => KeepsOthers W W' ∧ W'.heap[B]? = W.heap[B]? ∧ I k W'
  | .ret, _, W' => KeepsOthers W W' ∧ Ix .ret k W'
  | .exit id, _, W' => KeepsOthers W W' ∧ Ix (.exit id) k W'
  | .goto t, _, W' => KeepsOthers W W' ∧ Ix (.goto t) k W'
  | .panic _, _, _ => False
  | .outgrown, _, _ => False

/-- what may turn under an invariant of the caller's: the block B, and blocks that hold no cells -/
def Stays (B : Nat) (I : World → Prop) : Prop := ∀ A A' row, I A → A.grownBy A' row → (∀ r, row = some r → B ≤ r + 2 ∧ (r = B ∨ ∃ o : Obj, A.heap[r]? = some o ∧ o.isCells = false)) → I A'

theorem Stays.put {B : Nat} {I : World → Prop} (h : Stays B I) {W : World} {l : Nat} {o : Obj} (o' : Obj) (hs : I W) (hl : W.heap[l]? = some o) (ho : o.isCells = false) (hB : B ≤ l + 2) : I (W.putObj l o') :=
  h W _ (some l) hs (grownBy_putObj' W l o') fun r e => by cases e; exact ⟨hB, .inr ⟨o, hl, ho⟩⟩
theorem Stays.new {B : Nat} {I : World → Prop} (h : Stays B I) {W : World} (o : Obj) (hs : I W) : I (W.alloc o) :=
  h W _ none hs (World.grownBy_alloc W o none) fun r e => by cases e

variable {F : Fence} {n : Nat} {P : Program}
theorem wpIn_rangeFunc_new {g : Operand} {ps : Array Tmp} {assign body : Code} {Q : Exit → Act → World → Prop} {a : Act} {w : World}
    (hro : F.round = none) (h1 : 1 ≤ n) {gf : Nat} {lb : Array Value} (hg : a.eval g = .func (.func gf) #[] lb) (hFg : F.fn gf) (eg : ∀ args w, (callFunc gf args).run P w = .ok (.enter gf args) w)
    {Y : Nat → Nat → World → Value → Prop} {N : Nat} {G : World → Prop} (hseq : SeqNew F (n - 1) P gf lb Y N G) (hps : ps.size = 1)
    (hC : ∀ k A v, Y (w.heap.size + 2) k A v → ∀ l o o', A.heap[l]? = some o → o.isCells = false → Y (w.heap.size + 2) k (A.putObj l o') v)
    (I : Nat → World → Prop) (Ix : Code → Nat → World → Prop) (hIG : ∀ k A, I k A → G A) (hI : ∀ k, Stays (w.heap.size + 2) (I k)) (hIx : ∀ c k, Stays (w.heap.size + 2) (Ix c k)) (h0 : I 0 w) (a₁ : Value → Act)
    (hassign : ∀ (l : Nat) (v : Value) (W : World) (K : Act → World → Prop), K (a₁ v) W →
      assign.wpIn (F.inRound l) (n - 1 - 1) P (Exit.then K (fun _ _ _ => False)) { tmps := (ps.zip #[v]).foldl (fun t (p, v) => t.setIfInBounds p v) a.tmps, defers := [] } W)
    (hbody : ∀ (l k : Nat) (v : Value) (W : World), I k W → k < N → Y (w.heap.size + 2) k W v → w.heap.size + 2 < W.heap.size → body.wpIn (F.inRound l) (n - 1 - 1) P (memPost (w.heap.size + 2) I Ix (k + 1) W) (a₁ v) W)
    (hCB : ∀ k A v, Y (w.heap.size + 2) k A v → w.heap.size + 2 < A.heap.size)
    (hdone : ∀ (D : Nat) (W : World), w.heap.size ≤ D → I N W → W.heap[D]? = some (.deferred (some [])) → Q .normal { a with defers := { target := .collected D, args := #[] } :: a.defers } W)
    (hstop : ∀ (D : Nat) (c : Code) (k : Nat) (W : World), w.heap.size ≤ D → k ≤ N → Ix c k W → W.heap[D]? = some (.deferred (some [])) → c.wpIn F n P Q { a with defers := { target := .collected D, args := #[] } :: a.defers } W) :
    (Code.rangeFunc g ps assign body).wpIn F n P Q a w := by
  refine wpIn_rangeFunc ?_
  intro fn hfn
  rw [hro]
  obtain ⟨rec, hrec⟩ : ∃ rec : LoopState → Option Code → Loop, rec = fun st pe => { state := st, pending := pe, fn, tmps := a.tmps, params := ps, assign, body, defers := w.heap.size } := ⟨_, rfl⟩
  obtain ⟨W1, hW1⟩ : ∃ W1, (w.alloc (.deferred (some []))).alloc (.loop (rec .ready none)) = W1 := ⟨_, rfl⟩
  have hL1 : W1.heap[w.heap.size + 1]? = some (.loop (rec .ready none)) := by
    rw [← hW1]; have := World.alloc_heap_new (w.alloc (.deferred (some []))) (.loop (rec .ready none)); rwa [World.size_alloc] at this
  have hK1 : W1.heap[w.heap.size]? = some (.deferred (some [])) := by
    rw [← hW1]; exact (Below.heap_alloc _ _ _ (by simp)).trans (World.alloc_heap_new w _)
  have hI1 : I 0 W1 := by rw [← hW1]; exact (hI 0).new _ ((hI 0).new _ h0)
  have hsz : W1.heap.size = w.heap.size + 2 := by rw [← hW1]; simp
  refine ⟨w.heap.size + 1, [{ target := .collected w.heap.size, args := #[] }], W1, { target := .fn (.func gf) lb, args := #[.func (.yield (w.heap.size + 1)) #[] #[]] }, W1, gf,
    #[.func (.yield (w.heap.size + 1)) #[] #[]] ++ lb, W1, ?_, ?_, ?_, ?_, fun _ => h1, ?_⟩
  · rw [← hW1, hrec]; exact run_enterLoop_outer _ _ _ _ _
  · simp only [resolve, hg]
    simp [go_sem]
  · intro f' hf'; simp [Target.leads] at hf'; subst hf'; exact hFg
  · simp [invoke, go_sem, eg]
  · refine (hseq (w.heap.size + 1)
      (fun k W => I k W ∧ W.heap[w.heap.size + 1]? = some (.loop (rec .ready none)) ∧ W.heap[w.heap.size]? = some (.deferred (some [])))
      (fun k W => ∃ c, Ix c k W ∧ W.heap[w.heap.size + 1]? = some (.loop (rec .done (some c))) ∧ W.heap[w.heap.size]? = some (.deferred (some [])))
      W1 (fun k A h => hIG k A h.1) ?_ ?_ ⟨hI1, hL1, hK1⟩).mono ?_
    · rintro k A A' ⟨hi, hl, hk⟩ hg'
      rw [hsz] at hg'
      refine ⟨hI k A A' _ hi hg' fun r e => by cases e; exact ⟨by omega, .inl rfl⟩, ?_, ?_⟩
      · rw [hg'.block _ (Array.getElem?_eq_some_iff.1 hl).1 (by simp)]; exact hl
      · rw [hg'.block _ (Array.getElem?_eq_some_iff.1 hk).1 (by simp)]; exact hk
    · rintro k W v ⟨hi, hl, hk⟩ hlen hc
      rw [hsz] at hc ⊢
      have hlt : w.heap.size + 1 < W.heap.size := (Array.getElem?_eq_some_iff.1 hl).1
      have hBs := hCB k W v hc
      have hy := run_yield (P := P) (args := #[v]) hl (by rw [hrec]; simp [hps])
      rw [hrec] at hy
      refine ⟨fn, _, assign, body, hy, roundIn_of_wpIn hfn (hassign _ v W _ ⟨_, run_beginRound hl (by rw [hrec]), ?_⟩)⟩
      have hl2 : (W.putObj (w.heap.size + 1) (.loop { rec .ready none with state := .busy })).heap[w.heap.size + 1]? = some (.loop { rec .ready none with state := .busy }) := World.putObj_heap_same hlt
      have hk2 : (W.putObj (w.heap.size + 1) (.loop { rec .ready none with state := .busy })).heap[w.heap.size]? = some (.deferred (some [])) := (World.putObj_heap_other (by omega)).trans hk
      have hb2 : (W.putObj (w.heap.size + 1) (.loop { rec .ready none with state := .busy })).heap[w.heap.size + 2]? = W.heap[w.heap.size + 2]? := World.putObj_heap_other (by omega)
      refine wpIn_mono (hbody _ k v _ ((hI k).put _ hi hl rfl (by omega)) hlen (hC k _ v hc _ _ _ hl rfl) (by simpa using hBs)) ?_
      have fin : ∀ (jump : Option Code) (W3 : World), KeepsOthers (W.putObj (w.heap.size + 1) (.loop { rec .ready none with state := .busy })) W3 →
          (Instr.endRound (w.heap.size + 1) jump).run P W3 = .ok (.bool jump.isNone) (W3.putObj (w.heap.size + 1) (.loop (rec (if jump.isNone then .ready else .done) jump))) ∧
          W3.heap[w.heap.size + 1]? = some (.loop { rec .ready none with state := .busy }) ∧
          (W3.putObj (w.heap.size + 1) (.loop (rec (if jump.isNone then .ready else .done) jump))).heap[w.heap.size + 1]? = some (.loop (rec (if jump.isNone then .ready else .done) jump)) ∧
          (W3.putObj (w.heap.size + 1) (.loop (rec (if jump.isNone then .ready else .done) jump))).heap[w.heap.size]? = some (.deferred (some [])) := fun jump W3 hk3 => by
        have hl3 := hk3.same _ _ hl2 rfl
        have := run_endRound (P := P) jump hl3
        rw [hrec] at this ⊢
        exact ⟨this, by rw [hrec] at hl3; exact hl3, World.putObj_heap_same (Array.getElem?_eq_some_iff.1 hl3).1, (World.putObj_heap_other (by omega)).trans (hk3.same _ _ hk2 rfl)⟩
      rintro e a3 W3 hp
      cases e with
      | normal =>
        obtain ⟨hk3, hkp3, hi3⟩ := hp
        obtain ⟨hr, hl3, hl4, hk4⟩ := fin none W3 hk3
        refine ⟨_, _, hr, .inl ⟨rfl, ⟨(hI _).put _ hi3 hl3 rfl (by omega), hl4, hk4⟩, ?_, ?_⟩⟩
        · have := hk3.size; simpa using this
        · rw [World.putObj_heap_other (by omega), hkp3, hb2]
      | ret =>
        obtain ⟨hk3, hi3⟩ := hp
        obtain ⟨hr, hl3, hl4, hk4⟩ := fin (some .ret) W3 hk3
        exact ⟨_, _, hr, .inr ⟨rfl, .ret, (hIx _ _).put _ hi3 hl3 rfl (by omega), hl4, hk4⟩⟩
      | exit id =>
        obtain ⟨hk3, hi3⟩ := hp
        obtain ⟨hr, hl3, hl4, hk4⟩ := fin (some (.exit id)) W3 hk3
        exact ⟨_, _, hr, .inr ⟨rfl, .exit id, (hIx _ _).put _ hi3 hl3 rfl (by omega), hl4, hk4⟩⟩
      | goto t =>
        obtain ⟨hk3, hi3⟩ := hp
        obtain ⟨hr, hl3, hl4, hk4⟩ := fin (some (.goto t)) W3 hk3
        exact ⟨_, _, hr, .inr ⟨rfl, .goto t, (hIx _ _).put _ hi3 hl3 rfl (by omega), hl4, hk4⟩⟩
      | panic ch => exact hp.elim
      | outgrown => exact hp.elim
    · rintro e W2 ⟨⟨v, rfl⟩, (⟨hi, hl, hk⟩ | ⟨k, hkN, c, hi, hl, hk⟩)⟩
      · exact ⟨none, _, by have := run_endLoop (P := P) hl (by rw [hrec]; simp); rw [hrec] at this; exact this, hdone _ _ (Nat.le_refl _) ((hI N).put _ hi hl rfl (by omega)) ((World.putObj_heap_other (by omega)).trans hk)⟩
      · exact ⟨some c, _, by have := run_endLoop (P := P) hl (by rw [hrec]; simp); rw [hrec] at this; exact this, hstop _ c k _ (Nat.le_refl _) hkN ((hIx c k).put _ hi hl rfl (by omega)) ((World.putObj_heap_other (by omega)).trans hk)⟩
theorem stays_cell {D : Nat} {p : Addr} {v : Value} (hp : p.block < D) : Stays (D + 2) fun W => W.cell? p = some v := fun _ _ _ h hg hr =>
  hg.cell h fun e => by have := (hr _ e.symm).1; omega
theorem stays_below {D B0 : Nat} {W0 : World} (hB : B0 ≤ D) (h0 : B0 ≤ W0.heap.size) : Stays (D + 2) fun W => Below B0 W0 W := fun _ _ _ h hg hr =>
  h.grown hg (Nat.le_trans h0 h.size) fun r e => by have := (hr r e).1; omega
theorem stays_own {D E n : Nat} {v : Value} {xs : List Value} : Stays (D + 2) fun W => W.ownsRow (D + 3) E 1 v n xs := fun A A' row h hg hr => by
  refine World.ownsRow.kept h hg ?_
  by_cases hv : v.ownBlock = none
  · exact .inl hv
  · refine .inr fun e => ?_
    obtain ⟨r, hr'⟩ := Option.ne_none_iff_exists'.1 hv
    have h1 := (h.lt r hr').1
    rw [hr'] at e
    rcases (hr r e.symm).2 with h2 | ⟨o, ho, hc⟩
    · omega
    · rcases h.2 with ⟨rfl, _⟩ | ⟨g, cap, cur, rfl, _, hg', _⟩
      · simp [Value.ownBlock] at hr'
      · have : g = r := by simpa [Value.ownBlock] using hr'
        subst this
        rw [hg'] at ho
        injection ho with ho
        subst ho
        simp [Obj.isCells] at hc
theorem stays_and {B : Nat} {I J : World → Prop} (h : Stays B I) (k : Stays B J) : Stays B fun W => I W ∧ J W := fun A A' row hs hg hr => ⟨h A A' row hs.1 hg hr, k A A' row hs.2 hg hr⟩
theorem stays_pure {B : Nat} {p : Prop} : Stays B fun _ => p := fun _ _ _ h _ _ => h
theorem stays_ex {B : Nat} {α : Type} {I : α → World → Prop} (h : ∀ a, Stays B (I a)) : Stays B fun W => ∃ a, I a W := fun A A' row ⟨a, hs⟩ hg hr => ⟨a, h a A A' row hs hg hr⟩


end Go.Proofs.Kv
namespace Go.Proofs.Ytdnlpikfibdjoaa
open Go.RowKit Go.Proofs.Kv
/-- block B is just the numbers l -/
def RowL (w : World) (B : Nat) (l : List Int) : Prop := w.rowIs B 3 l.length fun i => .int .i64 (l.getD i 0)
theorem RowL.put {w : World} {B : Nat} {l : List Int} (h : RowL w B l) (i : Nat) (x : Int) : RowL (w.setCell ⟨B, i, none⟩ (.int .i64 x)) B (l.set i x) := by
  unfold RowL at h ⊢
  rw [List.length_set]
  refine (World.rowIs.set h i (.int .i64 x)).congr fun j hj => ?_
  by_cases e : j = i
  · subst e
    simp [List.getD, hj]
  · rw [if_neg e]
    simp [List.getD, List.getElem?_set_ne (Ne.symm e)]
theorem RowL.ints {w : World} {B : Nat} {l : List Int} (h : RowL w B l) (hm : l.length ≤ 1000) : IntsAt w (some ⟨B, 0, none⟩) l.length l.length l :=
  ⟨rfl, Nat.le_refl _, by omega, fun i hi => ⟨B, 0, rfl, World.rowIs.lt h, by rw [Nat.zero_add]; exact World.rowIs.cell h hi⟩⟩

theorem grown_set {w w' : World} {B : Nat} (h : w.grownBy w' (some B)) (i : Nat) (v : Value) : w.grownBy (w'.setCell ⟨B, i, none⟩ v) (some B) :=
  ⟨h.os, h.tape, h.output, by simpa [World.setCell] using h.size, fun k hk hne => (Below.heap_setCell w' ⟨B, i, none⟩ v k (fun e => hne (by rw [e]))).trans (h.block k hk hne)⟩
theorem grown_trans {a b c : World} {row : Option Nat} (h : a.grownBy b row) (k : b.grownBy c row) : a.grownBy c row :=
  ⟨k.os.trans h.os, k.tape.trans h.tape, k.output.trans h.output, Nat.le_trans h.size k.size, fun i hi hne => (k.block i (Nat.lt_of_lt_of_le hi h.size) hne).trans (h.block i hi hne)⟩
end Go.Proofs.Ytdnlpikfibdjoaa
