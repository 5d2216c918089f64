import Derived.Test.YtebbmhlkdfmmcaaGreatKit
import Derived.RangeFuncNested
import Derived.RangeFuncBound
import Derived.RangeFuncCalls
import Derived.RangeFuncLeaves
import Derived.RangeFuncWrites
import Derived.Test.YtebbmhlkdfmmcaaGreatKa
import Derived.Shelf.Abstract
import Derived.Shelf.RegionOpen
import Derived.OwnWalkIn
import Derived.TacticsInMore
import Derived.LoopNIn
import Derived.LoopIn
import Derived.Sort.LoopGhostIn
/-! A range over a function whose iterator makes no memory and hands out, in round k, the values x k. -/
namespace Go.Proofs.Kv
open Go.RowKit Go

/-- The iterator's contract: N rounds; round k hands out x k. -/
def SeqArgs (F : Fence) (n : Nat) (P : Program) (g : Nat) (lb : Array Value) (x : Nat → Array Value) (N : Nat) (G : World → Prop) : Prop :=
  ∀ (l : Nat) (J Jx : Nat → World → Prop) (W : World), (∀ k A, J k A → G A) →
    (∀ k A, J k A → k < N → YieldAt F (n - 1) P l (x k) A fun e A' => (e = .returned (.bool true) ∧ J (k + 1) A') ∨ (e = .returned (.bool false) ∧ Jx (k + 1) A')) →
    J 0 W →
    CallsIn F n P g (#[.func (.yield l) #[] #[]] ++ lb) W fun e W' => (∃ v, e = .returned v) ∧ (J N W' ∨ ∃ k, k ≤ N ∧ Jx k W')

/-- How the body of a round may be left. -/
def argsPost (I : Nat → World → Prop) (Ix : Code → Nat → World → Prop) (k : Nat) (W : World) : Exit → Act → World → Prop
  | .normal, _, W' => KeepsOthers W W' ∧ I k W'
  | .ret, _, W' => KeepsOthers W W' ∧ Ix .ret k W'
  | .exit id, _, W' => KeepsOthers W W' ∧ Ix (.exit id) k W'
  | .goto t, _, W' => KeepsOthers W W' ∧ Ix (.goto t) k W'
  | .panic _, _, _ => False
  | .outgrown, _, _ => False

/-- what may turn under an invariant of the caller's: blocks that hold no cells, and new blocks -/
def StaysN (B : Nat) (I : World → Prop) : Prop := ∀ A A' row, I A → A.grownBy A' row → (∀ r, row = some r → B ≤ r ∧ ∃ o : Obj, A.heap[r]? = some o ∧ o.isCells = false) → I A'
theorem StaysN.put {B : Nat} {I : World → Prop} (h : StaysN B I) {W : World} {l : Nat} {o : Obj} (o' : Obj) (hs : I W) (hl : W.heap[l]? = some o) (ho : o.isCells = false) (hB : B ≤ l) : I (W.putObj l o') :=
  h W _ (some l) hs (grownBy_putObj' W l o') fun r e => by cases e; exact ⟨hB, o, hl, ho⟩
theorem StaysN.new {B : Nat} {I : World → Prop} (h : StaysN B I) {W : World} (o : Obj) (hs : I W) : I (W.alloc o) :=
  h W _ none hs (World.grownBy_alloc W o none) fun r e => by cases e

theorem StaysN.cell {B : Nat} {p : Addr} {v : Value} : StaysN B fun W => W.cell? p = some v := fun A A' row h hg hr => by
  refine hg.cell h fun e => ?_
  obtain ⟨_, o, ho, hc⟩ := hr _ e.symm
  dsimp only at h
  unfold World.cell? at h
  rw [ho] at h
  cases o <;> simp_all [Obj.isCells]
theorem StaysN.below {B B0 : Nat} {W0 : World} (hB : B0 ≤ B) (h0 : B0 ≤ W0.heap.size) : StaysN B fun W => Below B0 W0 W := fun _ _ _ h hg hr =>
  h.grown hg (Nat.le_trans h0 h.size) fun r e => by have := (hr r e).1; omega
theorem StaysN.own {B B0 E n : Nat} {v : Value} {xs : List Value} : StaysN B fun W => W.ownsRow B0 E 1 v n xs := fun A A' row h hg hr => by
  refine World.ownsRow.kept h hg ?_
  by_cases hv : v.ownBlock = none
  · exact .inl hv
  · refine .inr fun e => ?_
    obtain ⟨r, hr'⟩ := Option.ne_none_iff_exists'.1 hv
    rw [hr'] at e
    obtain ⟨_, o, ho, hc⟩ := hr r e.symm
    rcases h.2 with ⟨rfl, _⟩ | ⟨g, cap, cur, rfl, _, hg', _⟩
    · simp [Value.ownBlock] at hr'
    · have : g = r := by simpa [Value.ownBlock] using hr'
      subst this
      rw [hg'] at ho
      injection ho with ho
      subst ho
      simp [Obj.isCells] at hc
theorem StaysN.and {B : Nat} {I J : World → Prop} (h : StaysN B I) (k : StaysN B J) : StaysN B fun W => I W ∧ J W := fun A A' row hs hg hr => ⟨h A A' row hs.1 hg hr, k A A' row hs.2 hg hr⟩
theorem StaysN.pure {B : Nat} {p : Prop} : StaysN B fun _ => p := fun _ _ _ h _ _ => h
theorem StaysN.ex {B : Nat} {α : Type} {I : α → World → Prop} (h : ∀ a, StaysN B (I a)) : StaysN B fun W => ∃ a, I a W := fun A A' row ⟨a, hs⟩ hg hr => ⟨a, h a A A' row hs hg hr⟩
theorem StaysN.size {B k : Nat} : StaysN B fun W => k < W.heap.size := fun _ _ _ h hg _ => Nat.lt_of_lt_of_le h hg.size
/-- a row of one cell, whole -/
theorem StaysN.block {B b : Nat} {o : Obj} (ho : o.isCells = true) : StaysN B fun W => W.heap[b]? = some o := fun A A' row h hg hr => by
  dsimp only at h ⊢
  rw [hg.block b (Array.getElem?_eq_some_iff.1 h).1 (fun e => ?_)]
  · exact h
  · obtain ⟨_, o', ho', hc⟩ := hr _ e.symm
    rw [h] at ho'
    injection ho' with ho'
    subst ho'
    rw [ho] at hc
    cases hc

variable {F : Fence} {n : Nat} {P : Program}

theorem wpIn_rangeFunc_args {g : Operand} {ps : Array Tmp} {assign body : Code} {Q : Exit → Act → World → Prop} {a : Act} {w : World}
    (hro : F.round = none) (h1 : 1 ≤ n) {gf : Nat} {lb : Array Value} (hg : a.eval g = .func (.func gf) #[] lb) (hFg : F.fn gf) (eg : ∀ args w, (callFunc gf args).run P w = .ok (.enter gf args) w)
    {x : Nat → Array Value} {N : Nat} {G : World → Prop} (hseq : SeqArgs F (n - 1) P gf lb x N G) (hps : ∀ k, (x k).size = ps.size)
    (I : Nat → World → Prop) (Ix : Code → Nat → World → Prop) (hIG : ∀ k A, I k A → G A) (hI : ∀ k, StaysN w.heap.size (I k)) (hIx : ∀ c k, StaysN w.heap.size (Ix c k)) (h0 : I 0 w) (a₁ : Nat → Act)
    (hassign : ∀ (l k : Nat) (W : World) (K : Act → World → Prop), k < N → K (a₁ k) W →
      assign.wpIn (F.inRound l) (n - 1 - 1) P (Exit.then K (fun _ _ _ => False)) { tmps := (ps.zip (x k)).foldl (fun t (p, v) => t.setIfInBounds p v) a.tmps, defers := [] } W)
    (hbody : ∀ (l k : Nat) (W : World), I k W → k < N → body.wpIn (F.inRound l) (n - 1 - 1) P (argsPost I Ix (k + 1) W) (a₁ k) W)
    (hdone : ∀ (D : Nat) (W : World), w.heap.size ≤ D → I N W → W.heap[D]? = some (.deferred (some [])) → Q .normal { a with defers := { target := .collected D, args := #[] } :: a.defers } W)
    (hstop : ∀ (D : Nat) (c : Code) (k : Nat) (W : World), w.heap.size ≤ D → k ≤ N → Ix c k W → W.heap[D]? = some (.deferred (some [])) → c.wpIn F n P Q { a with defers := { target := .collected D, args := #[] } :: a.defers } W) :
    (Code.rangeFunc g ps assign body).wpIn F n P Q a w := by
  refine wpIn_rangeFunc ?_
  intro fn hfn
  rw [hro]
  obtain ⟨rec, hrec⟩ : ∃ rec : LoopState → Option Code → Loop, rec = fun st pe => { state := st, pending := pe, fn, tmps := a.tmps, params := ps, assign, body, defers := w.heap.size } := ⟨_, rfl⟩
  obtain ⟨W1, hW1⟩ : ∃ W1, (w.alloc (.deferred (some []))).alloc (.loop (rec .ready none)) = W1 := ⟨_, rfl⟩
  have hL1 : W1.heap[w.heap.size + 1]? = some (.loop (rec .ready none)) := by
    rw [← hW1]; have := World.alloc_heap_new (w.alloc (.deferred (some []))) (.loop (rec .ready none)); rwa [World.size_alloc] at this
  have hK1 : W1.heap[w.heap.size]? = some (.deferred (some [])) := by
    rw [← hW1]; exact (Below.heap_alloc _ _ _ (by simp)).trans (World.alloc_heap_new w _)
  have hI1 : I 0 W1 := by rw [← hW1]; exact (hI 0).new _ ((hI 0).new _ h0)
  refine ⟨w.heap.size + 1, [{ target := .collected w.heap.size, args := #[] }], W1, { target := .fn (.func gf) lb, args := #[.func (.yield (w.heap.size + 1)) #[] #[]] }, W1, gf,
    #[.func (.yield (w.heap.size + 1)) #[] #[]] ++ lb, W1, ?_, ?_, ?_, ?_, fun _ => h1, ?_⟩
  · rw [← hW1, hrec]; exact run_enterLoop_outer _ _ _ _ _
  · simp only [resolve, hg]
    simp [go_sem]
  · intro f' hf'; simp [Target.leads] at hf'; subst hf'; exact hFg
  · simp [invoke, go_sem, eg]
  · refine (hseq (w.heap.size + 1)
      (fun k W => I k W ∧ W.heap[w.heap.size + 1]? = some (.loop (rec .ready none)) ∧ W.heap[w.heap.size]? = some (.deferred (some [])))
      (fun k W => ∃ c, Ix c k W ∧ W.heap[w.heap.size + 1]? = some (.loop (rec .done (some c))) ∧ W.heap[w.heap.size]? = some (.deferred (some [])))
      W1 (fun k A h => hIG k A h.1) ?_ ⟨hI1, hL1, hK1⟩).mono ?_
    · rintro k W ⟨hi, hl, hk⟩ hlen
      have hlt : w.heap.size + 1 < W.heap.size := (Array.getElem?_eq_some_iff.1 hl).1
      have hy := run_yield (P := P) (args := x k) hl (by rw [hrec]; simp [hps])
      rw [hrec] at hy
      refine ⟨fn, _, assign, body, hy, roundIn_of_wpIn hfn (hassign _ k W _ hlen ⟨_, run_beginRound hl (by rw [hrec]), ?_⟩)⟩
      have hl2 : (W.putObj (w.heap.size + 1) (.loop { rec .ready none with state := .busy })).heap[w.heap.size + 1]? = some (.loop { rec .ready none with state := .busy }) := World.putObj_heap_same hlt
      have hk2 : (W.putObj (w.heap.size + 1) (.loop { rec .ready none with state := .busy })).heap[w.heap.size]? = some (.deferred (some [])) := (World.putObj_heap_other (by omega)).trans hk
      refine wpIn_mono (hbody _ k _ ((hI k).put _ hi hl rfl (by omega)) hlen) ?_
      have fin : ∀ (jump : Option Code) (W3 : World), KeepsOthers (W.putObj (w.heap.size + 1) (.loop { rec .ready none with state := .busy })) W3 →
          (Instr.endRound (w.heap.size + 1) jump).run P W3 = .ok (.bool jump.isNone) (W3.putObj (w.heap.size + 1) (.loop (rec (if jump.isNone then .ready else .done) jump))) ∧
          W3.heap[w.heap.size + 1]? = some (.loop { rec .ready none with state := .busy }) ∧
          (W3.putObj (w.heap.size + 1) (.loop (rec (if jump.isNone then .ready else .done) jump))).heap[w.heap.size + 1]? = some (.loop (rec (if jump.isNone then .ready else .done) jump)) ∧
          (W3.putObj (w.heap.size + 1) (.loop (rec (if jump.isNone then .ready else .done) jump))).heap[w.heap.size]? = some (.deferred (some [])) := fun jump W3 hk3 => by
        have hl3 := hk3.same _ _ hl2 rfl
        have := run_endRound (P := P) jump hl3
        rw [hrec] at this ⊢
        exact ⟨this, by rw [hrec] at hl3; exact hl3, World.putObj_heap_same (Array.getElem?_eq_some_iff.1 hl3).1, (World.putObj_heap_other (by omega)).trans (hk3.same _ _ hk2 rfl)⟩
      rintro e a3 W3 hp
      cases e with
      | normal =>
        obtain ⟨hk3, hi3⟩ := hp
        obtain ⟨hr, hl3, hl4, hk4⟩ := fin none W3 hk3
        exact ⟨_, _, hr, .inl ⟨rfl, (hI _).put _ hi3 hl3 rfl (by omega), hl4, hk4⟩⟩
      | ret =>
        obtain ⟨hk3, hi3⟩ := hp
        obtain ⟨hr, hl3, hl4, hk4⟩ := fin (some .ret) W3 hk3
        exact ⟨_, _, hr, .inr ⟨rfl, .ret, (hIx _ _).put _ hi3 hl3 rfl (by omega), hl4, hk4⟩⟩
      | exit id =>
        obtain ⟨hk3, hi3⟩ := hp
        obtain ⟨hr, hl3, hl4, hk4⟩ := fin (some (.exit id)) W3 hk3
        exact ⟨_, _, hr, .inr ⟨rfl, .exit id, (hIx _ _).put _ hi3 hl3 rfl (by omega), hl4, hk4⟩⟩
      | goto t =>
        obtain ⟨hk3, hi3⟩ := hp
        obtain ⟨hr, hl3, hl4, hk4⟩ := fin (some (.goto t)) W3 hk3
        exact ⟨_, _, hr, .inr ⟨rfl, .goto t, (hIx _ _).put _ hi3 hl3 rfl (by omega), hl4, hk4⟩⟩
      | panic ch => exact hp.elim
      | outgrown => exact hp.elim
    · rintro e W2 ⟨⟨v, rfl⟩, (⟨hi, hl, hk⟩ | ⟨k, hkN, c, hi, hl, hk⟩)⟩
      · exact ⟨none, _, by have := run_endLoop (P := P) hl (by rw [hrec]; simp); rw [hrec] at this; exact this, hdone _ _ (Nat.le_refl _) ((hI N).put _ hi hl rfl (by omega)) ((World.putObj_heap_other (by omega)).trans hk)⟩
      · exact ⟨some c, _, by have := run_endLoop (P := P) hl (by rw [hrec]; simp); rw [hrec] at this; exact this, hstop _ c k _ (Nat.le_refl _) hkN ((hIx c k).put _ hi hl rfl (by omega)) ((World.putObj_heap_other (by omega)).trans hk)⟩
end Go.Proofs.Kv
namespace Go.Proofs.YtebbmhlkdfmmcaaGreat
open Go.RowKit Go.Proofs.Kv
attribute [local go_sem] Oper.semAt_some

/-- a number of a list, in a word that the walk leaves alone -/
def nth (l : List Int) (i : Nat) : Int := l.getD i 0
theorem backward_calls (a : Option Addr) (n c : Nat) (w : World) :
    Calls Tryz.prog 116 #[.slice a n c] w fun e w' => e = .returned (.func (.func 121) #[] #[.pointer (some ⟨w.heap.size, 0, none⟩)]) ∧ w' = w.alloc (.cells #[.slice a n c] 23) := by
  go_enter Tryz.func116, Tryz.ntmps116
  go_wp2
  go_ret
  exact ⟨rfl, rfl⟩
set_option maxRecDepth 100000 in
set_option maxHeartbeats 1000000 in
theorem backward_iter (p : Addr) (a : Option Addr) (n c : Nat) (l : List Int) (m : Nat) (hn : n ≤ 9223372036854775807) :
    SeqArgs Fence.wide m Tryz.prog 121 #[.pointer (some p)] (fun k => #[.int .i64 ((n : Int) - 1 - k), .int .i64 (nth l (n - 1 - k))]) n
      (fun W => W.cell? p = some (.slice a n c) ∧ IntsAt W a n c l) := by
  intro y J Jx W hG hY h0
  have HY := hid_ hY; clear hY
  have HG := hid_ hG; clear hG
  have hc0 := (HG.out _ _ h0).1
  have H0 := hid_ h0; clear h0
  have hw0 : IntKind.i64.wrap ((n : Int) - 1) = (n : Int) - 1 := IntWalk.i64_in _ (by omega)
  refine callsIn_of_wp Tryz.func121 rfl trivial ?_ rfl
  simp only [Tryz.ntmps121, List.size_toArray, List.length_cons, List.length_nil, Nat.reduceAdd, Nat.reduceSub, Array.replicate_succ, Array.replicate_zero, List.push_toArray, List.append_toArray, List.nil_append, List.cons_append]
  gi_wp2
  clear hc0
  gi_loopg [3] n (fun g i wr => ∃ k : Nat, k ≤ n ∧ i = .int .i64 ((n : Int) - 1 - k) ∧ g = n - k ∧ J k wr)
  case atStart => exact ⟨0, Nat.zero_le _, by simp, by omega, H0.out⟩
  case round =>
    obtain ⟨k, hk, rfl, hgk, hJ⟩ := hrel
    have Hgk := hid_ hgk; clear hgk
    by_cases hlt : k < n
    · obtain ⟨fn, tmps, assign, body, hy, hround⟩ := HY.out k wr hJ hlt
      obtain ⟨hp, hI⟩ := HG.out _ _ hJ
      have hi0 : (0 : Int) ≤ (n : Int) - 1 - k := by omega
      have hi1 : (n : Int) - 1 - k < (n : Int) := by omega
      have hi2 : ((n : Int) - 1 - k).toNat = n - 1 - k := by omega
      obtain ⟨b, off, rfl, hb, hcell⟩ := hI.cells (n - 1 - k) (by omega)
      have hw1 : IntKind.i64.wrap ((n : Int) - 1 - k - 1) = (n : Int) - 1 - k - 1 := IntWalk.i64_in _ (by omega)
      have hw2 : Hid ((n : Int) - 1 - k - 1 = (n : Int) - 1 - (k + 1 : Nat)) := hid_ (by omega)
      have HI := hid_ hI; clear hI
      have HJ := hid_ hJ; clear hJ
      have Hround := hid_ hround; clear hround
      rw [show l.getD (n - 1 - k) 0 = nth l (n - 1 - k) from rfl] at hcell
      generalize nth l (n - 1 - k) = z at hcell hy
      gi_wp2
      refine ⟨fun h => absurd h (by simp [Fence.wide]), Hround.out.mono ?_⟩
      rintro e W3 (⟨rfl, hJ3⟩ | ⟨rfl, hJx3⟩)
      · have HJ3 := hid_ hJ3; clear hJ3
        clear hp hcell hy
        gi_wp2
        gi_roundg (n - (k + 1))
        case rel => exact ⟨k + 1, hlt, by rw [← hw2.out], rfl, HJ3.out⟩
        case measure => have := Hgk.out; omega
      · have HJx := hid_ hJx3; clear hJx3
        clear hp hcell hy
        gi_wp2
        exact bodyPost_ret (results_none rfl _ _ _) rfl ⟨⟨_, rfl⟩, .inr ⟨k + 1, by omega, HJx.out⟩⟩
    · obtain rfl : k = n := by omega
      have HJ := hid_ hJ; clear hJ
      gi_wp2
      go_end0
      exact ⟨⟨_, rfl⟩, .inl HJ.out⟩
end Go.Proofs.YtebbmhlkdfmmcaaGreat
