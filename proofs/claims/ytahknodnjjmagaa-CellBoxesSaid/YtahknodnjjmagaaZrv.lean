import Derived.Test.YtahknodnjjmagaaZr
namespace Go.Proofs.Kv
open Go.RowKit Go
variable {F : Fence} {n : Nat} {P : Program}
theorem wpIn_rangeFunc_newV {g : Operand} {ps : Array Tmp} {assign body : Code} {Q : Exit → Act → World → Prop} {a : Act} {w : World}
    (hro : F.round = none) (h1 : 1 ≤ n) {gf : Nat} {lb : Array Value} (hg : a.eval g = .func (.func gf) #[] lb) (hFg : F.fn gf) (eg : ∀ args w, (callFunc gf args).run P w = .ok (.enter gf args) w)
    {Y : Nat → Nat → World → Value → Prop} {N : Nat} {G : World → Prop} (hseq : SeqNew F (n - 1) P gf lb Y N G) (hps : ps.size = 1)
    (hC : ∀ k A v, Y (w.heap.size + 2) k A v → ∀ l o o', A.heap[l]? = some o → o.isCells = false → Y (w.heap.size + 2) k (A.putObj l o') v)
    (I : Nat → World → Prop) (Ix : Code → Nat → World → Prop) (hIG : ∀ k A, I k A → G A) (hI : ∀ k, Stays (w.heap.size + 2) (I k)) (hIx : ∀ c k, Stays (w.heap.size + 2) (Ix c k)) (h0 : I 0 w) (T : TypeId) (a₁ : Value → Nat → Act)
    (hassign : ∀ (l k : Nat) (v : Value) (W : World) (K : Act → World → Prop), Y (w.heap.size + 2) k W v → K (a₁ v W.heap.size) (W.alloc (.cells v.cells T)) →
      assign.wpIn (F.inRound l) (n - 1 - 1) P (Exit.then K (fun _ _ _ => False)) { tmps := (ps.zip #[v]).foldl (fun t (p, v) => t.setIfInBounds p v) a.tmps, defers := [] } W)
    (hC2 : ∀ k A v, Y (w.heap.size + 2) k A v → Y (w.heap.size + 2) k (A.alloc (.cells v.cells T)) v)
    (hbody : ∀ (l k : Nat) (v : Value) (b : Nat) (W : World), I k W → k < N → Y (w.heap.size + 2) k W v → w.heap.size + 2 < b → W.heap.size = b + 1 → W.heap[b]? = some (.cells v.cells T (0, 0)) → body.wpIn (F.inRound l) (n - 1 - 1) P (memPost (w.heap.size + 2) I Ix (k + 1) W) (a₁ v b) W)
    (hCB : ∀ k A v, Y (w.heap.size + 2) k A v → w.heap.size + 2 < A.heap.size)
    (hdone : ∀ (D : Nat) (W : World), w.heap.size ≤ D → I N W → W.heap[D]? = some (.deferred (some [])) → Q .normal { a with defers := { target := .collected D, args := #[] } :: a.defers } W)
    (hstop : ∀ (D : Nat) (c : Code) (k : Nat) (W : World), w.heap.size ≤ D → k ≤ N → Ix c k W → W.heap[D]? = some (.deferred (some [])) → c.wpIn F n P Q { a with defers := { target := .collected D, args := #[] } :: a.defers } W) :
    (Code.rangeFunc g ps assign body).wpIn F n P Q a w := by
  refine wpIn_rangeFunc ?_
  intro fn hfn
  rw [hro]
  obtain ⟨rec, hrec⟩ : ∃ rec : LoopState → Option Code → Loop, rec = fun st pe => { state := st, pending := pe, fn, tmps := a.tmps, params := ps, assign, body, defers := w.heap.size } := ⟨_, rfl⟩
  obtain ⟨W1, hW1⟩ : ∃ W1, (w.alloc (.deferred (some []))).alloc (.loop (rec .ready none)) = W1 := ⟨_, rfl⟩
  have hL1 : W1.heap[w.heap.size + 1]? = some (.loop (rec .ready none)) := by
    rw [← hW1]; have := World.alloc_heap_new (w.alloc (.deferred (some []))) (.loop (rec .ready none)); rwa [World.size_alloc] at this
  have hK1 : W1.heap[w.heap.size]? = some (.deferred (some [])) := by
    rw [← hW1]; exact (Below.heap_alloc _ _ _ (by simp)).trans (World.alloc_heap_new w _)
  have hI1 : I 0 W1 := by rw [← hW1]; exact (hI 0).new _ ((hI 0).new _ h0)
  have hsz : W1.heap.size = w.heap.size + 2 := by rw [← hW1]; simp
  refine ⟨w.heap.size + 1, [{ target := .collected w.heap.size, args := #[] }], W1, { target := .fn (.func gf) lb, args := #[.func (.yield (w.heap.size + 1)) #[] #[]] }, W1, gf,
    #[.func (.yield (w.heap.size + 1)) #[] #[]] ++ lb, W1, ?_, ?_, ?_, ?_, fun _ => h1, ?_⟩
  · rw [← hW1, hrec]; exact run_enterLoop_outer _ _ _ _ _
  · simp only [resolve, hg]
    simp [go_sem]
  · intro f' hf'; simp [Target.leads] at hf'; subst hf'; exact hFg
  · simp [invoke, go_sem, eg]
  · refine (hseq (w.heap.size + 1)
      (fun k W => I k W ∧ W.heap[w.heap.size + 1]? = some (.loop (rec .ready none)) ∧ W.heap[w.heap.size]? = some (.deferred (some [])))
      (fun k W => ∃ c, Ix c k W ∧ W.heap[w.heap.size + 1]? = some (.loop (rec .done (some c))) ∧ W.heap[w.heap.size]? = some (.deferred (some [])))
      W1 (fun k A h => hIG k A h.1) ?_ ?_ ⟨hI1, hL1, hK1⟩).mono ?_
    · rintro k A A' ⟨hi, hl, hk⟩ hg'
      rw [hsz] at hg'
      refine ⟨hI k A A' _ hi hg' fun r e => by cases e; exact ⟨by omega, .inl rfl⟩, ?_, ?_⟩
      · rw [hg'.block _ (Array.getElem?_eq_some_iff.1 hl).1 (by simp)]; exact hl
      · rw [hg'.block _ (Array.getElem?_eq_some_iff.1 hk).1 (by simp)]; exact hk
    · rintro k W v ⟨hi, hl, hk⟩ hlen hc
      rw [hsz] at hc ⊢
      have hlt : w.heap.size + 1 < W.heap.size := (Array.getElem?_eq_some_iff.1 hl).1
      have hBs := hCB k W v hc
      have hy := run_yield (P := P) (args := #[v]) hl (by rw [hrec]; simp [hps])
      rw [hrec] at hy
      obtain ⟨V, hV⟩ : ∃ V, W.alloc (.cells v.cells T) = V := ⟨_, rfl⟩
      have hbV : Below W.heap.size W V := by rw [← hV]; exact below_alloc _ _
      have hzV : V.heap.size = W.heap.size + 1 := by rw [← hV]; simp
      have hnV : V.heap[W.heap.size]? = some (.cells v.cells T (0, 0)) := by rw [← hV]; exact World.alloc_heap_new W _
      have hcV := hC2 k W v hc
      have hiV := (hI k).new (.cells v.cells T) hi
      rw [hV] at hcV hiV
      have hlV := (hbV.block _ hlt).trans hl
      have hkV := (hbV.block _ (by omega : w.heap.size < W.heap.size)).trans hk
      have hltV : w.heap.size + 1 < V.heap.size := by omega
      refine ⟨fn, _, assign, body, hy, roundIn_of_wpIn hfn (hassign _ k v W _ hc ?_)⟩
      rw [hV]
      refine ⟨_, run_beginRound hlV (by rw [hrec]), ?_⟩
      have hl2 : (V.putObj (w.heap.size + 1) (.loop { rec .ready none with state := .busy })).heap[w.heap.size + 1]? = some (.loop { rec .ready none with state := .busy }) := World.putObj_heap_same hltV
      have hk2 : (V.putObj (w.heap.size + 1) (.loop { rec .ready none with state := .busy })).heap[w.heap.size]? = some (.deferred (some [])) := (World.putObj_heap_other (by omega)).trans hkV
      have hb2 : (V.putObj (w.heap.size + 1) (.loop { rec .ready none with state := .busy })).heap[w.heap.size + 2]? = W.heap[w.heap.size + 2]? := (World.putObj_heap_other (by omega)).trans (hbV.block _ hBs)
      have hn2 : (V.putObj (w.heap.size + 1) (.loop { rec .ready none with state := .busy })).heap[W.heap.size]? = some (.cells v.cells T (0, 0)) := (World.putObj_heap_other (by omega)).trans hnV
      refine wpIn_mono (hbody _ k v W.heap.size _ ((hI k).put _ hiV hlV rfl (by omega)) hlen (hC k _ v hcV _ _ _ hlV rfl) hBs (by simpa using hzV) hn2) ?_
      have fin : ∀ (jump : Option Code) (W3 : World), KeepsOthers (V.putObj (w.heap.size + 1) (.loop { rec .ready none with state := .busy })) W3 →
          (Instr.endRound (w.heap.size + 1) jump).run P W3 = .ok (.bool jump.isNone) (W3.putObj (w.heap.size + 1) (.loop (rec (if jump.isNone then .ready else .done) jump))) ∧
          W3.heap[w.heap.size + 1]? = some (.loop { rec .ready none with state := .busy }) ∧
          (W3.putObj (w.heap.size + 1) (.loop (rec (if jump.isNone then .ready else .done) jump))).heap[w.heap.size + 1]? = some (.loop (rec (if jump.isNone then .ready else .done) jump)) ∧
          (W3.putObj (w.heap.size + 1) (.loop (rec (if jump.isNone then .ready else .done) jump))).heap[w.heap.size]? = some (.deferred (some [])) := fun jump W3 hk3 => by
        have hl3 := hk3.same _ _ hl2 rfl
        have := run_endRound (P := P) jump hl3
        rw [hrec] at this ⊢
        exact ⟨this, by rw [hrec] at hl3; exact hl3, World.putObj_heap_same (Array.getElem?_eq_some_iff.1 hl3).1, (World.putObj_heap_other (by omega)).trans (hk3.same _ _ hk2 rfl)⟩
      rintro e a3 W3 hp
      cases e with
      | normal =>
        obtain ⟨hk3, hkp3, hi3⟩ := hp
        obtain ⟨hr, hl3, hl4, hk4⟩ := fin none W3 hk3
        refine ⟨_, _, hr, .inl ⟨rfl, ⟨(hI _).put _ hi3 hl3 rfl (by omega), hl4, hk4⟩, ?_, ?_⟩⟩
        · have := hk3.size; simp at this ⊢; omega
        · rw [World.putObj_heap_other (by omega), hkp3, hb2]
      | ret =>
        obtain ⟨hk3, hi3⟩ := hp
        obtain ⟨hr, hl3, hl4, hk4⟩ := fin (some .ret) W3 hk3
        exact ⟨_, _, hr, .inr ⟨rfl, .ret, (hIx _ _).put _ hi3 hl3 rfl (by omega), hl4, hk4⟩⟩
      | exit id =>
        obtain ⟨hk3, hi3⟩ := hp
        obtain ⟨hr, hl3, hl4, hk4⟩ := fin (some (.exit id)) W3 hk3
        exact ⟨_, _, hr, .inr ⟨rfl, .exit id, (hIx _ _).put _ hi3 hl3 rfl (by omega), hl4, hk4⟩⟩
      | goto t =>
        obtain ⟨hk3, hi3⟩ := hp
        obtain ⟨hr, hl3, hl4, hk4⟩ := fin (some (.goto t)) W3 hk3
        exact ⟨_, _, hr, .inr ⟨rfl, .goto t, (hIx _ _).put _ hi3 hl3 rfl (by omega), hl4, hk4⟩⟩
      | panic ch => exact hp.elim
      | outgrown => exact hp.elim
    · rintro e W2 ⟨⟨v, rfl⟩, (⟨hi, hl, hk⟩ | ⟨k, hkN, c, hi, hl, hk⟩)⟩
      · exact ⟨none, _, by have := run_endLoop (P := P) hl (by rw [hrec]; simp); rw [hrec] at this; exact this, hdone _ _ (Nat.le_refl _) ((hI N).put _ hi hl rfl (by omega)) ((World.putObj_heap_other (by omega)).trans hk)⟩
      · exact ⟨some c, _, by have := run_endLoop (P := P) hl (by rw [hrec]; simp); rw [hrec] at this; exact this, hstop _ c k _ (Nat.le_refl _) hkN ((hIx c k).put _ hi hl rfl (by omega)) ((World.putObj_heap_other (by omega)).trans hk)⟩
end Go.Proofs.Kv
