import Derived.WalkKit
import Derived.Maps.OwnSet
import Derived.DeepKeys4
namespace Go.Proofs.Kv
open Go.RowKit

/-! ### what came, each once, in the order of its first coming -/
section
variable {α : Type} [DecidableEq α]
def insU (L : List α) (x : α) : List α := if x ∈ L then L else L ++ [x]
def uq (l : List α) : List α := l.foldl insU []
theorem uq_snoc (l : List α) (x : α) : uq (l ++ [x]) = insU (uq l) x := by simp [uq]
theorem mem_insU {L : List α} {x y : α} : y ∈ insU L x ↔ y ∈ L ∨ y = x := by
  unfold insU
  split
  · rename_i h
    exact ⟨.inl, fun h' => by rcases h' with h' | rfl <;> assumption⟩
  · simp
theorem mem_foldl_insU (l : List α) : ∀ {L : List α} {y : α}, y ∈ l.foldl insU L ↔ y ∈ L ∨ y ∈ l := by
  induction l with
  | nil => intro L y; simp
  | cons a l ih => intro L y; rw [List.foldl_cons, ih, mem_insU, List.mem_cons, or_assoc]
theorem mem_uq {l : List α} {y : α} : y ∈ uq l ↔ y ∈ l := by rw [uq, mem_foldl_insU]; simp
theorem insU_nodup {L : List α} {x : α} (h : L.Nodup) : (insU L x).Nodup := by
  unfold insU
  split
  · exact h
  · rename_i hx
    exact List.nodup_append.2 ⟨h, by simp, fun a ha b hb => by rw [List.mem_singleton] at hb; subst hb; exact fun e => hx (e ▸ ha)⟩
theorem foldl_insU_nodup (l : List α) : ∀ {L : List α}, L.Nodup → (l.foldl insU L).Nodup := by
  induction l with
  | nil => intro L h; exact h
  | cons a l ih => intro L h; exact ih (insU_nodup h)
theorem uq_nodup (l : List α) : (uq l).Nodup := foldl_insU_nodup l List.nodup_nil
theorem insU_hit {L : List α} {x : α} (h : x ∈ L) : insU L x = L := if_pos h
theorem insU_miss {L : List α} {x : α} (h : x ∉ L) : insU L x = L ++ [x] := if_neg h
theorem insU_le (L : List α) (x : α) : (insU L x).length ≤ L.length + 1 := by unfold insU; split <;> simp
theorem uq_le (l : List α) : (uq l).length ≤ l.length := by
  have : ∀ L : List α, (l.foldl insU L).length ≤ L.length + l.length := by
    induction l with
    | nil => intro L; simp
    | cons a l ih => intro L; have := ih (insU L a); have := insU_le L a; simp only [List.foldl_cons, List.length_cons]; omega
  simpa [uq] using this []
end

/-! ### maps as sets of keys -/
/-- block b is a map whose keys are those of L, in the order in which they came -/
def KeysAt {α : Type} (f : α → Value) (w : World) (b : Nat) (L : List α) : Prop := ∃ es clock, w.heap[b]? = some (.map es clock) ∧ es.toList.map (fun x => x.key) = L.map f
theorem KeysAt.new {α : Type} (f : α → Value) (w : World) : KeysAt f (w.alloc (.map #[] 0)) w.heap.size [] := ⟨#[], 0, by show (w.heap.push _)[w.heap.size]? = _; simp, rfl⟩
theorem KeysAt.block {α : Type} {f : α → Value} {w w' : World} {b : Nat} {L : List α} (h : KeysAt f w b L) (hb : w'.heap[b]? = w.heap[b]?) : KeysAt f w' b L := by
  obtain ⟨es, clock, h1, h2⟩ := h
  exact ⟨es, clock, by rw [hb]; exact h1, h2⟩
theorem KeysAt.lt {α : Type} {f : α → Value} {w : World} {b : Nat} {L : List α} (h : KeysAt f w b L) : b < w.heap.size := by
  obtain ⟨es, clock, h1, h2⟩ := h
  exact (Array.getElem?_eq_some_iff.1 h1).1
section
variable {α : Type} [DecidableEq α] {P : Program} {k t e : TypeId} {f : α → Value}
theorem KeysAt.store {w : World} {b : Nat} {L : List α} (h : KeysAt f w b L) (K : Maps.Keyed P k) (ht : P.underlying t = some (.map k e)) {x : α} (hf : ∀ y, y ∈ L ∨ y = x → ∃ l, keyOf P k (f y) = some l) (hinj : ∀ y ∈ L, f y = f x → y = x) (val : Value) :
    ∃ w', (Instr.mapUpdate t (.map (some b)) (f x) val).run P w = .ok () w' ∧ KeysAt f w' b (insU L x) ∧ w.grownBy w' (some b) := by
  obtain ⟨es, clock, hb, hk⟩ := h
  obtain ⟨kl, hkey⟩ := hf x (.inr rfl)
  have hall : ∀ z ∈ es.toList, ∃ l, keyOf P k z.key = some l := fun z hz => by
    have : z.key ∈ L.map f := by rw [← hk]; exact List.mem_map.2 ⟨z, hz, rfl⟩
    obtain ⟨y, hy, e⟩ := List.mem_map.1 this
    obtain ⟨l, hl⟩ := hf y (.inl hy)
    exact ⟨l, by rw [← e]; exact hl⟩
  have hgrow : ∀ o, w.grownBy (Go.ChangeMaps.setBlock w b o) (some b) := fun o => ⟨rfl, rfl, rfl, by simp [Go.ChangeMaps.setBlock], fun i _ hi => Go.ChangeMaps.heap_setBlock_other hb _ (fun e => hi (by rw [e]))⟩
  rcases K.find w hkey es.toList hall with ⟨h1, h2⟩ | ⟨j, e0, h1, h2, h3⟩
  · refine ⟨_, ?_, ⟨es.push ⟨f x, val, clock⟩, clock + 1, Go.ChangeMaps.heap_setBlock_same hb _, ?_⟩, hgrow _⟩
    · simp [Instr.mapUpdate, run_underlying ht, MapKept.run_getObj_map hb, K.check w false hkey, h1, MapKept.run_setObj_map _ hb, Result.andThen, Go.ChangeMaps.setBlock]
    · have hx : x ∉ L := fun hx => by
        have : f x ∈ es.toList.map (fun x => x.key) := by rw [hk]; exact List.mem_map.2 ⟨x, hx, rfl⟩
        obtain ⟨z, hz, e⟩ := List.mem_map.1 this
        exact h2 z hz e
      rw [insU_miss hx]
      simp [hk]
  · have hj : es[j]? = some e0 := by simpa using h2
    refine ⟨_, ?_, ⟨es.modify j (fun e' => { e' with key := f x, val := val }), clock, Go.ChangeMaps.heap_setBlock_same hb _, ?_⟩, hgrow _⟩
    · simp [Instr.mapUpdate, run_underlying ht, MapKept.run_getObj_map hb, K.check w false hkey, h1, hj, h3, K.stays w hkey, MapKept.run_setObj_map _ hb, Result.andThen, Go.ChangeMaps.setBlock]
    · have hx : x ∈ L := by
        have : f x ∈ L.map f := by rw [← hk]; exact List.mem_map.2 ⟨e0, List.mem_of_getElem? h2, h3⟩
        obtain ⟨y, hy, e⟩ := List.mem_map.1 this
        rw [← hinj y hy e]; exact hy
      rw [insU_hit hx, ← hk, Array.toList_modify]
      refine List.ext_getElem? fun i => ?_
      simp only [List.getElem?_map, List.getElem?_modify]
      by_cases hij : j = i
      · subst hij
        simp [hj, h3]
      · simp [hij]
theorem wpList_keys_store {w : World} {ops : Array Oper} {rest : List Oper} {o : Oper} {a : Act} {Q : Exit → Act → World → Prop} (hg : o.guard = none) (m x v : Operand) (hop : o.op = Op.mapUpdate t m x v)
    (K : Maps.Keyed P k) (ht : P.underlying t = some (.map k e)) (b : Nat) (L : List α) (hm : a.eval m = .map (some b)) (h : KeysAt f w b L) (y : α) (hx : a.eval x = f y) (hf : ∀ z, z ∈ L ∨ z = y → ∃ l, keyOf P k (f z) = some l) (hinj : ∀ z ∈ L, f z = f y → z = y)
    (hK : ∀ w', KeysAt f w' b (insU L y) → w.grownBy w' (some b) → wpList P ops Q rest (a.put o.dst undef) w') : wpList P ops Q (o :: rest) a w := by
  refine wpList_plain hg fun K' hK' => ?_
  obtain ⟨w', hrun, r1, r2⟩ := h.store K ht hf hinj (a.eval v)
  unfold Oper.wp
  simp [execOp, hop, hm, hx, hrun, Result.andThen]
  exact hK' _ _ (hK w' r1 r2)
omit [DecidableEq α] in
theorem wpList_keys_len {w : World} {ops : Array Oper} {rest : List Oper} {o : Oper} {a : Act} {Q : Exit → Act → World → Prop} (hg : o.guard = none) (m : Operand) (hop : o.op = Op.call { callee := Callee.builtin Builtin.len, args := #[m], argTypes := #[t] })
    (ht : P.underlying t = some (.map k e)) (b : Nat) (L : List α) (hm : a.eval m = .map (some b)) (h : KeysAt f w b L)
    (hK : wpList P ops Q rest (a.put o.dst (.int .i64 (L.length : Nat))) w) : wpList P ops Q (o :: rest) a w := by
  refine wpList_plain hg fun K' hK' => ?_
  obtain ⟨es, clock, hb, hk⟩ := h
  have hl : es.size = L.length := by have := congrArg List.length hk; simpa using this
  have hrun : (Builtin.len_ #[t] o.type #[.map (some b)]).run P w = .ok (.int .i64 (L.length : Nat)) w := by
    rw [← hl]
    simp [Builtin.len_, run_underlying ht, MapKept.run_getObj_map hb, goInt, Result.andThen]
  unfold Oper.wp
  simp [execOp, hop, resolve, invoke, builtin, hm, hrun, Result.andThen]
  exact hK' _ _ hK
end
end Go.Proofs.Kv
