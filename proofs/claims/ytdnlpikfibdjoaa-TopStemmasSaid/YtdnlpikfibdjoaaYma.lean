import Derived.WalkKit
import Derived.Maps.OwnSet
import Derived.DeepKeys4
import Derived.Test.YtdnlpikfibdjoaaKa
import Derived.Carry
namespace Go.Proofs.Kv
open Go.RowKit

/-! ### what came, each once, in the order of its first coming -/
section
variable {α : Type} [DecidableEq α]
def insU (L : List α) (x : α) : List α := if x ∈ L then L else L ++ [x]
def uq (l : List α) : List α := l.foldl insU []
theorem uq_snoc (l : List α) (x : α) : uq (l ++ [x]) = insU (uq l) x := by simp [uq]
theorem mem_insU {L : List α} {x y : α} : y ∈ insU L x ↔ y ∈ L ∨ y = x := by
  unfold insU
  split
  · rename_i h
    exact ⟨.inl, fun h' => by rcases h' with h' | rfl <;> assumption⟩
  · simp
theorem mem_foldl_insU (l : List α) : ∀ {L : List α} {y : α}, y ∈ l.foldl insU L ↔ y ∈ L ∨ y ∈ l := by
  induction l with
  | nil => intro L y; simp
  | cons a l ih => intro L y; rw [List.foldl_cons, ih, mem_insU, List.mem_cons, or_assoc]
theorem mem_uq {l : List α} {y : α} : y ∈ uq l ↔ y ∈ l := by rw [uq, mem_foldl_insU]; simp
theorem insU_nodup {L : List α} {x : α} (h : L.Nodup) : (insU L x).Nodup := by
  unfold insU
  split
  · exact h
  · rename_i hx
    exact List.nodup_append.2 ⟨h, by simp, fun a ha b hb => by rw [List.mem_singleton] at hb; subst hb; exact fun e => hx (e ▸ ha)⟩
theorem foldl_insU_nodup (l : List α) : ∀ {L : List α}, L.Nodup → (l.foldl insU L).Nodup := by
  induction l with
  | nil => intro L h; exact h
  | cons a l ih => intro L h; exact ih (insU_nodup h)
theorem uq_nodup (l : List α) : (uq l).Nodup := foldl_insU_nodup l List.nodup_nil
theorem insU_hit {L : List α} {x : α} (h : x ∈ L) : insU L x = L := if_pos h
theorem insU_miss {L : List α} {x : α} (h : x ∉ L) : insU L x = L ++ [x] := if_neg h
theorem insU_le (L : List α) (x : α) : (insU L x).length ≤ L.length + 1 := by unfold insU; split <;> simp
theorem uq_le (l : List α) : (uq l).length ≤ l.length := by
  have : ∀ L : List α, (l.foldl insU L).length ≤ L.length + l.length := by
    induction l with
    | nil => intro L; simp
    | cons a l ih => intro L; have := ih (insU L a); have := insU_le L a; simp only [List.foldl_cons, List.length_cons]; omega
  simpa [uq] using this []
end

/-! ### maps as sets of keys -/
/-- block b is a map whose keys are those of L, in the order in which they came -/
def KeysAt {α : Type} (f : α → Value) (w : World) (b : Nat) (L : List α) : Prop := ∃ es clock, w.heap[b]? = some (.map es clock) ∧ es.toList.map (fun x => x.key) = L.map f
theorem KeysAt.new {α : Type} (f : α → Value) (w : World) : KeysAt f (w.alloc (.map #[] 0)) w.heap.size [] := ⟨#[], 0, by show (w.heap.push _)[w.heap.size]? = _; simp, rfl⟩
theorem KeysAt.block {α : Type} {f : α → Value} {w w' : World} {b : Nat} {L : List α} (h : KeysAt f w b L) (hb : w'.heap[b]? = w.heap[b]?) : KeysAt f w' b L := by
  obtain ⟨es, clock, h1, h2⟩ := h
  exact ⟨es, clock, by rw [hb]; exact h1, h2⟩
theorem KeysAt.lt {α : Type} {f : α → Value} {w : World} {b : Nat} {L : List α} (h : KeysAt f w b L) : b < w.heap.size := by
  obtain ⟨es, clock, h1, h2⟩ := h
  exact (Array.getElem?_eq_some_iff.1 h1).1
section
variable {α : Type} [DecidableEq α] {P : Program} {k t e : TypeId} {f : α → Value}
theorem KeysAt.store {w : World} {b : Nat} {L : List α} (h : KeysAt f w b L) (K : Maps.Keyed P k) (ht : P.underlying t = some (.map k e)) {x : α} (hf : ∀ y, y ∈ L ∨ y = x → ∃ l, keyOf P k (f y) = some l) (hinj : ∀ y ∈ L, f y = f x → y = x) (val : Value) :
    ∃ w', (Instr.mapUpdate t (.map (some b)) (f x) val).run P w = .ok () w' ∧ KeysAt f w' b (insU L x) ∧ w.grownBy w' (some b) := by
  obtain ⟨es, clock, hb, hk⟩ := h
  obtain ⟨kl, hkey⟩ := hf x (.inr rfl)
  have hall : ∀ z ∈ es.toList, ∃ l, keyOf P k z.key = some l := fun z hz => by
    have : z.key ∈ L.map f := by rw [← hk]; exact List.mem_map.2 ⟨z, hz, rfl⟩
    obtain ⟨y, hy, e⟩ := List.mem_map.1 this
    obtain ⟨l, hl⟩ := hf y (.inl hy)
    exact ⟨l, by rw [← e]; exact hl⟩
  have hgrow : ∀ o, w.grownBy (Go.ChangeMaps.setBlock w b o) (some b) := fun o => ⟨rfl, rfl, rfl, by simp [Go.ChangeMaps.setBlock], fun i _ hi => Go.ChangeMaps.heap_setBlock_other hb _ (fun e => hi (by rw [e]))⟩
  rcases K.find w hkey es.toList hall with ⟨h1, h2⟩ | ⟨j, e0, h1, h2, h3⟩
  · refine ⟨_, ?_, ⟨es.push ⟨f x, val, clock⟩, clock + 1, Go.ChangeMaps.heap_setBlock_same hb _, ?_⟩, hgrow _⟩
    · simp [Instr.mapUpdate, run_underlying ht, MapKept.run_getObj_map hb, K.check w false hkey, h1, MapKept.run_setObj_map _ hb, Result.andThen, Go.ChangeMaps.setBlock]
    · have hx : x ∉ L := fun hx => by
        have : f x ∈ es.toList.map (fun x => x.key) := by rw [hk]; exact List.mem_map.2 ⟨x, hx, rfl⟩
        obtain ⟨z, hz, e⟩ := List.mem_map.1 this
        exact h2 z hz e
      rw [insU_miss hx]
      simp [hk]
  · have hj : es[j]? = some e0 := by simpa using h2
    refine ⟨_, ?_, ⟨es.modify j (fun e' => { e' with key := f x, val := val }), clock, Go.ChangeMaps.heap_setBlock_same hb _, ?_⟩, hgrow _⟩
    · simp [Instr.mapUpdate, run_underlying ht, MapKept.run_getObj_map hb, K.check w false hkey, h1, hj, h3, K.stays w hkey, MapKept.run_setObj_map _ hb, Result.andThen, Go.ChangeMaps.setBlock]
    · have hx : x ∈ L := by
        have : f x ∈ L.map f := by rw [← hk]; exact List.mem_map.2 ⟨e0, List.mem_of_getElem? h2, h3⟩
        obtain ⟨y, hy, e⟩ := List.mem_map.1 this
        rw [← hinj y hy e]; exact hy
      rw [insU_hit hx, ← hk, Array.toList_modify]
      refine List.ext_getElem? fun i => ?_
      simp only [List.getElem?_map, List.getElem?_modify]
      by_cases hij : j = i
      · subst hij
        simp [hj, h3]
      · simp [hij]
theorem wpList_keys_store {w : World} {ops : Array Oper} {rest : List Oper} {o : Oper} {a : Act} {Q : Exit → Act → World → Prop} (hg : o.guard = none) (m x v : Operand) (hop : o.op = Op.mapUpdate t m x v)
    (K : Maps.Keyed P k) (ht : P.underlying t = some (.map k e)) (b : Nat) (L : List α) (hm : a.eval m = .map (some b)) (h : KeysAt f w b L) (y : α) (hx : a.eval x = f y) (hf : ∀ z, z ∈ L ∨ z = y → ∃ l, keyOf P k (f z) = some l) (hinj : ∀ z ∈ L, f z = f y → z = y)
    (hK : ∀ w', KeysAt f w' b (insU L y) → w.grownBy w' (some b) → wpList P ops Q rest (a.put o.dst undef) w') : wpList P ops Q (o :: rest) a w := by
  refine wpList_plain hg fun K' hK' => ?_
  obtain ⟨w', hrun, r1, r2⟩ := h.store K ht hf hinj (a.eval v)
  unfold Oper.wp
  simp [execOp, hop, hm, hx, hrun, Result.andThen]
  exact hK' _ _ (hK w' r1 r2)
omit [DecidableEq α] in
theorem wpList_keys_len {w : World} {ops : Array Oper} {rest : List Oper} {o : Oper} {a : Act} {Q : Exit → Act → World → Prop} (hg : o.guard = none) (m : Operand) (hop : o.op = Op.call { callee := Callee.builtin Builtin.len, args := #[m], argTypes := #[t] })
    (ht : P.underlying t = some (.map k e)) (b : Nat) (L : List α) (hm : a.eval m = .map (some b)) (h : KeysAt f w b L)
    (hK : wpList P ops Q rest (a.put o.dst (.int .i64 (L.length : Nat))) w) : wpList P ops Q (o :: rest) a w := by
  refine wpList_plain hg fun K' hK' => ?_
  obtain ⟨es, clock, hb, hk⟩ := h
  have hl : es.size = L.length := by have := congrArg List.length hk; simpa using this
  have hrun : (Builtin.len_ #[t] o.type #[.map (some b)]).run P w = .ok (.int .i64 (L.length : Nat)) w := by
    rw [← hl]
    simp [Builtin.len_, run_underlying ht, MapKept.run_getObj_map hb, goInt, Result.andThen]
  unfold Oper.wp
  simp [execOp, hop, resolve, invoke, builtin, hm, hrun, Result.andThen]
  exact hK' _ _ hK
end
end Go.Proofs.Kv
namespace Go.Proofs.Ytdnlpikfibdjoaa
open Go.RowKit Go.Proofs.Kv

/-! ### Validate -/
def areR (l : List Int) : Bool := l.all fun r => Within r 0 2
theorem areR_yes {l : List Int} {n : Nat} (hl : l.length = n) (h : ∀ j, j < n → Within (l.getD j 0) 0 2 = true) : areR l = true := by
  rw [areR, List.all_eq_true]
  intro x hx
  obtain ⟨k, hk, rfl⟩ := mem_getD hx
  exact h k (by omega)
theorem areR_no {l : List Int} {k : Nat} (hk : k < l.length) (h : Within (l.getD k 0) 0 2 = false) : areR l = false := by
  rw [areR, List.all_eq_false]
  exact ⟨_, getD_mem hk, by rw [h]; simp⟩
theorem areR_at {l : List Int} (h : areR l = true) {k : Nat} (hk : k < l.length) : 0 ≤ l.getD k 0 ∧ l.getD k 0 ≤ 2 := by
  have := List.all_eq_true.1 h _ (getD_mem hk)
  simpa [Within] using this
theorem areR_calls (a : Option Addr) (n c : Nat) (l : List Int) (w : World) (h : IntsAt w a n c l) :
    Calls Try.prog 88 #[.slice a n c] w fun e w' => e = .returned (.bool (areR l)) ∧ w = w' := by
  have hn : n ≤ 9223372036854775807 := Nat.le_trans h.le h.small
  go_enter Try.func88, Try.ntmps88
  go_wp2
  go_loop [7] (fun i => ∃ k : Nat, k ≤ n ∧ i = .int .i64 k ∧ ∀ j, j < k → Within (l.getD j 0) 0 2 = true) (fun i => n - (intOf i).toNat)
  case atStart => exact ⟨0, Nat.zero_le _, rfl, fun _ h => absurd h (by omega)⟩
  case round =>
    obtain ⟨k, hk, rfl, hall⟩ := hrel
    have Hall := hid_ hall; clear hall
    by_cases hlt : k < n
    · obtain ⟨b, off, rfl, hb, hcell⟩ := h.cells k hlt
      have hl : k < l.length := by rw [h.len]; exact hlt
      have hNo := @areR_no l k hl
      have hYes := fun hx => lt_snoc (p := fun j => Within (l.getD j 0) 0 2 = true) Hall.out hx
      generalize l.getD k 0 = y at hcell hNo hYes
      by_cases h0 : y < 0
      · have Hf := hid_ (hNo (by simp [Within]; omega))
        clear hNo hYes
        go_wp2
        go_ret
        exact ⟨retB Hf.out, rfl⟩
      · by_cases h2 : 2 < y
        · have Hf := hid_ (hNo (by simp [Within]; omega))
          clear hNo hYes
          go_wp2
          go_ret
          exact ⟨retB Hf.out, rfl⟩
        · have Hf := hid_ (hYes (by simp [Within]; omega))
          clear hNo hYes
          go_wp2
          go_round
          case rel => exact ⟨k + 1, by omega, by go_num, Hf.out⟩
          case measure => simp [intOf]; omega
    · have HH : Hid (areR l = true) := hid_ (areR_yes h.len fun j hj => Hall.out j (by omega))
      go_wp2
      go_ret
      exact ⟨retB HH.out, rfl⟩
def n0 (T : List (List Int)) : Nat := (T.getD 0 []).length
def rowOk (m : Nat) (r : List Int) : Bool := decide (r.length = m) && areR r
def validT (T : List (List Int)) : Int := if T.length < 1 ∨ 6 < T.length ∨ 6 < n0 T then 3 else if T.all (rowOk (n0 T)) = true then 0 else 1
theorem validT_large {T : List (List Int)} (h : T.length < 1 ∨ 6 < T.length ∨ 6 < n0 T) : validT T = 3 := if_pos h
theorem validT_eq {T : List (List Int)} (h : ¬ (T.length < 1 ∨ 6 < T.length ∨ 6 < n0 T)) : validT T = if T.all (rowOk (n0 T)) = true then 0 else 1 := if_neg h
theorem validT_no {T : List (List Int)} (h : ¬ (T.length < 1 ∨ 6 < T.length ∨ 6 < n0 T)) {k : Nat} (hk : k < T.length) (hb : rowOk (n0 T) (T.getD k []) = false) : validT T = 1 := by
  rw [validT_eq h, if_neg]
  rw [Bool.not_eq_true, List.all_eq_false]
  exact ⟨T.getD k [], by simp [List.getD, List.getElem?_eq_getElem hk], by rw [hb]; simp⟩
theorem validT_yes {T : List (List Int)} (h : ¬ (T.length < 1 ∨ 6 < T.length ∨ 6 < n0 T)) {n : Nat} (hn : T.length = n) (hb : ∀ k, k < n → rowOk (n0 T) (T.getD k []) = true) : validT T = 0 := by
  rw [validT_eq h, if_pos]
  rw [List.all_eq_true]
  intro r hr
  obtain ⟨i, hi, rfl⟩ := List.mem_iff_getElem.1 hr
  have := hb i (by omega)
  simpa [List.getD, List.getElem?_eq_getElem hi] using this
structure GoodT (T : List (List Int)) : Prop where
  ge : 1 ≤ T.length
  le : T.length ≤ 6
  w6 : n0 T ≤ 6
  len : ∀ i, i < T.length → (T.getD i []).length = n0 T
  ok : ∀ i, i < T.length → ∀ p, p < n0 T → 0 ≤ (T.getD i []).getD p 0 ∧ (T.getD i []).getD p 0 ≤ 2
theorem validT_ok {T : List (List Int)} (h : validT T = 0) : GoodT T := by
  by_cases h1 : T.length < 1 ∨ 6 < T.length ∨ 6 < n0 T
  · rw [validT_large h1] at h; cases h
  · rw [validT_eq h1] at h
    split at h
    · rename_i hall
      rw [List.all_eq_true] at hall
      have key : ∀ i, i < T.length → (T.getD i []).length = n0 T ∧ areR (T.getD i []) = true := fun i hi => by
        have := hall (T.getD i []) (by simp [List.getD, List.getElem?_eq_getElem hi])
        simpa [rowOk] using this
      exact ⟨by omega, by omega, by omega, fun i hi => (key i hi).1, fun i hi p hp => areR_at (key i hi).2 (by rw [(key i hi).1]; exact hp)⟩
    · cases h
set_option maxRecDepth 100000 in
set_option maxHeartbeats 1000000 in
theorem stValidate_calls (a : Option Addr) (n c : Nat) (T : List (List Int)) (w : World) (h : ListsAt w a n c T) :
    Calls Try.prog 41 #[.slice a n c] w fun e w' => e = .returned (.int .i64 (validT T)) ∧ w = w' := by
  have hn : n ≤ 9223372036854775807 := Nat.le_trans h.le h.small
  have Hlen := hid_ h.len
  have HL := hid_ (fun hx => @validT_large T hx)
  have HNo := hid_ (fun hx k => @validT_no T hx k)
  have HYes := hid_ (fun hx => @validT_yes T hx n h.len)
  generalize hV : validT T = V at *
  clear hV
  by_cases h1 : n < 1
  · have Hf := hid_ (HL.out (.inl (by rw [Hlen.out]; exact h1)))
    have h1' : (n : Int) < 1 := by omega
    clear h1
    go_enter Try.func41, Try.ntmps41
    go_wp2
    go_ret
    exact ⟨retI Hf.out, rfl⟩
  · by_cases h6 : 6 < n
    · have Hf := hid_ (HL.out (.inr (.inl (by rw [Hlen.out]; exact h6))))
      go_enter Try.func41, Try.ntmps41
      go_wp2
      go_ret
      exact ⟨retI Hf.out, rfl⟩
    · obtain ⟨b, off, a0, m0, c0, rfl, hb, hc0, hr0⟩ := h.cells 0 (by omega)
      have Hm : Hid (n0 T = m0) := hid_ hr0.len
      have hz := hr0.le; have hz2 := hr0.small
      rw [Nat.add_zero] at hc0
      clear hr0
      by_cases hm : 6 < m0
      · have Hf := hid_ (HL.out (.inr (.inr (by rw [Hm.out]; exact hm))))
        go_enter Try.func41, Try.ntmps41
        go_wp2
        go_ret
        exact ⟨retI Hf.out, rfl⟩
      · have hno := HNo.out (by rw [Hm.out, Hlen.out]; omega)
        have hyes := HYes.out (by rw [Hm.out, Hlen.out]; omega)
        rw [Hm.out] at hno hyes
        have hnoH := hid_ hno; have hyesH := hid_ hyes
        clear hno hyes HL HNo HYes
        go_enter Try.func41, Try.ntmps41
        go_wp2
        go_loop [22] (fun i => ∃ k : Nat, k ≤ n ∧ i = .int .i64 k ∧ ∀ j, j < k → rowOk m0 (T.getD j []) = true) (fun i => n - (intOf i).toNat)
        case atStart => exact ⟨0, Nat.zero_le _, rfl, fun _ h => absurd h (by omega)⟩
        case round =>
          obtain ⟨k, hk, rfl, hall⟩ := hrel
          have Hall := hid_ hall; clear hall
          by_cases hlt : k < n
          · obtain ⟨b', off', a1, n1, c1, e, -, hcell, hrow⟩ := h.cells k hlt
            injection e with e; injection e with e1 e2; subst e1; subst e2
            have hl : k < T.length := by rw [Hlen.out]; exact hlt
            have hNo := hnoH.out _ hl
            have hYes := fun hx => lt_snoc (p := fun j => rowOk m0 (T.getD j []) = true) Hall.out hx
            have HA := hid_ (areR_calls a1 n1 c1 _ w hrow)
            have hlr := hrow.len
            clear hrow
            generalize T.getD k [] = R at *
            rw [rowOk, hlr] at hNo hYes
            clear hlr
            by_cases he : n1 = m0
            · have hq : ((n1 : Int) != (m0 : Int)) = false := by subst he; simp
              rw [decide_eq_true he, Bool.true_and] at hNo hYes
              clear he
              generalize areR R = z at *
              cases z with
              | false =>
                have Hf := hid_ (hNo rfl)
                clear hNo hYes
                go_wp2_with (go_at_call 88; refine (HA.out).mono ?_; rintro e w' ⟨rfl, rfl⟩)
                go_ret
                exact ⟨retI Hf.out, rfl⟩
              | true =>
                have Hf := hid_ (hYes rfl)
                clear hNo hYes
                go_wp2_with (go_at_call 88; refine (HA.out).mono ?_; rintro e w' ⟨rfl, rfl⟩)
                go_round
                case rel => exact ⟨k + 1, by omega, by go_num, Hf.out⟩
                case measure => simp [intOf]; omega
            · have hq : ((n1 : Int) != (m0 : Int)) = true := by simp; omega
              rw [decide_eq_false he, Bool.false_and] at hNo
              have Hf := hid_ (hNo rfl)
              clear hNo hYes he
              go_wp2
              go_ret
              exact ⟨retI Hf.out, rfl⟩
          · obtain rfl : n = k := by omega
            have Hf := hid_ (hyesH.out Hall.out)
            go_wp2
            go_ret
            exact ⟨retI Hf.out, rfl⟩
end Go.Proofs.Ytdnlpikfibdjoaa
namespace Go.Proofs.Ytdnlpikfibdjoaa
open Go.RowKit Go.Proofs.Kv

theorem within7_calls (n lo hi : Int) (w : World) :
    Calls Try.prog 67 #[.int .i64 n, .int .i64 lo, .int .i64 hi] w fun e w' => e = .returned (.bool (Within n lo hi)) ∧ w = w' := by
  by_cases h1 : lo ≤ n
  · by_cases h2 : n ≤ hi
    · have H : Hid (Within n lo hi = true) := by simp [Hid, Within, h1, h2]
      go_enter Try.func67, Try.ntmps67
      go_wp2
      go_ret
      exact ⟨retB H.out, rfl⟩
    · have H : Hid (Within n lo hi = false) := by simp [Hid, Within, h2]
      go_enter Try.func67, Try.ntmps67
      go_wp2
      go_ret
      exact ⟨retB H.out, rfl⟩
  · have H : Hid (Within n lo hi = false) := by simp [Hid, Within, h1]
    go_enter Try.func67, Try.ntmps67
    go_wp2
    go_ret
    exact ⟨retB H.out, rfl⟩
theorem rowOk_no {m : Nat} {r : List Int} {k : Nat} (hk : k < r.length) (h : Within (r.getD k 0) 0 2 = false) : rowOk m r = false := by rw [rowOk, areR_no hk h, Bool.and_false]
theorem rowOk_yes {m : Nat} {r : List Int} (hl : r.length = m) (h : ∀ j, j < m → Within (r.getD j 0) 0 2 = true) : rowOk m r = true := by rw [rowOk, areR_yes hl h, decide_eq_true hl]; rfl
set_option maxRecDepth 100000 in
set_option maxHeartbeats 2000000 in
theorem r7Validate_calls (a : Option Addr) (n c : Nat) (T : List (List Int)) (w : World) (h : ListsAt w a n c T) :
    Calls Try.prog 115 #[.slice a n c] w fun e w' => e = .returned (.int .i64 (validT T)) ∧ ∃ q, w' = w.drewN q := by
  have hn : n ≤ 9223372036854775807 := Nat.le_trans h.le h.small
  have Hlen := hid_ h.len
  have HL := hid_ (fun hx => @validT_large T hx)
  have HNo := hid_ (fun hx k => @validT_no T hx k)
  have HYes := hid_ (fun hx => @validT_yes T hx n h.len)
  generalize hV : validT T = V at *
  clear hV
  by_cases h1 : n < 1
  · have Hf := hid_ (HL.out (.inl (by rw [Hlen.out]; exact h1)))
    have hw1 : Hid (Within (n : Int) 1 6 = false) := hid_ (by simp [Within]; omega)
    clear h1
    generalize hnn : (n : Int) = z at *
    go_enter Try.func115, Try.ntmps115
    go_wp2_with (go_at_call 67; refine (within7_calls _ _ _ _).mono ?_; rintro e w' ⟨rfl, rfl⟩; rw [hw1.out])
    go_ret
    exact ⟨retI Hf.out, 0, rfl⟩
  · by_cases h6 : 6 < n
    · have Hf := hid_ (HL.out (.inr (.inl (by rw [Hlen.out]; exact h6))))
      have hw1 : Hid (Within (n : Int) 1 6 = false) := hid_ (by simp [Within]; omega)
      go_enter Try.func115, Try.ntmps115
      go_wp2_with (go_at_call 67; refine (within7_calls _ _ _ _).mono ?_; rintro e w' ⟨rfl, rfl⟩; rw [hw1.out])
      go_ret
      exact ⟨retI Hf.out, 0, rfl⟩
    · have hw1 : Hid (Within (n : Int) 1 6 = true) := hid_ (by simp [Within]; omega)
      obtain ⟨b, off, a0, m0, c0, rfl, hb, hc0, hr0⟩ := h.cells 0 (by omega)
      have Hm : Hid (n0 T = m0) := hid_ hr0.len
      have hz := hr0.le; have hz2 := hr0.small
      rw [Nat.add_zero] at hc0
      clear hr0
      by_cases hm : 6 < m0
      · have Hf := hid_ (HL.out (.inr (.inr (by rw [Hm.out]; exact hm))))
        go_enter Try.func115, Try.ntmps115
        go_wp2_with (go_at_call 67; refine (within7_calls _ _ _ _).mono ?_; rintro e w' ⟨rfl, rfl⟩; rw [hw1.out])
        go_ret
        exact ⟨retI Hf.out, 0, rfl⟩
      · have hno := HNo.out (by rw [Hm.out, Hlen.out]; omega)
        have hyes := HYes.out (by rw [Hm.out, Hlen.out]; omega)
        rw [Hm.out] at hno hyes
        have hnoH := hid_ hno; have hyesH := hid_ hyes
        have Hc0 := hid_ hc0
        clear hno hyes HL HNo HYes
        go_enter Try.func115, Try.ntmps115
        go_wp2_with (go_at_call 67; refine (within7_calls _ _ _ _).mono ?_; rintro e w' ⟨rfl, rfl⟩; rw [hw1.out])
        clear hc0
        go_loopw [3] (fun i wr => ∃ k q : Nat, k ≤ n ∧ i = .int .i64 k ∧ wr = w.drewN q ∧ ∀ j, j < k → rowOk m0 (T.getD j []) = true) (fun i _ => n - (intOf i).toNat)
        case atStart => exact ⟨0, 0, Nat.zero_le _, rfl, rfl, fun _ h => absurd h (by omega)⟩
        case round =>
          obtain ⟨k, q, hk, rfl, hq, hall⟩ := hrel
          have hI : ListsAt wr (some ⟨b, off, none⟩) n c T := by rw [hq]; exact h.drewN q
          have hc0 : wr.cell? ⟨b, off, none⟩ = some (.slice a0 m0 c0) := by rw [hq]; exact Hc0.out
          have Hq := hid_ hq
          have Hall := hid_ hall; clear hall hq
          by_cases hlt : k < n
          · obtain ⟨b', off', a1, n1, c1, e, -, hcell, hrow⟩ := hI.cells k hlt
            injection e with e; injection e with e1 e2; subst e1; subst e2
            have hl : k < T.length := by rw [Hlen.out]; exact hlt
            have HNoK := hid_ (hnoH.out _ hl)
            have HYesK := hid_ (fun hx => lt_snoc (p := fun j => rowOk m0 (T.getD j []) = true) Hall.out hx)
            have hrl := Nat.le_trans hrow.le hrow.small
            have Hrow := hid_ hrow
            clear hrow
            generalize T.getD k [] = R at *
            by_cases he : n1 = m0
            · have hqq : ((n1 : Int) != (m0 : Int)) = false := by subst he; simp
              have He := hid_ he; clear he
              go_wp2_with fail
              go_quiet (fail)
              clear hqq
              go_wp2_with fail
              obtain ⟨wo, rfl⟩ : ∃ wo, wo = wr := ⟨_, rfl⟩
              go_loop [4] (fun j => ∃ i : Nat, i ≤ n1 ∧ j = .int .i64 i ∧ ∀ t, t < i → Within (R.getD t 0) 0 2 = true) (fun j => n1 - (intOf j).toNat)
              case atStart => exact ⟨0, Nat.zero_le _, rfl, fun _ h => absurd h (by omega)⟩
              case round =>
                obtain ⟨i, hi, rfl, hin⟩ := hrel
                have Hin := hid_ hin; clear hin
                by_cases hlt2 : i < n1
                · obtain ⟨b2, off2, rfl, hb2, hcell2⟩ := Hrow.out.cells i hlt2
                  have hRl : i < R.length := by rw [Hrow.out.len]; exact hlt2
                  have HN2 := hid_ (fun hx => HNoK.out (rowOk_no hRl hx))
                  have HY2 := hid_ (fun hx => lt_snoc (p := fun j => Within (R.getD j 0) 0 2 = true) Hin.out hx)
                  clear hRl
                  generalize R.getD i 0 = y at *
                  have HW := hid_ (within7_calls y 0 2 (wo.drewN nq))
                  cases hw2 : Within y 0 2 with
                  | false =>
                    rw [hw2] at HW
                    have Hf := hid_ (HN2.out hw2)
                    clear hw2
                    go_wp2_with (go_at_call 67; refine (HW.out).mono ?_; rintro e w' ⟨rfl, rfl⟩)
                    go_ret
                    exact ⟨retI Hf.out, _, by rw [Hq.out, drewN2]⟩
                  | true =>
                    rw [hw2] at HW
                    have Hf := hid_ (HY2.out hw2)
                    clear hw2
                    go_wp2_with (go_at_call 67; refine (HW.out).mono ?_; rintro e w' ⟨rfl, rfl⟩)
                    go_round
                    case rel => exact ⟨i + 1, by omega, by go_num, Hf.out⟩
                    case measure => simp [intOf]; omega
                · have Hf := hid_ (HYesK.out (rowOk_yes (Hrow.out.len.trans He.out) fun j hj => Hin.out j (by have := He.out; omega)))
                  go_wp2
                  go_roundw
                  case rel => exact ⟨k + 1, _, by omega, by go_num, by rw [Hq.out, drewN2], Hf.out⟩
                  case measure => simp [intOf]; omega
            · have hqq : ((n1 : Int) != (m0 : Int)) = true := by simp; omega
              have Hf := hid_ (HNoK.out (by rw [rowOk, Hrow.out.len, decide_eq_false he, Bool.false_and]))
              clear he
              go_wp2_with fail
              go_quiet (fail)
              go_wp2
              go_ret
              exact ⟨retI Hf.out, _, by rw [Hq.out, drewN2]⟩
          · obtain rfl : n = k := by omega
            have Hf := hid_ (hyesH.out Hall.out)
            go_wp2
            go_ret
            exact ⟨retI Hf.out, _, Hq.out⟩
end Go.Proofs.Ytdnlpikfibdjoaa
namespace Go.Proofs.Ytdnlpikfibdjoaa
open Go.RowKit Go.Proofs.Kv

/-! ### places and copies -/
def isNum (m : Nat) (x : Int) : Bool := decide (0 ≤ x) && decide (x < m)
def numE (m : Nat) (l : List Int) : Int := if l.all (isNum m) = true then 0 else 4
def placesE (T : List (List Int)) (l : List Int) : Int := if validT T = 0 then numE (n0 T) l else validT T
def copiesE (T : List (List Int)) (l : List Int) : Int := if validT T = 0 then numE T.length l else validT T
theorem numE_yes {m : Nat} {l : List Int} {n : Nat} (hl : l.length = n) (h : ∀ j, j < n → isNum m (l.getD j 0) = true) : numE m l = 0 := by
  rw [numE, if_pos]
  rw [List.all_eq_true]
  intro x hx
  obtain ⟨k, hk, rfl⟩ := mem_getD hx
  exact h k (by omega)
theorem numE_no {m : Nat} {l : List Int} {k : Nat} (hk : k < l.length) (h : isNum m (l.getD k 0) = false) : numE m l = 4 := by
  rw [numE, if_neg]
  rw [Bool.not_eq_true, List.all_eq_false]
  exact ⟨_, getD_mem hk, by rw [h]; simp⟩
theorem numE_one (m : Nat) (x : Int) : numE m [x] = if isNum m x = true then 0 else 4 := by simp [numE]
theorem numE_two (m : Nat) (x y : Int) : numE m [x, y] = if isNum m x = true ∧ isNum m y = true then 0 else 4 := by simp [numE]
theorem isNum_iff {m : Nat} {x : Int} : isNum m x = true ↔ 0 ≤ x ∧ x < m := by simp [isNum]
theorem placesE_one {T : List (List Int)} {p : Int} (h : placesE T [p] = 0) : GoodT T ∧ 0 ≤ p ∧ p < n0 T := by
  rw [placesE] at h
  split at h
  · rename_i hv
    rw [numE_one] at h
    split at h
    · rename_i hp; exact ⟨validT_ok hv, isNum_iff.1 hp⟩
    · cases h
  · rename_i hv; exact absurd h hv
theorem placesE_two {T : List (List Int)} {p q : Int} (h : placesE T [p, q] = 0) : GoodT T ∧ (0 ≤ p ∧ p < n0 T) ∧ 0 ≤ q ∧ q < n0 T := by
  rw [placesE] at h
  split at h
  · rename_i hv
    rw [numE_two] at h
    split at h
    · rename_i hp; exact ⟨validT_ok hv, isNum_iff.1 hp.1, isNum_iff.1 hp.2⟩
    · cases h
  · rename_i hv; exact absurd h hv
theorem copiesE_one {T : List (List Int)} {p : Int} (h : copiesE T [p] = 0) : GoodT T ∧ 0 ≤ p ∧ p < T.length := by
  rw [copiesE] at h
  split at h
  · rename_i hv
    rw [numE_one] at h
    split at h
    · rename_i hp; exact ⟨validT_ok hv, isNum_iff.1 hp⟩
    · cases h
  · rename_i hv; exact absurd h hv
theorem copiesE_two {T : List (List Int)} {p q : Int} (h : copiesE T [p, q] = 0) : GoodT T ∧ (0 ≤ p ∧ p < T.length) ∧ 0 ≤ q ∧ q < T.length := by
  rw [copiesE] at h
  split at h
  · rename_i hv
    rw [numE_two] at h
    split at h
    · rename_i hp; exact ⟨validT_ok hv, isNum_iff.1 hp.1, isNum_iff.1 hp.2⟩
    · cases h
  · rename_i hv; exact absurd h hv
set_option maxRecDepth 100000 in
theorem num_calls (m : Nat) (a : Option Addr) (n c : Nat) (l : List Int) (w : World) (h : IntsAt w a n c l) :
    Calls Try.prog 126 #[.int .i64 (m : Int), .slice a n c] w fun e w' => e = .returned (.int .i64 (numE m l)) ∧ w = w' := by
  have hn : n ≤ 9223372036854775807 := Nat.le_trans h.le h.small
  go_enter Try.func126, Try.ntmps126
  go_wp2
  go_loop [9] (fun i => ∃ k : Nat, k ≤ n ∧ i = .int .i64 k ∧ ∀ j, j < k → isNum m (l.getD j 0) = true) (fun i => n - (intOf i).toNat)
  case atStart => exact ⟨0, Nat.zero_le _, rfl, fun _ h => absurd h (by omega)⟩
  case round =>
    obtain ⟨k, hk, rfl, hall⟩ := hrel
    have Hall := hid_ hall; clear hall
    by_cases hlt : k < n
    · obtain ⟨b, off, rfl, hb, hcell⟩ := h.cells k hlt
      have hl : k < l.length := by rw [h.len]; exact hlt
      have hNo := @numE_no m l k hl
      have hYes := fun hx => lt_snoc (p := fun j => isNum m (l.getD j 0) = true) Hall.out hx
      generalize l.getD k 0 = y at hcell hNo hYes
      by_cases h0 : y < 0
      · have Hf := hid_ (hNo (by simp [isNum]; omega))
        clear hNo hYes
        go_wp2
        go_ret
        exact ⟨retI Hf.out, rfl⟩
      · by_cases h2 : (m : Int) ≤ y
        · have Hf := hid_ (hNo (by simp [isNum]; omega))
          clear hNo hYes
          go_wp2
          go_ret
          exact ⟨retI Hf.out, rfl⟩
        · have Hf := hid_ (hYes (by simp [isNum]; omega))
          clear hNo hYes
          go_wp2
          go_round
          case rel => exact ⟨k + 1, by omega, by go_num, Hf.out⟩
          case measure => simp [intOf]; omega
    · have HH : Hid (numE m l = 0) := hid_ (numE_yes h.len fun j hj => Hall.out j (by omega))
      go_wp2
      go_ret
      exact ⟨retI HH.out, rfl⟩
set_option maxRecDepth 100000 in
theorem places_calls (a : Option Addr) (n c : Nat) (T : List (List Int)) (a' : Option Addr) (n' c' : Nat) (l : List Int) (w : World) (h : ListsAt w a n c T) (h' : IntsAt w a' n' c' l) :
    Calls Try.prog 94 #[.slice a n c, .slice a' n' c'] w fun e w' => e = .returned (.int .i64 (placesE T l)) ∧ w = w' := by
  have HV := hid_ (stValidate_calls a n c T w h)
  have HN := hid_ (num_calls (n0 T) a' n' c' l w h')
  have HR : Hid (placesE T l = if validT T = 0 then numE (n0 T) l else validT T) := hid_ rfl
  generalize placesE T l = R at *
  by_cases he : validT T = 0
  · have Hf := hid_ (HR.out.trans (if_pos he))
    have g := validT_ok he
    rw [he] at HV
    have h0 : 0 < n := by have := g.ge; have := h.len; omega
    obtain ⟨b, off, a0, m0, c0, rfl, hb, hc0, hr0⟩ := h.cells 0 h0
    rw [Nat.add_zero] at hc0
    have Hm : Hid (n0 T = m0) := hid_ hr0.len
    rw [Hm.out] at HN Hf
    clear he HR hr0 g
    go_enter Try.func94, Try.ntmps94
    go_wp2_with (first
      | (go_at_call 41; refine (HV.out).mono ?_; rintro e w' ⟨rfl, rfl⟩)
      | (go_at_call 126; refine (HN.out).mono ?_; rintro e w' ⟨rfl, rfl⟩))
    go_ret
    exact ⟨retI Hf.out, rfl⟩
  · have Hf := hid_ (HR.out.trans (if_neg he))
    have hq : (validT T != 0) = true := by simpa using he
    generalize validT T = x at *
    clear he HR
    go_enter Try.func94, Try.ntmps94
    go_wp2_with (go_at_call 41; refine (HV.out).mono ?_; rintro e w' ⟨rfl, rfl⟩)
    go_ret
    exact ⟨retI Hf.out, rfl⟩
set_option maxRecDepth 100000 in
theorem placed_calls (a : Option Addr) (n c : Nat) (T : List (List Int)) (p : Int) (w : World) (h : ListsAt w a n c T) :
    Calls Try.prog 68 #[.slice a n c, .int .i64 p] w fun e w' => e = .returned (.int .i64 (placesE T [p])) ∧ ∃ q, w' = w.drewN q := by
  have HV := hid_ (r7Validate_calls a n c T w h)
  have HR : Hid (placesE T [p] = if validT T = 0 then numE (n0 T) [p] else validT T) := hid_ rfl
  generalize placesE T [p] = R at *
  by_cases he : validT T = 0
  · have Hf := hid_ ((HR.out.trans (if_pos he)).trans (numE_one _ _))
    have g := validT_ok he
    rw [he] at HV
    have h0 : 0 < n := by have := g.ge; have := h.len; omega
    obtain ⟨b, off, a0, m0, c0, rfl, hb, hc0, hr0⟩ := h.cells 0 h0
    rw [Nat.add_zero] at hc0
    have Hm : Hid (n0 T = m0) := hid_ hr0.len
    have hm6 := g.w6
    rw [Hm.out] at Hf hm6
    have HW := hid_ (fun W => within7_calls p 0 ((m0 : Int) - 1) W)
    have HI : Hid (isNum m0 p = Within p 0 ((m0 : Int) - 1)) := hid_ (by rw [Bool.eq_iff_iff]; simp [isNum, Within]; omega)
    rw [HI.out] at Hf
    clear he HR hr0 g HI
    generalize Within p 0 ((m0 : Int) - 1) = z at *
    cases z with
    | false =>
      go_enter Try.func68, Try.ntmps68
      go_wp2_with (first
        | (go_at_call 115; refine (HV.out).mono ?_; rintro e w' ⟨rfl, q, rfl⟩)
        | (go_at_call 67; refine (HW.out _).mono ?_; rintro e w' ⟨rfl, rfl⟩))
      go_ret
      exact ⟨retI Hf.out, _, rfl⟩
    | true =>
      go_enter Try.func68, Try.ntmps68
      go_wp2_with (first
        | (go_at_call 115; refine (HV.out).mono ?_; rintro e w' ⟨rfl, q, rfl⟩)
        | (go_at_call 67; refine (HW.out _).mono ?_; rintro e w' ⟨rfl, rfl⟩))
      go_ret
      exact ⟨retI Hf.out, _, rfl⟩
  · have Hf := hid_ (HR.out.trans (if_neg he))
    have hq : (validT T != 0) = true := by simpa using he
    generalize validT T = x at *
    clear he HR
    go_enter Try.func68, Try.ntmps68
    go_wp2_with (go_at_call 115; refine (HV.out).mono ?_; rintro e w' ⟨rfl, q, rfl⟩)
    go_ret
    exact ⟨retI Hf.out, _, rfl⟩
end Go.Proofs.Ytdnlpikfibdjoaa
namespace Go.Proofs.Ytdnlpikfibdjoaa
open Go.RowKit Go.Proofs.Kv

/-! ### how many readings there are at a place -/
def colR (T : List (List Int)) (p : Nat) : List Int := T.map fun r => r.getD p 0
def diffR (T : List (List Int)) (p : Nat) : Nat := (uq (colR T p)).length
theorem colR_len (T : List (List Int)) (p : Nat) : (colR T p).length = T.length := by simp [colR]
theorem colR_get {T : List (List Int)} {p k : Nat} (hk : k < T.length) : (colR T p).getD k 0 = (T.getD k []).getD p 0 := by simp [colR, List.getD, List.getElem?_eq_getElem hk]
theorem colR_take {T : List (List Int)} {p k : Nat} (hk : k < T.length) : (colR T p).take (k + 1) = (colR T p).take k ++ [(T.getD k []).getD p 0] := by
  rw [take_snoc _ 0 _ (by rw [colR_len]; exact hk), colR_get hk]
theorem colR_mem {T : List (List Int)} (h : GoodT T) {p : Nat} (hp : p < n0 T) {x : Int} (hx : x ∈ colR T p) : 0 ≤ x ∧ x ≤ 2 := by
  obtain ⟨k, hk, rfl⟩ := mem_getD hx
  rw [colR_len] at hk
  rw [colR_get hk]
  exact h.ok k hk p hp
theorem Try.intLaw : Maps.Keyed Try.prog 3 := Maps.int_keyed Try.underlying3
theorem intKey {x : Int} (h : 0 ≤ x ∧ x ≤ 1000) : ∃ l, keyOf Try.prog 3 (.int .i64 x) = some l := ⟨_, Maps.keyOf_int_mk Try.underlying3 (WalkArith.wf_i64 (by omega))⟩
set_option maxRecDepth 100000 in
theorem stdiff_calls (a : Option Addr) (n c : Nat) (T : List (List Int)) (p : Nat) (w : World) (h : ListsAt w a n c T) (g : GoodT T) (hp : p < n0 T) :
    Calls Try.prog 103 #[.slice a n c, .int .i64 (p : Int)] w fun e w' => e = .returned (.int .i64 (diffR T p : Nat)) ∧ Below w.heap.size w w' := by
  have hn : n ≤ 9223372036854775807 := Nat.le_trans h.le h.small
  have Hlen := hid_ h.len
  have hmm := @run_makeMap Try.prog
  have Hg := hid_ g
  have HD : Hid (diffR T p = (uq (colR T p)).length) := hid_ rfl
  have Hall : Hid ((colR T p).take n = colR T p) := hid_ (List.take_of_length_le (by rw [colR_len, h.len]; omega))
  generalize diffR T p = D at *
  clear g
  go_enter Try.func103, Try.ntmps103
  go_wp2
  go_loopw [11] (fun i wr => ∃ k : Nat, k ≤ n ∧ i = .int .i64 k ∧ KeysAt (Value.int .i64) wr w.heap.size (uq ((colR T p).take k)) ∧ Below w.heap.size w wr) (fun i _ => n - (intOf i).toNat)
  case atStart => exact ⟨0, Nat.zero_le _, rfl, KeysAt.new _ _, below_alloc _ _⟩
  case round =>
    obtain ⟨k, hk, rfl, hks, hb⟩ := hrel
    have Hks := hid_ hks; have Hb := hid_ hb
    by_cases hlt : k < n
    · obtain ⟨b, off, a1, n1, c1, rfl, hb', hcell, hrow⟩ := (h.below hb (Nat.le_refl _)).cells k hlt
      have hl : k < T.length := by rw [Hlen.out]; exact hlt
      have hpn : p < n1 := by rw [← hrow.len, Hg.out.len k hl]; exact hp
      have hrl := Nat.le_trans hrow.le hrow.small
      obtain ⟨b1, off1, rfl, hb1, hcell1⟩ := hrow.cells p hpn
      have hy := Hg.out.ok k hl p hp
      have Ht := hid_ (@colR_take T p k hl)
      have Hin := hid_ (fun z hz => @colR_mem T Hg.out p hp z hz)
      clear hrow hks hb
      generalize (T.getD k []).getD p 0 = y at *
      go_wp2_with (at_mapUpdate; refine wpList_keys_store rfl (.tmp 15) (.tmp 19) (.const (.bool true)) rfl Try.intLaw Try.underlying141 w.heap.size _ rfl Hks.out y rfl (fun z hz => ?_) (fun z _ e => by injection e) ?_; rotate_left; intro w2 hks2 hg2)
      · go_roundw
        case rel => exact ⟨k + 1, by omega, by go_num, by rw [Ht.out, uq_snoc]; exact hks2, Hb.out.grown hg2 Hb.out.size (fun r e => by injection e with e; omega)⟩
        case measure => simp [intOf]; omega
      · rcases hz with hz | rfl
        · have := Hin.out z (List.mem_of_mem_take (mem_uq.1 hz)); exact intKey (by omega)
        · exact intKey (by omega)
    · obtain rfl : n = k := by omega
      rw [Hall.out] at Hks
      go_wp2_with (at_len; refine wpList_keys_len rfl (.tmp 21) rfl Try.underlying141 w.heap.size _ rfl Hks.out ?_)
      go_ret
      exact ⟨by rw [HD.out]; rfl, Hb.out⟩
end Go.Proofs.Ytdnlpikfibdjoaa
