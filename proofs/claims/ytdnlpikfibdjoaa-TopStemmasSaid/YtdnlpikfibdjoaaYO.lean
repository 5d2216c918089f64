import Derived.Test.YtdnlpikfibdjoaaYN
import Derived.Test.YtdnlpikfibdjoaaYP
namespace Go.Proofs.Kv
open Go.RowKit Go
theorem IntsAt.dropIf {w : World} {b off n c : Nat} {l : List Int} (h : IntsAt w (some ⟨b, off, none⟩) n c l) {k : Nat} (hk : k ≤ n) : IntsAt w (if c = k then some ⟨b, off, none⟩ else some ⟨b, off + k, none⟩) (n - k) (c - k) (l.drop k) := by
  have hle := h.le
  have hs := h.small
  have hl : (l.drop k).length = n - k := by rw [List.length_drop, h.len]
  split
  · exact ⟨hl, by omega, by omega, fun i hi => absurd hi (by omega)⟩
  · refine ⟨hl, by omega, by omega, fun i hi => ?_⟩
    obtain ⟨b', off', e, hb, hc⟩ := h.cells (k + i) (by omega)
    injection e with e; injection e with e1 e2; subst e1; subst e2
    refine ⟨b, off + k, rfl, hb, ?_⟩
    rw [Nat.add_assoc, hc]
    simp [List.getD]
theorem step_push_val2 {P : Program} {ops : Array Oper} {o : Oper} {a : Act} {w : World} {K : Act → World → Prop} {Q : Exit → Act → World → Prop} {E0 : Prop} (hgd : o.guard = none) (s x : Operand) (t : TypeId)
    (ho : o.op = .call { callee := .builtin .append, args := #[s, x], argTypes := #[t, t] })
    (base : Nat) (e : TypeId) (i : TypeInfo) {z : Value} {by_ : Nat} (ht : P.underlying t = some (.slice e)) (hi : P.info? e = some i) (hz : i.zero = some z) (hzc : z.cells.size = 1) (hsize : i.size = 1) (hby : i.bytes = by_) (hb0 : by_ ≤ 24)
    (v : Value) (n : Nat) (xs : List Value) (hs : a.eval s = v) (hown : w.ownsRow base e 1 v n xs)
    (u : Value) (hu : u.oneCell' = true) (g : Nat) (hx : a.eval x = .slice (some ⟨g, 0, none⟩) 1 1) (hc : w.cell? ⟨g, 0, none⟩ = some u) (hsm : n + 1 ≤ 1000000) (hbase : base ≤ w.heap.size)
    (hK : ∀ v' w', w'.ownsRow base e 1 v' (n + 1) (xs ++ [u]) → w.grownBy w' v.ownBlock → K (a.put o.dst v') w') :
    if Region.wanted o (yielded ops a.tmps) = true then Oper.wp P o a w K Q else E0 := by
  have hw : Region.wanted o (yielded ops a.tmps) = true := by simp [Region.wanted, hgd]
  rw [if_pos hw]
  have hm : (n + 1) * by_ ≤ 1000000 * 24 := Nat.mul_le_mul hsm hb0
  have hcells : ∀ j u', [u][j]? = some u' → w.cell? ((⟨g, 0, none⟩ : Addr).add j) = some u' := by
    intro j u' hu'
    have hj : j = 0 := by
      rcases Nat.eq_zero_or_pos j with h | h
      · exact h
      · rw [List.getElem?_eq_none (by simp; omega)] at hu'; cases hu'
    subst hj
    simp at hu'; subst hu'
    exact hc
  obtain ⟨v', w', hrun, h2, h3, _, h5⟩ := run_append_own_at (P := P) w base t o.type e i z 1 by_ ht hi hz hsize hby hzc (by omega) v n xs hown ⟨g, 0, none⟩ 1 1 [u] (by simp) hcells
    (by intro u' hu'; rw [List.mem_singleton] at hu'; subst hu'; exact hu) (by unfold maxLen; omega) (by omega) hbase
  unfold Oper.wp
  simp [execOp, ho, resolve, invoke, builtin, hs, hx, hrun, Result.andThen]
  exact hK _ _ h2 h3
end Go.Proofs.Kv
namespace Go.Proofs.Ytdnlpikfibdjoaa
open Go.RowKit Go.Proofs.Kv Go

/-! ### Without of the document -/
end Go.Proofs.Ytdnlpikfibdjoaa
