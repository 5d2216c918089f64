import Derived.Test.YtdabgoiipkmpaaaJ1
import Derived.Test.YtdabgoiipkmpaaaRgn
import Derived.Test.YtdabgoiipkmpaaaJa
import Derived.Maps.AppendAt
namespace Go.Proofs.Ytdabgoiipkmpaaa
open Go.RowKit Go.Proofs.Kv

/-! ### steps: the document -/
/-- a slice that holds a word in a row of numbers -/
def WordT (w : World) (u : Value) (l : List Int) : Prop := ∃ a n c, u = .slice a n c ∧ IntsAt w a n c l ∧ ∀ b off, 0 < n → a = some ⟨b, off, none⟩ → ∃ cur, w.heap[b]? = some (.cells cur 3 (0, 0))
theorem WordT.kept {F : Nat → Prop} {w w' : World} {u : Value} {l : List Int} (h : WordT w u l) (hk : Kept F w w') (hF : ∀ b cur, F b → w.heap[b]? ≠ some (.cells cur 3 (0, 0))) : WordT w' u l := by
  obtain ⟨a, n, c, rfl, hi, hd⟩ := h
  have hn : ∀ b off, 0 < n → a = some ⟨b, off, none⟩ → ¬ F b := fun b off h1 h2 hf => by obtain ⟨cur, e⟩ := hd b off h1 h2; exact hF b cur hf e
  exact ⟨a, n, c, rfl, hi.kept hk hn, fun b off h1 h2 => by
    obtain ⟨cur, e⟩ := hd b off h1 h2
    exact ⟨cur, (hk.block b (Go.lt_of_block e) (hn b off h1 h2)).trans e⟩⟩
theorem Made.wordT {w w' : World} {v : Value} {l : List Int} (h : Made 3 w w' v l) : WordT w' v l := by
  have ho := h.own
  obtain ⟨a, c, rfl, hi⟩ := h.at_
  refine ⟨a, _, c, rfl, hi, fun b off hn ha => ?_⟩
  subst ha
  rcases ho.2 with ⟨e, _⟩ | ⟨g, cap, cur, e, _, hg, _⟩
  · cases e
  · injection e with e; injection e with e; injection e with e1 _; subst e1; exact ⟨cur, hg⟩
/-- v is a row of the call's own that holds slices that read as the words W, each in a row of numbers -/
def OwnT (w : World) (B : Nat) (v : Value) (W : List (List Int)) : Prop := ∃ vs : List Value, w.ownsRow B 23 1 v W.length vs ∧ ∀ (i : Nat) (u : Value), vs[i]? = some u → WordT w u (W.getD i [])
theorem OwnT.nil (w : World) (B : Nat) : OwnT w B (.slice none 0 0) [] := ⟨[], World.ownsRow_nil _ _ _ _, fun i u h => by simp at h⟩
theorem OwnT.next {w w' : World} {B : Nat} {v : Value} {W : List (List Int)} (h : OwnT w B v W) (hb : Below w.heap.size w w') : OwnT w' B v W := by
  obtain ⟨vs, h1, h2⟩ := h
  exact ⟨vs, own_grown h1 hb, fun i u hu => (h2 i u hu).kept (F := fun _ => False) hb.kept fun _ _ h => h.elim⟩
theorem OwnT.lt {w : World} {B : Nat} {v : Value} {W : List (List Int)} (h : OwnT w B v W) : ∀ k, v.ownBlock = some k → B ≤ k ∧ k < w.heap.size := by obtain ⟨vs, h1, _⟩ := h; exact h1.lt
theorem own_obj' {w : World} {B E size : Nat} {v : Value} {n b : Nat} {xs : List Value} (h : w.ownsRow B E size v n xs) (hb : v.ownBlock = some b) : ∃ cur, w.heap[b]? = some (.cells cur E (0, 0)) := by
  rcases h.2 with ⟨rfl, _⟩ | ⟨g, cap, cur, rfl, _, hg, _⟩
  · cases hb
  · injection hb with hb; subst hb; exact ⟨cur, hg⟩
/-- the row of words while a row of steps grows -/
theorem OwnT.beside {w w' : World} {B : Nat} {v v' : Value} {W : List (List Int)} {n : Nat} {xs : List Value} (h : OwnT w B v W) (ho : w.ownsRow B 74 2 v' n xs) (hg : w.grownBy w' v'.ownBlock) : OwnT w' B v W := by
  obtain ⟨vs, h1, h2⟩ := h
  have hk : Kept (fun b => v'.ownBlock = some b) w w' := (Kept.refl _ _).grown hg fun _ _ e => e
  refine ⟨vs, ownsRow_kept h1 hk fun b hb e => ?_, fun i u hu => (h2 i u hu).kept hk fun b cur e e' => ?_⟩
  · obtain ⟨c1, e1⟩ := own_obj' h1 hb
    obtain ⟨c2, e2⟩ := own_obj' ho e
    rw [e1] at e2; injection e2 with e2; injection e2 with _ e3 _; exact absurd e3 (by decide)
  · obtain ⟨c2, e2⟩ := own_obj' ho e
    rw [e'] at e2; injection e2 with e2; injection e2 with _ e3 _; exact absurd e3 (by decide)
theorem WordT.next {w w' : World} {u : Value} {l : List Int} (h : WordT w u l) (hb : Below w.heap.size w w') : WordT w' u l := h.kept (F := fun _ => False) hb.kept fun _ _ h => h.elim
theorem WordT.beside {w w' : World} {B : Nat} {u v' : Value} {l : List Int} {n : Nat} {xs : List Value} (h : WordT w u l) (ho : w.ownsRow B 74 2 v' n xs) (hg : w.grownBy w' v'.ownBlock) : WordT w' u l := by
  have hk : Kept (fun b => v'.ownBlock = some b) w w' := (Kept.refl _ _).grown hg fun _ _ e => e
  refine h.kept hk fun b cur e e' => ?_
  obtain ⟨c2, e2⟩ := own_obj' ho e
  rw [e'] at e2; injection e2 with e2; injection e2 with _ e3 _; exact absurd e3 (by decide)
theorem wpList_push_word {w : World} {ops : Array Oper} {rest : List Oper} {o : Oper} {a : Act} {Q : Exit → Act → World → Prop} (hgd : o.guard = none) (s x : Operand)
    (ho : o.op = .call { callee := .builtin .append, args := #[s, x], argTypes := #[36, 36] }) (B : Nat) (v : Value) (W : List (List Int)) (hs : a.eval s = v) (h : OwnT w B v W) (hB : B ≤ w.heap.size)
    {u : Value} {l : List Int} (hu : WordT w u l) (E : TypeId) (hx : a.eval x = .slice (some ⟨w.heap.size, 0, none⟩) 1 1) (hsm : W.length ≤ 1000)
    {v2 : Value} {n2 : Nat} {xs2 : List Value} (ho2 : w.ownsRow B 74 2 v2 n2 xs2)
    (hK : ∀ v' w', OwnT w' B v' (W ++ [l]) → w'.ownsRow B 74 2 v2 n2 xs2 → Below B w w' → wpList Try.prog ops Q rest (a.put o.dst v') w') :
    wpList Try.prog ops Q (o :: rest) a (w.alloc (.cells #[u] E)) := by
  obtain ⟨vs, h1, h2⟩ := h
  obtain ⟨i0, hi0, hz0, hz1, hz2⟩ := info_parts Try.infoInts
  have hb := below_alloc w (.cells #[u] E)
  have hu1 : u.oneCell' = true := by obtain ⟨a', n', c', rfl, _⟩ := hu; rfl
  refine wpList_append_own_at _ hgd s x _ ho B 23 i0 _ 1 24 Try.underlying36 hi0 hz0 hz1 hz2 rfl (by omega) v W.length vs hs (own_grown h1 hb) ⟨w.heap.size, 0, none⟩ 1 1 [u] hx rfl (cell_one_new _ _ _) (by simp [hu1])
    (by unfold maxLen; omega) (by omega) (by simp; omega) fun v' w' k1 k2 _ k4 => ?_
  have hk : Kept (fun b => v.ownBlock = some b) w w' := (hb.kept (F := fun b => v.ownBlock = some b)).grown k2 fun _ _ e => e
  have hF : ∀ b cur, v.ownBlock = some b → w.heap[b]? ≠ some (.cells cur 3 (0, 0)) := fun b cur e e' => by
    obtain ⟨c1, e1⟩ := own_obj' h1 e
    rw [e'] at e1; injection e1 with e1; injection e1 with _ e3 _; exact absurd e3 (by decide)
  have hvl : vs.length = W.length := by have := h1.1; simpa using this
  refine hK v' w' ⟨vs ++ [u], by rw [List.length_append]; exact k1, fun i u' hu' => ?_⟩ ?_ (hk.below hB fun b e => (h1.lt b e).1)
  · by_cases hi : i < vs.length
    · rw [List.getElem?_append_left hi] at hu'
      rw [show (W ++ [l]).getD i [] = W.getD i [] by simp only [List.getD]; rw [List.getElem?_append_left (by omega)]]
      exact (h2 i u' hu').kept hk hF
    · obtain rfl : i = vs.length := by
        rcases Nat.lt_or_ge i (vs.length + 1) with h | h
        · omega
        · rw [List.getElem?_eq_none (by simp; omega)] at hu'; cases hu'
      rw [List.getElem?_append_right (Nat.le_refl _), Nat.sub_self] at hu'
      simp at hu'; subst hu'
      rw [show (W ++ [l]).getD vs.length [] = l by rw [hvl]; simp [List.getD]]
      exact hu.kept hk hF
  · exact ownsRow_kept ho2 hk fun b hb' e => by
      obtain ⟨c1, e1⟩ := own_obj' h1 e
      obtain ⟨c2, e2⟩ := own_obj' ho2 hb'
      rw [e1] at e2; injection e2 with e2; injection e2 with _ e3 _; exact absurd e3 (by decide)
end Go.Proofs.Ytdabgoiipkmpaaa
