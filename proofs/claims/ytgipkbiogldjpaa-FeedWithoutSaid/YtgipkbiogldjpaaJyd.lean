import Derived.Test.YtgipkbiogldjpaaJxd
import Derived.Test.YtgipkbiogldjpaaJyb
namespace Go.Proofs.Ytgipkbiogldjpaa
open Go.RowKit Go.Proofs.Kv

/-! ### what is reached without a rule: mathematics -/
theorem erase_getD (L : List Rl) (k i : Nat) : (L.eraseIdx k).getD i R0 = L.getD (if i < k then i else i + 1) R0 := by
  simp only [List.getD]; rw [List.getElem?_eraseIdx]; split <;> rfl
theorem moves_less {L : List Rl} {k : Nat} {u : List Int} {m : Mv} (h : m ∈ movesL (L.eraseIdx k) u) : ∃ m' ∈ movesL L u, m'.2 = m.2 := by
  obtain ⟨i, hi, p, hp, he, rfl⟩ := mem_mvTo.1 h
  rw [erase_getD] at hp he ⊢
  have hlt : (if i < k then i else i + 1) < L.length := by
    by_cases hk : k < L.length
    · rw [List.length_eraseIdx_of_lt hk] at hi; split <;> omega
    · rw [List.eraseIdx_of_length_le (by omega)] at hi; rw [if_pos (by omega)]; exact hi
  exact ⟨_, mem_mvTo.2 ⟨_, hlt, p, hp, he, rfl⟩, rfl⟩
theorem Rch.less {L : List Rl} {k : Nat} {l u : List Int} (h : Rch (L.eraseIdx k) l u) : Rch L l u := by
  induction h with
  | refl => exact .refl _
  | step hm _ ih =>
    obtain ⟨m', h1, h2⟩ := moves_less hm
    rw [← h2] at ih
    exact .step h1 ih
theorem errWeb_parts {L : List Rl} {l : List Int} (h : errWeb L l = 0) : validS L = 0 ∧ validW l = 0 ∧ ∃ y, graphR L l = some y ∧ reachedF L l = some y := by
  cases hy : graphR L l with
  | none => exact absurd h (graphR_none hy)
  | some y =>
    obtain ⟨_, he, hx⟩ := graphR_some hy
    exact ⟨(errSW_ok' he).1, (errSW_ok' he).2, y, rfl, hx⟩
theorem mem_reach {L : List Rl} {l : List Int} (h : errWeb L l = 0) (u : List Int) : u ∈ resReach L l ↔ Rch L l u := by
  obtain ⟨hs, hl, y, hy, hx⟩ := errWeb_parts h
  rw [resReach_eq, hy]
  have := (fold_ins y.words (acc := []) List.Pairwise.nil).2 u
  show u ∈ foldI y.words ↔ _
  unfold foldI
  rw [this, ← (reachedF_some hs hl hx).2 u]; simp
theorem reach_few {L : List Rl} {l : List Int} (h : errWeb L l = 0) : ∃ T : List (List Int), T.length ≤ 300 ∧ ∀ u, Rch L l u → u ∈ T := by
  obtain ⟨hs, hl, y, hy, hx⟩ := errWeb_parts h
  obtain ⟨g1, g2⟩ := reachedF_some hs hl hx
  exact ⟨y.words, g1.le, fun u hu => (g2 u).2 hu⟩
theorem errWeb_few {L : List Rl} {l : List Int} (hs : validS L = 0) (hl : validW l = 0) {T : List (List Int)} (hT : T.length ≤ 300) (h : ∀ u, Rch L l u → u ∈ T) : errWeb L l = 0 := by
  have he := errSW_one hs hl
  rw [errWeb, if_pos he]
  cases hx : exploreF L l with
  | some x => rfl
  | none =>
    obtain ⟨S, s1, s2, s3⟩ := exploreF_none (validS_ok hs).2 hl hx
    have := nodup_le s1 (T := T) fun u hu => h u (s3 u hu)
    omega
theorem firstE_mk : ∀ {L : List Rl}, (∀ R ∈ L, validR R = 0) → firstE L = 0
  | [], _ => rfl
  | R :: L, h => by rw [firstE, if_pos (h R (by simp))]; exact firstE_mk fun S hS => h S (by simp [hS])
theorem validS_mk {L : List Rl} (h1 : L.length ≤ 6) (h2 : ∀ R ∈ L, validR R = 0) : validS L = 0 := by
  rw [validS, if_neg (by omega)]; exact firstE_mk h2
theorem validS_less {L : List Rl} (h : validS L = 0) (k : Nat) : validS (L.eraseIdx k) = 0 :=
  validS_mk (Nat.le_trans (List.length_eraseIdx_le _ _) (validS_ok h).1) fun R hR => (validS_ok h).2 R (List.mem_of_mem_eraseIdx hR)
theorem errWeb_less {L : List Rl} {l : List Int} (k : Nat) (h : errWeb L l = 0) : errWeb (L.eraseIdx k) l = 0 := by
  obtain ⟨hs, hl, -⟩ := errWeb_parts h
  obtain ⟨T, t1, t2⟩ := reach_few h
  exact errWeb_few (validS_less hs k) hl t1 fun u hu => t2 u hu.less
theorem errWithout_ok {L : List Rl} {x : Int} (h : errWithout L x = 0) : resWithout L x = L.eraseIdx x.toNat ∧ x.toNat < L.length := by
  unfold errWithout at h
  unfold resWithout
  by_cases hv : validS L = 0
  · rw [if_pos hv] at h ⊢
    cases hq : isRl L.length x with
    | false => rw [hq] at h; simp at h
    | true =>
      rw [if_pos rfl]
      simp only [isRl, Bool.and_eq_true, decide_eq_true_eq] at hq
      exact ⟨rfl, by omega⟩
  · rw [if_neg hv] at h; exact absurd h hv
theorem part_less {L : List Rl} {l : List Int} {x : Int} (hx : errWithout L x = 0) (h : errWeb L l = 0) : errWeb (resWithout L x) l = 0 ∧ partL (resReach (resWithout L x) l) (resReach L l) = true := by
  obtain ⟨e, _⟩ := errWithout_ok hx
  rw [e]
  have h' := errWeb_less x.toNat h
  exact ⟨h', decide_eq_true fun u hu => (mem_reach h u).2 ((mem_reach h' u).1 hu).less⟩
/-- without a rule that is in no step the same words are reached -/
theorem Rch.more {L : List Rl} {k : Nat} (hk : k < L.length) {l u : List Int} (h : Rch L l u) (hn : ∀ v, Rch L l v → ∀ m ∈ movesL L v, m.1.1 ≠ (k : Int)) : Rch (L.eraseIdx k) l u := by
  induction h with
  | refl => exact .refl _
  | @step w0 z0 m0 hm hz ih =>
    have h1 := hn _ (.refl _) _ hm
    obtain ⟨i, hi, p, hp, he, e⟩ := mem_mvTo.1 hm
    have hik : i ≠ k := fun q => h1 (by rw [e, q])
    have hj : ∃ j, j < (L.eraseIdx k).length ∧ (if j < k then j else j + 1) = i := by
      rw [List.length_eraseIdx_of_lt hk]
      by_cases q : i < k
      · exact ⟨i, by omega, if_pos q⟩
      · exact ⟨i - 1, by omega, by rw [if_neg (by omega)]; omega⟩
    obtain ⟨j, j1, j2⟩ := hj
    have hg : (L.eraseIdx k).getD j R0 = L.getD i R0 := by rw [erase_getD, j2]
    have h2 : ((((j : Int), p), putRes (L.getD i R0) [p] w0) : Mv) ∈ movesL (L.eraseIdx k) w0 := mem_mvTo.2 ⟨j, j1, p, by rw [hg]; exact hp, by rw [hg]; exact he, by rw [hg]⟩
    have h3 := ih fun v hv m hm' => hn v (.step hm hv) m hm'
    rw [e] at h3
    exact .step h2 h3
end Go.Proofs.Ytgipkbiogldjpaa
