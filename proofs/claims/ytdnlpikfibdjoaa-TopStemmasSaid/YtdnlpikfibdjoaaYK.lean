import Derived.Test.YtdnlpikfibdjoaaYJ
namespace Go.Proofs.Kv
open Go.RowKit Go
theorem OwnRw.one {E E1 : TypeId} {w : World} {B : Nat} {v : Value} {us : List Value} {L : List (List Int)} (h : OwnRw E E1 w B v us L) : ∀ u ∈ us, u.oneCell' = true := by
  intro u hu
  obtain ⟨i, hi, rfl⟩ := List.mem_iff_getElem.1 hu
  obtain ⟨a, c, e, -⟩ := IntsAt.own (h.at_ (List.getElem?_eq_getElem hi))
  rw [e]; rfl
theorem OwnRw.delete {E E1 : TypeId} {w w' : World} {B n cap g i : Nat} {us : List Value} {L : List (List Int)} (h : OwnRw E E1 w B (.slice (some ⟨g, 0, none⟩) n cap) us L) (hi : i < L.length)
    (h' : w'.ownsRow B E 1 (.slice (some ⟨g, 0, none⟩) (n - 1) cap) (n - 1) (us.take i ++ us.drop (i + 1))) (hn : n = L.length) (hg : w.grownBy w' (some g)) : OwnRw E E1 w' B (.slice (some ⟨g, 0, none⟩) (n - 1) cap) (us.eraseIdx i) (L.eraseIdx i) := by
  have hl : (L.eraseIdx i).length = n - 1 := by rw [List.length_eraseIdx_of_lt hi, hn]
  have hu : ∀ j, (us.eraseIdx i)[j]? = us[if j < i then j else j + 1]? := fun j => by rw [List.getElem?_eraseIdx]; split <;> rfl
  have hL : ∀ j, (L.eraseIdx i).getD j [] = L.getD (if j < i then j else j + 1) [] := fun j => by
    simp only [List.getD, List.getElem?_eraseIdx]; split <;> rfl
  refine ⟨h.ne, by rw [hl, List.eraseIdx_eq_take_drop_succ]; exact h', fun j hj => ?_, fun j k x y b hjk hx hy hb => ?_⟩
  · rw [hl] at hj
    rw [hu, hL]
    obtain ⟨u, e, ho⟩ := h.row (if j < i then j else j + 1) (by split <;> omega)
    refine ⟨u, e, ho.kept hg ?_⟩
    by_cases hx : u.ownBlock = none
    · exact .inl hx
    · obtain ⟨b, hb⟩ := Option.ne_none_iff_exists'.1 hx
      exact .inr (by rw [hb]; exact fun q => h.diff e b hb q.symm)
  · rw [hu] at hx hy
    exact h.apart _ _ x y b (by split <;> split <;> omega) hx hy hb
end Go.Proofs.Kv
namespace Go.Proofs.Ytdnlpikfibdjoaa
open Go.RowKit Go.Proofs.Kv Go

theorem deleteInt1_calls {B n g cap i : Nat} {xs : List Value} {w : World} (hown : w.ownsRow B 3 1 (.slice (some ⟨g, 0, none⟩) n cap) n xs) (h1 : ∀ u ∈ xs, u.oneCell' = true) (hi : i < n) (hn : n ≤ cap) :
    Calls Try.prog 102 #[.slice (some ⟨g, 0, none⟩) n cap, .int .i64 i, .int .i64 ((i : Int) + 1)] w fun e w' => e = .returned (.slice (some ⟨g, 0, none⟩) (n - 1) cap) ∧ w'.ownsRow B 3 1 (.slice (some ⟨g, 0, none⟩) (n - 1) cap) (n - 1) (xs.take i ++ xs.drop (i + 1)) ∧ w.grownBy w' (some g) :=
  deleteInt_calls (j := i + 1) hown h1 rfl hi hn
/-! ### Lose -/
def loseE (T : List (List Int)) (i : Int) : Int := if copiesE T [i] = 0 then (if T.length = 1 then 1 else 0) else copiesE T [i]
def resLose (T : List (List Int)) (i : Int) : List (List Int) := if loseE T i = 0 then T.eraseIdx i.toNat else []
theorem loseE_ok {T : List (List Int)} {i : Int} (h : loseE T i = 0) : GoodT T ∧ 0 ≤ i ∧ i < T.length ∧ 2 ≤ T.length := by
  unfold loseE at h
  split at h
  · rename_i hc
    obtain ⟨g, h1, h2⟩ := copiesE_one hc
    split at h
    · cases h
    · have := g.ge; exact ⟨g, h1, h2, by omega⟩
  · rename_i hc; exact absurd h hc
end Go.Proofs.Ytdnlpikfibdjoaa
