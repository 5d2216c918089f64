import Derived.Test.YtdhmcmkpeaoigaaYJ
namespace Go.Proofs.Kv
open Go.RowKit Go
theorem OwnRw.one {E E1 : TypeId} {w : World} {B : Nat} {v : Value} {us : List Value} {L : List (List Int)} (h : OwnRw E E1 w B v us L) : ∀ u ∈ us, u.oneCell' = true := by
  intro u hu
  obtain ⟨i, hi, rfl⟩ := List.mem_iff_getElem.1 hu
  obtain ⟨a, c, e, -⟩ := IntsAt.own (h.at_ (List.getElem?_eq_getElem hi))
  rw [e]; rfl
theorem OwnRw.delete {E E1 : TypeId} {w w' : World} {B n cap g i : Nat} {us : List Value} {L : List (List Int)} (h : OwnRw E E1 w B (.slice (some ⟨g, 0, none⟩) n cap) us L) (hi : i < L.length)
    (h' : w'.ownsRow B E 1 (.slice (some ⟨g, 0, none⟩) (n - 1) cap) (n - 1) (us.take i ++ us.drop (i + 1))) (hn : n = L.length) (hg : w.grownBy w' (some g)) : OwnRw E E1 w' B (.slice (some ⟨g, 0, none⟩) (n - 1) cap) (us.eraseIdx i) (L.eraseIdx i) := by
  have hl : (L.eraseIdx i).length = n - 1 := by rw [List.length_eraseIdx_of_lt hi, hn]
  have hu : ∀ j, (us.eraseIdx i)[j]? = us[if j < i then j else j + 1]? := fun j => by rw [List.getElem?_eraseIdx]; split <;> rfl
  have hL : ∀ j, (L.eraseIdx i).getD j [] = L.getD (if j < i then j else j + 1) [] := fun j => by
    simp only [List.getD, List.getElem?_eraseIdx]; split <;> rfl
  refine ⟨h.ne, by rw [hl, List.eraseIdx_eq_take_drop_succ]; exact h', fun j hj => ?_, fun j k x y b hjk hx hy hb => ?_⟩
  · rw [hl] at hj
    rw [hu, hL]
    obtain ⟨u, e, ho⟩ := h.row (if j < i then j else j + 1) (by split <;> omega)
    refine ⟨u, e, ho.kept hg ?_⟩
    by_cases hx : u.ownBlock = none
    · exact .inl hx
    · obtain ⟨b, hb⟩ := Option.ne_none_iff_exists'.1 hx
      exact .inr (by rw [hb]; exact fun q => h.diff e b hb q.symm)
  · rw [hu] at hx hy
    exact h.apart _ _ x y b (by split <;> split <;> omega) hx hy hb
end Go.Proofs.Kv
namespace Go.Proofs.Ytdhmcmkpeaoigaa
open Go.RowKit Go.Proofs.Kv Go

theorem deleteRow1_calls {B n g cap i : Nat} {xs : List Value} {w : World} (hown : w.ownsRow B 28 1 (.slice (some ⟨g, 0, none⟩) n cap) n xs) (h1 : ∀ u ∈ xs, u.oneCell' = true) (hi : i < n) (hn : n ≤ cap) :
    Calls Try.prog 93 #[.slice (some ⟨g, 0, none⟩) n cap, .int .i64 i, .int .i64 ((i : Int) + 1)] w fun e w' => e = .returned (.slice (some ⟨g, 0, none⟩) (n - 1) cap) ∧ w'.ownsRow B 28 1 (.slice (some ⟨g, 0, none⟩) (n - 1) cap) (n - 1) (xs.take i ++ xs.drop (i + 1)) ∧ w.grownBy w' (some g) :=
  deleteRow_calls (j := i + 1) hown h1 rfl hi hn
theorem deleteInt1_calls {B n g cap i : Nat} {xs : List Value} {w : World} (hown : w.ownsRow B 3 1 (.slice (some ⟨g, 0, none⟩) n cap) n xs) (h1 : ∀ u ∈ xs, u.oneCell' = true) (hi : i < n) (hn : n ≤ cap) :
    Calls Try.prog 92 #[.slice (some ⟨g, 0, none⟩) n cap, .int .i64 i, .int .i64 ((i : Int) + 1)] w fun e w' => e = .returned (.slice (some ⟨g, 0, none⟩) (n - 1) cap) ∧ w'.ownsRow B 3 1 (.slice (some ⟨g, 0, none⟩) (n - 1) cap) (n - 1) (xs.take i ++ xs.drop (i + 1)) ∧ w.grownBy w' (some g) :=
  deleteInt_calls (j := i + 1) hown h1 rfl hi hn
/-! ### Lose -/
def loseE (T : List (List Int)) (i : Int) : Int := if copiesE T [i] = 0 then (if T.length = 1 then 1 else 0) else copiesE T [i]
def resLose (T : List (List Int)) (i : Int) : List (List Int) := if loseE T i = 0 then T.eraseIdx i.toNat else []
theorem loseE_ok {T : List (List Int)} {i : Int} (h : loseE T i = 0) : GoodT T ∧ 0 ≤ i ∧ i < T.length ∧ 2 ≤ T.length := by
  unfold loseE at h
  split at h
  · rename_i hc
    obtain ⟨g, h1, h2⟩ := copiesE_one hc
    split at h
    · cases h
    · have := g.ge; exact ⟨g, h1, h2, by omega⟩
  · rename_i hc; exact absurd h hc
set_option maxRecDepth 100000 in
set_option maxHeartbeats 4000000 in
theorem stLose_calls (a : Option Addr) (n c : Nat) (T : List (List Int)) (i : Int) (w : World) (h : ListsAt w a n c T) :
    Calls Try.prog 57 #[.slice a n c, .int .i64 i] w fun e w' => ∃ v us, e = .returned (.tuple #[v, .int .i64 (loseE T i)]) ∧ OwnRw 28 3 w' w.heap.size v us (resLose T i) ∧ Below w.heap.size w w' := by
  have HV := hid_ (fun W (hW : Below w.heap.size w W) a' n' c' (h' : IntsAt W a' n' c' [i]) => copies_calls a n c T a' n' c' [i] W (h.below hW (Nat.le_refl _)) h')
  have HR : Hid (resLose T i = if loseE T i = 0 then T.eraseIdx i.toNat else []) := hid_ rfl
  have HE : Hid (loseE T i = if copiesE T [i] = 0 then (if T.length = 1 then 1 else 0) else copiesE T [i]) := hid_ rfl
  have hlen := h.len
  generalize resLose T i = R at *
  generalize loseE T i = E at *
  by_cases he : copiesE T [i] = 0
  · obtain ⟨g, hp0, hp1⟩ := copiesE_one he
    have hE := HE.out.trans (if_pos he)
    rw [he] at HV
    clear he HE
    have hg := g.le
    rw [hlen] at hE hp1 hg
    obtain ⟨k, rfl⟩ := nat_of hp0
    by_cases h1 : n = 1
    · have HE' : Hid (E = 1) := hid_ (hE.trans (if_pos h1))
      have HR' : Hid (R = []) := hid_ (HR.out.trans (if_neg (by rw [HE'.out]; decide)))
      subst h1
      clear hE HR h hlen g
      rw [HE'.out, HR'.out]
      go_enter Try.func57, Try.ntmps57
      go_wp2_with (go_at_call 85; (with_reducible refine (HV.out _ (below_alloc _ _) _ _ _ (IntsAt.one _ _ _)).mono ?_); rintro e w2 ⟨rfl, rfl⟩)
      go_ret2
      exact ⟨_, [], rfl, OwnRw.nil _ _ (by decide), below_alloc _ _⟩
    · have HE' : Hid (E = 0) := hid_ (hE.trans (if_neg h1))
      have HR' : Hid (R = T.eraseIdx k) := hid_ ((HR.out.trans (if_pos HE'.out)).trans (by rw [Int.toNat_natCast]))
      have HC := hid_ (fun W (hW : Below w.heap.size w W) => copied7_calls a n c T W (h.below hW (Nat.le_refl _)) (by omega) (fun j hj => by rw [g.len j (by omega)]; have := g.w6; omega))
      have hq : ((n : Int) == 1) = false := by simp; omega
      have hkn : k < n := by omega
      have Hkn := hid_ hkn
      have Hlen := hid_ hlen
      clear hE HR h hlen g h1 hp0 hp1
      rw [HE'.out, HR'.out]
      go_enter Try.func57, Try.ntmps57
      go_wp2_with (first
        | (go_at_call 85; (with_reducible refine (HV.out _ (below_alloc _ _) _ _ _ (IntsAt.one _ _ _)).mono ?_); rintro e w2 ⟨rfl, rfl⟩)
        | (go_at_call 91; (with_reducible refine (HC.out _ (below_alloc _ _)).mono ?_); rintro e w3 ⟨v3, us, rfl, ho3, hb3⟩; obtain ⟨g3, cap3, rfl, hc1, hc2, hg1, hg2⟩ := own_form7 ho3.top (by rw [Hlen.out]; omega); rw [Hlen.out] at ho3 hc1 ⊢; have htop := ho3.top; rw [Hlen.out] at htop; have HD := hid_ (deleteRow1_calls (i := k) htop ho3.one Hkn.out hc1); have Ho3 := hid_ ho3; have Hb3 := hid_ hb3; have Hg1 := hid_ hg1; clear ho3 hb3 hg1 hg2 htop hc1)
        | (go_at_call 93; (with_reducible refine HD.out.mono ?_); rintro e w4 ⟨rfl, ho4, hg4⟩; have Ho4 := hid_ (Ho3.out.delete (by rw [Hlen.out]; exact Hkn.out) ho4 Hlen.out.symm hg4); have Hb4 := hid_ (Hb3.out.grown hg4 Hb3.out.size (fun k9 hk9 => by injection hk9 with hk9; rw [← hk9]; exact Hg1.out)); clear ho4 hg4))
      go_ret2
      exact ⟨_, _, rfl, Ho4.out.base (below_alloc w (.cells #[.int .i64 (k : Int)] 3)).size, (below_alloc w (.cells #[.int .i64 (k : Int)] 3)).trans (Hb4.out.mono (below_alloc _ _).size)⟩
  · have HE' : Hid (E = copiesE T [i]) := hid_ (HE.out.trans (if_neg he))
    have HR' : Hid (R = []) := hid_ (HR.out.trans (if_neg (by rw [HE'.out]; exact he)))
    have hq : (copiesE T [i] != 0) = true := by simpa using he
    rw [HE'.out, HR'.out]
    generalize copiesE T [i] = x at *
    clear he HE HR
    go_enter Try.func57, Try.ntmps57
    go_wp2_with (go_at_call 85; (with_reducible refine (HV.out _ (below_alloc _ _) _ _ _ (IntsAt.one _ _ _)).mono ?_); rintro e w2 ⟨rfl, rfl⟩)
    go_ret2
    exact ⟨_, [], rfl, OwnRw.nil _ _ (by decide), below_alloc _ _⟩
end Go.Proofs.Ytdhmcmkpeaoigaa
