import Derived.Test.YtoopgmoopmbfnaaRf3
import Derived.Test.YtoopgmoopmbfnaaKno
namespace Go.Proofs.Ytoopgmoopmbfnaa
open Go.RowKit Go.Proofs.Kv Go.Proofs.Snd

theorem find_mem {p : List Int → Bool} : ∀ {O : List (List Int)} {o : List Int}, O.find? p = some o → o ∈ O ∧ p o = true
  | [], _, h => by simp at h
  | x :: O, o, h => by
    rw [List.find?_cons] at h
    cases hp : p x with
    | true => rw [hp] at h; injection h with h; subst h; exact ⟨by simp, hp⟩
    | false => rw [hp] at h; have := find_mem h; exact ⟨by simp [this.1], this.2⟩
theorem order_good {m : Int} {F : List (List Int)} (h : ordOk m F = true) : ordErr m F (ordV m F) = 0 ∧ fitsRes m F (ordV m F) = true := by
  have he : famErr m F = 0 := by
    by_cases he : famErr m F = 0
    · exact he
    · simp [ordOk, he] at h
  obtain ⟨⟨h1, h6⟩, _⟩ := famErr_ok he
  rw [ordOk, decide_eq_true he, Bool.true_and, orderRes_eq he] at h
  obtain ⟨o, ho⟩ := Option.isSome_iff_exists.1 h
  have hv : ordV m F = o := by rw [ordV, if_pos he, orderRes_eq he, ho]; rfl
  obtain ⟨hm, hf⟩ := find_mem ho
  have hi := List.all_eq_true.1 (ords_ok (n := m.toNat) (by omega) (by omega)) o hm
  rw [show ((m.toNat : Nat) : Int) = m by omega] at hi
  have hoe : ordErr m F o = 0 := by rw [ordErr, if_pos he, if_pos hi]
  rw [hv]
  exact ⟨hoe, by rw [fitsRes, if_pos hoe]; exact hf⟩

/-! ### SoundOrders -/
end Go.Proofs.Ytoopgmoopmbfnaa
