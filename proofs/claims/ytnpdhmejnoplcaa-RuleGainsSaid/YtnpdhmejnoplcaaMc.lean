import Derived.Test.YtnpdhmejnoplcaaPs
import Derived.Test.YtnpdhmejnoplcaaRk
import Derived.Test.YtnpdhmejnoplcaaPk
namespace Go.Proofs.Ytnpdhmejnoplcaa
open Go.RowKit Go.Proofs.Kv

/-! ### words that are made are words; what Gain answers -/
theorem isWord_putAll {R : Rl} {l : List Int} (ho : isWord R.o = true) (hl : isWord l = true) : ∀ at_ : List Int, isWord (putAll R at_ l) = true
  | [] => hl
  | _ :: at_ => isWord_put (isWord_putAll ho hl at_) ho
theorem apV_ok {R : Rl} {l : List Int} {p : Int} (h : apE R l p = 0) (ho : isWord R.o = true) (hl : isWord l = true) : isWord (apV R l p) = true ∧ (apV R l p).length ≤ 8 := by
  unfold apE at h
  unfold apV
  cases hp : plB R.f R.le R.ri l p with
  | false => rw [hp] at h; cases h
  | true =>
    rw [hp, if_pos rfl] at h
    rw [if_pos rfl]
    unfold putErr at h
    unfold putRes
    by_cases h8 : 8 < (putAll R [p] l).length
    · rw [if_pos h8] at h; cases h
    · rw [if_neg h8]; exact ⟨isWord_putAll ho hl _, by omega⟩
def errGain (R S : Rl) (l : List Int) (p : Int) : Int := if errTwo R S = 0 then errApply R l p else errTwo R S
def resGain (R S : Rl) (l : List Int) (p : Int) : Int := if errGain R S l p = 0 then ((plP S (resApply R l p)).length : Int) - (plP S l).length else 0
def err3 (R S : Rl) (l : List Int) : Int := if errTwo R S = 0 then validW l else errTwo R S
theorem err3_ok {R S : Rl} {l : List Int} (h : err3 R S l = 0) : errTwo R S = 0 ∧ validW l = 0 := by
  unfold err3 at h
  by_cases h1 : errTwo R S = 0
  · rw [if_pos h1] at h; exact ⟨h1, h⟩
  · rw [if_neg h1] at h; exact absurd h h1
theorem err2_of3 {R S : Rl} {l : List Int} (h : err3 R S l = 0) : err2 R l = 0 := by
  obtain ⟨h1, h2⟩ := err3_ok h
  rw [err2, if_pos (errTwo_ok h1).1]; exact h2
theorem gain_yes {R S : Rl} {l : List Int} {p : Int} (h : err3 R S l = 0) : errGain R S l p = apE R l p ∧ resApply R l p = apV R l p := by
  rw [errGain, if_pos (err3_ok h).1, errApply, if_pos (err2_of3 h), resApply, if_pos (err2_of3 h)]
  exact ⟨rfl, rfl⟩
theorem gain_no {R S : Rl} {l : List Int} {p : Int} (h : err3 R S l ≠ 0) : errGain R S l p = err3 R S l ∧ resGain R S l p = 0 := by
  have : errGain R S l p = err3 R S l := by
    unfold errGain err3
    by_cases h1 : errTwo R S = 0
    · rw [if_pos h1, if_pos h1]
      unfold err3 at h
      rw [if_pos h1] at h
      have : err2 R l = validW l := by rw [err2, if_pos (errTwo_ok h1).1]
      rw [errApply, this, if_neg h]
    · rw [if_neg h1, if_neg h1]
  exact ⟨this, by rw [resGain, this, if_neg h]⟩
theorem or3_eq (a b c : Int) : orL [a, b, c] = if (if a = 0 then b else a) = 0 then c else (if a = 0 then b else a) := by
  simp only [orL]
  by_cases ha : a = 0 <;> by_cases hb : b = 0 <;> by_cases hc : c = 0 <;> simp [ha, hb, hc]
theorem or3_calls (R S : Rl) (l : List Int) (w : World) (T : TypeId) :
    Calls Try.prog 109 #[.slice (some ⟨w.heap.size, 0, none⟩) 3 3] (w.alloc (.cells #[.int .i64 (validR R), .int .i64 (validR S), .int .i64 (validW l)] T)) fun e w' => e = .returned (.int .i64 (err3 R S l)) ∧ w.alloc (.cells #[.int .i64 (validR R), .int .i64 (validR S), .int .i64 (validW l)] T) = w' := by
  have := or_calls _ 3 3 [validR R, validR S, validW l] _ (IntsAt.lit w [validR R, validR S, validW l] _ 3 T rfl rfl (by omega))
  rwa [or3_eq] at this
end Go.Proofs.Ytnpdhmejnoplcaa
