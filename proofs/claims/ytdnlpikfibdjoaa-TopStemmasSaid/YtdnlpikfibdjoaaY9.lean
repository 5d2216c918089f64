import Derived.Test.YtdnlpikfibdjoaaY8
namespace Go.Proofs.Ytdnlpikfibdjoaa
open Go.RowKit Go.Proofs.Kv

/-! ### the laws StemmaFewest, StemmaReadings -/
theorem okRead_zero {T : List (List Int)} {X : Tr} {p : Int} (h : okRead T X p = false) : fewR T X p = 0 ∧ readL T X p = [] := by
  constructor
  · rw [fewR, if_neg (by rw [h]; decide)]
  · rw [readL, if_neg (by rw [h]; decide)]
end Go.Proofs.Ytdnlpikfibdjoaa
