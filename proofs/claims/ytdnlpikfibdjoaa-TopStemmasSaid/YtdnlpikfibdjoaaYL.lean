import Derived.Test.YtdnlpikfibdjoaaYK
namespace Go.Proofs.Ytdnlpikfibdjoaa
open Go.RowKit Go.Proofs.Kv Go

/-! ### Lose of the document -/
theorem erase_take_miss {α : Type} (T : List α) (d : α) {i k : Nat} (hk : k < T.length) (h : k ≠ i) : (T.take (k + 1)).eraseIdx i = (T.take k).eraseIdx i ++ [T.getD k d] := by
  rw [Kv.take_snoc T d k hk]
  have hl : (T.take k).length = k := by rw [List.length_take]; omega
  rcases Nat.lt_or_ge i k with q | q
  · rw [List.eraseIdx_append_of_lt_length (by omega)]
  · rw [List.eraseIdx_of_length_le (by rw [List.length_append, hl, List.length_singleton]; omega), List.eraseIdx_of_length_le (by omega)]
theorem erase_take_hit {α : Type} (T : List α) (d : α) {k : Nat} (hk : k < T.length) : (T.take (k + 1)).eraseIdx k = (T.take k).eraseIdx k := by
  rw [Kv.take_snoc T d k hk]
  have hl : (T.take k).length = k := by rw [List.length_take]; omega
  rw [List.eraseIdx_append_of_length_le (by omega), hl, Nat.sub_self, List.eraseIdx_of_length_le (l := T.take k) (by omega)]
  simp
end Go.Proofs.Ytdnlpikfibdjoaa
