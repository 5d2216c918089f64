import Derived.Test.YtdnlpikfibdjoaaY6
import Derived.Test.YtdnlpikfibdjoaaYy
namespace Go.Proofs.Ytdnlpikfibdjoaa
open Go.RowKit Go.Proofs.Kv

theorem areR_mk {R : List Int} (h : ∀ i, i < R.length → 0 ≤ R.getD i 0 ∧ R.getD i 0 ≤ 2) : areR R = true := areR_yes rfl fun j hj => by
  have := h j hj
  generalize R.getD j 0 = y at *
  simp [Within]; omega
end Go.Proofs.Ytdnlpikfibdjoaa
