import Derived.Test.YtdnlpikfibdjoaaZac
import Derived.Test.YtdnlpikfibdjoaaZ0
namespace Go.Proofs.Ytdnlpikfibdjoaa
open Go.RowKit Go.Proofs.Kv

/-! ### the smallest spec: the document's -/
/-! ### is a cell in a list -/
def hasL (L : List (List Int)) (c : List Int) : Bool := L.any fun d => Same d c
end Go.Proofs.Ytdnlpikfibdjoaa
