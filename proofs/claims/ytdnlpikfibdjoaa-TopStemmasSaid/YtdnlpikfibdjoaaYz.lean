import Derived.Test.YtdnlpikfibdjoaaYy
namespace Go.Proofs.Ytdnlpikfibdjoaa
open Go.RowKit Go.Proofs.Kv

/-! ### the law StemmaConflicts -/
end Go.Proofs.Ytdnlpikfibdjoaa
