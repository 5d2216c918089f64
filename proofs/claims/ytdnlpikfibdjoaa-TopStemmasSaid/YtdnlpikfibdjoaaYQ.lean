import Derived.Test.YtdnlpikfibdjoaaYO
namespace Go.Proofs.Ytdnlpikfibdjoaa
open Go.RowKit Go.Proofs.Kv Go

/-! ### the law StemmaWithout -/
end Go.Proofs.Ytdnlpikfibdjoaa
