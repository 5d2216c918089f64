import Derived.Test.YtpcpmdokgdbonaaVF
import Derived.Test.YtpcpmdokgdbonaaVG
namespace Go.Proofs.Ytpcpmdokgdbonaa
open Go.RowKit Go.Proofs.Kv Go

/-! ### the law TagChecks -/
end Go.Proofs.Ytpcpmdokgdbonaa
