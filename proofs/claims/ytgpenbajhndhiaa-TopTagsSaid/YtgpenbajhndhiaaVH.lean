import Derived.Test.YtgpenbajhndhiaaVF
import Derived.Test.YtgpenbajhndhiaaVG
namespace Go.Proofs.Ytgpenbajhndhiaa
open Go.RowKit Go.Proofs.Kv Go

/-! ### the law TagChecks -/
end Go.Proofs.Ytgpenbajhndhiaa
