import Derived.Test.YtgpenbajhndhiaaVmn
import Derived.Test.YtgpenbajhndhiaaVH
namespace Go.Proofs.Ytgpenbajhndhiaa
open Go.RowKit Go.Proofs.Kv Go

/-! ### the law TagProves -/
end Go.Proofs.Ytgpenbajhndhiaa
