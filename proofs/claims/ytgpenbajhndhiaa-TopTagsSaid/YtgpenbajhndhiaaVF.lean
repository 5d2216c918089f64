import Derived.Test.YtgpenbajhndhiaaVme
namespace Go.Proofs.Ytgpenbajhndhiaa
open Go.RowKit Go.Proofs.Kv Go

end Go.Proofs.Ytgpenbajhndhiaa
