import Derived.Test.YtebbmhlkdfmmcaaGreatRv
import Derived.Test.YtebbmhlkdfmmcaaGreatLd
import Derived.Deep.RegionHeld3
import Derived.Laws.EntriesVeiled
namespace Go.Proofs.YtebbmhlkdfmmcaaGreat
open Go.RowKit Go.Proofs.Kv

/-! ### the reference's Mirror, Same -/
end Go.Proofs.YtebbmhlkdfmmcaaGreat
