import Derived.Test.YthmnmpglnaegfaaYy
namespace Go.Proofs.Ythmnmpglnaegfaa
open Go.RowKit Go.Proofs.Kv

/-! ### the law StemmaConflicts -/
end Go.Proofs.Ythmnmpglnaegfaa
