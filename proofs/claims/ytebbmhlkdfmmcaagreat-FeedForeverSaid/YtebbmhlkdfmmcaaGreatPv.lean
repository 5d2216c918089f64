import Derived.Test.YtebbmhlkdfmmcaaGreatMbd
import Derived.Deep.RegionHeld3
import Derived.Laws.EntriesVeiled
namespace Go.Proofs.YtebbmhlkdfmmcaaGreat
open Go.RowKit Go.Proofs.Kv

/-! ### inTurn, slices.Equal -/
def TurnPost (w : World) (er : Int) (m : List Int) (e : Ending) (w' : World) : Prop :=
  ∃ a n c, e = .returned (.tuple #[.slice a n c, .int .i64 er]) ∧ IntsAt w' a n c m ∧ Below w.heap.size w w'
end Go.Proofs.YtebbmhlkdfmmcaaGreat
