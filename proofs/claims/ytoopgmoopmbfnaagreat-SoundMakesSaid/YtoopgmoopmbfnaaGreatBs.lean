import Derived.Test.YtoopgmoopmbfnaaGreatFy
namespace Go.Proofs.YtoopgmoopmbfnaaGreat
open Go.RowKit Go.Proofs.Kv Go.Proofs.Snd

/-! ### slices.BinarySearchFunc over lists in ascending order -/
def BsPost (d : Bool) (w : World) (e : Ending) (w' : World) : Prop := ∃ i : Int, e = .returned (.tuple #[.int .i64 i, .bool d]) ∧ w = w'
end Go.Proofs.YtoopgmoopmbfnaaGreat
