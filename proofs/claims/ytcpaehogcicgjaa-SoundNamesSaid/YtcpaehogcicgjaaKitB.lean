import Derived.Test.YtcpaehogcicgjaaLists
namespace Go.Proofs.Kv
open Go.RowKit
theorem MadeL.at_ {E : TypeId} {w w' : World} {v : Value} {L : List (List Int)} (h : MadeL E w w' v L) : ∃ a c, v = .slice a L.length c ∧ ListsAt w' a L.length c L := h.own.at_
end Go.Proofs.Kv
