import Derived.Test.YtdnlpikfibdjoaaYW
import Derived.Shelf.Abstract
namespace Go.Proofs.Kv
open Go.RowKit Go
theorem OwnRw.topKept {E E1 : TypeId} {w w' : World} {B i : Nat} {v u : Value} {us : List Value} {L : List (List Int)} (h : OwnRw E E1 w B v us L) (hu : us[i]? = some u) (hg : w.grownBy w' u.ownBlock) : w'.ownsRow B E 1 v L.length us := by
  refine h.top.kept hg ?_
  by_cases hx : v.ownBlock = none
  · exact .inl hx
  · obtain ⟨b, hb⟩ := Option.ne_none_iff_exists'.1 hx
    exact .inr (by rw [hb]; exact fun q => h.diff hu b q.symm hb)
end Go.Proofs.Kv
namespace Go.Proofs.Ytdnlpikfibdjoaa
open Go.RowKit Go.Proofs.Kv Go

/-! ### Doubles of the program -/
def idxG (T : List (List Int)) (r : List Int) (G : List (List Int)) : Int := if fstG T r G < G.length then (fstG T r G : Int) else -1
def resDbl (T : List (List Int)) : List (List Int) := if validT T = 0 then dblG T T.length else []
end Go.Proofs.Ytdnlpikfibdjoaa
