/-
  No cell of these rows narrows 'for every input' (looked for: loops, veiled, ifaces, maps, wideKeys, modest, calm, conditions, laid).
  DERIVED. THE GIVEN ROWS OF THIS SEAT. 5 by the template 'for every input the law returns true; each argument reads behind the call as it read before'; 0 by the template 'total and deterministic' (their statements: YtgipkbiogldjpaaTotals.lean).
  GIVEN WITH THE SEED: the statements are not yours to turn. If you find one false, say at which input.
  Laid BY PROGRAM, IN A SANDBOX (cutbox-rows.mjs): the forced cells as the released guide's own fill.sh prints them over the translation d366f4972544f6fc… (all of the seat's roots in one cut). By AI agents, Wed Nov 11 2026. No macro, syntax, notation, axiom, sorry.
-/
import Derived.Test.YtgipkbiogldjpaaChecked
import GoSem.Claim
import GoSem.ClaimJoined
import GoSem.ClaimMapViews
import Derived.JoinedTies
import Derived.KernelRfl
namespace Go.Proofs.Ytgipkbiogldjpaa
/- THE CELL 'sum', in the pinned program and in every row, IS THE sha256 OF THE DUMP (.gsa) THAT YtgipkbiogldjpaaProg.lean LOADS. Nothing in Lean hashes anything: it is a label: what it is worth is what the hold of that sum in a sandbox is worth. -/
noncomputable def Try.pinned : Pinned := { name := "ytgipkbiogldjpaa", sum := "d366f4972544f6fc7fd9d9f5af8e2926359f220e5aff8c59e5f5bec50a5156a7", checked := Try.checked }
namespace Rows
def none {H : Type} : Left H := { results := [], args := [] }

/-- 'vyakaranalaw03.FeedReaches': WHATEVER THE INPUT: true; the input reads as it did. -/
def feedReachesSpec : ChangeSpec := { name := "feedReaches", fn := fun _ => fun
  | [d1, d2] => { results := [.lit (.bool true)], args := [d1, d2] }
  | _ => none }
def feedReachesRow : OpenClaim := { program := "ytgipkbiogldjpaa", sum := "d366f4972544f6fc7fd9d9f5af8e2926359f220e5aff8c59e5f5bec50a5156a7", func := "vyakarana/vyakaranalaw03.FeedReaches", spec := "feedReaches", inPlace := ["slices.overlaps[int]"], unfollowed := true, recurses := true, apart := false }
def FeedReachesSaid : Prop := feedReachesRow.holds Try.pinned (OpenSpec.ofChange feedReachesSpec)

/-- ITS FALSE NEIGHBOUR: 'it returns false'. Refute it at one input. -/
def feedReachesWrong : ChangeSpec := { name := "feedReaches", fn := fun _ => fun
  | [d1, d2] => { results := [.lit (.bool false)], args := [d1, d2] }
  | _ => none }
def FeedReachesWrongFalsely : Prop := feedReachesRow.holds Try.pinned (OpenSpec.ofChange feedReachesWrong)

/-- 'vyakaranalaw03.FeedFinds': WHATEVER THE INPUT: true; the input reads as it did. -/
def feedFindsSpec : ChangeSpec := { name := "feedFinds", fn := fun _ => fun
  | [d1, d2, d3] => { results := [.lit (.bool true)], args := [d1, d2, d3] }
  | _ => none }
def feedFindsRow : OpenClaim := { program := "ytgipkbiogldjpaa", sum := "d366f4972544f6fc7fd9d9f5af8e2926359f220e5aff8c59e5f5bec50a5156a7", func := "vyakarana/vyakaranalaw03.FeedFinds", spec := "feedFinds", inPlace := ["slices.overlaps[int]"], unfollowed := true, recurses := true, apart := false }
def FeedFindsSaid : Prop := feedFindsRow.holds Try.pinned (OpenSpec.ofChange feedFindsSpec)

/-- ITS FALSE NEIGHBOUR: 'it returns false'. Refute it at one input. -/
def feedFindsWrong : ChangeSpec := { name := "feedFinds", fn := fun _ => fun
  | [d1, d2, d3] => { results := [.lit (.bool false)], args := [d1, d2, d3] }
  | _ => none }
def FeedFindsWrongFalsely : Prop := feedFindsRow.holds Try.pinned (OpenSpec.ofChange feedFindsWrong)

/-- 'vyakaranalaw03.FeedHolds': WHATEVER THE INPUT: true; the input reads as it did. -/
def feedHoldsSpec : ChangeSpec := { name := "feedHolds", fn := fun _ => fun
  | [d1, d2, d3] => { results := [.lit (.bool true)], args := [d1, d2, d3] }
  | _ => none }
def feedHoldsRow : OpenClaim := { program := "ytgipkbiogldjpaa", sum := "d366f4972544f6fc7fd9d9f5af8e2926359f220e5aff8c59e5f5bec50a5156a7", func := "vyakarana/vyakaranalaw03.FeedHolds", spec := "feedHolds", inPlace := ["slices.overlaps[int]"], unfollowed := true, recurses := true, apart := false }
def FeedHoldsSaid : Prop := feedHoldsRow.holds Try.pinned (OpenSpec.ofChange feedHoldsSpec)

/-- ITS FALSE NEIGHBOUR: 'it returns false'. Refute it at one input. -/
def feedHoldsWrong : ChangeSpec := { name := "feedHolds", fn := fun _ => fun
  | [d1, d2, d3] => { results := [.lit (.bool false)], args := [d1, d2, d3] }
  | _ => none }
def FeedHoldsWrongFalsely : Prop := feedHoldsRow.holds Try.pinned (OpenSpec.ofChange feedHoldsWrong)

/-- 'vyakaranalaw03.FeedWithout': WHATEVER THE INPUT: true; the input reads as it did. -/
def feedWithoutSpec : ChangeSpec := { name := "feedWithout", fn := fun _ => fun
  | [d1, d2, d3] => { results := [.lit (.bool true)], args := [d1, d2, d3] }
  | _ => none }
def feedWithoutRow : OpenClaim := { program := "ytgipkbiogldjpaa", sum := "d366f4972544f6fc7fd9d9f5af8e2926359f220e5aff8c59e5f5bec50a5156a7", func := "vyakarana/vyakaranalaw03.FeedWithout", spec := "feedWithout", inPlace := ["slices.overlaps[int]"], unfollowed := true, recurses := true, apart := false }
def FeedWithoutSaid : Prop := feedWithoutRow.holds Try.pinned (OpenSpec.ofChange feedWithoutSpec)

/-- ITS FALSE NEIGHBOUR: 'it returns false'. Refute it at one input. -/
def feedWithoutWrong : ChangeSpec := { name := "feedWithout", fn := fun _ => fun
  | [d1, d2, d3] => { results := [.lit (.bool false)], args := [d1, d2, d3] }
  | _ => none }
def FeedWithoutWrongFalsely : Prop := feedWithoutRow.holds Try.pinned (OpenSpec.ofChange feedWithoutWrong)

/-- 'vyakaranalaw03.FeedUnused': WHATEVER THE INPUT: true; the input reads as it did. -/
def feedUnusedSpec : ChangeSpec := { name := "feedUnused", fn := fun _ => fun
  | [d1, d2, d3] => { results := [.lit (.bool true)], args := [d1, d2, d3] }
  | _ => none }
def feedUnusedRow : OpenClaim := { program := "ytgipkbiogldjpaa", sum := "d366f4972544f6fc7fd9d9f5af8e2926359f220e5aff8c59e5f5bec50a5156a7", func := "vyakarana/vyakaranalaw03.FeedUnused", spec := "feedUnused", inPlace := ["slices.overlaps[int]"], unfollowed := true, recurses := true, apart := false }
def FeedUnusedSaid : Prop := feedUnusedRow.holds Try.pinned (OpenSpec.ofChange feedUnusedSpec)

/-- ITS FALSE NEIGHBOUR: 'it returns false'. Refute it at one input. -/
def feedUnusedWrong : ChangeSpec := { name := "feedUnused", fn := fun _ => fun
  | [d1, d2, d3] => { results := [.lit (.bool false)], args := [d1, d2, d3] }
  | _ => none }
def FeedUnusedWrongFalsely : Prop := feedUnusedRow.holds Try.pinned (OpenSpec.ofChange feedUnusedWrong)

/- THE SECOND FORM. 'bulk': how many values and letters a reading holds, each counted each time it is reached (what is shared counts as often as it is met; a slice's spare places count too). A statement '..UptoSaid' is the law's where the arguments, and the package variables that the reading takes, are together of bulk at most 1048576: NARROWER than '..Said'. Prove '..Said' where nothing that the law and all that it calls make is longer than what came in: it says more and counts as full. Else prove '..UptoSaid'. A law counts once. -/
mutual
def uptoBulk {H : Type} : DataW H → Nat
  | .lit (.string bytes) => bytes.length + 1
  | .lit _ => 1
  | .nil => 1
  | .ptr d => uptoBulk d + 1
  | .slice elems spare => uptoBulkAll elems + uptoBulkAll spare + 1
  | .agg parts => uptoBulkAll parts + 1
  | .iface _ d => uptoBulk d + 1
  | .map entries => uptoBulkEntries entries + 1
  | .held _ => 1
def uptoBulkAll {H : Type} : List (DataW H) → Nat
  | [] => 0
  | d :: r => uptoBulk d + uptoBulkAll r
def uptoBulkEntries {H : Type} : List (Lit × DataW H) → Nat
  | [] => 0
  | x :: r => uptoBulkEntry x + uptoBulkEntries r
def uptoBulkEntry {H : Type} : Lit × DataW H → Nat
  | (.string bytes, d) => bytes.length + uptoBulk d + 1
  | (_, d) => uptoBulk d + 1
 end
def uptoSmall : (H : Type) → List (DataW H) → Bool := fun _ ds => decide (uptoBulkAll ds ≤ 1048576)
def OpenSpec.upto (s : _root_.Go.ChangeSpec) : _root_.Go.OpenSpec := { _root_.Go.OpenSpec.ofChange s with cond := some uptoSmall }

/-- 'vyakaranalaw03.FeedReaches', WHERE WHAT IT READS IS OF BULK AT MOST 1048576: true; the input reads as it did. -/
def feedReachesUptoRow : OpenClaim := { program := "ytgipkbiogldjpaa", sum := "d366f4972544f6fc7fd9d9f5af8e2926359f220e5aff8c59e5f5bec50a5156a7", func := "vyakarana/vyakaranalaw03.FeedReaches", spec := "feedReaches", inPlace := ["slices.overlaps[int]"], unfollowed := true, recurses := true, apart := false, narrowed := true }
def FeedReachesUptoSaid : Prop := feedReachesUptoRow.holds Try.pinned (OpenSpec.upto feedReachesSpec)

/-- 'vyakaranalaw03.FeedFinds', WHERE WHAT IT READS IS OF BULK AT MOST 1048576: true; the input reads as it did. -/
def feedFindsUptoRow : OpenClaim := { program := "ytgipkbiogldjpaa", sum := "d366f4972544f6fc7fd9d9f5af8e2926359f220e5aff8c59e5f5bec50a5156a7", func := "vyakarana/vyakaranalaw03.FeedFinds", spec := "feedFinds", inPlace := ["slices.overlaps[int]"], unfollowed := true, recurses := true, apart := false, narrowed := true }
def FeedFindsUptoSaid : Prop := feedFindsUptoRow.holds Try.pinned (OpenSpec.upto feedFindsSpec)

/-- 'vyakaranalaw03.FeedHolds', WHERE WHAT IT READS IS OF BULK AT MOST 1048576: true; the input reads as it did. -/
def feedHoldsUptoRow : OpenClaim := { program := "ytgipkbiogldjpaa", sum := "d366f4972544f6fc7fd9d9f5af8e2926359f220e5aff8c59e5f5bec50a5156a7", func := "vyakarana/vyakaranalaw03.FeedHolds", spec := "feedHolds", inPlace := ["slices.overlaps[int]"], unfollowed := true, recurses := true, apart := false, narrowed := true }
def FeedHoldsUptoSaid : Prop := feedHoldsUptoRow.holds Try.pinned (OpenSpec.upto feedHoldsSpec)

/-- 'vyakaranalaw03.FeedWithout', WHERE WHAT IT READS IS OF BULK AT MOST 1048576: true; the input reads as it did. -/
def feedWithoutUptoRow : OpenClaim := { program := "ytgipkbiogldjpaa", sum := "d366f4972544f6fc7fd9d9f5af8e2926359f220e5aff8c59e5f5bec50a5156a7", func := "vyakarana/vyakaranalaw03.FeedWithout", spec := "feedWithout", inPlace := ["slices.overlaps[int]"], unfollowed := true, recurses := true, apart := false, narrowed := true }
def FeedWithoutUptoSaid : Prop := feedWithoutUptoRow.holds Try.pinned (OpenSpec.upto feedWithoutSpec)

/-- 'vyakaranalaw03.FeedUnused', WHERE WHAT IT READS IS OF BULK AT MOST 1048576: true; the input reads as it did. -/
def feedUnusedUptoRow : OpenClaim := { program := "ytgipkbiogldjpaa", sum := "d366f4972544f6fc7fd9d9f5af8e2926359f220e5aff8c59e5f5bec50a5156a7", func := "vyakarana/vyakaranalaw03.FeedUnused", spec := "feedUnused", inPlace := ["slices.overlaps[int]"], unfollowed := true, recurses := true, apart := false, narrowed := true }
def FeedUnusedUptoSaid : Prop := feedUnusedUptoRow.holds Try.pinned (OpenSpec.upto feedUnusedSpec)

end Rows
end Go.Proofs.Ytgipkbiogldjpaa
