/-
  No cell of these rows narrows 'for every input' (looked for: loops, veiled, ifaces, maps, wideKeys, modest, calm, conditions, laid).
  DERIVED. THE GIVEN ROWS OF THIS SEAT. 10 by the template 'for every input the law returns true; each argument reads behind the call as it read before'; 0 by the template 'total and deterministic' (their statements: YtdabgoiipkmpaaaTotals.lean).
  GIVEN WITH THE SEED: the statements are not yours to turn. If you find one false, say at which input.
  Laid BY PROGRAM, IN A SANDBOX (cutbox-rows.mjs): the forced cells as the released guide's own fill.sh prints them over the translation 9616c5cdb95ab93b… (all of the seat's roots in one cut). By AI agents, Wed Nov 11 2026. No macro, syntax, notation, axiom, sorry.
-/
import Derived.Test.YtdabgoiipkmpaaaChecked
import GoSem.Claim
import GoSem.ClaimJoined
import GoSem.ClaimMapViews
import Derived.JoinedTies
import Derived.KernelRfl
namespace Go.Proofs.Ytdabgoiipkmpaaa
/- THE CELL 'sum', in the pinned program and in every row, IS THE sha256 OF THE DUMP (.gsa) THAT YtdabgoiipkmpaaaProg.lean LOADS. Nothing in Lean hashes anything: it is a label: what it is worth is what the hold of that sum in a sandbox is worth. -/
noncomputable def Try.pinned : Pinned := { name := "ytdabgoiipkmpaaa", sum := "9616c5cdb95ab93b17274d5fac67273cd5051a1d9449d95c6967007abd79d102", checked := Try.checked }
namespace Rows
def none {H : Type} : Left H := { results := [], args := [] }

/-- 'vyakaranalaw03.FeedSteps': WHATEVER THE INPUT: true; the input reads as it did. -/
def feedStepsSpec : ChangeSpec := { name := "feedSteps", fn := fun _ => fun
  | [d1, d2] => { results := [.lit (.bool true)], args := [d1, d2] }
  | _ => none }
def feedStepsRow : OpenClaim := { program := "ytdabgoiipkmpaaa", sum := "9616c5cdb95ab93b17274d5fac67273cd5051a1d9449d95c6967007abd79d102", func := "vyakarana/vyakaranalaw03.FeedSteps", spec := "feedSteps", inPlace := ["slices.overlaps[int]"], unfollowed := true, recurses := true, apart := false }
def FeedStepsSaid : Prop := feedStepsRow.holds Try.pinned (OpenSpec.ofChange feedStepsSpec)

/-- ITS FALSE NEIGHBOUR: 'it returns false'. Refute it at one input. -/
def feedStepsWrong : ChangeSpec := { name := "feedSteps", fn := fun _ => fun
  | [d1, d2] => { results := [.lit (.bool false)], args := [d1, d2] }
  | _ => none }
def FeedStepsWrongFalsely : Prop := feedStepsRow.holds Try.pinned (OpenSpec.ofChange feedStepsWrong)

/-- 'vyakaranalaw03.FeedNexts': WHATEVER THE INPUT: true; the input reads as it did. -/
def feedNextsSpec : ChangeSpec := { name := "feedNexts", fn := fun _ => fun
  | [d1, d2] => { results := [.lit (.bool true)], args := [d1, d2] }
  | _ => none }
def feedNextsRow : OpenClaim := { program := "ytdabgoiipkmpaaa", sum := "9616c5cdb95ab93b17274d5fac67273cd5051a1d9449d95c6967007abd79d102", func := "vyakarana/vyakaranalaw03.FeedNexts", spec := "feedNexts", inPlace := ["slices.overlaps[int]"], unfollowed := true, recurses := true, apart := false }
def FeedNextsSaid : Prop := feedNextsRow.holds Try.pinned (OpenSpec.ofChange feedNextsSpec)

/-- ITS FALSE NEIGHBOUR: 'it returns false'. Refute it at one input. -/
def feedNextsWrong : ChangeSpec := { name := "feedNexts", fn := fun _ => fun
  | [d1, d2] => { results := [.lit (.bool false)], args := [d1, d2] }
  | _ => none }
def FeedNextsWrongFalsely : Prop := feedNextsRow.holds Try.pinned (OpenSpec.ofChange feedNextsWrong)

/-- 'vyakaranalaw03.FeedReaches': WHATEVER THE INPUT: true; the input reads as it did. -/
def feedReachesSpec : ChangeSpec := { name := "feedReaches", fn := fun _ => fun
  | [d1, d2] => { results := [.lit (.bool true)], args := [d1, d2] }
  | _ => none }
def feedReachesRow : OpenClaim := { program := "ytdabgoiipkmpaaa", sum := "9616c5cdb95ab93b17274d5fac67273cd5051a1d9449d95c6967007abd79d102", func := "vyakarana/vyakaranalaw03.FeedReaches", spec := "feedReaches", inPlace := ["slices.overlaps[int]"], unfollowed := true, recurses := true, apart := false }
def FeedReachesSaid : Prop := feedReachesRow.holds Try.pinned (OpenSpec.ofChange feedReachesSpec)

/-- ITS FALSE NEIGHBOUR: 'it returns false'. Refute it at one input. -/
def feedReachesWrong : ChangeSpec := { name := "feedReaches", fn := fun _ => fun
  | [d1, d2] => { results := [.lit (.bool false)], args := [d1, d2] }
  | _ => none }
def FeedReachesWrongFalsely : Prop := feedReachesRow.holds Try.pinned (OpenSpec.ofChange feedReachesWrong)

/-- 'vyakaranalaw03.FeedPaths': WHATEVER THE INPUT: true; the input reads as it did. -/
def feedPathsSpec : ChangeSpec := { name := "feedPaths", fn := fun _ => fun
  | [d1, d2, d3] => { results := [.lit (.bool true)], args := [d1, d2, d3] }
  | _ => none }
def feedPathsRow : OpenClaim := { program := "ytdabgoiipkmpaaa", sum := "9616c5cdb95ab93b17274d5fac67273cd5051a1d9449d95c6967007abd79d102", func := "vyakarana/vyakaranalaw03.FeedPaths", spec := "feedPaths", inPlace := ["slices.overlaps[int]"], unfollowed := true, recurses := true, apart := false }
def FeedPathsSaid : Prop := feedPathsRow.holds Try.pinned (OpenSpec.ofChange feedPathsSpec)

/-- ITS FALSE NEIGHBOUR: 'it returns false'. Refute it at one input. -/
def feedPathsWrong : ChangeSpec := { name := "feedPaths", fn := fun _ => fun
  | [d1, d2, d3] => { results := [.lit (.bool false)], args := [d1, d2, d3] }
  | _ => none }
def FeedPathsWrongFalsely : Prop := feedPathsRow.holds Try.pinned (OpenSpec.ofChange feedPathsWrong)

/-- 'vyakaranalaw03.FeedFinds': WHATEVER THE INPUT: true; the input reads as it did. -/
def feedFindsSpec : ChangeSpec := { name := "feedFinds", fn := fun _ => fun
  | [d1, d2, d3] => { results := [.lit (.bool true)], args := [d1, d2, d3] }
  | _ => none }
def feedFindsRow : OpenClaim := { program := "ytdabgoiipkmpaaa", sum := "9616c5cdb95ab93b17274d5fac67273cd5051a1d9449d95c6967007abd79d102", func := "vyakarana/vyakaranalaw03.FeedFinds", spec := "feedFinds", inPlace := ["slices.overlaps[int]"], unfollowed := true, recurses := true, apart := false }
def FeedFindsSaid : Prop := feedFindsRow.holds Try.pinned (OpenSpec.ofChange feedFindsSpec)

/-- ITS FALSE NEIGHBOUR: 'it returns false'. Refute it at one input. -/
def feedFindsWrong : ChangeSpec := { name := "feedFinds", fn := fun _ => fun
  | [d1, d2, d3] => { results := [.lit (.bool false)], args := [d1, d2, d3] }
  | _ => none }
def FeedFindsWrongFalsely : Prop := feedFindsRow.holds Try.pinned (OpenSpec.ofChange feedFindsWrong)

/-- 'vyakaranalaw03.FeedWeights': WHATEVER THE INPUT: true; the input reads as it did. -/
def feedWeightsSpec : ChangeSpec := { name := "feedWeights", fn := fun _ => fun
  | [d] => { results := [.lit (.bool true)], args := [d] }
  | _ => none }
def feedWeightsRow : OpenClaim := { program := "ytdabgoiipkmpaaa", sum := "9616c5cdb95ab93b17274d5fac67273cd5051a1d9449d95c6967007abd79d102", func := "vyakarana/vyakaranalaw03.FeedWeights", spec := "feedWeights", inPlace := ["slices.overlaps[int]"], unfollowed := true, recurses := true, apart := false }
def FeedWeightsSaid : Prop := feedWeightsRow.holds Try.pinned (OpenSpec.ofChange feedWeightsSpec)

/-- ITS FALSE NEIGHBOUR: 'it returns false'. Refute it at one input. -/
def feedWeightsWrong : ChangeSpec := { name := "feedWeights", fn := fun _ => fun
  | [d] => { results := [.lit (.bool false)], args := [d] }
  | _ => none }
def FeedWeightsWrongFalsely : Prop := feedWeightsRow.holds Try.pinned (OpenSpec.ofChange feedWeightsWrong)

/-- 'vyakaranalaw03.FeedHolds': WHATEVER THE INPUT: true; the input reads as it did. -/
def feedHoldsSpec : ChangeSpec := { name := "feedHolds", fn := fun _ => fun
  | [d1, d2, d3] => { results := [.lit (.bool true)], args := [d1, d2, d3] }
  | _ => none }
def feedHoldsRow : OpenClaim := { program := "ytdabgoiipkmpaaa", sum := "9616c5cdb95ab93b17274d5fac67273cd5051a1d9449d95c6967007abd79d102", func := "vyakarana/vyakaranalaw03.FeedHolds", spec := "feedHolds", inPlace := ["slices.overlaps[int]"], unfollowed := true, recurses := true, apart := false }
def FeedHoldsSaid : Prop := feedHoldsRow.holds Try.pinned (OpenSpec.ofChange feedHoldsSpec)

/-- ITS FALSE NEIGHBOUR: 'it returns false'. Refute it at one input. -/
def feedHoldsWrong : ChangeSpec := { name := "feedHolds", fn := fun _ => fun
  | [d1, d2, d3] => { results := [.lit (.bool false)], args := [d1, d2, d3] }
  | _ => none }
def FeedHoldsWrongFalsely : Prop := feedHoldsRow.holds Try.pinned (OpenSpec.ofChange feedHoldsWrong)

/-- 'vyakaranalaw03.FeedWithout': WHATEVER THE INPUT: true; the input reads as it did. -/
def feedWithoutSpec : ChangeSpec := { name := "feedWithout", fn := fun _ => fun
  | [d1, d2, d3] => { results := [.lit (.bool true)], args := [d1, d2, d3] }
  | _ => none }
def feedWithoutRow : OpenClaim := { program := "ytdabgoiipkmpaaa", sum := "9616c5cdb95ab93b17274d5fac67273cd5051a1d9449d95c6967007abd79d102", func := "vyakarana/vyakaranalaw03.FeedWithout", spec := "feedWithout", inPlace := ["slices.overlaps[int]"], unfollowed := true, recurses := true, apart := false }
def FeedWithoutSaid : Prop := feedWithoutRow.holds Try.pinned (OpenSpec.ofChange feedWithoutSpec)

/-- ITS FALSE NEIGHBOUR: 'it returns false'. Refute it at one input. -/
def feedWithoutWrong : ChangeSpec := { name := "feedWithout", fn := fun _ => fun
  | [d1, d2, d3] => { results := [.lit (.bool false)], args := [d1, d2, d3] }
  | _ => none }
def FeedWithoutWrongFalsely : Prop := feedWithoutRow.holds Try.pinned (OpenSpec.ofChange feedWithoutWrong)

/-- 'vyakaranalaw03.FeedUnused': WHATEVER THE INPUT: true; the input reads as it did. -/
def feedUnusedSpec : ChangeSpec := { name := "feedUnused", fn := fun _ => fun
  | [d1, d2, d3] => { results := [.lit (.bool true)], args := [d1, d2, d3] }
  | _ => none }
def feedUnusedRow : OpenClaim := { program := "ytdabgoiipkmpaaa", sum := "9616c5cdb95ab93b17274d5fac67273cd5051a1d9449d95c6967007abd79d102", func := "vyakarana/vyakaranalaw03.FeedUnused", spec := "feedUnused", inPlace := ["slices.overlaps[int]"], unfollowed := true, recurses := true, apart := false }
def FeedUnusedSaid : Prop := feedUnusedRow.holds Try.pinned (OpenSpec.ofChange feedUnusedSpec)

/-- ITS FALSE NEIGHBOUR: 'it returns false'. Refute it at one input. -/
def feedUnusedWrong : ChangeSpec := { name := "feedUnused", fn := fun _ => fun
  | [d1, d2, d3] => { results := [.lit (.bool false)], args := [d1, d2, d3] }
  | _ => none }
def FeedUnusedWrongFalsely : Prop := feedUnusedRow.holds Try.pinned (OpenSpec.ofChange feedUnusedWrong)

/-- 'vyakaranatop.TopFeeds': WHATEVER THE INPUT: true; the input reads as it did. -/
def topFeedsSpec : ChangeSpec := { name := "topFeeds", fn := fun _ => fun
  | [d1, d2, d3] => { results := [.lit (.bool true)], args := [d1, d2, d3] }
  | _ => none }
def topFeedsRow : OpenClaim := { program := "ytdabgoiipkmpaaa", sum := "9616c5cdb95ab93b17274d5fac67273cd5051a1d9449d95c6967007abd79d102", func := "vyakarana/vyakaranatop.TopFeeds", spec := "topFeeds", inPlace := ["slices.overlaps[int]"], unfollowed := true, recurses := true, apart := false }
def TopFeedsSaid : Prop := topFeedsRow.holds Try.pinned (OpenSpec.ofChange topFeedsSpec)

/-- ITS FALSE NEIGHBOUR: 'it returns false'. Refute it at one input. -/
def topFeedsWrong : ChangeSpec := { name := "topFeeds", fn := fun _ => fun
  | [d1, d2, d3] => { results := [.lit (.bool false)], args := [d1, d2, d3] }
  | _ => none }
def TopFeedsWrongFalsely : Prop := topFeedsRow.holds Try.pinned (OpenSpec.ofChange topFeedsWrong)

/- THE SECOND FORM. 'bulk': how many values and letters a reading holds, each counted each time it is reached (what is shared counts as often as it is met; a slice's spare places count too). A statement '..UptoSaid' is the law's where the arguments, and the package variables that the reading takes, are together of bulk at most 1048576: NARROWER than '..Said'. Prove '..Said' where nothing that the law and all that it calls make is longer than what came in: it says more and counts as full. Else prove '..UptoSaid'. A law counts once. -/
mutual
def uptoBulk {H : Type} : DataW H → Nat
  | .lit (.string bytes) => bytes.length + 1
  | .lit _ => 1
  | .nil => 1
  | .ptr d => uptoBulk d + 1
  | .slice elems spare => uptoBulkAll elems + uptoBulkAll spare + 1
  | .agg parts => uptoBulkAll parts + 1
  | .iface _ d => uptoBulk d + 1
  | .map entries => uptoBulkEntries entries + 1
  | .held _ => 1
def uptoBulkAll {H : Type} : List (DataW H) → Nat
  | [] => 0
  | d :: r => uptoBulk d + uptoBulkAll r
def uptoBulkEntries {H : Type} : List (Lit × DataW H) → Nat
  | [] => 0
  | x :: r => uptoBulkEntry x + uptoBulkEntries r
def uptoBulkEntry {H : Type} : Lit × DataW H → Nat
  | (.string bytes, d) => bytes.length + uptoBulk d + 1
  | (_, d) => uptoBulk d + 1
 end
def uptoSmall : (H : Type) → List (DataW H) → Bool := fun _ ds => decide (uptoBulkAll ds ≤ 1048576)
def OpenSpec.upto (s : _root_.Go.ChangeSpec) : _root_.Go.OpenSpec := { _root_.Go.OpenSpec.ofChange s with cond := some uptoSmall }

/-- 'vyakaranalaw03.FeedSteps', WHERE WHAT IT READS IS OF BULK AT MOST 1048576: true; the input reads as it did. -/
def feedStepsUptoRow : OpenClaim := { program := "ytdabgoiipkmpaaa", sum := "9616c5cdb95ab93b17274d5fac67273cd5051a1d9449d95c6967007abd79d102", func := "vyakarana/vyakaranalaw03.FeedSteps", spec := "feedSteps", inPlace := ["slices.overlaps[int]"], unfollowed := true, recurses := true, apart := false, narrowed := true }
def FeedStepsUptoSaid : Prop := feedStepsUptoRow.holds Try.pinned (OpenSpec.upto feedStepsSpec)

/-- 'vyakaranalaw03.FeedNexts', WHERE WHAT IT READS IS OF BULK AT MOST 1048576: true; the input reads as it did. -/
def feedNextsUptoRow : OpenClaim := { program := "ytdabgoiipkmpaaa", sum := "9616c5cdb95ab93b17274d5fac67273cd5051a1d9449d95c6967007abd79d102", func := "vyakarana/vyakaranalaw03.FeedNexts", spec := "feedNexts", inPlace := ["slices.overlaps[int]"], unfollowed := true, recurses := true, apart := false, narrowed := true }
def FeedNextsUptoSaid : Prop := feedNextsUptoRow.holds Try.pinned (OpenSpec.upto feedNextsSpec)

/-- 'vyakaranalaw03.FeedReaches', WHERE WHAT IT READS IS OF BULK AT MOST 1048576: true; the input reads as it did. -/
def feedReachesUptoRow : OpenClaim := { program := "ytdabgoiipkmpaaa", sum := "9616c5cdb95ab93b17274d5fac67273cd5051a1d9449d95c6967007abd79d102", func := "vyakarana/vyakaranalaw03.FeedReaches", spec := "feedReaches", inPlace := ["slices.overlaps[int]"], unfollowed := true, recurses := true, apart := false, narrowed := true }
def FeedReachesUptoSaid : Prop := feedReachesUptoRow.holds Try.pinned (OpenSpec.upto feedReachesSpec)

/-- 'vyakaranalaw03.FeedPaths', WHERE WHAT IT READS IS OF BULK AT MOST 1048576: true; the input reads as it did. -/
def feedPathsUptoRow : OpenClaim := { program := "ytdabgoiipkmpaaa", sum := "9616c5cdb95ab93b17274d5fac67273cd5051a1d9449d95c6967007abd79d102", func := "vyakarana/vyakaranalaw03.FeedPaths", spec := "feedPaths", inPlace := ["slices.overlaps[int]"], unfollowed := true, recurses := true, apart := false, narrowed := true }
def FeedPathsUptoSaid : Prop := feedPathsUptoRow.holds Try.pinned (OpenSpec.upto feedPathsSpec)

/-- 'vyakaranalaw03.FeedFinds', WHERE WHAT IT READS IS OF BULK AT MOST 1048576: true; the input reads as it did. -/
def feedFindsUptoRow : OpenClaim := { program := "ytdabgoiipkmpaaa", sum := "9616c5cdb95ab93b17274d5fac67273cd5051a1d9449d95c6967007abd79d102", func := "vyakarana/vyakaranalaw03.FeedFinds", spec := "feedFinds", inPlace := ["slices.overlaps[int]"], unfollowed := true, recurses := true, apart := false, narrowed := true }
def FeedFindsUptoSaid : Prop := feedFindsUptoRow.holds Try.pinned (OpenSpec.upto feedFindsSpec)

/-- 'vyakaranalaw03.FeedWeights', WHERE WHAT IT READS IS OF BULK AT MOST 1048576: true; the input reads as it did. -/
def feedWeightsUptoRow : OpenClaim := { program := "ytdabgoiipkmpaaa", sum := "9616c5cdb95ab93b17274d5fac67273cd5051a1d9449d95c6967007abd79d102", func := "vyakarana/vyakaranalaw03.FeedWeights", spec := "feedWeights", inPlace := ["slices.overlaps[int]"], unfollowed := true, recurses := true, apart := false, narrowed := true }
def FeedWeightsUptoSaid : Prop := feedWeightsUptoRow.holds Try.pinned (OpenSpec.upto feedWeightsSpec)

/-- 'vyakaranalaw03.FeedHolds', WHERE WHAT IT READS IS OF BULK AT MOST 1048576: true; the input reads as it did. -/
def feedHoldsUptoRow : OpenClaim := { program := "ytdabgoiipkmpaaa", sum := "9616c5cdb95ab93b17274d5fac67273cd5051a1d9449d95c6967007abd79d102", func := "vyakarana/vyakaranalaw03.FeedHolds", spec := "feedHolds", inPlace := ["slices.overlaps[int]"], unfollowed := true, recurses := true, apart := false, narrowed := true }
def FeedHoldsUptoSaid : Prop := feedHoldsUptoRow.holds Try.pinned (OpenSpec.upto feedHoldsSpec)

/-- 'vyakaranalaw03.FeedWithout', WHERE WHAT IT READS IS OF BULK AT MOST 1048576: true; the input reads as it did. -/
def feedWithoutUptoRow : OpenClaim := { program := "ytdabgoiipkmpaaa", sum := "9616c5cdb95ab93b17274d5fac67273cd5051a1d9449d95c6967007abd79d102", func := "vyakarana/vyakaranalaw03.FeedWithout", spec := "feedWithout", inPlace := ["slices.overlaps[int]"], unfollowed := true, recurses := true, apart := false, narrowed := true }
def FeedWithoutUptoSaid : Prop := feedWithoutUptoRow.holds Try.pinned (OpenSpec.upto feedWithoutSpec)

/-- 'vyakaranalaw03.FeedUnused', WHERE WHAT IT READS IS OF BULK AT MOST 1048576: true; the input reads as it did. -/
def feedUnusedUptoRow : OpenClaim := { program := "ytdabgoiipkmpaaa", sum := "9616c5cdb95ab93b17274d5fac67273cd5051a1d9449d95c6967007abd79d102", func := "vyakarana/vyakaranalaw03.FeedUnused", spec := "feedUnused", inPlace := ["slices.overlaps[int]"], unfollowed := true, recurses := true, apart := false, narrowed := true }
def FeedUnusedUptoSaid : Prop := feedUnusedUptoRow.holds Try.pinned (OpenSpec.upto feedUnusedSpec)

/-- 'vyakaranatop.TopFeeds', WHERE WHAT IT READS IS OF BULK AT MOST 1048576: true; the input reads as it did. -/
def topFeedsUptoRow : OpenClaim := { program := "ytdabgoiipkmpaaa", sum := "9616c5cdb95ab93b17274d5fac67273cd5051a1d9449d95c6967007abd79d102", func := "vyakarana/vyakaranatop.TopFeeds", spec := "topFeeds", inPlace := ["slices.overlaps[int]"], unfollowed := true, recurses := true, apart := false, narrowed := true }
def TopFeedsUptoSaid : Prop := topFeedsUptoRow.holds Try.pinned (OpenSpec.upto topFeedsSpec)

end Rows
end Go.Proofs.Ytdabgoiipkmpaaa
