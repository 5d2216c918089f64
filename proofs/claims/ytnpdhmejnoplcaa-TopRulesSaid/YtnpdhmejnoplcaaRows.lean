/-
  No cell of these rows narrows 'for every input' (looked for: loops, veiled, ifaces, maps, wideKeys, modest, calm, conditions, laid).
  DERIVED. THE GIVEN ROWS OF THIS SEAT. 25 by the template 'for every input the law returns true; each argument reads behind the call as it read before'; 0 by the template 'total and deterministic' (their statements: YtnpdhmejnoplcaaTotals.lean).
  GIVEN WITH THE SEED: the statements are not yours to turn. If you find one false, say at which input.
  Laid BY PROGRAM, IN A SANDBOX (cutbox-rows.mjs): the forced cells as the released guide's own fill.sh prints them over the translation ee6318b9e7f7f364… (all of the seat's roots in one cut). By AI agents, Wed Nov 11 2026. No macro, syntax, notation, axiom, sorry.
-/
import Derived.Test.YtnpdhmejnoplcaaChecked
import GoSem.Claim
import GoSem.ClaimJoined
import GoSem.ClaimMapViews
import Derived.JoinedTies
import Derived.KernelRfl
namespace Go.Proofs.Ytnpdhmejnoplcaa
/- THE CELL 'sum', in the pinned program and in every row, IS THE sha256 OF THE DUMP (.gsa) THAT YtnpdhmejnoplcaaProg.lean LOADS. Nothing in Lean hashes anything: it is a label: what it is worth is what the hold of that sum in a sandbox is worth. -/
noncomputable def Try.pinned : Pinned := { name := "ytnpdhmejnoplcaa", sum := "ee6318b9e7f7f364ae4543dcb7de51686c1ef67ac882008ac9cca693201ea261", checked := Try.checked }
namespace Rows
def none {H : Type} : Left H := { results := [], args := [] }

/-- 'vyakaranalaw02.RulePlaces': WHATEVER THE INPUT: true; the input reads as it did. -/
def rulePlacesSpec : ChangeSpec := { name := "rulePlaces", fn := fun _ => fun
  | [d1, d2] => { results := [.lit (.bool true)], args := [d1, d2] }
  | _ => none }
def rulePlacesRow : OpenClaim := { program := "ytnpdhmejnoplcaa", sum := "ee6318b9e7f7f364ae4543dcb7de51686c1ef67ac882008ac9cca693201ea261", func := "vyakarana/vyakaranalaw02.RulePlaces", spec := "rulePlaces", inPlace := ["slices.overlaps[int]"], unfollowed := true, recurses := true, apart := false }
def RulePlacesSaid : Prop := rulePlacesRow.holds Try.pinned (OpenSpec.ofChange rulePlacesSpec)

/-- ITS FALSE NEIGHBOUR: 'it returns false'. Refute it at one input. -/
def rulePlacesWrong : ChangeSpec := { name := "rulePlaces", fn := fun _ => fun
  | [d1, d2] => { results := [.lit (.bool false)], args := [d1, d2] }
  | _ => none }
def RulePlacesWrongFalsely : Prop := rulePlacesRow.holds Try.pinned (OpenSpec.ofChange rulePlacesWrong)

/-- 'vyakaranalaw02.RuleApplies': WHATEVER THE INPUT: true; the input reads as it did. -/
def ruleAppliesSpec : ChangeSpec := { name := "ruleApplies", fn := fun _ => fun
  | [d1, d2, d3] => { results := [.lit (.bool true)], args := [d1, d2, d3] }
  | _ => none }
def ruleAppliesRow : OpenClaim := { program := "ytnpdhmejnoplcaa", sum := "ee6318b9e7f7f364ae4543dcb7de51686c1ef67ac882008ac9cca693201ea261", func := "vyakarana/vyakaranalaw02.RuleApplies", spec := "ruleApplies", inPlace := ["slices.overlaps[int]"], unfollowed := true, recurses := true, apart := false }
def RuleAppliesSaid : Prop := ruleAppliesRow.holds Try.pinned (OpenSpec.ofChange ruleAppliesSpec)

/-- ITS FALSE NEIGHBOUR: 'it returns false'. Refute it at one input. -/
def ruleAppliesWrong : ChangeSpec := { name := "ruleApplies", fn := fun _ => fun
  | [d1, d2, d3] => { results := [.lit (.bool false)], args := [d1, d2, d3] }
  | _ => none }
def RuleAppliesWrongFalsely : Prop := ruleAppliesRow.holds Try.pinned (OpenSpec.ofChange ruleAppliesWrong)

/-- 'vyakaranalaw02.RuleFirsts': WHATEVER THE INPUT: true; the input reads as it did. -/
def ruleFirstsSpec : ChangeSpec := { name := "ruleFirsts", fn := fun _ => fun
  | [d1, d2] => { results := [.lit (.bool true)], args := [d1, d2] }
  | _ => none }
def ruleFirstsRow : OpenClaim := { program := "ytnpdhmejnoplcaa", sum := "ee6318b9e7f7f364ae4543dcb7de51686c1ef67ac882008ac9cca693201ea261", func := "vyakarana/vyakaranalaw02.RuleFirsts", spec := "ruleFirsts", inPlace := ["slices.overlaps[int]"], unfollowed := true, recurses := true, apart := false }
def RuleFirstsSaid : Prop := ruleFirstsRow.holds Try.pinned (OpenSpec.ofChange ruleFirstsSpec)

/-- ITS FALSE NEIGHBOUR: 'it returns false'. Refute it at one input. -/
def ruleFirstsWrong : ChangeSpec := { name := "ruleFirsts", fn := fun _ => fun
  | [d1, d2] => { results := [.lit (.bool false)], args := [d1, d2] }
  | _ => none }
def RuleFirstsWrongFalsely : Prop := ruleFirstsRow.holds Try.pinned (OpenSpec.ofChange ruleFirstsWrong)

/-- 'vyakaranalaw02.RuleAll': WHATEVER THE INPUT: true; the input reads as it did. -/
def ruleAllSpec : ChangeSpec := { name := "ruleAll", fn := fun _ => fun
  | [d1, d2] => { results := [.lit (.bool true)], args := [d1, d2] }
  | _ => none }
def ruleAllRow : OpenClaim := { program := "ytnpdhmejnoplcaa", sum := "ee6318b9e7f7f364ae4543dcb7de51686c1ef67ac882008ac9cca693201ea261", func := "vyakarana/vyakaranalaw02.RuleAll", spec := "ruleAll", inPlace := ["slices.overlaps[int]"], unfollowed := true, recurses := true, apart := false }
def RuleAllSaid : Prop := ruleAllRow.holds Try.pinned (OpenSpec.ofChange ruleAllSpec)

/-- ITS FALSE NEIGHBOUR: 'it returns false'. Refute it at one input. -/
def ruleAllWrong : ChangeSpec := { name := "ruleAll", fn := fun _ => fun
  | [d1, d2] => { results := [.lit (.bool false)], args := [d1, d2] }
  | _ => none }
def RuleAllWrongFalsely : Prop := ruleAllRow.holds Try.pinned (OpenSpec.ofChange ruleAllWrong)

/-- 'vyakaranalaw02.RuleAlong': WHATEVER THE INPUT: true; the input reads as it did. -/
def ruleAlongSpec : ChangeSpec := { name := "ruleAlong", fn := fun _ => fun
  | [d1, d2] => { results := [.lit (.bool true)], args := [d1, d2] }
  | _ => none }
def ruleAlongRow : OpenClaim := { program := "ytnpdhmejnoplcaa", sum := "ee6318b9e7f7f364ae4543dcb7de51686c1ef67ac882008ac9cca693201ea261", func := "vyakarana/vyakaranalaw02.RuleAlong", spec := "ruleAlong", inPlace := ["slices.overlaps[int]"], unfollowed := true, recurses := true, apart := false }
def RuleAlongSaid : Prop := ruleAlongRow.holds Try.pinned (OpenSpec.ofChange ruleAlongSpec)

/-- ITS FALSE NEIGHBOUR: 'it returns false'. Refute it at one input. -/
def ruleAlongWrong : ChangeSpec := { name := "ruleAlong", fn := fun _ => fun
  | [d1, d2] => { results := [.lit (.bool false)], args := [d1, d2] }
  | _ => none }
def RuleAlongWrongFalsely : Prop := ruleAlongRow.holds Try.pinned (OpenSpec.ofChange ruleAlongWrong)

/-- 'vyakaranalaw02.RuleMays': WHATEVER THE INPUT: true; the input reads as it did. -/
def ruleMaysSpec : ChangeSpec := { name := "ruleMays", fn := fun _ => fun
  | [d1, d2, d3] => { results := [.lit (.bool true)], args := [d1, d2, d3] }
  | _ => none }
def ruleMaysRow : OpenClaim := { program := "ytnpdhmejnoplcaa", sum := "ee6318b9e7f7f364ae4543dcb7de51686c1ef67ac882008ac9cca693201ea261", func := "vyakarana/vyakaranalaw02.RuleMays", spec := "ruleMays", inPlace := ["slices.overlaps[int]"], unfollowed := true, recurses := true, apart := false }
def RuleMaysSaid : Prop := ruleMaysRow.holds Try.pinned (OpenSpec.ofChange ruleMaysSpec)

/-- ITS FALSE NEIGHBOUR: 'it returns false'. Refute it at one input. -/
def ruleMaysWrong : ChangeSpec := { name := "ruleMays", fn := fun _ => fun
  | [d1, d2, d3] => { results := [.lit (.bool false)], args := [d1, d2, d3] }
  | _ => none }
def RuleMaysWrongFalsely : Prop := ruleMaysRow.holds Try.pinned (OpenSpec.ofChange ruleMaysWrong)

/-- 'vyakaranalaw02.RuleSpecial': WHATEVER THE INPUT: true; the input reads as it did. -/
def ruleSpecialSpec : ChangeSpec := { name := "ruleSpecial", fn := fun _ => fun
  | [d1, d2] => { results := [.lit (.bool true)], args := [d1, d2] }
  | _ => none }
def ruleSpecialRow : OpenClaim := { program := "ytnpdhmejnoplcaa", sum := "ee6318b9e7f7f364ae4543dcb7de51686c1ef67ac882008ac9cca693201ea261", func := "vyakarana/vyakaranalaw02.RuleSpecial", spec := "ruleSpecial", inPlace := ["slices.overlaps[int]"], unfollowed := true, recurses := true, apart := false }
def RuleSpecialSaid : Prop := ruleSpecialRow.holds Try.pinned (OpenSpec.ofChange ruleSpecialSpec)

/-- ITS FALSE NEIGHBOUR: 'it returns false'. Refute it at one input. -/
def ruleSpecialWrong : ChangeSpec := { name := "ruleSpecial", fn := fun _ => fun
  | [d1, d2] => { results := [.lit (.bool false)], args := [d1, d2] }
  | _ => none }
def RuleSpecialWrongFalsely : Prop := ruleSpecialRow.holds Try.pinned (OpenSpec.ofChange ruleSpecialWrong)

/-- 'vyakaranalaw02.RuleMeets': WHATEVER THE INPUT: true; the input reads as it did. -/
def ruleMeetsSpec : ChangeSpec := { name := "ruleMeets", fn := fun _ => fun
  | [d] => { results := [.lit (.bool true)], args := [d] }
  | _ => none }
def ruleMeetsRow : OpenClaim := { program := "ytnpdhmejnoplcaa", sum := "ee6318b9e7f7f364ae4543dcb7de51686c1ef67ac882008ac9cca693201ea261", func := "vyakarana/vyakaranalaw02.RuleMeets", spec := "ruleMeets", inPlace := ["slices.overlaps[int]"], unfollowed := true, recurses := true, apart := false }
def RuleMeetsSaid : Prop := ruleMeetsRow.holds Try.pinned (OpenSpec.ofChange ruleMeetsSpec)

/-- ITS FALSE NEIGHBOUR: 'it returns false'. Refute it at one input. -/
def ruleMeetsWrong : ChangeSpec := { name := "ruleMeets", fn := fun _ => fun
  | [d] => { results := [.lit (.bool false)], args := [d] }
  | _ => none }
def RuleMeetsWrongFalsely : Prop := ruleMeetsRow.holds Try.pinned (OpenSpec.ofChange ruleMeetsWrong)

/-- 'vyakaranalaw02.RuleMeetsIn': WHATEVER THE INPUT: true; the input reads as it did. -/
def ruleMeetsInSpec : ChangeSpec := { name := "ruleMeetsIn", fn := fun _ => fun
  | [d1, d2] => { results := [.lit (.bool true)], args := [d1, d2] }
  | _ => none }
def ruleMeetsInRow : OpenClaim := { program := "ytnpdhmejnoplcaa", sum := "ee6318b9e7f7f364ae4543dcb7de51686c1ef67ac882008ac9cca693201ea261", func := "vyakarana/vyakaranalaw02.RuleMeetsIn", spec := "ruleMeetsIn", inPlace := ["slices.overlaps[int]"], unfollowed := true, recurses := true, apart := false }
def RuleMeetsInSaid : Prop := ruleMeetsInRow.holds Try.pinned (OpenSpec.ofChange ruleMeetsInSpec)

/-- ITS FALSE NEIGHBOUR: 'it returns false'. Refute it at one input. -/
def ruleMeetsInWrong : ChangeSpec := { name := "ruleMeetsIn", fn := fun _ => fun
  | [d1, d2] => { results := [.lit (.bool false)], args := [d1, d2] }
  | _ => none }
def RuleMeetsInWrongFalsely : Prop := ruleMeetsInRow.holds Try.pinned (OpenSpec.ofChange ruleMeetsInWrong)

/-- 'vyakaranalaw02.RuleGains': WHATEVER THE INPUT: true; the input reads as it did. -/
def ruleGainsSpec : ChangeSpec := { name := "ruleGains", fn := fun _ => fun
  | [d1, d2, d3] => { results := [.lit (.bool true)], args := [d1, d2, d3] }
  | _ => none }
def ruleGainsRow : OpenClaim := { program := "ytnpdhmejnoplcaa", sum := "ee6318b9e7f7f364ae4543dcb7de51686c1ef67ac882008ac9cca693201ea261", func := "vyakarana/vyakaranalaw02.RuleGains", spec := "ruleGains", inPlace := ["slices.overlaps[int]"], unfollowed := true, recurses := true, apart := false }
def RuleGainsSaid : Prop := ruleGainsRow.holds Try.pinned (OpenSpec.ofChange ruleGainsSpec)

/-- ITS FALSE NEIGHBOUR: 'it returns false'. Refute it at one input. -/
def ruleGainsWrong : ChangeSpec := { name := "ruleGains", fn := fun _ => fun
  | [d1, d2, d3] => { results := [.lit (.bool false)], args := [d1, d2, d3] }
  | _ => none }
def RuleGainsWrongFalsely : Prop := ruleGainsRow.holds Try.pinned (OpenSpec.ofChange ruleGainsWrong)

/-- 'vyakaranalaw02.RuleCommutes': WHATEVER THE INPUT: true; the input reads as it did. -/
def ruleCommutesSpec : ChangeSpec := { name := "ruleCommutes", fn := fun _ => fun
  | [d1, d2] => { results := [.lit (.bool true)], args := [d1, d2] }
  | _ => none }
def ruleCommutesRow : OpenClaim := { program := "ytnpdhmejnoplcaa", sum := "ee6318b9e7f7f364ae4543dcb7de51686c1ef67ac882008ac9cca693201ea261", func := "vyakarana/vyakaranalaw02.RuleCommutes", spec := "ruleCommutes", inPlace := ["slices.overlaps[int]"], unfollowed := true, recurses := true, apart := false }
def RuleCommutesSaid : Prop := ruleCommutesRow.holds Try.pinned (OpenSpec.ofChange ruleCommutesSpec)

/-- ITS FALSE NEIGHBOUR: 'it returns false'. Refute it at one input. -/
def ruleCommutesWrong : ChangeSpec := { name := "ruleCommutes", fn := fun _ => fun
  | [d1, d2] => { results := [.lit (.bool false)], args := [d1, d2] }
  | _ => none }
def RuleCommutesWrongFalsely : Prop := ruleCommutesRow.holds Try.pinned (OpenSpec.ofChange ruleCommutesWrong)

/-- 'vyakaranalaw02.RuleMirrors': WHATEVER THE INPUT: true; the input reads as it did. -/
def ruleMirrorsSpec : ChangeSpec := { name := "ruleMirrors", fn := fun _ => fun
  | [d1, d2] => { results := [.lit (.bool true)], args := [d1, d2] }
  | _ => none }
def ruleMirrorsRow : OpenClaim := { program := "ytnpdhmejnoplcaa", sum := "ee6318b9e7f7f364ae4543dcb7de51686c1ef67ac882008ac9cca693201ea261", func := "vyakarana/vyakaranalaw02.RuleMirrors", spec := "ruleMirrors", inPlace := ["slices.overlaps[int]"], unfollowed := true, recurses := true, apart := false }
def RuleMirrorsSaid : Prop := ruleMirrorsRow.holds Try.pinned (OpenSpec.ofChange ruleMirrorsSpec)

/-- ITS FALSE NEIGHBOUR: 'it returns false'. Refute it at one input. -/
def ruleMirrorsWrong : ChangeSpec := { name := "ruleMirrors", fn := fun _ => fun
  | [d1, d2] => { results := [.lit (.bool false)], args := [d1, d2] }
  | _ => none }
def RuleMirrorsWrongFalsely : Prop := ruleMirrorsRow.holds Try.pinned (OpenSpec.ofChange ruleMirrorsWrong)

/-- 'vyakaranalaw02.RuleRenames': WHATEVER THE INPUT: true; the input reads as it did. -/
def ruleRenamesSpec : ChangeSpec := { name := "ruleRenames", fn := fun _ => fun
  | [d1, d2, d3] => { results := [.lit (.bool true)], args := [d1, d2, d3] }
  | _ => none }
def ruleRenamesRow : OpenClaim := { program := "ytnpdhmejnoplcaa", sum := "ee6318b9e7f7f364ae4543dcb7de51686c1ef67ac882008ac9cca693201ea261", func := "vyakarana/vyakaranalaw02.RuleRenames", spec := "ruleRenames", inPlace := ["slices.overlaps[int]"], unfollowed := true, recurses := true, apart := false }
def RuleRenamesSaid : Prop := ruleRenamesRow.holds Try.pinned (OpenSpec.ofChange ruleRenamesSpec)

/-- ITS FALSE NEIGHBOUR: 'it returns false'. Refute it at one input. -/
def ruleRenamesWrong : ChangeSpec := { name := "ruleRenames", fn := fun _ => fun
  | [d1, d2, d3] => { results := [.lit (.bool false)], args := [d1, d2, d3] }
  | _ => none }
def RuleRenamesWrongFalsely : Prop := ruleRenamesRow.holds Try.pinned (OpenSpec.ofChange ruleRenamesWrong)

/-- 'vyakaranalaw02.RuleMeasures': WHATEVER THE INPUT: true; the input reads as it did. -/
def ruleMeasuresSpec : ChangeSpec := { name := "ruleMeasures", fn := fun _ => fun
  | [d] => { results := [.lit (.bool true)], args := [d] }
  | _ => none }
def ruleMeasuresRow : OpenClaim := { program := "ytnpdhmejnoplcaa", sum := "ee6318b9e7f7f364ae4543dcb7de51686c1ef67ac882008ac9cca693201ea261", func := "vyakarana/vyakaranalaw02.RuleMeasures", spec := "ruleMeasures", inPlace := ["slices.overlaps[int]"], unfollowed := true, recurses := true, apart := false }
def RuleMeasuresSaid : Prop := ruleMeasuresRow.holds Try.pinned (OpenSpec.ofChange ruleMeasuresSpec)

/-- ITS FALSE NEIGHBOUR: 'it returns false'. Refute it at one input. -/
def ruleMeasuresWrong : ChangeSpec := { name := "ruleMeasures", fn := fun _ => fun
  | [d] => { results := [.lit (.bool false)], args := [d] }
  | _ => none }
def RuleMeasuresWrongFalsely : Prop := ruleMeasuresRow.holds Try.pinned (OpenSpec.ofChange ruleMeasuresWrong)

/-- 'vyakaranalaw03.FeedSteps': WHATEVER THE INPUT: true; the input reads as it did. -/
def feedStepsSpec : ChangeSpec := { name := "feedSteps", fn := fun _ => fun
  | [d1, d2] => { results := [.lit (.bool true)], args := [d1, d2] }
  | _ => none }
def feedStepsRow : OpenClaim := { program := "ytnpdhmejnoplcaa", sum := "ee6318b9e7f7f364ae4543dcb7de51686c1ef67ac882008ac9cca693201ea261", func := "vyakarana/vyakaranalaw03.FeedSteps", spec := "feedSteps", inPlace := ["slices.overlaps[int]"], unfollowed := true, recurses := true, apart := false }
def FeedStepsSaid : Prop := feedStepsRow.holds Try.pinned (OpenSpec.ofChange feedStepsSpec)

/-- ITS FALSE NEIGHBOUR: 'it returns false'. Refute it at one input. -/
def feedStepsWrong : ChangeSpec := { name := "feedSteps", fn := fun _ => fun
  | [d1, d2] => { results := [.lit (.bool false)], args := [d1, d2] }
  | _ => none }
def FeedStepsWrongFalsely : Prop := feedStepsRow.holds Try.pinned (OpenSpec.ofChange feedStepsWrong)

/-- 'vyakaranalaw03.FeedNexts': WHATEVER THE INPUT: true; the input reads as it did. -/
def feedNextsSpec : ChangeSpec := { name := "feedNexts", fn := fun _ => fun
  | [d1, d2] => { results := [.lit (.bool true)], args := [d1, d2] }
  | _ => none }
def feedNextsRow : OpenClaim := { program := "ytnpdhmejnoplcaa", sum := "ee6318b9e7f7f364ae4543dcb7de51686c1ef67ac882008ac9cca693201ea261", func := "vyakarana/vyakaranalaw03.FeedNexts", spec := "feedNexts", inPlace := ["slices.overlaps[int]"], unfollowed := true, recurses := true, apart := false }
def FeedNextsSaid : Prop := feedNextsRow.holds Try.pinned (OpenSpec.ofChange feedNextsSpec)

/-- ITS FALSE NEIGHBOUR: 'it returns false'. Refute it at one input. -/
def feedNextsWrong : ChangeSpec := { name := "feedNexts", fn := fun _ => fun
  | [d1, d2] => { results := [.lit (.bool false)], args := [d1, d2] }
  | _ => none }
def FeedNextsWrongFalsely : Prop := feedNextsRow.holds Try.pinned (OpenSpec.ofChange feedNextsWrong)

/-- 'vyakaranalaw03.FeedReaches': WHATEVER THE INPUT: true; the input reads as it did. -/
def feedReachesSpec : ChangeSpec := { name := "feedReaches", fn := fun _ => fun
  | [d1, d2] => { results := [.lit (.bool true)], args := [d1, d2] }
  | _ => none }
def feedReachesRow : OpenClaim := { program := "ytnpdhmejnoplcaa", sum := "ee6318b9e7f7f364ae4543dcb7de51686c1ef67ac882008ac9cca693201ea261", func := "vyakarana/vyakaranalaw03.FeedReaches", spec := "feedReaches", inPlace := ["slices.overlaps[int]"], unfollowed := true, recurses := true, apart := false }
def FeedReachesSaid : Prop := feedReachesRow.holds Try.pinned (OpenSpec.ofChange feedReachesSpec)

/-- ITS FALSE NEIGHBOUR: 'it returns false'. Refute it at one input. -/
def feedReachesWrong : ChangeSpec := { name := "feedReaches", fn := fun _ => fun
  | [d1, d2] => { results := [.lit (.bool false)], args := [d1, d2] }
  | _ => none }
def FeedReachesWrongFalsely : Prop := feedReachesRow.holds Try.pinned (OpenSpec.ofChange feedReachesWrong)

/-- 'vyakaranalaw03.FeedPaths': WHATEVER THE INPUT: true; the input reads as it did. -/
def feedPathsSpec : ChangeSpec := { name := "feedPaths", fn := fun _ => fun
  | [d1, d2, d3] => { results := [.lit (.bool true)], args := [d1, d2, d3] }
  | _ => none }
def feedPathsRow : OpenClaim := { program := "ytnpdhmejnoplcaa", sum := "ee6318b9e7f7f364ae4543dcb7de51686c1ef67ac882008ac9cca693201ea261", func := "vyakarana/vyakaranalaw03.FeedPaths", spec := "feedPaths", inPlace := ["slices.overlaps[int]"], unfollowed := true, recurses := true, apart := false }
def FeedPathsSaid : Prop := feedPathsRow.holds Try.pinned (OpenSpec.ofChange feedPathsSpec)

/-- ITS FALSE NEIGHBOUR: 'it returns false'. Refute it at one input. -/
def feedPathsWrong : ChangeSpec := { name := "feedPaths", fn := fun _ => fun
  | [d1, d2, d3] => { results := [.lit (.bool false)], args := [d1, d2, d3] }
  | _ => none }
def FeedPathsWrongFalsely : Prop := feedPathsRow.holds Try.pinned (OpenSpec.ofChange feedPathsWrong)

/-- 'vyakaranalaw03.FeedFinds': WHATEVER THE INPUT: true; the input reads as it did. -/
def feedFindsSpec : ChangeSpec := { name := "feedFinds", fn := fun _ => fun
  | [d1, d2, d3] => { results := [.lit (.bool true)], args := [d1, d2, d3] }
  | _ => none }
def feedFindsRow : OpenClaim := { program := "ytnpdhmejnoplcaa", sum := "ee6318b9e7f7f364ae4543dcb7de51686c1ef67ac882008ac9cca693201ea261", func := "vyakarana/vyakaranalaw03.FeedFinds", spec := "feedFinds", inPlace := ["slices.overlaps[int]"], unfollowed := true, recurses := true, apart := false }
def FeedFindsSaid : Prop := feedFindsRow.holds Try.pinned (OpenSpec.ofChange feedFindsSpec)

/-- ITS FALSE NEIGHBOUR: 'it returns false'. Refute it at one input. -/
def feedFindsWrong : ChangeSpec := { name := "feedFinds", fn := fun _ => fun
  | [d1, d2, d3] => { results := [.lit (.bool false)], args := [d1, d2, d3] }
  | _ => none }
def FeedFindsWrongFalsely : Prop := feedFindsRow.holds Try.pinned (OpenSpec.ofChange feedFindsWrong)

/-- 'vyakaranalaw03.FeedWeights': WHATEVER THE INPUT: true; the input reads as it did. -/
def feedWeightsSpec : ChangeSpec := { name := "feedWeights", fn := fun _ => fun
  | [d] => { results := [.lit (.bool true)], args := [d] }
  | _ => none }
def feedWeightsRow : OpenClaim := { program := "ytnpdhmejnoplcaa", sum := "ee6318b9e7f7f364ae4543dcb7de51686c1ef67ac882008ac9cca693201ea261", func := "vyakarana/vyakaranalaw03.FeedWeights", spec := "feedWeights", inPlace := ["slices.overlaps[int]"], unfollowed := true, recurses := true, apart := false }
def FeedWeightsSaid : Prop := feedWeightsRow.holds Try.pinned (OpenSpec.ofChange feedWeightsSpec)

/-- ITS FALSE NEIGHBOUR: 'it returns false'. Refute it at one input. -/
def feedWeightsWrong : ChangeSpec := { name := "feedWeights", fn := fun _ => fun
  | [d] => { results := [.lit (.bool false)], args := [d] }
  | _ => none }
def FeedWeightsWrongFalsely : Prop := feedWeightsRow.holds Try.pinned (OpenSpec.ofChange feedWeightsWrong)

/-- 'vyakaranalaw03.FeedHolds': WHATEVER THE INPUT: true; the input reads as it did. -/
def feedHoldsSpec : ChangeSpec := { name := "feedHolds", fn := fun _ => fun
  | [d1, d2, d3] => { results := [.lit (.bool true)], args := [d1, d2, d3] }
  | _ => none }
def feedHoldsRow : OpenClaim := { program := "ytnpdhmejnoplcaa", sum := "ee6318b9e7f7f364ae4543dcb7de51686c1ef67ac882008ac9cca693201ea261", func := "vyakarana/vyakaranalaw03.FeedHolds", spec := "feedHolds", inPlace := ["slices.overlaps[int]"], unfollowed := true, recurses := true, apart := false }
def FeedHoldsSaid : Prop := feedHoldsRow.holds Try.pinned (OpenSpec.ofChange feedHoldsSpec)

/-- ITS FALSE NEIGHBOUR: 'it returns false'. Refute it at one input. -/
def feedHoldsWrong : ChangeSpec := { name := "feedHolds", fn := fun _ => fun
  | [d1, d2, d3] => { results := [.lit (.bool false)], args := [d1, d2, d3] }
  | _ => none }
def FeedHoldsWrongFalsely : Prop := feedHoldsRow.holds Try.pinned (OpenSpec.ofChange feedHoldsWrong)

/-- 'vyakaranalaw03.FeedWithout': WHATEVER THE INPUT: true; the input reads as it did. -/
def feedWithoutSpec : ChangeSpec := { name := "feedWithout", fn := fun _ => fun
  | [d1, d2, d3] => { results := [.lit (.bool true)], args := [d1, d2, d3] }
  | _ => none }
def feedWithoutRow : OpenClaim := { program := "ytnpdhmejnoplcaa", sum := "ee6318b9e7f7f364ae4543dcb7de51686c1ef67ac882008ac9cca693201ea261", func := "vyakarana/vyakaranalaw03.FeedWithout", spec := "feedWithout", inPlace := ["slices.overlaps[int]"], unfollowed := true, recurses := true, apart := false }
def FeedWithoutSaid : Prop := feedWithoutRow.holds Try.pinned (OpenSpec.ofChange feedWithoutSpec)

/-- ITS FALSE NEIGHBOUR: 'it returns false'. Refute it at one input. -/
def feedWithoutWrong : ChangeSpec := { name := "feedWithout", fn := fun _ => fun
  | [d1, d2, d3] => { results := [.lit (.bool false)], args := [d1, d2, d3] }
  | _ => none }
def FeedWithoutWrongFalsely : Prop := feedWithoutRow.holds Try.pinned (OpenSpec.ofChange feedWithoutWrong)

/-- 'vyakaranalaw03.FeedUnused': WHATEVER THE INPUT: true; the input reads as it did. -/
def feedUnusedSpec : ChangeSpec := { name := "feedUnused", fn := fun _ => fun
  | [d1, d2, d3] => { results := [.lit (.bool true)], args := [d1, d2, d3] }
  | _ => none }
def feedUnusedRow : OpenClaim := { program := "ytnpdhmejnoplcaa", sum := "ee6318b9e7f7f364ae4543dcb7de51686c1ef67ac882008ac9cca693201ea261", func := "vyakarana/vyakaranalaw03.FeedUnused", spec := "feedUnused", inPlace := ["slices.overlaps[int]"], unfollowed := true, recurses := true, apart := false }
def FeedUnusedSaid : Prop := feedUnusedRow.holds Try.pinned (OpenSpec.ofChange feedUnusedSpec)

/-- ITS FALSE NEIGHBOUR: 'it returns false'. Refute it at one input. -/
def feedUnusedWrong : ChangeSpec := { name := "feedUnused", fn := fun _ => fun
  | [d1, d2, d3] => { results := [.lit (.bool false)], args := [d1, d2, d3] }
  | _ => none }
def FeedUnusedWrongFalsely : Prop := feedUnusedRow.holds Try.pinned (OpenSpec.ofChange feedUnusedWrong)

/-- 'vyakaranatop.TopRules': WHATEVER THE INPUT: true; the input reads as it did. -/
def topRulesSpec : ChangeSpec := { name := "topRules", fn := fun _ => fun
  | [d1, d2] => { results := [.lit (.bool true)], args := [d1, d2] }
  | _ => none }
def topRulesRow : OpenClaim := { program := "ytnpdhmejnoplcaa", sum := "ee6318b9e7f7f364ae4543dcb7de51686c1ef67ac882008ac9cca693201ea261", func := "vyakarana/vyakaranatop.TopRules", spec := "topRules", inPlace := ["slices.overlaps[int]"], unfollowed := true, recurses := true, apart := false }
def TopRulesSaid : Prop := topRulesRow.holds Try.pinned (OpenSpec.ofChange topRulesSpec)

/-- ITS FALSE NEIGHBOUR: 'it returns false'. Refute it at one input. -/
def topRulesWrong : ChangeSpec := { name := "topRules", fn := fun _ => fun
  | [d1, d2] => { results := [.lit (.bool false)], args := [d1, d2] }
  | _ => none }
def TopRulesWrongFalsely : Prop := topRulesRow.holds Try.pinned (OpenSpec.ofChange topRulesWrong)

/-- 'vyakaranatop.TopFeeds': WHATEVER THE INPUT: true; the input reads as it did. -/
def topFeedsSpec : ChangeSpec := { name := "topFeeds", fn := fun _ => fun
  | [d1, d2, d3] => { results := [.lit (.bool true)], args := [d1, d2, d3] }
  | _ => none }
def topFeedsRow : OpenClaim := { program := "ytnpdhmejnoplcaa", sum := "ee6318b9e7f7f364ae4543dcb7de51686c1ef67ac882008ac9cca693201ea261", func := "vyakarana/vyakaranatop.TopFeeds", spec := "topFeeds", inPlace := ["slices.overlaps[int]"], unfollowed := true, recurses := true, apart := false }
def TopFeedsSaid : Prop := topFeedsRow.holds Try.pinned (OpenSpec.ofChange topFeedsSpec)

/-- ITS FALSE NEIGHBOUR: 'it returns false'. Refute it at one input. -/
def topFeedsWrong : ChangeSpec := { name := "topFeeds", fn := fun _ => fun
  | [d1, d2, d3] => { results := [.lit (.bool false)], args := [d1, d2, d3] }
  | _ => none }
def TopFeedsWrongFalsely : Prop := topFeedsRow.holds Try.pinned (OpenSpec.ofChange topFeedsWrong)

/- THE SECOND FORM. 'bulk': how many values and letters a reading holds, each counted each time it is reached (what is shared counts as often as it is met; a slice's spare places count too). A statement '..UptoSaid' is the law's where the arguments, and the package variables that the reading takes, are together of bulk at most 1048576: NARROWER than '..Said'. Prove '..Said' where nothing that the law and all that it calls make is longer than what came in: it says more and counts as full. Else prove '..UptoSaid'. A law counts once. -/
mutual
def uptoBulk {H : Type} : DataW H → Nat
  | .lit (.string bytes) => bytes.length + 1
  | .lit _ => 1
  | .nil => 1
  | .ptr d => uptoBulk d + 1
  | .slice elems spare => uptoBulkAll elems + uptoBulkAll spare + 1
  | .agg parts => uptoBulkAll parts + 1
  | .iface _ d => uptoBulk d + 1
  | .map entries => uptoBulkEntries entries + 1
  | .held _ => 1
def uptoBulkAll {H : Type} : List (DataW H) → Nat
  | [] => 0
  | d :: r => uptoBulk d + uptoBulkAll r
def uptoBulkEntries {H : Type} : List (Lit × DataW H) → Nat
  | [] => 0
  | x :: r => uptoBulkEntry x + uptoBulkEntries r
def uptoBulkEntry {H : Type} : Lit × DataW H → Nat
  | (.string bytes, d) => bytes.length + uptoBulk d + 1
  | (_, d) => uptoBulk d + 1
 end
def uptoSmall : (H : Type) → List (DataW H) → Bool := fun _ ds => decide (uptoBulkAll ds ≤ 1048576)
def OpenSpec.upto (s : _root_.Go.ChangeSpec) : _root_.Go.OpenSpec := { _root_.Go.OpenSpec.ofChange s with cond := some uptoSmall }

/-- 'vyakaranalaw02.RulePlaces', WHERE WHAT IT READS IS OF BULK AT MOST 1048576: true; the input reads as it did. -/
def rulePlacesUptoRow : OpenClaim := { program := "ytnpdhmejnoplcaa", sum := "ee6318b9e7f7f364ae4543dcb7de51686c1ef67ac882008ac9cca693201ea261", func := "vyakarana/vyakaranalaw02.RulePlaces", spec := "rulePlaces", inPlace := ["slices.overlaps[int]"], unfollowed := true, recurses := true, apart := false, narrowed := true }
def RulePlacesUptoSaid : Prop := rulePlacesUptoRow.holds Try.pinned (OpenSpec.upto rulePlacesSpec)

/-- 'vyakaranalaw02.RuleApplies', WHERE WHAT IT READS IS OF BULK AT MOST 1048576: true; the input reads as it did. -/
def ruleAppliesUptoRow : OpenClaim := { program := "ytnpdhmejnoplcaa", sum := "ee6318b9e7f7f364ae4543dcb7de51686c1ef67ac882008ac9cca693201ea261", func := "vyakarana/vyakaranalaw02.RuleApplies", spec := "ruleApplies", inPlace := ["slices.overlaps[int]"], unfollowed := true, recurses := true, apart := false, narrowed := true }
def RuleAppliesUptoSaid : Prop := ruleAppliesUptoRow.holds Try.pinned (OpenSpec.upto ruleAppliesSpec)

/-- 'vyakaranalaw02.RuleFirsts', WHERE WHAT IT READS IS OF BULK AT MOST 1048576: true; the input reads as it did. -/
def ruleFirstsUptoRow : OpenClaim := { program := "ytnpdhmejnoplcaa", sum := "ee6318b9e7f7f364ae4543dcb7de51686c1ef67ac882008ac9cca693201ea261", func := "vyakarana/vyakaranalaw02.RuleFirsts", spec := "ruleFirsts", inPlace := ["slices.overlaps[int]"], unfollowed := true, recurses := true, apart := false, narrowed := true }
def RuleFirstsUptoSaid : Prop := ruleFirstsUptoRow.holds Try.pinned (OpenSpec.upto ruleFirstsSpec)

/-- 'vyakaranalaw02.RuleAll', WHERE WHAT IT READS IS OF BULK AT MOST 1048576: true; the input reads as it did. -/
def ruleAllUptoRow : OpenClaim := { program := "ytnpdhmejnoplcaa", sum := "ee6318b9e7f7f364ae4543dcb7de51686c1ef67ac882008ac9cca693201ea261", func := "vyakarana/vyakaranalaw02.RuleAll", spec := "ruleAll", inPlace := ["slices.overlaps[int]"], unfollowed := true, recurses := true, apart := false, narrowed := true }
def RuleAllUptoSaid : Prop := ruleAllUptoRow.holds Try.pinned (OpenSpec.upto ruleAllSpec)

/-- 'vyakaranalaw02.RuleAlong', WHERE WHAT IT READS IS OF BULK AT MOST 1048576: true; the input reads as it did. -/
def ruleAlongUptoRow : OpenClaim := { program := "ytnpdhmejnoplcaa", sum := "ee6318b9e7f7f364ae4543dcb7de51686c1ef67ac882008ac9cca693201ea261", func := "vyakarana/vyakaranalaw02.RuleAlong", spec := "ruleAlong", inPlace := ["slices.overlaps[int]"], unfollowed := true, recurses := true, apart := false, narrowed := true }
def RuleAlongUptoSaid : Prop := ruleAlongUptoRow.holds Try.pinned (OpenSpec.upto ruleAlongSpec)

/-- 'vyakaranalaw02.RuleMays', WHERE WHAT IT READS IS OF BULK AT MOST 1048576: true; the input reads as it did. -/
def ruleMaysUptoRow : OpenClaim := { program := "ytnpdhmejnoplcaa", sum := "ee6318b9e7f7f364ae4543dcb7de51686c1ef67ac882008ac9cca693201ea261", func := "vyakarana/vyakaranalaw02.RuleMays", spec := "ruleMays", inPlace := ["slices.overlaps[int]"], unfollowed := true, recurses := true, apart := false, narrowed := true }
def RuleMaysUptoSaid : Prop := ruleMaysUptoRow.holds Try.pinned (OpenSpec.upto ruleMaysSpec)

/-- 'vyakaranalaw02.RuleSpecial', WHERE WHAT IT READS IS OF BULK AT MOST 1048576: true; the input reads as it did. -/
def ruleSpecialUptoRow : OpenClaim := { program := "ytnpdhmejnoplcaa", sum := "ee6318b9e7f7f364ae4543dcb7de51686c1ef67ac882008ac9cca693201ea261", func := "vyakarana/vyakaranalaw02.RuleSpecial", spec := "ruleSpecial", inPlace := ["slices.overlaps[int]"], unfollowed := true, recurses := true, apart := false, narrowed := true }
def RuleSpecialUptoSaid : Prop := ruleSpecialUptoRow.holds Try.pinned (OpenSpec.upto ruleSpecialSpec)

/-- 'vyakaranalaw02.RuleMeets', WHERE WHAT IT READS IS OF BULK AT MOST 1048576: true; the input reads as it did. -/
def ruleMeetsUptoRow : OpenClaim := { program := "ytnpdhmejnoplcaa", sum := "ee6318b9e7f7f364ae4543dcb7de51686c1ef67ac882008ac9cca693201ea261", func := "vyakarana/vyakaranalaw02.RuleMeets", spec := "ruleMeets", inPlace := ["slices.overlaps[int]"], unfollowed := true, recurses := true, apart := false, narrowed := true }
def RuleMeetsUptoSaid : Prop := ruleMeetsUptoRow.holds Try.pinned (OpenSpec.upto ruleMeetsSpec)

/-- 'vyakaranalaw02.RuleMeetsIn', WHERE WHAT IT READS IS OF BULK AT MOST 1048576: true; the input reads as it did. -/
def ruleMeetsInUptoRow : OpenClaim := { program := "ytnpdhmejnoplcaa", sum := "ee6318b9e7f7f364ae4543dcb7de51686c1ef67ac882008ac9cca693201ea261", func := "vyakarana/vyakaranalaw02.RuleMeetsIn", spec := "ruleMeetsIn", inPlace := ["slices.overlaps[int]"], unfollowed := true, recurses := true, apart := false, narrowed := true }
def RuleMeetsInUptoSaid : Prop := ruleMeetsInUptoRow.holds Try.pinned (OpenSpec.upto ruleMeetsInSpec)

/-- 'vyakaranalaw02.RuleGains', WHERE WHAT IT READS IS OF BULK AT MOST 1048576: true; the input reads as it did. -/
def ruleGainsUptoRow : OpenClaim := { program := "ytnpdhmejnoplcaa", sum := "ee6318b9e7f7f364ae4543dcb7de51686c1ef67ac882008ac9cca693201ea261", func := "vyakarana/vyakaranalaw02.RuleGains", spec := "ruleGains", inPlace := ["slices.overlaps[int]"], unfollowed := true, recurses := true, apart := false, narrowed := true }
def RuleGainsUptoSaid : Prop := ruleGainsUptoRow.holds Try.pinned (OpenSpec.upto ruleGainsSpec)

/-- 'vyakaranalaw02.RuleCommutes', WHERE WHAT IT READS IS OF BULK AT MOST 1048576: true; the input reads as it did. -/
def ruleCommutesUptoRow : OpenClaim := { program := "ytnpdhmejnoplcaa", sum := "ee6318b9e7f7f364ae4543dcb7de51686c1ef67ac882008ac9cca693201ea261", func := "vyakarana/vyakaranalaw02.RuleCommutes", spec := "ruleCommutes", inPlace := ["slices.overlaps[int]"], unfollowed := true, recurses := true, apart := false, narrowed := true }
def RuleCommutesUptoSaid : Prop := ruleCommutesUptoRow.holds Try.pinned (OpenSpec.upto ruleCommutesSpec)

/-- 'vyakaranalaw02.RuleMirrors', WHERE WHAT IT READS IS OF BULK AT MOST 1048576: true; the input reads as it did. -/
def ruleMirrorsUptoRow : OpenClaim := { program := "ytnpdhmejnoplcaa", sum := "ee6318b9e7f7f364ae4543dcb7de51686c1ef67ac882008ac9cca693201ea261", func := "vyakarana/vyakaranalaw02.RuleMirrors", spec := "ruleMirrors", inPlace := ["slices.overlaps[int]"], unfollowed := true, recurses := true, apart := false, narrowed := true }
def RuleMirrorsUptoSaid : Prop := ruleMirrorsUptoRow.holds Try.pinned (OpenSpec.upto ruleMirrorsSpec)

/-- 'vyakaranalaw02.RuleRenames', WHERE WHAT IT READS IS OF BULK AT MOST 1048576: true; the input reads as it did. -/
def ruleRenamesUptoRow : OpenClaim := { program := "ytnpdhmejnoplcaa", sum := "ee6318b9e7f7f364ae4543dcb7de51686c1ef67ac882008ac9cca693201ea261", func := "vyakarana/vyakaranalaw02.RuleRenames", spec := "ruleRenames", inPlace := ["slices.overlaps[int]"], unfollowed := true, recurses := true, apart := false, narrowed := true }
def RuleRenamesUptoSaid : Prop := ruleRenamesUptoRow.holds Try.pinned (OpenSpec.upto ruleRenamesSpec)

/-- 'vyakaranalaw02.RuleMeasures', WHERE WHAT IT READS IS OF BULK AT MOST 1048576: true; the input reads as it did. -/
def ruleMeasuresUptoRow : OpenClaim := { program := "ytnpdhmejnoplcaa", sum := "ee6318b9e7f7f364ae4543dcb7de51686c1ef67ac882008ac9cca693201ea261", func := "vyakarana/vyakaranalaw02.RuleMeasures", spec := "ruleMeasures", inPlace := ["slices.overlaps[int]"], unfollowed := true, recurses := true, apart := false, narrowed := true }
def RuleMeasuresUptoSaid : Prop := ruleMeasuresUptoRow.holds Try.pinned (OpenSpec.upto ruleMeasuresSpec)

/-- 'vyakaranalaw03.FeedSteps', WHERE WHAT IT READS IS OF BULK AT MOST 1048576: true; the input reads as it did. -/
def feedStepsUptoRow : OpenClaim := { program := "ytnpdhmejnoplcaa", sum := "ee6318b9e7f7f364ae4543dcb7de51686c1ef67ac882008ac9cca693201ea261", func := "vyakarana/vyakaranalaw03.FeedSteps", spec := "feedSteps", inPlace := ["slices.overlaps[int]"], unfollowed := true, recurses := true, apart := false, narrowed := true }
def FeedStepsUptoSaid : Prop := feedStepsUptoRow.holds Try.pinned (OpenSpec.upto feedStepsSpec)

/-- 'vyakaranalaw03.FeedNexts', WHERE WHAT IT READS IS OF BULK AT MOST 1048576: true; the input reads as it did. -/
def feedNextsUptoRow : OpenClaim := { program := "ytnpdhmejnoplcaa", sum := "ee6318b9e7f7f364ae4543dcb7de51686c1ef67ac882008ac9cca693201ea261", func := "vyakarana/vyakaranalaw03.FeedNexts", spec := "feedNexts", inPlace := ["slices.overlaps[int]"], unfollowed := true, recurses := true, apart := false, narrowed := true }
def FeedNextsUptoSaid : Prop := feedNextsUptoRow.holds Try.pinned (OpenSpec.upto feedNextsSpec)

/-- 'vyakaranalaw03.FeedReaches', WHERE WHAT IT READS IS OF BULK AT MOST 1048576: true; the input reads as it did. -/
def feedReachesUptoRow : OpenClaim := { program := "ytnpdhmejnoplcaa", sum := "ee6318b9e7f7f364ae4543dcb7de51686c1ef67ac882008ac9cca693201ea261", func := "vyakarana/vyakaranalaw03.FeedReaches", spec := "feedReaches", inPlace := ["slices.overlaps[int]"], unfollowed := true, recurses := true, apart := false, narrowed := true }
def FeedReachesUptoSaid : Prop := feedReachesUptoRow.holds Try.pinned (OpenSpec.upto feedReachesSpec)

/-- 'vyakaranalaw03.FeedPaths', WHERE WHAT IT READS IS OF BULK AT MOST 1048576: true; the input reads as it did. -/
def feedPathsUptoRow : OpenClaim := { program := "ytnpdhmejnoplcaa", sum := "ee6318b9e7f7f364ae4543dcb7de51686c1ef67ac882008ac9cca693201ea261", func := "vyakarana/vyakaranalaw03.FeedPaths", spec := "feedPaths", inPlace := ["slices.overlaps[int]"], unfollowed := true, recurses := true, apart := false, narrowed := true }
def FeedPathsUptoSaid : Prop := feedPathsUptoRow.holds Try.pinned (OpenSpec.upto feedPathsSpec)

/-- 'vyakaranalaw03.FeedFinds', WHERE WHAT IT READS IS OF BULK AT MOST 1048576: true; the input reads as it did. -/
def feedFindsUptoRow : OpenClaim := { program := "ytnpdhmejnoplcaa", sum := "ee6318b9e7f7f364ae4543dcb7de51686c1ef67ac882008ac9cca693201ea261", func := "vyakarana/vyakaranalaw03.FeedFinds", spec := "feedFinds", inPlace := ["slices.overlaps[int]"], unfollowed := true, recurses := true, apart := false, narrowed := true }
def FeedFindsUptoSaid : Prop := feedFindsUptoRow.holds Try.pinned (OpenSpec.upto feedFindsSpec)

/-- 'vyakaranalaw03.FeedWeights', WHERE WHAT IT READS IS OF BULK AT MOST 1048576: true; the input reads as it did. -/
def feedWeightsUptoRow : OpenClaim := { program := "ytnpdhmejnoplcaa", sum := "ee6318b9e7f7f364ae4543dcb7de51686c1ef67ac882008ac9cca693201ea261", func := "vyakarana/vyakaranalaw03.FeedWeights", spec := "feedWeights", inPlace := ["slices.overlaps[int]"], unfollowed := true, recurses := true, apart := false, narrowed := true }
def FeedWeightsUptoSaid : Prop := feedWeightsUptoRow.holds Try.pinned (OpenSpec.upto feedWeightsSpec)

/-- 'vyakaranalaw03.FeedHolds', WHERE WHAT IT READS IS OF BULK AT MOST 1048576: true; the input reads as it did. -/
def feedHoldsUptoRow : OpenClaim := { program := "ytnpdhmejnoplcaa", sum := "ee6318b9e7f7f364ae4543dcb7de51686c1ef67ac882008ac9cca693201ea261", func := "vyakarana/vyakaranalaw03.FeedHolds", spec := "feedHolds", inPlace := ["slices.overlaps[int]"], unfollowed := true, recurses := true, apart := false, narrowed := true }
def FeedHoldsUptoSaid : Prop := feedHoldsUptoRow.holds Try.pinned (OpenSpec.upto feedHoldsSpec)

/-- 'vyakaranalaw03.FeedWithout', WHERE WHAT IT READS IS OF BULK AT MOST 1048576: true; the input reads as it did. -/
def feedWithoutUptoRow : OpenClaim := { program := "ytnpdhmejnoplcaa", sum := "ee6318b9e7f7f364ae4543dcb7de51686c1ef67ac882008ac9cca693201ea261", func := "vyakarana/vyakaranalaw03.FeedWithout", spec := "feedWithout", inPlace := ["slices.overlaps[int]"], unfollowed := true, recurses := true, apart := false, narrowed := true }
def FeedWithoutUptoSaid : Prop := feedWithoutUptoRow.holds Try.pinned (OpenSpec.upto feedWithoutSpec)

/-- 'vyakaranalaw03.FeedUnused', WHERE WHAT IT READS IS OF BULK AT MOST 1048576: true; the input reads as it did. -/
def feedUnusedUptoRow : OpenClaim := { program := "ytnpdhmejnoplcaa", sum := "ee6318b9e7f7f364ae4543dcb7de51686c1ef67ac882008ac9cca693201ea261", func := "vyakarana/vyakaranalaw03.FeedUnused", spec := "feedUnused", inPlace := ["slices.overlaps[int]"], unfollowed := true, recurses := true, apart := false, narrowed := true }
def FeedUnusedUptoSaid : Prop := feedUnusedUptoRow.holds Try.pinned (OpenSpec.upto feedUnusedSpec)

/-- 'vyakaranatop.TopRules', WHERE WHAT IT READS IS OF BULK AT MOST 1048576: true; the input reads as it did. -/
def topRulesUptoRow : OpenClaim := { program := "ytnpdhmejnoplcaa", sum := "ee6318b9e7f7f364ae4543dcb7de51686c1ef67ac882008ac9cca693201ea261", func := "vyakarana/vyakaranatop.TopRules", spec := "topRules", inPlace := ["slices.overlaps[int]"], unfollowed := true, recurses := true, apart := false, narrowed := true }
def TopRulesUptoSaid : Prop := topRulesUptoRow.holds Try.pinned (OpenSpec.upto topRulesSpec)

/-- 'vyakaranatop.TopFeeds', WHERE WHAT IT READS IS OF BULK AT MOST 1048576: true; the input reads as it did. -/
def topFeedsUptoRow : OpenClaim := { program := "ytnpdhmejnoplcaa", sum := "ee6318b9e7f7f364ae4543dcb7de51686c1ef67ac882008ac9cca693201ea261", func := "vyakarana/vyakaranatop.TopFeeds", spec := "topFeeds", inPlace := ["slices.overlaps[int]"], unfollowed := true, recurses := true, apart := false, narrowed := true }
def TopFeedsUptoSaid : Prop := topFeedsUptoRow.holds Try.pinned (OpenSpec.upto topFeedsSpec)

end Rows
end Go.Proofs.Ytnpdhmejnoplcaa
