/-
  No cell of these rows narrows 'for every input' (looked for: loops, veiled, ifaces, maps, wideKeys, modest, calm, conditions, laid).
  DERIVED. THE GIVEN ROWS OF THIS SEAT. 8 by the template 'for every input the law returns true; each argument reads behind the call as it read before'; 0 by the template 'total and deterministic' (their statements: YtoopgmoopmbfnaaTotals.lean).
  GIVEN WITH THE SEED: the statements are not yours to turn. If you find one false, say at which input.
  Laid BY PROGRAM, IN A SANDBOX (cutbox-rows.mjs): the forced cells as the released guide's own fill.sh prints them over the translation 479a05d8c8452454… (all of the seat's roots in one cut). By AI agents, Wed Nov 11 2026. No macro, syntax, notation, axiom, sorry.
-/
import Derived.Test.YtoopgmoopmbfnaaChecked
import GoSem.Claim
import GoSem.ClaimJoined
import GoSem.ClaimMapViews
import Derived.JoinedTies
import Derived.KernelRfl
namespace Go.Proofs.Ytoopgmoopmbfnaa
/- THE CELL 'sum', in the pinned program and in every row, IS THE sha256 OF THE DUMP (.gsa) THAT YtoopgmoopmbfnaaProg.lean LOADS. Nothing in Lean hashes anything: it is a label: what it is worth is what the hold of that sum in a sandbox is worth. -/
noncomputable def Try.pinned : Pinned := { name := "ytoopgmoopmbfnaa", sum := "479a05d8c845245433458b8f942c01520275b9f4bd0f9cd436e262c8374132ee", checked := Try.checked }
namespace Rows
def none {H : Type} : Left H := { results := [], args := [] }

/-- 'vyakaranalaw01.SoundMarks': WHATEVER THE INPUT: true; the input reads as it did. -/
def soundMarksSpec : ChangeSpec := { name := "soundMarks", fn := fun _ => fun
  | [d1, d2, d3] => { results := [.lit (.bool true)], args := [d1, d2, d3] }
  | _ => none }
def soundMarksRow : OpenClaim := { program := "ytoopgmoopmbfnaa", sum := "479a05d8c845245433458b8f942c01520275b9f4bd0f9cd436e262c8374132ee", func := "vyakarana/vyakaranalaw01.SoundMarks", spec := "soundMarks", unfollowed := true, recurses := true, apart := false }
def SoundMarksSaid : Prop := soundMarksRow.holds Try.pinned (OpenSpec.ofChange soundMarksSpec)

/-- ITS FALSE NEIGHBOUR: 'it returns false'. Refute it at one input. -/
def soundMarksWrong : ChangeSpec := { name := "soundMarks", fn := fun _ => fun
  | [d1, d2, d3] => { results := [.lit (.bool false)], args := [d1, d2, d3] }
  | _ => none }
def SoundMarksWrongFalsely : Prop := soundMarksRow.holds Try.pinned (OpenSpec.ofChange soundMarksWrong)

/-- 'vyakaranalaw01.SoundFewest': WHATEVER THE INPUT: true; the input reads as it did. -/
def soundFewestSpec : ChangeSpec := { name := "soundFewest", fn := fun _ => fun
  | [d1, d2] => { results := [.lit (.bool true)], args := [d1, d2] }
  | _ => none }
def soundFewestRow : OpenClaim := { program := "ytoopgmoopmbfnaa", sum := "479a05d8c845245433458b8f942c01520275b9f4bd0f9cd436e262c8374132ee", func := "vyakarana/vyakaranalaw01.SoundFewest", spec := "soundFewest", unfollowed := true, recurses := true, apart := false }
def SoundFewestSaid : Prop := soundFewestRow.holds Try.pinned (OpenSpec.ofChange soundFewestSpec)

/-- ITS FALSE NEIGHBOUR: 'it returns false'. Refute it at one input. -/
def soundFewestWrong : ChangeSpec := { name := "soundFewest", fn := fun _ => fun
  | [d1, d2] => { results := [.lit (.bool false)], args := [d1, d2] }
  | _ => none }
def SoundFewestWrongFalsely : Prop := soundFewestRow.holds Try.pinned (OpenSpec.ofChange soundFewestWrong)

/-- 'vyakaranalaw01.SoundChecks': WHATEVER THE INPUT: true; the input reads as it did. -/
def soundChecksSpec : ChangeSpec := { name := "soundChecks", fn := fun _ => fun
  | [d1, d2, d3] => { results := [.lit (.bool true)], args := [d1, d2, d3] }
  | _ => none }
def soundChecksRow : OpenClaim := { program := "ytoopgmoopmbfnaa", sum := "479a05d8c845245433458b8f942c01520275b9f4bd0f9cd436e262c8374132ee", func := "vyakarana/vyakaranalaw01.SoundChecks", spec := "soundChecks", unfollowed := true, recurses := true, apart := false }
def SoundChecksSaid : Prop := soundChecksRow.holds Try.pinned (OpenSpec.ofChange soundChecksSpec)

/-- ITS FALSE NEIGHBOUR: 'it returns false'. Refute it at one input. -/
def soundChecksWrong : ChangeSpec := { name := "soundChecks", fn := fun _ => fun
  | [d1, d2, d3] => { results := [.lit (.bool false)], args := [d1, d2, d3] }
  | _ => none }
def SoundChecksWrongFalsely : Prop := soundChecksRow.holds Try.pinned (OpenSpec.ofChange soundChecksWrong)

/-- 'vyakaranalaw01.SoundSplits': WHATEVER THE INPUT: true; the input reads as it did. -/
def soundSplitsSpec : ChangeSpec := { name := "soundSplits", fn := fun _ => fun
  | [d1, d2, d3] => { results := [.lit (.bool true)], args := [d1, d2, d3] }
  | _ => none }
def soundSplitsRow : OpenClaim := { program := "ytoopgmoopmbfnaa", sum := "479a05d8c845245433458b8f942c01520275b9f4bd0f9cd436e262c8374132ee", func := "vyakarana/vyakaranalaw01.SoundSplits", spec := "soundSplits", inPlace := ["slices.overlaps[int]"], unfollowed := true, recurses := true, apart := false }
def SoundSplitsSaid : Prop := soundSplitsRow.holds Try.pinned (OpenSpec.ofChange soundSplitsSpec)

/-- ITS FALSE NEIGHBOUR: 'it returns false'. Refute it at one input. -/
def soundSplitsWrong : ChangeSpec := { name := "soundSplits", fn := fun _ => fun
  | [d1, d2, d3] => { results := [.lit (.bool false)], args := [d1, d2, d3] }
  | _ => none }
def SoundSplitsWrongFalsely : Prop := soundSplitsRow.holds Try.pinned (OpenSpec.ofChange soundSplitsWrong)

/-- 'vyakaranalaw01.SoundJoins': WHATEVER THE INPUT: true; the input reads as it did. -/
def soundJoinsSpec : ChangeSpec := { name := "soundJoins", fn := fun _ => fun
  | [d1, d2] => { results := [.lit (.bool true)], args := [d1, d2] }
  | _ => none }
def soundJoinsRow : OpenClaim := { program := "ytoopgmoopmbfnaa", sum := "479a05d8c845245433458b8f942c01520275b9f4bd0f9cd436e262c8374132ee", func := "vyakarana/vyakaranalaw01.SoundJoins", spec := "soundJoins", unfollowed := true, recurses := true, apart := false }
def SoundJoinsSaid : Prop := soundJoinsRow.holds Try.pinned (OpenSpec.ofChange soundJoinsSpec)

/-- ITS FALSE NEIGHBOUR: 'it returns false'. Refute it at one input. -/
def soundJoinsWrong : ChangeSpec := { name := "soundJoins", fn := fun _ => fun
  | [d1, d2] => { results := [.lit (.bool false)], args := [d1, d2] }
  | _ => none }
def SoundJoinsWrongFalsely : Prop := soundJoinsRow.holds Try.pinned (OpenSpec.ofChange soundJoinsWrong)

/-- 'vyakaranalaw01.SoundRenames': WHATEVER THE INPUT: true; the input reads as it did. -/
def soundRenamesSpec : ChangeSpec := { name := "soundRenames", fn := fun _ => fun
  | [d1, d2] => { results := [.lit (.bool true)], args := [d1, d2] }
  | _ => none }
def soundRenamesRow : OpenClaim := { program := "ytoopgmoopmbfnaa", sum := "479a05d8c845245433458b8f942c01520275b9f4bd0f9cd436e262c8374132ee", func := "vyakarana/vyakaranalaw01.SoundRenames", spec := "soundRenames", unfollowed := true, recurses := true, apart := false }
def SoundRenamesSaid : Prop := soundRenamesRow.holds Try.pinned (OpenSpec.ofChange soundRenamesSpec)

/-- ITS FALSE NEIGHBOUR: 'it returns false'. Refute it at one input. -/
def soundRenamesWrong : ChangeSpec := { name := "soundRenames", fn := fun _ => fun
  | [d1, d2] => { results := [.lit (.bool false)], args := [d1, d2] }
  | _ => none }
def SoundRenamesWrongFalsely : Prop := soundRenamesRow.holds Try.pinned (OpenSpec.ofChange soundRenamesWrong)

/-- 'vyakaranalaw02.RuleRenames': WHATEVER THE INPUT: true; the input reads as it did. -/
def ruleRenamesSpec : ChangeSpec := { name := "ruleRenames", fn := fun _ => fun
  | [d1, d2, d3] => { results := [.lit (.bool true)], args := [d1, d2, d3] }
  | _ => none }
def ruleRenamesRow : OpenClaim := { program := "ytoopgmoopmbfnaa", sum := "479a05d8c845245433458b8f942c01520275b9f4bd0f9cd436e262c8374132ee", func := "vyakarana/vyakaranalaw02.RuleRenames", spec := "ruleRenames", inPlace := ["slices.overlaps[int]"], unfollowed := true, recurses := true, apart := false }
def RuleRenamesSaid : Prop := ruleRenamesRow.holds Try.pinned (OpenSpec.ofChange ruleRenamesSpec)

/-- ITS FALSE NEIGHBOUR: 'it returns false'. Refute it at one input. -/
def ruleRenamesWrong : ChangeSpec := { name := "ruleRenames", fn := fun _ => fun
  | [d1, d2, d3] => { results := [.lit (.bool false)], args := [d1, d2, d3] }
  | _ => none }
def RuleRenamesWrongFalsely : Prop := ruleRenamesRow.holds Try.pinned (OpenSpec.ofChange ruleRenamesWrong)

/-- 'vyakaranatop.TopSounds': WHATEVER THE INPUT: true; the input reads as it did. -/
def topSoundsSpec : ChangeSpec := { name := "topSounds", fn := fun _ => fun
  | [d1, d2, d3] => { results := [.lit (.bool true)], args := [d1, d2, d3] }
  | _ => none }
def topSoundsRow : OpenClaim := { program := "ytoopgmoopmbfnaa", sum := "479a05d8c845245433458b8f942c01520275b9f4bd0f9cd436e262c8374132ee", func := "vyakarana/vyakaranatop.TopSounds", spec := "topSounds", unfollowed := true, recurses := true, apart := false }
def TopSoundsSaid : Prop := topSoundsRow.holds Try.pinned (OpenSpec.ofChange topSoundsSpec)

/-- ITS FALSE NEIGHBOUR: 'it returns false'. Refute it at one input. -/
def topSoundsWrong : ChangeSpec := { name := "topSounds", fn := fun _ => fun
  | [d1, d2, d3] => { results := [.lit (.bool false)], args := [d1, d2, d3] }
  | _ => none }
def TopSoundsWrongFalsely : Prop := topSoundsRow.holds Try.pinned (OpenSpec.ofChange topSoundsWrong)

/- THE SECOND FORM. 'bulk': how many values and letters a reading holds, each counted each time it is reached (what is shared counts as often as it is met; a slice's spare places count too). A statement '..UptoSaid' is the law's where the arguments, and the package variables that the reading takes, are together of bulk at most 1048576: NARROWER than '..Said'. Prove '..Said' where nothing that the law and all that it calls make is longer than what came in: it says more and counts as full. Else prove '..UptoSaid'. A law counts once. -/
mutual
def uptoBulk {H : Type} : DataW H → Nat
  | .lit (.string bytes) => bytes.length + 1
  | .lit _ => 1
  | .nil => 1
  | .ptr d => uptoBulk d + 1
  | .slice elems spare => uptoBulkAll elems + uptoBulkAll spare + 1
  | .agg parts => uptoBulkAll parts + 1
  | .iface _ d => uptoBulk d + 1
  | .map entries => uptoBulkEntries entries + 1
  | .held _ => 1
def uptoBulkAll {H : Type} : List (DataW H) → Nat
  | [] => 0
  | d :: r => uptoBulk d + uptoBulkAll r
def uptoBulkEntries {H : Type} : List (Lit × DataW H) → Nat
  | [] => 0
  | x :: r => uptoBulkEntry x + uptoBulkEntries r
def uptoBulkEntry {H : Type} : Lit × DataW H → Nat
  | (.string bytes, d) => bytes.length + uptoBulk d + 1
  | (_, d) => uptoBulk d + 1
 end
def uptoSmall : (H : Type) → List (DataW H) → Bool := fun _ ds => decide (uptoBulkAll ds ≤ 1048576)
def OpenSpec.upto (s : _root_.Go.ChangeSpec) : _root_.Go.OpenSpec := { _root_.Go.OpenSpec.ofChange s with cond := some uptoSmall }

/-- 'vyakaranalaw01.SoundMarks', WHERE WHAT IT READS IS OF BULK AT MOST 1048576: true; the input reads as it did. -/
def soundMarksUptoRow : OpenClaim := { program := "ytoopgmoopmbfnaa", sum := "479a05d8c845245433458b8f942c01520275b9f4bd0f9cd436e262c8374132ee", func := "vyakarana/vyakaranalaw01.SoundMarks", spec := "soundMarks", unfollowed := true, recurses := true, apart := false, narrowed := true }
def SoundMarksUptoSaid : Prop := soundMarksUptoRow.holds Try.pinned (OpenSpec.upto soundMarksSpec)

/-- 'vyakaranalaw01.SoundFewest', WHERE WHAT IT READS IS OF BULK AT MOST 1048576: true; the input reads as it did. -/
def soundFewestUptoRow : OpenClaim := { program := "ytoopgmoopmbfnaa", sum := "479a05d8c845245433458b8f942c01520275b9f4bd0f9cd436e262c8374132ee", func := "vyakarana/vyakaranalaw01.SoundFewest", spec := "soundFewest", unfollowed := true, recurses := true, apart := false, narrowed := true }
def SoundFewestUptoSaid : Prop := soundFewestUptoRow.holds Try.pinned (OpenSpec.upto soundFewestSpec)

/-- 'vyakaranalaw01.SoundChecks', WHERE WHAT IT READS IS OF BULK AT MOST 1048576: true; the input reads as it did. -/
def soundChecksUptoRow : OpenClaim := { program := "ytoopgmoopmbfnaa", sum := "479a05d8c845245433458b8f942c01520275b9f4bd0f9cd436e262c8374132ee", func := "vyakarana/vyakaranalaw01.SoundChecks", spec := "soundChecks", unfollowed := true, recurses := true, apart := false, narrowed := true }
def SoundChecksUptoSaid : Prop := soundChecksUptoRow.holds Try.pinned (OpenSpec.upto soundChecksSpec)

/-- 'vyakaranalaw01.SoundSplits', WHERE WHAT IT READS IS OF BULK AT MOST 1048576: true; the input reads as it did. -/
def soundSplitsUptoRow : OpenClaim := { program := "ytoopgmoopmbfnaa", sum := "479a05d8c845245433458b8f942c01520275b9f4bd0f9cd436e262c8374132ee", func := "vyakarana/vyakaranalaw01.SoundSplits", spec := "soundSplits", inPlace := ["slices.overlaps[int]"], unfollowed := true, recurses := true, apart := false, narrowed := true }
def SoundSplitsUptoSaid : Prop := soundSplitsUptoRow.holds Try.pinned (OpenSpec.upto soundSplitsSpec)

/-- 'vyakaranalaw01.SoundJoins', WHERE WHAT IT READS IS OF BULK AT MOST 1048576: true; the input reads as it did. -/
def soundJoinsUptoRow : OpenClaim := { program := "ytoopgmoopmbfnaa", sum := "479a05d8c845245433458b8f942c01520275b9f4bd0f9cd436e262c8374132ee", func := "vyakarana/vyakaranalaw01.SoundJoins", spec := "soundJoins", unfollowed := true, recurses := true, apart := false, narrowed := true }
def SoundJoinsUptoSaid : Prop := soundJoinsUptoRow.holds Try.pinned (OpenSpec.upto soundJoinsSpec)

/-- 'vyakaranalaw01.SoundRenames', WHERE WHAT IT READS IS OF BULK AT MOST 1048576: true; the input reads as it did. -/
def soundRenamesUptoRow : OpenClaim := { program := "ytoopgmoopmbfnaa", sum := "479a05d8c845245433458b8f942c01520275b9f4bd0f9cd436e262c8374132ee", func := "vyakarana/vyakaranalaw01.SoundRenames", spec := "soundRenames", unfollowed := true, recurses := true, apart := false, narrowed := true }
def SoundRenamesUptoSaid : Prop := soundRenamesUptoRow.holds Try.pinned (OpenSpec.upto soundRenamesSpec)

/-- 'vyakaranalaw02.RuleRenames', WHERE WHAT IT READS IS OF BULK AT MOST 1048576: true; the input reads as it did. -/
def ruleRenamesUptoRow : OpenClaim := { program := "ytoopgmoopmbfnaa", sum := "479a05d8c845245433458b8f942c01520275b9f4bd0f9cd436e262c8374132ee", func := "vyakarana/vyakaranalaw02.RuleRenames", spec := "ruleRenames", inPlace := ["slices.overlaps[int]"], unfollowed := true, recurses := true, apart := false, narrowed := true }
def RuleRenamesUptoSaid : Prop := ruleRenamesUptoRow.holds Try.pinned (OpenSpec.upto ruleRenamesSpec)

/-- 'vyakaranatop.TopSounds', WHERE WHAT IT READS IS OF BULK AT MOST 1048576: true; the input reads as it did. -/
def topSoundsUptoRow : OpenClaim := { program := "ytoopgmoopmbfnaa", sum := "479a05d8c845245433458b8f942c01520275b9f4bd0f9cd436e262c8374132ee", func := "vyakarana/vyakaranatop.TopSounds", spec := "topSounds", unfollowed := true, recurses := true, apart := false, narrowed := true }
def TopSoundsUptoSaid : Prop := topSoundsUptoRow.holds Try.pinned (OpenSpec.upto topSoundsSpec)

end Rows
end Go.Proofs.Ytoopgmoopmbfnaa
