/-
  No cell of these rows narrows 'for every input' (looked for: loops, veiled, ifaces, maps, wideKeys, modest, calm, conditions, laid).
  DERIVED. THE GIVEN ROWS OF THIS SEAT. 4 by the template 'for every input the law returns true; each argument reads behind the call as it read before'; 0 by the template 'total and deterministic' (their statements: YtebbmhlkdfmmcaaGreatTotals.lean).
  GIVEN WITH THE SEED: the statements are not yours to turn. If you find one false, say at which input.
  Laid BY PROGRAM, IN A SANDBOX (cutbox-rows.mjs): the forced cells as the released guide's own fill.sh prints them over the translation 1e3e0103bfd8ce1d… (all of the seat's roots in one cut). By AI agents, Wed Nov 11 2026. No macro, syntax, notation, axiom, sorry.
-/
import Derived.Test.YtebbmhlkdfmmcaaGreatChecked
import GoSem.Claim
import GoSem.ClaimJoined
import GoSem.ClaimMapViews
import Derived.JoinedTies
import Derived.KernelRfl
namespace Go.Proofs.YtebbmhlkdfmmcaaGreat
/- THE CELL 'sum', in the pinned program and in every row, IS THE sha256 OF THE DUMP (.gsa) THAT YtebbmhlkdfmmcaaGreatProg.lean LOADS. Nothing in Lean hashes anything: it is a label: what it is worth is what the hold of that sum in a sandbox is worth. -/
noncomputable def Tryz.pinned : Pinned := { name := "ytebbmhlkdfmmcaagreat", sum := "1e3e0103bfd8ce1d56a79c039310899ba32e9e1d3187b19ff461fec75eb648bd", checked := Tryz.checked }
namespace Rows
def none {H : Type} : Left H := { results := [], args := [] }

/-- 'vyakaranalaw03.FeedEnds': WHATEVER THE INPUT: true; the input reads as it did. -/
def feedEndsSpec : ChangeSpec := { name := "feedEnds", fn := fun _ => fun
  | [d1, d2] => { results := [.lit (.bool true)], args := [d1, d2] }
  | _ => none }
def feedEndsRow : OpenClaim := { program := "ytebbmhlkdfmmcaagreat", sum := "1e3e0103bfd8ce1d56a79c039310899ba32e9e1d3187b19ff461fec75eb648bd", func := "vyakarana/vyakaranalaw03.FeedEnds", spec := "feedEnds", inPlace := ["slices.overlaps[int]"], unfollowed := true, recurses := true, apart := false }
def FeedEndsSaid : Prop := feedEndsRow.holds Tryz.pinned (OpenSpec.ofChange feedEndsSpec)

/-- ITS FALSE NEIGHBOUR: 'it returns false'. Refute it at one input. -/
def feedEndsWrong : ChangeSpec := { name := "feedEnds", fn := fun _ => fun
  | [d1, d2] => { results := [.lit (.bool false)], args := [d1, d2] }
  | _ => none }
def FeedEndsWrongFalsely : Prop := feedEndsRow.holds Tryz.pinned (OpenSpec.ofChange feedEndsWrong)

/-- 'vyakaranalaw03.FeedForever': WHATEVER THE INPUT: true; the input reads as it did. -/
def feedForeverSpec : ChangeSpec := { name := "feedForever", fn := fun _ => fun
  | [d1, d2] => { results := [.lit (.bool true)], args := [d1, d2] }
  | _ => none }
def feedForeverRow : OpenClaim := { program := "ytebbmhlkdfmmcaagreat", sum := "1e3e0103bfd8ce1d56a79c039310899ba32e9e1d3187b19ff461fec75eb648bd", func := "vyakarana/vyakaranalaw03.FeedForever", spec := "feedForever", inPlace := ["slices.overlaps[int]"], unfollowed := true, recurses := true, apart := false }
def FeedForeverSaid : Prop := feedForeverRow.holds Tryz.pinned (OpenSpec.ofChange feedForeverSpec)

/-- ITS FALSE NEIGHBOUR: 'it returns false'. Refute it at one input. -/
def feedForeverWrong : ChangeSpec := { name := "feedForever", fn := fun _ => fun
  | [d1, d2] => { results := [.lit (.bool false)], args := [d1, d2] }
  | _ => none }
def FeedForeverWrongFalsely : Prop := feedForeverRow.holds Tryz.pinned (OpenSpec.ofChange feedForeverWrong)

/-- 'vyakaranalaw03.FeedJoins': WHATEVER THE INPUT: true; the input reads as it did. -/
def feedJoinsSpec : ChangeSpec := { name := "feedJoins", fn := fun _ => fun
  | [d1, d2, d3] => { results := [.lit (.bool true)], args := [d1, d2, d3] }
  | _ => none }
def feedJoinsRow : OpenClaim := { program := "ytebbmhlkdfmmcaagreat", sum := "1e3e0103bfd8ce1d56a79c039310899ba32e9e1d3187b19ff461fec75eb648bd", func := "vyakarana/vyakaranalaw03.FeedJoins", spec := "feedJoins", inPlace := ["slices.overlaps[int]"], unfollowed := true, recurses := true, apart := false }
def FeedJoinsSaid : Prop := feedJoinsRow.holds Tryz.pinned (OpenSpec.ofChange feedJoinsSpec)

/-- ITS FALSE NEIGHBOUR: 'it returns false'. Refute it at one input. -/
def feedJoinsWrong : ChangeSpec := { name := "feedJoins", fn := fun _ => fun
  | [d1, d2, d3] => { results := [.lit (.bool false)], args := [d1, d2, d3] }
  | _ => none }
def FeedJoinsWrongFalsely : Prop := feedJoinsRow.holds Tryz.pinned (OpenSpec.ofChange feedJoinsWrong)

/-- 'vyakaranalaw03.FeedCalms': WHATEVER THE INPUT: true; the input reads as it did. -/
def feedCalmsSpec : ChangeSpec := { name := "feedCalms", fn := fun _ => fun
  | [d1, d2] => { results := [.lit (.bool true)], args := [d1, d2] }
  | _ => none }
def feedCalmsRow : OpenClaim := { program := "ytebbmhlkdfmmcaagreat", sum := "1e3e0103bfd8ce1d56a79c039310899ba32e9e1d3187b19ff461fec75eb648bd", func := "vyakarana/vyakaranalaw03.FeedCalms", spec := "feedCalms", inPlace := ["slices.overlaps[int]"], unfollowed := true, recurses := true, apart := false }
def FeedCalmsSaid : Prop := feedCalmsRow.holds Tryz.pinned (OpenSpec.ofChange feedCalmsSpec)

/-- ITS FALSE NEIGHBOUR: 'it returns false'. Refute it at one input. -/
def feedCalmsWrong : ChangeSpec := { name := "feedCalms", fn := fun _ => fun
  | [d1, d2] => { results := [.lit (.bool false)], args := [d1, d2] }
  | _ => none }
def FeedCalmsWrongFalsely : Prop := feedCalmsRow.holds Tryz.pinned (OpenSpec.ofChange feedCalmsWrong)

/- THE SECOND FORM. 'bulk': how many values and letters a reading holds, each counted each time it is reached (what is shared counts as often as it is met; a slice's spare places count too). A statement '..UptoSaid' is the law's where the arguments, and the package variables that the reading takes, are together of bulk at most 1048576: NARROWER than '..Said'. Prove '..Said' where nothing that the law and all that it calls make is longer than what came in: it says more and counts as full. Else prove '..UptoSaid'. A law counts once. -/
mutual
def uptoBulk {H : Type} : DataW H → Nat
  | .lit (.string bytes) => bytes.length + 1
  | .lit _ => 1
  | .nil => 1
  | .ptr d => uptoBulk d + 1
  | .slice elems spare => uptoBulkAll elems + uptoBulkAll spare + 1
  | .agg parts => uptoBulkAll parts + 1
  | .iface _ d => uptoBulk d + 1
  | .map entries => uptoBulkEntries entries + 1
  | .held _ => 1
def uptoBulkAll {H : Type} : List (DataW H) → Nat
  | [] => 0
  | d :: r => uptoBulk d + uptoBulkAll r
def uptoBulkEntries {H : Type} : List (Lit × DataW H) → Nat
  | [] => 0
  | x :: r => uptoBulkEntry x + uptoBulkEntries r
def uptoBulkEntry {H : Type} : Lit × DataW H → Nat
  | (.string bytes, d) => bytes.length + uptoBulk d + 1
  | (_, d) => uptoBulk d + 1
 end
def uptoSmall : (H : Type) → List (DataW H) → Bool := fun _ ds => decide (uptoBulkAll ds ≤ 1048576)
def OpenSpec.upto (s : _root_.Go.ChangeSpec) : _root_.Go.OpenSpec := { _root_.Go.OpenSpec.ofChange s with cond := some uptoSmall }

/-- 'vyakaranalaw03.FeedEnds', WHERE WHAT IT READS IS OF BULK AT MOST 1048576: true; the input reads as it did. -/
def feedEndsUptoRow : OpenClaim := { program := "ytebbmhlkdfmmcaagreat", sum := "1e3e0103bfd8ce1d56a79c039310899ba32e9e1d3187b19ff461fec75eb648bd", func := "vyakarana/vyakaranalaw03.FeedEnds", spec := "feedEnds", inPlace := ["slices.overlaps[int]"], unfollowed := true, recurses := true, apart := false, narrowed := true }
def FeedEndsUptoSaid : Prop := feedEndsUptoRow.holds Tryz.pinned (OpenSpec.upto feedEndsSpec)

/-- 'vyakaranalaw03.FeedForever', WHERE WHAT IT READS IS OF BULK AT MOST 1048576: true; the input reads as it did. -/
def feedForeverUptoRow : OpenClaim := { program := "ytebbmhlkdfmmcaagreat", sum := "1e3e0103bfd8ce1d56a79c039310899ba32e9e1d3187b19ff461fec75eb648bd", func := "vyakarana/vyakaranalaw03.FeedForever", spec := "feedForever", inPlace := ["slices.overlaps[int]"], unfollowed := true, recurses := true, apart := false, narrowed := true }
def FeedForeverUptoSaid : Prop := feedForeverUptoRow.holds Tryz.pinned (OpenSpec.upto feedForeverSpec)

/-- 'vyakaranalaw03.FeedJoins', WHERE WHAT IT READS IS OF BULK AT MOST 1048576: true; the input reads as it did. -/
def feedJoinsUptoRow : OpenClaim := { program := "ytebbmhlkdfmmcaagreat", sum := "1e3e0103bfd8ce1d56a79c039310899ba32e9e1d3187b19ff461fec75eb648bd", func := "vyakarana/vyakaranalaw03.FeedJoins", spec := "feedJoins", inPlace := ["slices.overlaps[int]"], unfollowed := true, recurses := true, apart := false, narrowed := true }
def FeedJoinsUptoSaid : Prop := feedJoinsUptoRow.holds Tryz.pinned (OpenSpec.upto feedJoinsSpec)

/-- 'vyakaranalaw03.FeedCalms', WHERE WHAT IT READS IS OF BULK AT MOST 1048576: true; the input reads as it did. -/
def feedCalmsUptoRow : OpenClaim := { program := "ytebbmhlkdfmmcaagreat", sum := "1e3e0103bfd8ce1d56a79c039310899ba32e9e1d3187b19ff461fec75eb648bd", func := "vyakarana/vyakaranalaw03.FeedCalms", spec := "feedCalms", inPlace := ["slices.overlaps[int]"], unfollowed := true, recurses := true, apart := false, narrowed := true }
def FeedCalmsUptoSaid : Prop := feedCalmsUptoRow.holds Tryz.pinned (OpenSpec.upto feedCalmsSpec)

end Rows
end Go.Proofs.YtebbmhlkdfmmcaaGreat
