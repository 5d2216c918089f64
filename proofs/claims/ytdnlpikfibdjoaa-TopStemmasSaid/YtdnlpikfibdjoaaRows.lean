/-
  No cell of these rows narrows 'for every input' (looked for: loops, veiled, ifaces, maps, wideKeys, modest, calm, conditions, laid).
  DERIVED. THE GIVEN ROWS OF THIS SEAT. 5 by the template 'for every input the law returns true; each argument reads behind the call as it read before'; 0 by the template 'total and deterministic' (their statements: YtdnlpikfibdjoaaTotals.lean).
  GIVEN WITH THE SEED: the statements are not yours to turn. If you find one false, say at which input.
  Laid BY PROGRAM, IN A SANDBOX (cutbox-rows.mjs): the forced cells as the released guide's own fill.sh prints them over the translation cafd020906b82e18… (all of the seat's roots in one cut). By AI agents, Wed Nov 11 2026. No macro, syntax, notation, axiom, sorry.
-/
import Derived.Test.YtdnlpikfibdjoaaChecked
import GoSem.Claim
import GoSem.ClaimJoined
import GoSem.ClaimMapViews
import Derived.JoinedTies
import Derived.KernelRfl
namespace Go.Proofs.Ytdnlpikfibdjoaa
/- THE CELL 'sum', in the pinned program and in every row, IS THE sha256 OF THE DUMP (.gsa) THAT YtdnlpikfibdjoaaProg.lean LOADS. Nothing in Lean hashes anything: it is a label: what it is worth is what the hold of that sum in a sandbox is worth. -/
noncomputable def Try.pinned : Pinned := { name := "ytdnlpikfibdjoaa", sum := "cafd020906b82e18f41ccf7e84aebd732e78e3858bc885f1f621181a73fa74d7", checked := Try.checked }
namespace Rows
def none {H : Type} : Left H := { results := [], args := [] }

/-- 'vyakaranalaw06.CellReduces': WHATEVER THE INPUT: true; the input reads as it did. -/
def cellReducesSpec : ChangeSpec := { name := "cellReduces", fn := fun _ => fun
  | [d] => { results := [.lit (.bool true)], args := [d] }
  | _ => none }
def cellReducesRow : OpenClaim := { program := "ytdnlpikfibdjoaa", sum := "cafd020906b82e18f41ccf7e84aebd732e78e3858bc885f1f621181a73fa74d7", func := "vyakarana/vyakaranalaw06.CellReduces", spec := "cellReduces", unfollowed := true, recurses := true, plainKeys := false, apart := false }
def CellReducesSaid : Prop := cellReducesRow.holds Try.pinned (OpenSpec.ofChange cellReducesSpec)

/-- ITS FALSE NEIGHBOUR: 'it returns false'. Refute it at one input. -/
def cellReducesWrong : ChangeSpec := { name := "cellReduces", fn := fun _ => fun
  | [d] => { results := [.lit (.bool false)], args := [d] }
  | _ => none }
def CellReducesWrongFalsely : Prop := cellReducesRow.holds Try.pinned (OpenSpec.ofChange cellReducesWrong)

/-- 'vyakaranalaw06.CellWithout': WHATEVER THE INPUT: true; the input reads as it did. -/
def cellWithoutSpec : ChangeSpec := { name := "cellWithout", fn := fun _ => fun
  | [d1, d2] => { results := [.lit (.bool true)], args := [d1, d2] }
  | _ => none }
def cellWithoutRow : OpenClaim := { program := "ytdnlpikfibdjoaa", sum := "cafd020906b82e18f41ccf7e84aebd732e78e3858bc885f1f621181a73fa74d7", func := "vyakarana/vyakaranalaw06.CellWithout", spec := "cellWithout", unfollowed := true, recurses := true, plainKeys := false, apart := false }
def CellWithoutSaid : Prop := cellWithoutRow.holds Try.pinned (OpenSpec.ofChange cellWithoutSpec)

/-- ITS FALSE NEIGHBOUR: 'it returns false'. Refute it at one input. -/
def cellWithoutWrong : ChangeSpec := { name := "cellWithout", fn := fun _ => fun
  | [d1, d2] => { results := [.lit (.bool false)], args := [d1, d2] }
  | _ => none }
def CellWithoutWrongFalsely : Prop := cellWithoutRow.holds Try.pinned (OpenSpec.ofChange cellWithoutWrong)

/-- 'vyakaranalaw07.StemmaBuilds': WHATEVER THE INPUT: true; the input reads as it did. -/
def stemmaBuildsSpec : ChangeSpec := { name := "stemmaBuilds", fn := fun _ => fun
  | [d] => { results := [.lit (.bool true)], args := [d] }
  | _ => none }
def stemmaBuildsRow : OpenClaim := { program := "ytdnlpikfibdjoaa", sum := "cafd020906b82e18f41ccf7e84aebd732e78e3858bc885f1f621181a73fa74d7", func := "vyakarana/vyakaranalaw07.StemmaBuilds", spec := "stemmaBuilds", unfollowed := true, recurses := true, plainKeys := false, apart := false }
def StemmaBuildsSaid : Prop := stemmaBuildsRow.holds Try.pinned (OpenSpec.ofChange stemmaBuildsSpec)

/-- ITS FALSE NEIGHBOUR: 'it returns false'. Refute it at one input. -/
def stemmaBuildsWrong : ChangeSpec := { name := "stemmaBuilds", fn := fun _ => fun
  | [d] => { results := [.lit (.bool false)], args := [d] }
  | _ => none }
def StemmaBuildsWrongFalsely : Prop := stemmaBuildsRow.holds Try.pinned (OpenSpec.ofChange stemmaBuildsWrong)

/-- 'vyakaranatop.TopCells': WHATEVER THE INPUT: true; the input reads as it did. -/
def topCellsSpec : ChangeSpec := { name := "topCells", fn := fun _ => fun
  | [d1, d2, d3] => { results := [.lit (.bool true)], args := [d1, d2, d3] }
  | _ => none }
def topCellsRow : OpenClaim := { program := "ytdnlpikfibdjoaa", sum := "cafd020906b82e18f41ccf7e84aebd732e78e3858bc885f1f621181a73fa74d7", func := "vyakarana/vyakaranatop.TopCells", spec := "topCells", unfollowed := true, recurses := true, plainKeys := false, apart := false }
def TopCellsSaid : Prop := topCellsRow.holds Try.pinned (OpenSpec.ofChange topCellsSpec)

/-- ITS FALSE NEIGHBOUR: 'it returns false'. Refute it at one input. -/
def topCellsWrong : ChangeSpec := { name := "topCells", fn := fun _ => fun
  | [d1, d2, d3] => { results := [.lit (.bool false)], args := [d1, d2, d3] }
  | _ => none }
def TopCellsWrongFalsely : Prop := topCellsRow.holds Try.pinned (OpenSpec.ofChange topCellsWrong)

/-- 'vyakaranatop.TopStemmas': WHATEVER THE INPUT: true; the input reads as it did. -/
def topStemmasSpec : ChangeSpec := { name := "topStemmas", fn := fun _ => fun
  | [d1, d2] => { results := [.lit (.bool true)], args := [d1, d2] }
  | _ => none }
def topStemmasRow : OpenClaim := { program := "ytdnlpikfibdjoaa", sum := "cafd020906b82e18f41ccf7e84aebd732e78e3858bc885f1f621181a73fa74d7", func := "vyakarana/vyakaranatop.TopStemmas", spec := "topStemmas", unfollowed := true, recurses := true, plainKeys := false, apart := false }
def TopStemmasSaid : Prop := topStemmasRow.holds Try.pinned (OpenSpec.ofChange topStemmasSpec)

/-- ITS FALSE NEIGHBOUR: 'it returns false'. Refute it at one input. -/
def topStemmasWrong : ChangeSpec := { name := "topStemmas", fn := fun _ => fun
  | [d1, d2] => { results := [.lit (.bool false)], args := [d1, d2] }
  | _ => none }
def TopStemmasWrongFalsely : Prop := topStemmasRow.holds Try.pinned (OpenSpec.ofChange topStemmasWrong)

/- THE SECOND FORM. 'bulk': how many values and letters a reading holds, each counted each time it is reached (what is shared counts as often as it is met; a slice's spare places count too). A statement '..UptoSaid' is the law's where the arguments, and the package variables that the reading takes, are together of bulk at most 1048576: NARROWER than '..Said'. Prove '..Said' where nothing that the law and all that it calls make is longer than what came in: it says more and counts as full. Else prove '..UptoSaid'. A law counts once. -/
mutual
def uptoBulk {H : Type} : DataW H → Nat
  | .lit (.string bytes) => bytes.length + 1
  | .lit _ => 1
  | .nil => 1
  | .ptr d => uptoBulk d + 1
  | .slice elems spare => uptoBulkAll elems + uptoBulkAll spare + 1
  | .agg parts => uptoBulkAll parts + 1
  | .iface _ d => uptoBulk d + 1
  | .map entries => uptoBulkEntries entries + 1
  | .held _ => 1
def uptoBulkAll {H : Type} : List (DataW H) → Nat
  | [] => 0
  | d :: r => uptoBulk d + uptoBulkAll r
def uptoBulkEntries {H : Type} : List (Lit × DataW H) → Nat
  | [] => 0
  | x :: r => uptoBulkEntry x + uptoBulkEntries r
def uptoBulkEntry {H : Type} : Lit × DataW H → Nat
  | (.string bytes, d) => bytes.length + uptoBulk d + 1
  | (_, d) => uptoBulk d + 1
 end
def uptoSmall : (H : Type) → List (DataW H) → Bool := fun _ ds => decide (uptoBulkAll ds ≤ 1048576)
def OpenSpec.upto (s : _root_.Go.ChangeSpec) : _root_.Go.OpenSpec := { _root_.Go.OpenSpec.ofChange s with cond := some uptoSmall }

/-- 'vyakaranalaw06.CellReduces', WHERE WHAT IT READS IS OF BULK AT MOST 1048576: true; the input reads as it did. -/
def cellReducesUptoRow : OpenClaim := { program := "ytdnlpikfibdjoaa", sum := "cafd020906b82e18f41ccf7e84aebd732e78e3858bc885f1f621181a73fa74d7", func := "vyakarana/vyakaranalaw06.CellReduces", spec := "cellReduces", unfollowed := true, recurses := true, plainKeys := false, apart := false, narrowed := true }
def CellReducesUptoSaid : Prop := cellReducesUptoRow.holds Try.pinned (OpenSpec.upto cellReducesSpec)

/-- 'vyakaranalaw06.CellWithout', WHERE WHAT IT READS IS OF BULK AT MOST 1048576: true; the input reads as it did. -/
def cellWithoutUptoRow : OpenClaim := { program := "ytdnlpikfibdjoaa", sum := "cafd020906b82e18f41ccf7e84aebd732e78e3858bc885f1f621181a73fa74d7", func := "vyakarana/vyakaranalaw06.CellWithout", spec := "cellWithout", unfollowed := true, recurses := true, plainKeys := false, apart := false, narrowed := true }
def CellWithoutUptoSaid : Prop := cellWithoutUptoRow.holds Try.pinned (OpenSpec.upto cellWithoutSpec)

/-- 'vyakaranalaw07.StemmaBuilds', WHERE WHAT IT READS IS OF BULK AT MOST 1048576: true; the input reads as it did. -/
def stemmaBuildsUptoRow : OpenClaim := { program := "ytdnlpikfibdjoaa", sum := "cafd020906b82e18f41ccf7e84aebd732e78e3858bc885f1f621181a73fa74d7", func := "vyakarana/vyakaranalaw07.StemmaBuilds", spec := "stemmaBuilds", unfollowed := true, recurses := true, plainKeys := false, apart := false, narrowed := true }
def StemmaBuildsUptoSaid : Prop := stemmaBuildsUptoRow.holds Try.pinned (OpenSpec.upto stemmaBuildsSpec)

/-- 'vyakaranatop.TopCells', WHERE WHAT IT READS IS OF BULK AT MOST 1048576: true; the input reads as it did. -/
def topCellsUptoRow : OpenClaim := { program := "ytdnlpikfibdjoaa", sum := "cafd020906b82e18f41ccf7e84aebd732e78e3858bc885f1f621181a73fa74d7", func := "vyakarana/vyakaranatop.TopCells", spec := "topCells", unfollowed := true, recurses := true, plainKeys := false, apart := false, narrowed := true }
def TopCellsUptoSaid : Prop := topCellsUptoRow.holds Try.pinned (OpenSpec.upto topCellsSpec)

/-- 'vyakaranatop.TopStemmas', WHERE WHAT IT READS IS OF BULK AT MOST 1048576: true; the input reads as it did. -/
def topStemmasUptoRow : OpenClaim := { program := "ytdnlpikfibdjoaa", sum := "cafd020906b82e18f41ccf7e84aebd732e78e3858bc885f1f621181a73fa74d7", func := "vyakarana/vyakaranatop.TopStemmas", spec := "topStemmas", unfollowed := true, recurses := true, plainKeys := false, apart := false, narrowed := true }
def TopStemmasUptoSaid : Prop := topStemmasUptoRow.holds Try.pinned (OpenSpec.upto topStemmasSpec)

end Rows
end Go.Proofs.Ytdnlpikfibdjoaa
