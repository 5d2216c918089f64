/-
  No cell of these rows narrows 'for every input' (looked for: loops, veiled, ifaces, maps, wideKeys, modest, calm, conditions, laid).
  DERIVED. THE GIVEN ROWS OF THIS SEAT. 14 by the template 'for every input the law returns true; each argument reads behind the call as it read before'; 0 by the template 'total and deterministic' (their statements: YtahknodnjjmagaaTotals.lean).
  GIVEN WITH THE SEED: the statements are not yours to turn. If you find one false, say at which input.
  Laid BY PROGRAM, IN A SANDBOX (cutbox-rows.mjs): the forced cells as the released guide's own fill.sh prints them over the translation 3034466bde6ff00d… (all of the seat's roots in one cut). By AI agents, Wed Nov 11 2026. No macro, syntax, notation, axiom, sorry.
-/
import Derived.Test.YtahknodnjjmagaaChecked
import GoSem.Claim
import GoSem.ClaimJoined
import GoSem.ClaimMapViews
import Derived.JoinedTies
import Derived.KernelRfl
namespace Go.Proofs.Ytahknodnjjmagaa
/- THE CELL 'sum', in the pinned program and in every row, IS THE sha256 OF THE DUMP (.gsa) THAT YtahknodnjjmagaaProg.lean LOADS. Nothing in Lean hashes anything: it is a label: what it is worth is what the hold of that sum in a sandbox is worth. -/
noncomputable def Try.pinned : Pinned := { name := "ytahknodnjjmagaa", sum := "3034466bde6ff00db77643e7b266548545c572239dc0c6a88633566ffde03a24", checked := Try.checked }
namespace Rows
def none {H : Type} : Left H := { results := [], args := [] }

/-- 'vyakaranalaw06.CellLists': WHATEVER THE INPUT: true; the input reads as it did. -/
def cellListsSpec : ChangeSpec := { name := "cellLists", fn := fun _ => fun
  | [d] => { results := [.lit (.bool true)], args := [d] }
  | _ => none }
def cellListsRow : OpenClaim := { program := "ytahknodnjjmagaa", sum := "3034466bde6ff00db77643e7b266548545c572239dc0c6a88633566ffde03a24", func := "vyakarana/vyakaranalaw06.CellLists", spec := "cellLists", unfollowed := true, recurses := true, apart := false }
def CellListsSaid : Prop := cellListsRow.holds Try.pinned (OpenSpec.ofChange cellListsSpec)

/-- ITS FALSE NEIGHBOUR: 'it returns false'. Refute it at one input. -/
def cellListsWrong : ChangeSpec := { name := "cellLists", fn := fun _ => fun
  | [d] => { results := [.lit (.bool false)], args := [d] }
  | _ => none }
def CellListsWrongFalsely : Prop := cellListsRow.holds Try.pinned (OpenSpec.ofChange cellListsWrong)

/-- 'vyakaranalaw06.CellMatches': WHATEVER THE INPUT: true; the input reads as it did. -/
def cellMatchesSpec : ChangeSpec := { name := "cellMatches", fn := fun _ => fun
  | [d1, d2] => { results := [.lit (.bool true)], args := [d1, d2] }
  | _ => none }
def cellMatchesRow : OpenClaim := { program := "ytahknodnjjmagaa", sum := "3034466bde6ff00db77643e7b266548545c572239dc0c6a88633566ffde03a24", func := "vyakarana/vyakaranalaw06.CellMatches", spec := "cellMatches", unfollowed := true, recurses := true, apart := false }
def CellMatchesSaid : Prop := cellMatchesRow.holds Try.pinned (OpenSpec.ofChange cellMatchesSpec)

/-- ITS FALSE NEIGHBOUR: 'it returns false'. Refute it at one input. -/
def cellMatchesWrong : ChangeSpec := { name := "cellMatches", fn := fun _ => fun
  | [d1, d2] => { results := [.lit (.bool false)], args := [d1, d2] }
  | _ => none }
def CellMatchesWrongFalsely : Prop := cellMatchesRow.holds Try.pinned (OpenSpec.ofChange cellMatchesWrong)

/-- 'vyakaranalaw06.CellMore': WHATEVER THE INPUT: true; the input reads as it did. -/
def cellMoreSpec : ChangeSpec := { name := "cellMore", fn := fun _ => fun
  | [d1, d2, d3] => { results := [.lit (.bool true)], args := [d1, d2, d3] }
  | _ => none }
def cellMoreRow : OpenClaim := { program := "ytahknodnjjmagaa", sum := "3034466bde6ff00db77643e7b266548545c572239dc0c6a88633566ffde03a24", func := "vyakarana/vyakaranalaw06.CellMore", spec := "cellMore", unfollowed := true, recurses := true, apart := false }
def CellMoreSaid : Prop := cellMoreRow.holds Try.pinned (OpenSpec.ofChange cellMoreSpec)

/-- ITS FALSE NEIGHBOUR: 'it returns false'. Refute it at one input. -/
def cellMoreWrong : ChangeSpec := { name := "cellMore", fn := fun _ => fun
  | [d1, d2, d3] => { results := [.lit (.bool false)], args := [d1, d2, d3] }
  | _ => none }
def CellMoreWrongFalsely : Prop := cellMoreRow.holds Try.pinned (OpenSpec.ofChange cellMoreWrong)

/-- 'vyakaranalaw06.CellFills': WHATEVER THE INPUT: true; the input reads as it did. -/
def cellFillsSpec : ChangeSpec := { name := "cellFills", fn := fun _ => fun
  | [d] => { results := [.lit (.bool true)], args := [d] }
  | _ => none }
def cellFillsRow : OpenClaim := { program := "ytahknodnjjmagaa", sum := "3034466bde6ff00db77643e7b266548545c572239dc0c6a88633566ffde03a24", func := "vyakarana/vyakaranalaw06.CellFills", spec := "cellFills", unfollowed := true, recurses := true, apart := false }
def CellFillsSaid : Prop := cellFillsRow.holds Try.pinned (OpenSpec.ofChange cellFillsSpec)

/-- ITS FALSE NEIGHBOUR: 'it returns false'. Refute it at one input. -/
def cellFillsWrong : ChangeSpec := { name := "cellFills", fn := fun _ => fun
  | [d] => { results := [.lit (.bool false)], args := [d] }
  | _ => none }
def CellFillsWrongFalsely : Prop := cellFillsRow.holds Try.pinned (OpenSpec.ofChange cellFillsWrong)

/-- 'vyakaranalaw06.CellClashes': WHATEVER THE INPUT: true; the input reads as it did. -/
def cellClashesSpec : ChangeSpec := { name := "cellClashes", fn := fun _ => fun
  | [d] => { results := [.lit (.bool true)], args := [d] }
  | _ => none }
def cellClashesRow : OpenClaim := { program := "ytahknodnjjmagaa", sum := "3034466bde6ff00db77643e7b266548545c572239dc0c6a88633566ffde03a24", func := "vyakarana/vyakaranalaw06.CellClashes", spec := "cellClashes", unfollowed := true, recurses := true, apart := false }
def CellClashesSaid : Prop := cellClashesRow.holds Try.pinned (OpenSpec.ofChange cellClashesSpec)

/-- ITS FALSE NEIGHBOUR: 'it returns false'. Refute it at one input. -/
def cellClashesWrong : ChangeSpec := { name := "cellClashes", fn := fun _ => fun
  | [d] => { results := [.lit (.bool false)], args := [d] }
  | _ => none }
def CellClashesWrongFalsely : Prop := cellClashesRow.holds Try.pinned (OpenSpec.ofChange cellClashesWrong)

/-- 'vyakaranalaw06.CellHomes': WHATEVER THE INPUT: true; the input reads as it did. -/
def cellHomesSpec : ChangeSpec := { name := "cellHomes", fn := fun _ => fun
  | [d1, d2] => { results := [.lit (.bool true)], args := [d1, d2] }
  | _ => none }
def cellHomesRow : OpenClaim := { program := "ytahknodnjjmagaa", sum := "3034466bde6ff00db77643e7b266548545c572239dc0c6a88633566ffde03a24", func := "vyakarana/vyakaranalaw06.CellHomes", spec := "cellHomes", unfollowed := true, recurses := true, apart := false }
def CellHomesSaid : Prop := cellHomesRow.holds Try.pinned (OpenSpec.ofChange cellHomesSpec)

/-- ITS FALSE NEIGHBOUR: 'it returns false'. Refute it at one input. -/
def cellHomesWrong : ChangeSpec := { name := "cellHomes", fn := fun _ => fun
  | [d1, d2] => { results := [.lit (.bool false)], args := [d1, d2] }
  | _ => none }
def CellHomesWrongFalsely : Prop := cellHomesRow.holds Try.pinned (OpenSpec.ofChange cellHomesWrong)

/-- 'vyakaranalaw06.CellHulls': WHATEVER THE INPUT: true; the input reads as it did. -/
def cellHullsSpec : ChangeSpec := { name := "cellHulls", fn := fun _ => fun
  | [d1, d2] => { results := [.lit (.bool true)], args := [d1, d2] }
  | _ => none }
def cellHullsRow : OpenClaim := { program := "ytahknodnjjmagaa", sum := "3034466bde6ff00db77643e7b266548545c572239dc0c6a88633566ffde03a24", func := "vyakarana/vyakaranalaw06.CellHulls", spec := "cellHulls", unfollowed := true, recurses := true, apart := false }
def CellHullsSaid : Prop := cellHullsRow.holds Try.pinned (OpenSpec.ofChange cellHullsSpec)

/-- ITS FALSE NEIGHBOUR: 'it returns false'. Refute it at one input. -/
def cellHullsWrong : ChangeSpec := { name := "cellHulls", fn := fun _ => fun
  | [d1, d2] => { results := [.lit (.bool false)], args := [d1, d2] }
  | _ => none }
def CellHullsWrongFalsely : Prop := cellHullsRow.holds Try.pinned (OpenSpec.ofChange cellHullsWrong)

/-- 'vyakaranalaw06.CellBoxes': WHATEVER THE INPUT: true; the input reads as it did. -/
def cellBoxesSpec : ChangeSpec := { name := "cellBoxes", fn := fun _ => fun
  | [d1, d2] => { results := [.lit (.bool true)], args := [d1, d2] }
  | _ => none }
def cellBoxesRow : OpenClaim := { program := "ytahknodnjjmagaa", sum := "3034466bde6ff00db77643e7b266548545c572239dc0c6a88633566ffde03a24", func := "vyakarana/vyakaranalaw06.CellBoxes", spec := "cellBoxes", unfollowed := true, recurses := true, apart := false }
def CellBoxesSaid : Prop := cellBoxesRow.holds Try.pinned (OpenSpec.ofChange cellBoxesSpec)

/-- ITS FALSE NEIGHBOUR: 'it returns false'. Refute it at one input. -/
def cellBoxesWrong : ChangeSpec := { name := "cellBoxes", fn := fun _ => fun
  | [d1, d2] => { results := [.lit (.bool false)], args := [d1, d2] }
  | _ => none }
def CellBoxesWrongFalsely : Prop := cellBoxesRow.holds Try.pinned (OpenSpec.ofChange cellBoxesWrong)

/-- 'vyakaranalaw06.CellReduces': WHATEVER THE INPUT: true; the input reads as it did. -/
def cellReducesSpec : ChangeSpec := { name := "cellReduces", fn := fun _ => fun
  | [d] => { results := [.lit (.bool true)], args := [d] }
  | _ => none }
def cellReducesRow : OpenClaim := { program := "ytahknodnjjmagaa", sum := "3034466bde6ff00db77643e7b266548545c572239dc0c6a88633566ffde03a24", func := "vyakarana/vyakaranalaw06.CellReduces", spec := "cellReduces", unfollowed := true, recurses := true, apart := false }
def CellReducesSaid : Prop := cellReducesRow.holds Try.pinned (OpenSpec.ofChange cellReducesSpec)

/-- ITS FALSE NEIGHBOUR: 'it returns false'. Refute it at one input. -/
def cellReducesWrong : ChangeSpec := { name := "cellReduces", fn := fun _ => fun
  | [d] => { results := [.lit (.bool false)], args := [d] }
  | _ => none }
def CellReducesWrongFalsely : Prop := cellReducesRow.holds Try.pinned (OpenSpec.ofChange cellReducesWrong)

/-- 'vyakaranalaw06.CellSames': WHATEVER THE INPUT: true; the input reads as it did. -/
def cellSamesSpec : ChangeSpec := { name := "cellSames", fn := fun _ => fun
  | [d1, d2] => { results := [.lit (.bool true)], args := [d1, d2] }
  | _ => none }
def cellSamesRow : OpenClaim := { program := "ytahknodnjjmagaa", sum := "3034466bde6ff00db77643e7b266548545c572239dc0c6a88633566ffde03a24", func := "vyakarana/vyakaranalaw06.CellSames", spec := "cellSames", unfollowed := true, recurses := true, apart := false }
def CellSamesSaid : Prop := cellSamesRow.holds Try.pinned (OpenSpec.ofChange cellSamesSpec)

/-- ITS FALSE NEIGHBOUR: 'it returns false'. Refute it at one input. -/
def cellSamesWrong : ChangeSpec := { name := "cellSames", fn := fun _ => fun
  | [d1, d2] => { results := [.lit (.bool false)], args := [d1, d2] }
  | _ => none }
def CellSamesWrongFalsely : Prop := cellSamesRow.holds Try.pinned (OpenSpec.ofChange cellSamesWrong)

/-- 'vyakaranalaw06.CellSwaps': WHATEVER THE INPUT: true; the input reads as it did. -/
def cellSwapsSpec : ChangeSpec := { name := "cellSwaps", fn := fun _ => fun
  | [d1, d2, d3] => { results := [.lit (.bool true)], args := [d1, d2, d3] }
  | _ => none }
def cellSwapsRow : OpenClaim := { program := "ytahknodnjjmagaa", sum := "3034466bde6ff00db77643e7b266548545c572239dc0c6a88633566ffde03a24", func := "vyakarana/vyakaranalaw06.CellSwaps", spec := "cellSwaps", unfollowed := true, recurses := true, apart := false }
def CellSwapsSaid : Prop := cellSwapsRow.holds Try.pinned (OpenSpec.ofChange cellSwapsSpec)

/-- ITS FALSE NEIGHBOUR: 'it returns false'. Refute it at one input. -/
def cellSwapsWrong : ChangeSpec := { name := "cellSwaps", fn := fun _ => fun
  | [d1, d2, d3] => { results := [.lit (.bool false)], args := [d1, d2, d3] }
  | _ => none }
def CellSwapsWrongFalsely : Prop := cellSwapsRow.holds Try.pinned (OpenSpec.ofChange cellSwapsWrong)

/-- 'vyakaranalaw06.CellAdds': WHATEVER THE INPUT: true; the input reads as it did. -/
def cellAddsSpec : ChangeSpec := { name := "cellAdds", fn := fun _ => fun
  | [d1, d2] => { results := [.lit (.bool true)], args := [d1, d2] }
  | _ => none }
def cellAddsRow : OpenClaim := { program := "ytahknodnjjmagaa", sum := "3034466bde6ff00db77643e7b266548545c572239dc0c6a88633566ffde03a24", func := "vyakarana/vyakaranalaw06.CellAdds", spec := "cellAdds", unfollowed := true, recurses := true, apart := false }
def CellAddsSaid : Prop := cellAddsRow.holds Try.pinned (OpenSpec.ofChange cellAddsSpec)

/-- ITS FALSE NEIGHBOUR: 'it returns false'. Refute it at one input. -/
def cellAddsWrong : ChangeSpec := { name := "cellAdds", fn := fun _ => fun
  | [d1, d2] => { results := [.lit (.bool false)], args := [d1, d2] }
  | _ => none }
def CellAddsWrongFalsely : Prop := cellAddsRow.holds Try.pinned (OpenSpec.ofChange cellAddsWrong)

/-- 'vyakaranalaw06.CellWithout': WHATEVER THE INPUT: true; the input reads as it did. -/
def cellWithoutSpec : ChangeSpec := { name := "cellWithout", fn := fun _ => fun
  | [d1, d2] => { results := [.lit (.bool true)], args := [d1, d2] }
  | _ => none }
def cellWithoutRow : OpenClaim := { program := "ytahknodnjjmagaa", sum := "3034466bde6ff00db77643e7b266548545c572239dc0c6a88633566ffde03a24", func := "vyakarana/vyakaranalaw06.CellWithout", spec := "cellWithout", unfollowed := true, recurses := true, apart := false }
def CellWithoutSaid : Prop := cellWithoutRow.holds Try.pinned (OpenSpec.ofChange cellWithoutSpec)

/-- ITS FALSE NEIGHBOUR: 'it returns false'. Refute it at one input. -/
def cellWithoutWrong : ChangeSpec := { name := "cellWithout", fn := fun _ => fun
  | [d1, d2] => { results := [.lit (.bool false)], args := [d1, d2] }
  | _ => none }
def CellWithoutWrongFalsely : Prop := cellWithoutRow.holds Try.pinned (OpenSpec.ofChange cellWithoutWrong)

/-- 'vyakaranatop.TopCells': WHATEVER THE INPUT: true; the input reads as it did. -/
def topCellsSpec : ChangeSpec := { name := "topCells", fn := fun _ => fun
  | [d1, d2, d3] => { results := [.lit (.bool true)], args := [d1, d2, d3] }
  | _ => none }
def topCellsRow : OpenClaim := { program := "ytahknodnjjmagaa", sum := "3034466bde6ff00db77643e7b266548545c572239dc0c6a88633566ffde03a24", func := "vyakarana/vyakaranatop.TopCells", spec := "topCells", unfollowed := true, recurses := true, apart := false }
def TopCellsSaid : Prop := topCellsRow.holds Try.pinned (OpenSpec.ofChange topCellsSpec)

/-- ITS FALSE NEIGHBOUR: 'it returns false'. Refute it at one input. -/
def topCellsWrong : ChangeSpec := { name := "topCells", fn := fun _ => fun
  | [d1, d2, d3] => { results := [.lit (.bool false)], args := [d1, d2, d3] }
  | _ => none }
def TopCellsWrongFalsely : Prop := topCellsRow.holds Try.pinned (OpenSpec.ofChange topCellsWrong)

/- THE SECOND FORM. 'bulk': how many values and letters a reading holds, each counted each time it is reached (what is shared counts as often as it is met; a slice's spare places count too). A statement '..UptoSaid' is the law's where the arguments, and the package variables that the reading takes, are together of bulk at most 1048576: NARROWER than '..Said'. Prove '..Said' where nothing that the law and all that it calls make is longer than what came in: it says more and counts as full. Else prove '..UptoSaid'. A law counts once. -/
mutual
def uptoBulk {H : Type} : DataW H → Nat
  | .lit (.string bytes) => bytes.length + 1
  | .lit _ => 1
  | .nil => 1
  | .ptr d => uptoBulk d + 1
  | .slice elems spare => uptoBulkAll elems + uptoBulkAll spare + 1
  | .agg parts => uptoBulkAll parts + 1
  | .iface _ d => uptoBulk d + 1
  | .map entries => uptoBulkEntries entries + 1
  | .held _ => 1
def uptoBulkAll {H : Type} : List (DataW H) → Nat
  | [] => 0
  | d :: r => uptoBulk d + uptoBulkAll r
def uptoBulkEntries {H : Type} : List (Lit × DataW H) → Nat
  | [] => 0
  | x :: r => uptoBulkEntry x + uptoBulkEntries r
def uptoBulkEntry {H : Type} : Lit × DataW H → Nat
  | (.string bytes, d) => bytes.length + uptoBulk d + 1
  | (_, d) => uptoBulk d + 1
 end
def uptoSmall : (H : Type) → List (DataW H) → Bool := fun _ ds => decide (uptoBulkAll ds ≤ 1048576)
def OpenSpec.upto (s : _root_.Go.ChangeSpec) : _root_.Go.OpenSpec := { _root_.Go.OpenSpec.ofChange s with cond := some uptoSmall }

/-- 'vyakaranalaw06.CellLists', WHERE WHAT IT READS IS OF BULK AT MOST 1048576: true; the input reads as it did. -/
def cellListsUptoRow : OpenClaim := { program := "ytahknodnjjmagaa", sum := "3034466bde6ff00db77643e7b266548545c572239dc0c6a88633566ffde03a24", func := "vyakarana/vyakaranalaw06.CellLists", spec := "cellLists", unfollowed := true, recurses := true, apart := false, narrowed := true }
def CellListsUptoSaid : Prop := cellListsUptoRow.holds Try.pinned (OpenSpec.upto cellListsSpec)

/-- 'vyakaranalaw06.CellMatches', WHERE WHAT IT READS IS OF BULK AT MOST 1048576: true; the input reads as it did. -/
def cellMatchesUptoRow : OpenClaim := { program := "ytahknodnjjmagaa", sum := "3034466bde6ff00db77643e7b266548545c572239dc0c6a88633566ffde03a24", func := "vyakarana/vyakaranalaw06.CellMatches", spec := "cellMatches", unfollowed := true, recurses := true, apart := false, narrowed := true }
def CellMatchesUptoSaid : Prop := cellMatchesUptoRow.holds Try.pinned (OpenSpec.upto cellMatchesSpec)

/-- 'vyakaranalaw06.CellMore', WHERE WHAT IT READS IS OF BULK AT MOST 1048576: true; the input reads as it did. -/
def cellMoreUptoRow : OpenClaim := { program := "ytahknodnjjmagaa", sum := "3034466bde6ff00db77643e7b266548545c572239dc0c6a88633566ffde03a24", func := "vyakarana/vyakaranalaw06.CellMore", spec := "cellMore", unfollowed := true, recurses := true, apart := false, narrowed := true }
def CellMoreUptoSaid : Prop := cellMoreUptoRow.holds Try.pinned (OpenSpec.upto cellMoreSpec)

/-- 'vyakaranalaw06.CellFills', WHERE WHAT IT READS IS OF BULK AT MOST 1048576: true; the input reads as it did. -/
def cellFillsUptoRow : OpenClaim := { program := "ytahknodnjjmagaa", sum := "3034466bde6ff00db77643e7b266548545c572239dc0c6a88633566ffde03a24", func := "vyakarana/vyakaranalaw06.CellFills", spec := "cellFills", unfollowed := true, recurses := true, apart := false, narrowed := true }
def CellFillsUptoSaid : Prop := cellFillsUptoRow.holds Try.pinned (OpenSpec.upto cellFillsSpec)

/-- 'vyakaranalaw06.CellClashes', WHERE WHAT IT READS IS OF BULK AT MOST 1048576: true; the input reads as it did. -/
def cellClashesUptoRow : OpenClaim := { program := "ytahknodnjjmagaa", sum := "3034466bde6ff00db77643e7b266548545c572239dc0c6a88633566ffde03a24", func := "vyakarana/vyakaranalaw06.CellClashes", spec := "cellClashes", unfollowed := true, recurses := true, apart := false, narrowed := true }
def CellClashesUptoSaid : Prop := cellClashesUptoRow.holds Try.pinned (OpenSpec.upto cellClashesSpec)

/-- 'vyakaranalaw06.CellHomes', WHERE WHAT IT READS IS OF BULK AT MOST 1048576: true; the input reads as it did. -/
def cellHomesUptoRow : OpenClaim := { program := "ytahknodnjjmagaa", sum := "3034466bde6ff00db77643e7b266548545c572239dc0c6a88633566ffde03a24", func := "vyakarana/vyakaranalaw06.CellHomes", spec := "cellHomes", unfollowed := true, recurses := true, apart := false, narrowed := true }
def CellHomesUptoSaid : Prop := cellHomesUptoRow.holds Try.pinned (OpenSpec.upto cellHomesSpec)

/-- 'vyakaranalaw06.CellHulls', WHERE WHAT IT READS IS OF BULK AT MOST 1048576: true; the input reads as it did. -/
def cellHullsUptoRow : OpenClaim := { program := "ytahknodnjjmagaa", sum := "3034466bde6ff00db77643e7b266548545c572239dc0c6a88633566ffde03a24", func := "vyakarana/vyakaranalaw06.CellHulls", spec := "cellHulls", unfollowed := true, recurses := true, apart := false, narrowed := true }
def CellHullsUptoSaid : Prop := cellHullsUptoRow.holds Try.pinned (OpenSpec.upto cellHullsSpec)

/-- 'vyakaranalaw06.CellBoxes', WHERE WHAT IT READS IS OF BULK AT MOST 1048576: true; the input reads as it did. -/
def cellBoxesUptoRow : OpenClaim := { program := "ytahknodnjjmagaa", sum := "3034466bde6ff00db77643e7b266548545c572239dc0c6a88633566ffde03a24", func := "vyakarana/vyakaranalaw06.CellBoxes", spec := "cellBoxes", unfollowed := true, recurses := true, apart := false, narrowed := true }
def CellBoxesUptoSaid : Prop := cellBoxesUptoRow.holds Try.pinned (OpenSpec.upto cellBoxesSpec)

/-- 'vyakaranalaw06.CellReduces', WHERE WHAT IT READS IS OF BULK AT MOST 1048576: true; the input reads as it did. -/
def cellReducesUptoRow : OpenClaim := { program := "ytahknodnjjmagaa", sum := "3034466bde6ff00db77643e7b266548545c572239dc0c6a88633566ffde03a24", func := "vyakarana/vyakaranalaw06.CellReduces", spec := "cellReduces", unfollowed := true, recurses := true, apart := false, narrowed := true }
def CellReducesUptoSaid : Prop := cellReducesUptoRow.holds Try.pinned (OpenSpec.upto cellReducesSpec)

/-- 'vyakaranalaw06.CellSames', WHERE WHAT IT READS IS OF BULK AT MOST 1048576: true; the input reads as it did. -/
def cellSamesUptoRow : OpenClaim := { program := "ytahknodnjjmagaa", sum := "3034466bde6ff00db77643e7b266548545c572239dc0c6a88633566ffde03a24", func := "vyakarana/vyakaranalaw06.CellSames", spec := "cellSames", unfollowed := true, recurses := true, apart := false, narrowed := true }
def CellSamesUptoSaid : Prop := cellSamesUptoRow.holds Try.pinned (OpenSpec.upto cellSamesSpec)

/-- 'vyakaranalaw06.CellSwaps', WHERE WHAT IT READS IS OF BULK AT MOST 1048576: true; the input reads as it did. -/
def cellSwapsUptoRow : OpenClaim := { program := "ytahknodnjjmagaa", sum := "3034466bde6ff00db77643e7b266548545c572239dc0c6a88633566ffde03a24", func := "vyakarana/vyakaranalaw06.CellSwaps", spec := "cellSwaps", unfollowed := true, recurses := true, apart := false, narrowed := true }
def CellSwapsUptoSaid : Prop := cellSwapsUptoRow.holds Try.pinned (OpenSpec.upto cellSwapsSpec)

/-- 'vyakaranalaw06.CellAdds', WHERE WHAT IT READS IS OF BULK AT MOST 1048576: true; the input reads as it did. -/
def cellAddsUptoRow : OpenClaim := { program := "ytahknodnjjmagaa", sum := "3034466bde6ff00db77643e7b266548545c572239dc0c6a88633566ffde03a24", func := "vyakarana/vyakaranalaw06.CellAdds", spec := "cellAdds", unfollowed := true, recurses := true, apart := false, narrowed := true }
def CellAddsUptoSaid : Prop := cellAddsUptoRow.holds Try.pinned (OpenSpec.upto cellAddsSpec)

/-- 'vyakaranalaw06.CellWithout', WHERE WHAT IT READS IS OF BULK AT MOST 1048576: true; the input reads as it did. -/
def cellWithoutUptoRow : OpenClaim := { program := "ytahknodnjjmagaa", sum := "3034466bde6ff00db77643e7b266548545c572239dc0c6a88633566ffde03a24", func := "vyakarana/vyakaranalaw06.CellWithout", spec := "cellWithout", unfollowed := true, recurses := true, apart := false, narrowed := true }
def CellWithoutUptoSaid : Prop := cellWithoutUptoRow.holds Try.pinned (OpenSpec.upto cellWithoutSpec)

/-- 'vyakaranatop.TopCells', WHERE WHAT IT READS IS OF BULK AT MOST 1048576: true; the input reads as it did. -/
def topCellsUptoRow : OpenClaim := { program := "ytahknodnjjmagaa", sum := "3034466bde6ff00db77643e7b266548545c572239dc0c6a88633566ffde03a24", func := "vyakarana/vyakaranatop.TopCells", spec := "topCells", unfollowed := true, recurses := true, apart := false, narrowed := true }
def TopCellsUptoSaid : Prop := topCellsUptoRow.holds Try.pinned (OpenSpec.upto topCellsSpec)

end Rows
end Go.Proofs.Ytahknodnjjmagaa
