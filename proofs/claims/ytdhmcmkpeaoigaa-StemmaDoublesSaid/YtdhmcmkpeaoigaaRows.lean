/-
  No cell of these rows narrows 'for every input' (looked for: loops, veiled, ifaces, maps, wideKeys, modest, calm, conditions, laid).
  DERIVED. THE GIVEN ROWS OF THIS SEAT. 15 by the template 'for every input the law returns true; each argument reads behind the call as it read before'; 0 by the template 'total and deterministic' (their statements: YtdhmcmkpeaoigaaTotals.lean).
  GIVEN WITH THE SEED: the statements are not yours to turn. If you find one false, say at which input.
  Laid BY PROGRAM, IN A SANDBOX (cutbox-rows.mjs): the forced cells as the released guide's own fill.sh prints them over the translation f2dcb9352e989893… (all of the seat's roots in one cut). By AI agents, Wed Nov 11 2026. No macro, syntax, notation, axiom, sorry.
-/
import Derived.Test.YtdhmcmkpeaoigaaChecked
import GoSem.Claim
import GoSem.ClaimJoined
import GoSem.ClaimMapViews
import Derived.JoinedTies
import Derived.KernelRfl
namespace Go.Proofs.Ytdhmcmkpeaoigaa
/- THE CELL 'sum', in the pinned program and in every row, IS THE sha256 OF THE DUMP (.gsa) THAT YtdhmcmkpeaoigaaProg.lean LOADS. Nothing in Lean hashes anything: it is a label: what it is worth is what the hold of that sum in a sandbox is worth. -/
noncomputable def Try.pinned : Pinned := { name := "ytdhmcmkpeaoigaa", sum := "f2dcb9352e9898931e1ae11119f5980aedcb01e5bfb265f393545a94cd1f56d0", checked := Try.checked }
namespace Rows
def none {H : Type} : Left H := { results := [], args := [] }

/-- 'vyakaranalaw07.StemmaPlaces': WHATEVER THE INPUT: true; the input reads as it did. -/
def stemmaPlacesSpec : ChangeSpec := { name := "stemmaPlaces", fn := fun _ => fun
  | [d1, d2] => { results := [.lit (.bool true)], args := [d1, d2] }
  | _ => none }
def stemmaPlacesRow : OpenClaim := { program := "ytdhmcmkpeaoigaa", sum := "f2dcb9352e9898931e1ae11119f5980aedcb01e5bfb265f393545a94cd1f56d0", func := "vyakarana/vyakaranalaw07.StemmaPlaces", spec := "stemmaPlaces", plainKeys := false, apart := false }
def StemmaPlacesSaid : Prop := stemmaPlacesRow.holds Try.pinned (OpenSpec.ofChange stemmaPlacesSpec)

/-- ITS FALSE NEIGHBOUR: 'it returns false'. Refute it at one input. -/
def stemmaPlacesWrong : ChangeSpec := { name := "stemmaPlaces", fn := fun _ => fun
  | [d1, d2] => { results := [.lit (.bool false)], args := [d1, d2] }
  | _ => none }
def StemmaPlacesWrongFalsely : Prop := stemmaPlacesRow.holds Try.pinned (OpenSpec.ofChange stemmaPlacesWrong)

/-- 'vyakaranalaw07.StemmaConflicts': WHATEVER THE INPUT: true; the input reads as it did. -/
def stemmaConflictsSpec : ChangeSpec := { name := "stemmaConflicts", fn := fun _ => fun
  | [d1, d2, d3] => { results := [.lit (.bool true)], args := [d1, d2, d3] }
  | _ => none }
def stemmaConflictsRow : OpenClaim := { program := "ytdhmcmkpeaoigaa", sum := "f2dcb9352e9898931e1ae11119f5980aedcb01e5bfb265f393545a94cd1f56d0", func := "vyakarana/vyakaranalaw07.StemmaConflicts", spec := "stemmaConflicts", plainKeys := false, apart := false }
def StemmaConflictsSaid : Prop := stemmaConflictsRow.holds Try.pinned (OpenSpec.ofChange stemmaConflictsSpec)

/-- ITS FALSE NEIGHBOUR: 'it returns false'. Refute it at one input. -/
def stemmaConflictsWrong : ChangeSpec := { name := "stemmaConflicts", fn := fun _ => fun
  | [d1, d2, d3] => { results := [.lit (.bool false)], args := [d1, d2, d3] }
  | _ => none }
def StemmaConflictsWrongFalsely : Prop := stemmaConflictsRow.holds Try.pinned (OpenSpec.ofChange stemmaConflictsWrong)

/-- 'vyakaranalaw07.StemmaSides': WHATEVER THE INPUT: true; the input reads as it did. -/
def stemmaSidesSpec : ChangeSpec := { name := "stemmaSides", fn := fun _ => fun
  | [d1, d2, d3] => { results := [.lit (.bool true)], args := [d1, d2, d3] }
  | _ => none }
def stemmaSidesRow : OpenClaim := { program := "ytdhmcmkpeaoigaa", sum := "f2dcb9352e9898931e1ae11119f5980aedcb01e5bfb265f393545a94cd1f56d0", func := "vyakarana/vyakaranalaw07.StemmaSides", spec := "stemmaSides", plainKeys := false, apart := false }
def StemmaSidesSaid : Prop := stemmaSidesRow.holds Try.pinned (OpenSpec.ofChange stemmaSidesSpec)

/-- ITS FALSE NEIGHBOUR: 'it returns false'. Refute it at one input. -/
def stemmaSidesWrong : ChangeSpec := { name := "stemmaSides", fn := fun _ => fun
  | [d1, d2, d3] => { results := [.lit (.bool false)], args := [d1, d2, d3] }
  | _ => none }
def StemmaSidesWrongFalsely : Prop := stemmaSidesRow.holds Try.pinned (OpenSpec.ofChange stemmaSidesWrong)

/-- 'vyakaranalaw07.StemmaGreatest': WHATEVER THE INPUT: true; the input reads as it did. -/
def stemmaGreatestSpec : ChangeSpec := { name := "stemmaGreatest", fn := fun _ => fun
  | [d] => { results := [.lit (.bool true)], args := [d] }
  | _ => none }
def stemmaGreatestRow : OpenClaim := { program := "ytdhmcmkpeaoigaa", sum := "f2dcb9352e9898931e1ae11119f5980aedcb01e5bfb265f393545a94cd1f56d0", func := "vyakarana/vyakaranalaw07.StemmaGreatest", spec := "stemmaGreatest", unfollowed := true, recurses := true, plainKeys := false, apart := false }
def StemmaGreatestSaid : Prop := stemmaGreatestRow.holds Try.pinned (OpenSpec.ofChange stemmaGreatestSpec)

/-- ITS FALSE NEIGHBOUR: 'it returns false'. Refute it at one input. -/
def stemmaGreatestWrong : ChangeSpec := { name := "stemmaGreatest", fn := fun _ => fun
  | [d] => { results := [.lit (.bool false)], args := [d] }
  | _ => none }
def StemmaGreatestWrongFalsely : Prop := stemmaGreatestRow.holds Try.pinned (OpenSpec.ofChange stemmaGreatestWrong)

/-- 'vyakaranalaw07.StemmaBuilds': WHATEVER THE INPUT: true; the input reads as it did. -/
def stemmaBuildsSpec : ChangeSpec := { name := "stemmaBuilds", fn := fun _ => fun
  | [d] => { results := [.lit (.bool true)], args := [d] }
  | _ => none }
def stemmaBuildsRow : OpenClaim := { program := "ytdhmcmkpeaoigaa", sum := "f2dcb9352e9898931e1ae11119f5980aedcb01e5bfb265f393545a94cd1f56d0", func := "vyakarana/vyakaranalaw07.StemmaBuilds", spec := "stemmaBuilds", unfollowed := true, recurses := true, plainKeys := false, apart := false }
def StemmaBuildsSaid : Prop := stemmaBuildsRow.holds Try.pinned (OpenSpec.ofChange stemmaBuildsSpec)

/-- ITS FALSE NEIGHBOUR: 'it returns false'. Refute it at one input. -/
def stemmaBuildsWrong : ChangeSpec := { name := "stemmaBuilds", fn := fun _ => fun
  | [d] => { results := [.lit (.bool false)], args := [d] }
  | _ => none }
def StemmaBuildsWrongFalsely : Prop := stemmaBuildsRow.holds Try.pinned (OpenSpec.ofChange stemmaBuildsWrong)

/-- 'vyakaranalaw07.StemmaChecks': WHATEVER THE INPUT: true; the input reads as it did. -/
def stemmaChecksSpec : ChangeSpec := { name := "stemmaChecks", fn := fun _ => fun
  | [d1, d2] => { results := [.lit (.bool true)], args := [d1, d2] }
  | _ => none }
def stemmaChecksRow : OpenClaim := { program := "ytdhmcmkpeaoigaa", sum := "f2dcb9352e9898931e1ae11119f5980aedcb01e5bfb265f393545a94cd1f56d0", func := "vyakarana/vyakaranalaw07.StemmaChecks", spec := "stemmaChecks", plainKeys := false, apart := false }
def StemmaChecksSaid : Prop := stemmaChecksRow.holds Try.pinned (OpenSpec.ofChange stemmaChecksSpec)

/-- ITS FALSE NEIGHBOUR: 'it returns false'. Refute it at one input. -/
def stemmaChecksWrong : ChangeSpec := { name := "stemmaChecks", fn := fun _ => fun
  | [d1, d2] => { results := [.lit (.bool false)], args := [d1, d2] }
  | _ => none }
def StemmaChecksWrongFalsely : Prop := stemmaChecksRow.holds Try.pinned (OpenSpec.ofChange stemmaChecksWrong)

/-- 'vyakaranalaw07.StemmaFewest': WHATEVER THE INPUT: true; the input reads as it did. -/
def stemmaFewestSpec : ChangeSpec := { name := "stemmaFewest", fn := fun _ => fun
  | [d1, d2, d3] => { results := [.lit (.bool true)], args := [d1, d2, d3] }
  | _ => none }
def stemmaFewestRow : OpenClaim := { program := "ytdhmcmkpeaoigaa", sum := "f2dcb9352e9898931e1ae11119f5980aedcb01e5bfb265f393545a94cd1f56d0", func := "vyakarana/vyakaranalaw07.StemmaFewest", spec := "stemmaFewest", plainKeys := false, apart := false }
def StemmaFewestSaid : Prop := stemmaFewestRow.holds Try.pinned (OpenSpec.ofChange stemmaFewestSpec)

/-- ITS FALSE NEIGHBOUR: 'it returns false'. Refute it at one input. -/
def stemmaFewestWrong : ChangeSpec := { name := "stemmaFewest", fn := fun _ => fun
  | [d1, d2, d3] => { results := [.lit (.bool false)], args := [d1, d2, d3] }
  | _ => none }
def StemmaFewestWrongFalsely : Prop := stemmaFewestRow.holds Try.pinned (OpenSpec.ofChange stemmaFewestWrong)

/-- 'vyakaranalaw07.StemmaReadings': WHATEVER THE INPUT: true; the input reads as it did. -/
def stemmaReadingsSpec : ChangeSpec := { name := "stemmaReadings", fn := fun _ => fun
  | [d1, d2, d3] => { results := [.lit (.bool true)], args := [d1, d2, d3] }
  | _ => none }
def stemmaReadingsRow : OpenClaim := { program := "ytdhmcmkpeaoigaa", sum := "f2dcb9352e9898931e1ae11119f5980aedcb01e5bfb265f393545a94cd1f56d0", func := "vyakarana/vyakaranalaw07.StemmaReadings", spec := "stemmaReadings", plainKeys := false, apart := false }
def StemmaReadingsSaid : Prop := stemmaReadingsRow.holds Try.pinned (OpenSpec.ofChange stemmaReadingsSpec)

/-- ITS FALSE NEIGHBOUR: 'it returns false'. Refute it at one input. -/
def stemmaReadingsWrong : ChangeSpec := { name := "stemmaReadings", fn := fun _ => fun
  | [d1, d2, d3] => { results := [.lit (.bool false)], args := [d1, d2, d3] }
  | _ => none }
def StemmaReadingsWrongFalsely : Prop := stemmaReadingsRow.holds Try.pinned (OpenSpec.ofChange stemmaReadingsWrong)

/-- 'vyakaranalaw07.StemmaTotals': WHATEVER THE INPUT: true; the input reads as it did. -/
def stemmaTotalsSpec : ChangeSpec := { name := "stemmaTotals", fn := fun _ => fun
  | [d1, d2] => { results := [.lit (.bool true)], args := [d1, d2] }
  | _ => none }
def stemmaTotalsRow : OpenClaim := { program := "ytdhmcmkpeaoigaa", sum := "f2dcb9352e9898931e1ae11119f5980aedcb01e5bfb265f393545a94cd1f56d0", func := "vyakarana/vyakaranalaw07.StemmaTotals", spec := "stemmaTotals", plainKeys := false, apart := false }
def StemmaTotalsSaid : Prop := stemmaTotalsRow.holds Try.pinned (OpenSpec.ofChange stemmaTotalsSpec)

/-- ITS FALSE NEIGHBOUR: 'it returns false'. Refute it at one input. -/
def stemmaTotalsWrong : ChangeSpec := { name := "stemmaTotals", fn := fun _ => fun
  | [d1, d2] => { results := [.lit (.bool false)], args := [d1, d2] }
  | _ => none }
def StemmaTotalsWrongFalsely : Prop := stemmaTotalsRow.holds Try.pinned (OpenSpec.ofChange stemmaTotalsWrong)

/-- 'vyakaranalaw07.StemmaAparts': WHATEVER THE INPUT: true; the input reads as it did. -/
def stemmaApartsSpec : ChangeSpec := { name := "stemmaAparts", fn := fun _ => fun
  | [d1, d2, d3] => { results := [.lit (.bool true)], args := [d1, d2, d3] }
  | _ => none }
def stemmaApartsRow : OpenClaim := { program := "ytdhmcmkpeaoigaa", sum := "f2dcb9352e9898931e1ae11119f5980aedcb01e5bfb265f393545a94cd1f56d0", func := "vyakarana/vyakaranalaw07.StemmaAparts", spec := "stemmaAparts", plainKeys := false, apart := false }
def StemmaApartsSaid : Prop := stemmaApartsRow.holds Try.pinned (OpenSpec.ofChange stemmaApartsSpec)

/-- ITS FALSE NEIGHBOUR: 'it returns false'. Refute it at one input. -/
def stemmaApartsWrong : ChangeSpec := { name := "stemmaAparts", fn := fun _ => fun
  | [d1, d2, d3] => { results := [.lit (.bool false)], args := [d1, d2, d3] }
  | _ => none }
def StemmaApartsWrongFalsely : Prop := stemmaApartsRow.holds Try.pinned (OpenSpec.ofChange stemmaApartsWrong)

/-- 'vyakaranalaw07.StemmaDoubles': WHATEVER THE INPUT: true; the input reads as it did. -/
def stemmaDoublesSpec : ChangeSpec := { name := "stemmaDoubles", fn := fun _ => fun
  | [d] => { results := [.lit (.bool true)], args := [d] }
  | _ => none }
def stemmaDoublesRow : OpenClaim := { program := "ytdhmcmkpeaoigaa", sum := "f2dcb9352e9898931e1ae11119f5980aedcb01e5bfb265f393545a94cd1f56d0", func := "vyakarana/vyakaranalaw07.StemmaDoubles", spec := "stemmaDoubles", unfollowed := true, recurses := true, plainKeys := false, apart := false }
def StemmaDoublesSaid : Prop := stemmaDoublesRow.holds Try.pinned (OpenSpec.ofChange stemmaDoublesSpec)

/-- ITS FALSE NEIGHBOUR: 'it returns false'. Refute it at one input. -/
def stemmaDoublesWrong : ChangeSpec := { name := "stemmaDoubles", fn := fun _ => fun
  | [d] => { results := [.lit (.bool false)], args := [d] }
  | _ => none }
def StemmaDoublesWrongFalsely : Prop := stemmaDoublesRow.holds Try.pinned (OpenSpec.ofChange stemmaDoublesWrong)

/-- 'vyakaranalaw07.StemmaSpells': WHATEVER THE INPUT: true; the input reads as it did. -/
def stemmaSpellsSpec : ChangeSpec := { name := "stemmaSpells", fn := fun _ => fun
  | [d1, d2, d3] => { results := [.lit (.bool true)], args := [d1, d2, d3] }
  | _ => none }
def stemmaSpellsRow : OpenClaim := { program := "ytdhmcmkpeaoigaa", sum := "f2dcb9352e9898931e1ae11119f5980aedcb01e5bfb265f393545a94cd1f56d0", func := "vyakarana/vyakaranalaw07.StemmaSpells", spec := "stemmaSpells", plainKeys := false, apart := false }
def StemmaSpellsSaid : Prop := stemmaSpellsRow.holds Try.pinned (OpenSpec.ofChange stemmaSpellsSpec)

/-- ITS FALSE NEIGHBOUR: 'it returns false'. Refute it at one input. -/
def stemmaSpellsWrong : ChangeSpec := { name := "stemmaSpells", fn := fun _ => fun
  | [d1, d2, d3] => { results := [.lit (.bool false)], args := [d1, d2, d3] }
  | _ => none }
def StemmaSpellsWrongFalsely : Prop := stemmaSpellsRow.holds Try.pinned (OpenSpec.ofChange stemmaSpellsWrong)

/-- 'vyakaranalaw07.StemmaWithout': WHATEVER THE INPUT: true; the input reads as it did. -/
def stemmaWithoutSpec : ChangeSpec := { name := "stemmaWithout", fn := fun _ => fun
  | [d1, d2] => { results := [.lit (.bool true)], args := [d1, d2] }
  | _ => none }
def stemmaWithoutRow : OpenClaim := { program := "ytdhmcmkpeaoigaa", sum := "f2dcb9352e9898931e1ae11119f5980aedcb01e5bfb265f393545a94cd1f56d0", func := "vyakarana/vyakaranalaw07.StemmaWithout", spec := "stemmaWithout", plainKeys := false, apart := false }
def StemmaWithoutSaid : Prop := stemmaWithoutRow.holds Try.pinned (OpenSpec.ofChange stemmaWithoutSpec)

/-- ITS FALSE NEIGHBOUR: 'it returns false'. Refute it at one input. -/
def stemmaWithoutWrong : ChangeSpec := { name := "stemmaWithout", fn := fun _ => fun
  | [d1, d2] => { results := [.lit (.bool false)], args := [d1, d2] }
  | _ => none }
def StemmaWithoutWrongFalsely : Prop := stemmaWithoutRow.holds Try.pinned (OpenSpec.ofChange stemmaWithoutWrong)

/-- 'vyakaranalaw07.StemmaLoses': WHATEVER THE INPUT: true; the input reads as it did. -/
def stemmaLosesSpec : ChangeSpec := { name := "stemmaLoses", fn := fun _ => fun
  | [d1, d2] => { results := [.lit (.bool true)], args := [d1, d2] }
  | _ => none }
def stemmaLosesRow : OpenClaim := { program := "ytdhmcmkpeaoigaa", sum := "f2dcb9352e9898931e1ae11119f5980aedcb01e5bfb265f393545a94cd1f56d0", func := "vyakarana/vyakaranalaw07.StemmaLoses", spec := "stemmaLoses", plainKeys := false, apart := false }
def StemmaLosesSaid : Prop := stemmaLosesRow.holds Try.pinned (OpenSpec.ofChange stemmaLosesSpec)

/-- ITS FALSE NEIGHBOUR: 'it returns false'. Refute it at one input. -/
def stemmaLosesWrong : ChangeSpec := { name := "stemmaLoses", fn := fun _ => fun
  | [d1, d2] => { results := [.lit (.bool false)], args := [d1, d2] }
  | _ => none }
def StemmaLosesWrongFalsely : Prop := stemmaLosesRow.holds Try.pinned (OpenSpec.ofChange stemmaLosesWrong)

/-- 'vyakaranatop.TopStemmas': WHATEVER THE INPUT: true; the input reads as it did. -/
def topStemmasSpec : ChangeSpec := { name := "topStemmas", fn := fun _ => fun
  | [d1, d2] => { results := [.lit (.bool true)], args := [d1, d2] }
  | _ => none }
def topStemmasRow : OpenClaim := { program := "ytdhmcmkpeaoigaa", sum := "f2dcb9352e9898931e1ae11119f5980aedcb01e5bfb265f393545a94cd1f56d0", func := "vyakarana/vyakaranatop.TopStemmas", spec := "topStemmas", unfollowed := true, recurses := true, plainKeys := false, apart := false }
def TopStemmasSaid : Prop := topStemmasRow.holds Try.pinned (OpenSpec.ofChange topStemmasSpec)

/-- ITS FALSE NEIGHBOUR: 'it returns false'. Refute it at one input. -/
def topStemmasWrong : ChangeSpec := { name := "topStemmas", fn := fun _ => fun
  | [d1, d2] => { results := [.lit (.bool false)], args := [d1, d2] }
  | _ => none }
def TopStemmasWrongFalsely : Prop := topStemmasRow.holds Try.pinned (OpenSpec.ofChange topStemmasWrong)

/- THE SECOND FORM. 'bulk': how many values and letters a reading holds, each counted each time it is reached (what is shared counts as often as it is met; a slice's spare places count too). A statement '..UptoSaid' is the law's where the arguments, and the package variables that the reading takes, are together of bulk at most 1048576: NARROWER than '..Said'. Prove '..Said' where nothing that the law and all that it calls make is longer than what came in: it says more and counts as full. Else prove '..UptoSaid'. A law counts once. -/
mutual
def uptoBulk {H : Type} : DataW H → Nat
  | .lit (.string bytes) => bytes.length + 1
  | .lit _ => 1
  | .nil => 1
  | .ptr d => uptoBulk d + 1
  | .slice elems spare => uptoBulkAll elems + uptoBulkAll spare + 1
  | .agg parts => uptoBulkAll parts + 1
  | .iface _ d => uptoBulk d + 1
  | .map entries => uptoBulkEntries entries + 1
  | .held _ => 1
def uptoBulkAll {H : Type} : List (DataW H) → Nat
  | [] => 0
  | d :: r => uptoBulk d + uptoBulkAll r
def uptoBulkEntries {H : Type} : List (Lit × DataW H) → Nat
  | [] => 0
  | x :: r => uptoBulkEntry x + uptoBulkEntries r
def uptoBulkEntry {H : Type} : Lit × DataW H → Nat
  | (.string bytes, d) => bytes.length + uptoBulk d + 1
  | (_, d) => uptoBulk d + 1
 end
def uptoSmall : (H : Type) → List (DataW H) → Bool := fun _ ds => decide (uptoBulkAll ds ≤ 1048576)
def OpenSpec.upto (s : _root_.Go.ChangeSpec) : _root_.Go.OpenSpec := { _root_.Go.OpenSpec.ofChange s with cond := some uptoSmall }

/-- 'vyakaranalaw07.StemmaPlaces', WHERE WHAT IT READS IS OF BULK AT MOST 1048576: true; the input reads as it did. -/
def stemmaPlacesUptoRow : OpenClaim := { program := "ytdhmcmkpeaoigaa", sum := "f2dcb9352e9898931e1ae11119f5980aedcb01e5bfb265f393545a94cd1f56d0", func := "vyakarana/vyakaranalaw07.StemmaPlaces", spec := "stemmaPlaces", plainKeys := false, apart := false, narrowed := true }
def StemmaPlacesUptoSaid : Prop := stemmaPlacesUptoRow.holds Try.pinned (OpenSpec.upto stemmaPlacesSpec)

/-- 'vyakaranalaw07.StemmaConflicts', WHERE WHAT IT READS IS OF BULK AT MOST 1048576: true; the input reads as it did. -/
def stemmaConflictsUptoRow : OpenClaim := { program := "ytdhmcmkpeaoigaa", sum := "f2dcb9352e9898931e1ae11119f5980aedcb01e5bfb265f393545a94cd1f56d0", func := "vyakarana/vyakaranalaw07.StemmaConflicts", spec := "stemmaConflicts", plainKeys := false, apart := false, narrowed := true }
def StemmaConflictsUptoSaid : Prop := stemmaConflictsUptoRow.holds Try.pinned (OpenSpec.upto stemmaConflictsSpec)

/-- 'vyakaranalaw07.StemmaSides', WHERE WHAT IT READS IS OF BULK AT MOST 1048576: true; the input reads as it did. -/
def stemmaSidesUptoRow : OpenClaim := { program := "ytdhmcmkpeaoigaa", sum := "f2dcb9352e9898931e1ae11119f5980aedcb01e5bfb265f393545a94cd1f56d0", func := "vyakarana/vyakaranalaw07.StemmaSides", spec := "stemmaSides", plainKeys := false, apart := false, narrowed := true }
def StemmaSidesUptoSaid : Prop := stemmaSidesUptoRow.holds Try.pinned (OpenSpec.upto stemmaSidesSpec)

/-- 'vyakaranalaw07.StemmaGreatest', WHERE WHAT IT READS IS OF BULK AT MOST 1048576: true; the input reads as it did. -/
def stemmaGreatestUptoRow : OpenClaim := { program := "ytdhmcmkpeaoigaa", sum := "f2dcb9352e9898931e1ae11119f5980aedcb01e5bfb265f393545a94cd1f56d0", func := "vyakarana/vyakaranalaw07.StemmaGreatest", spec := "stemmaGreatest", unfollowed := true, recurses := true, plainKeys := false, apart := false, narrowed := true }
def StemmaGreatestUptoSaid : Prop := stemmaGreatestUptoRow.holds Try.pinned (OpenSpec.upto stemmaGreatestSpec)

/-- 'vyakaranalaw07.StemmaBuilds', WHERE WHAT IT READS IS OF BULK AT MOST 1048576: true; the input reads as it did. -/
def stemmaBuildsUptoRow : OpenClaim := { program := "ytdhmcmkpeaoigaa", sum := "f2dcb9352e9898931e1ae11119f5980aedcb01e5bfb265f393545a94cd1f56d0", func := "vyakarana/vyakaranalaw07.StemmaBuilds", spec := "stemmaBuilds", unfollowed := true, recurses := true, plainKeys := false, apart := false, narrowed := true }
def StemmaBuildsUptoSaid : Prop := stemmaBuildsUptoRow.holds Try.pinned (OpenSpec.upto stemmaBuildsSpec)

/-- 'vyakaranalaw07.StemmaChecks', WHERE WHAT IT READS IS OF BULK AT MOST 1048576: true; the input reads as it did. -/
def stemmaChecksUptoRow : OpenClaim := { program := "ytdhmcmkpeaoigaa", sum := "f2dcb9352e9898931e1ae11119f5980aedcb01e5bfb265f393545a94cd1f56d0", func := "vyakarana/vyakaranalaw07.StemmaChecks", spec := "stemmaChecks", plainKeys := false, apart := false, narrowed := true }
def StemmaChecksUptoSaid : Prop := stemmaChecksUptoRow.holds Try.pinned (OpenSpec.upto stemmaChecksSpec)

/-- 'vyakaranalaw07.StemmaFewest', WHERE WHAT IT READS IS OF BULK AT MOST 1048576: true; the input reads as it did. -/
def stemmaFewestUptoRow : OpenClaim := { program := "ytdhmcmkpeaoigaa", sum := "f2dcb9352e9898931e1ae11119f5980aedcb01e5bfb265f393545a94cd1f56d0", func := "vyakarana/vyakaranalaw07.StemmaFewest", spec := "stemmaFewest", plainKeys := false, apart := false, narrowed := true }
def StemmaFewestUptoSaid : Prop := stemmaFewestUptoRow.holds Try.pinned (OpenSpec.upto stemmaFewestSpec)

/-- 'vyakaranalaw07.StemmaReadings', WHERE WHAT IT READS IS OF BULK AT MOST 1048576: true; the input reads as it did. -/
def stemmaReadingsUptoRow : OpenClaim := { program := "ytdhmcmkpeaoigaa", sum := "f2dcb9352e9898931e1ae11119f5980aedcb01e5bfb265f393545a94cd1f56d0", func := "vyakarana/vyakaranalaw07.StemmaReadings", spec := "stemmaReadings", plainKeys := false, apart := false, narrowed := true }
def StemmaReadingsUptoSaid : Prop := stemmaReadingsUptoRow.holds Try.pinned (OpenSpec.upto stemmaReadingsSpec)

/-- 'vyakaranalaw07.StemmaTotals', WHERE WHAT IT READS IS OF BULK AT MOST 1048576: true; the input reads as it did. -/
def stemmaTotalsUptoRow : OpenClaim := { program := "ytdhmcmkpeaoigaa", sum := "f2dcb9352e9898931e1ae11119f5980aedcb01e5bfb265f393545a94cd1f56d0", func := "vyakarana/vyakaranalaw07.StemmaTotals", spec := "stemmaTotals", plainKeys := false, apart := false, narrowed := true }
def StemmaTotalsUptoSaid : Prop := stemmaTotalsUptoRow.holds Try.pinned (OpenSpec.upto stemmaTotalsSpec)

/-- 'vyakaranalaw07.StemmaAparts', WHERE WHAT IT READS IS OF BULK AT MOST 1048576: true; the input reads as it did. -/
def stemmaApartsUptoRow : OpenClaim := { program := "ytdhmcmkpeaoigaa", sum := "f2dcb9352e9898931e1ae11119f5980aedcb01e5bfb265f393545a94cd1f56d0", func := "vyakarana/vyakaranalaw07.StemmaAparts", spec := "stemmaAparts", plainKeys := false, apart := false, narrowed := true }
def StemmaApartsUptoSaid : Prop := stemmaApartsUptoRow.holds Try.pinned (OpenSpec.upto stemmaApartsSpec)

/-- 'vyakaranalaw07.StemmaDoubles', WHERE WHAT IT READS IS OF BULK AT MOST 1048576: true; the input reads as it did. -/
def stemmaDoublesUptoRow : OpenClaim := { program := "ytdhmcmkpeaoigaa", sum := "f2dcb9352e9898931e1ae11119f5980aedcb01e5bfb265f393545a94cd1f56d0", func := "vyakarana/vyakaranalaw07.StemmaDoubles", spec := "stemmaDoubles", unfollowed := true, recurses := true, plainKeys := false, apart := false, narrowed := true }
def StemmaDoublesUptoSaid : Prop := stemmaDoublesUptoRow.holds Try.pinned (OpenSpec.upto stemmaDoublesSpec)

/-- 'vyakaranalaw07.StemmaSpells', WHERE WHAT IT READS IS OF BULK AT MOST 1048576: true; the input reads as it did. -/
def stemmaSpellsUptoRow : OpenClaim := { program := "ytdhmcmkpeaoigaa", sum := "f2dcb9352e9898931e1ae11119f5980aedcb01e5bfb265f393545a94cd1f56d0", func := "vyakarana/vyakaranalaw07.StemmaSpells", spec := "stemmaSpells", plainKeys := false, apart := false, narrowed := true }
def StemmaSpellsUptoSaid : Prop := stemmaSpellsUptoRow.holds Try.pinned (OpenSpec.upto stemmaSpellsSpec)

/-- 'vyakaranalaw07.StemmaWithout', WHERE WHAT IT READS IS OF BULK AT MOST 1048576: true; the input reads as it did. -/
def stemmaWithoutUptoRow : OpenClaim := { program := "ytdhmcmkpeaoigaa", sum := "f2dcb9352e9898931e1ae11119f5980aedcb01e5bfb265f393545a94cd1f56d0", func := "vyakarana/vyakaranalaw07.StemmaWithout", spec := "stemmaWithout", plainKeys := false, apart := false, narrowed := true }
def StemmaWithoutUptoSaid : Prop := stemmaWithoutUptoRow.holds Try.pinned (OpenSpec.upto stemmaWithoutSpec)

/-- 'vyakaranalaw07.StemmaLoses', WHERE WHAT IT READS IS OF BULK AT MOST 1048576: true; the input reads as it did. -/
def stemmaLosesUptoRow : OpenClaim := { program := "ytdhmcmkpeaoigaa", sum := "f2dcb9352e9898931e1ae11119f5980aedcb01e5bfb265f393545a94cd1f56d0", func := "vyakarana/vyakaranalaw07.StemmaLoses", spec := "stemmaLoses", plainKeys := false, apart := false, narrowed := true }
def StemmaLosesUptoSaid : Prop := stemmaLosesUptoRow.holds Try.pinned (OpenSpec.upto stemmaLosesSpec)

/-- 'vyakaranatop.TopStemmas', WHERE WHAT IT READS IS OF BULK AT MOST 1048576: true; the input reads as it did. -/
def topStemmasUptoRow : OpenClaim := { program := "ytdhmcmkpeaoigaa", sum := "f2dcb9352e9898931e1ae11119f5980aedcb01e5bfb265f393545a94cd1f56d0", func := "vyakarana/vyakaranatop.TopStemmas", spec := "topStemmas", unfollowed := true, recurses := true, plainKeys := false, apart := false, narrowed := true }
def TopStemmasUptoSaid : Prop := topStemmasUptoRow.holds Try.pinned (OpenSpec.upto topStemmasSpec)

end Rows
end Go.Proofs.Ytdhmcmkpeaoigaa
