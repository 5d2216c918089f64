/-
  No cell of these rows narrows 'for every input' (looked for: loops, veiled, ifaces, maps, wideKeys, modest, calm, conditions, laid).
  DERIVED. THE GIVEN ROWS OF THIS SEAT. 15 by the template 'for every input the law returns true; each argument reads behind the call as it read before'; 0 by the template 'total and deterministic' (their statements: YtliheejcfkhghaaTotals.lean).
  GIVEN WITH THE SEED: the statements are not yours to turn. If you find one false, say at which input.
  Laid BY PROGRAM, IN A SANDBOX (cutbox-rows.mjs): the forced cells as the released guide's own fill.sh prints them over the translation ddbfb15f29f05220… (all of the seat's roots in one cut). By AI agents, Wed Nov 11 2026. No macro, syntax, notation, axiom, sorry.
-/
import Derived.Test.YtliheejcfkhghaaChecked
import GoSem.Claim
import GoSem.ClaimJoined
import GoSem.ClaimMapViews
import Derived.JoinedTies
import Derived.KernelRfl
namespace Go.Proofs.Ytliheejcfkhghaa
/- THE CELL 'sum', in the pinned program and in every row, IS THE sha256 OF THE DUMP (.gsa) THAT YtliheejcfkhghaaProg.lean LOADS. Nothing in Lean hashes anything: it is a label: what it is worth is what the hold of that sum in a sandbox is worth. -/
noncomputable def Try.pinned : Pinned := { name := "ytliheejcfkhghaa", sum := "ddbfb15f29f052203fb10eb1d949ff0f4db24e89b0f4fe288fafb2046de2eb6b", checked := Try.checked }
namespace Rows
def none {H : Type} : Left H := { results := [], args := [] }

/-- 'vyakaranalaw08.TagSplits': WHATEVER THE INPUT: true; the input reads as it did. -/
def tagSplitsSpec : ChangeSpec := { name := "tagSplits", fn := fun _ => fun
  | [d1, d2, d3] => { results := [.lit (.bool true)], args := [d1, d2, d3] }
  | _ => none }
def tagSplitsRow : OpenClaim := { program := "ytliheejcfkhghaa", sum := "ddbfb15f29f052203fb10eb1d949ff0f4db24e89b0f4fe288fafb2046de2eb6b", func := "vyakarana/vyakaranalaw08.TagSplits", spec := "tagSplits", unfollowed := true, recurses := true, apart := false }
def TagSplitsSaid : Prop := tagSplitsRow.holds Try.pinned (OpenSpec.ofChange tagSplitsSpec)

/-- ITS FALSE NEIGHBOUR: 'it returns false'. Refute it at one input. -/
def tagSplitsWrong : ChangeSpec := { name := "tagSplits", fn := fun _ => fun
  | [d1, d2, d3] => { results := [.lit (.bool false)], args := [d1, d2, d3] }
  | _ => none }
def TagSplitsWrongFalsely : Prop := tagSplitsRow.holds Try.pinned (OpenSpec.ofChange tagSplitsWrong)

/-- 'vyakaranalaw08.TagLeast': WHATEVER THE INPUT: true; the input reads as it did. -/
def tagLeastSpec : ChangeSpec := { name := "tagLeast", fn := fun _ => fun
  | [d1, d2] => { results := [.lit (.bool true)], args := [d1, d2] }
  | _ => none }
def tagLeastRow : OpenClaim := { program := "ytliheejcfkhghaa", sum := "ddbfb15f29f052203fb10eb1d949ff0f4db24e89b0f4fe288fafb2046de2eb6b", func := "vyakarana/vyakaranalaw08.TagLeast", spec := "tagLeast", inPlace := ["slices.overlaps[int]"], unfollowed := true, recurses := true, apart := false }
def TagLeastSaid : Prop := tagLeastRow.holds Try.pinned (OpenSpec.ofChange tagLeastSpec)

/-- ITS FALSE NEIGHBOUR: 'it returns false'. Refute it at one input. -/
def tagLeastWrong : ChangeSpec := { name := "tagLeast", fn := fun _ => fun
  | [d1, d2] => { results := [.lit (.bool false)], args := [d1, d2] }
  | _ => none }
def TagLeastWrongFalsely : Prop := tagLeastRow.holds Try.pinned (OpenSpec.ofChange tagLeastWrong)

/-- 'vyakaranalaw08.TagAll': WHATEVER THE INPUT: true; the input reads as it did. -/
def tagAllSpec : ChangeSpec := { name := "tagAll", fn := fun _ => fun
  | [d1, d2] => { results := [.lit (.bool true)], args := [d1, d2] }
  | _ => none }
def tagAllRow : OpenClaim := { program := "ytliheejcfkhghaa", sum := "ddbfb15f29f052203fb10eb1d949ff0f4db24e89b0f4fe288fafb2046de2eb6b", func := "vyakarana/vyakaranalaw08.TagAll", spec := "tagAll", inPlace := ["slices.overlaps[int]"], unfollowed := true, recurses := true, apart := false }
def TagAllSaid : Prop := tagAllRow.holds Try.pinned (OpenSpec.ofChange tagAllSpec)

/-- ITS FALSE NEIGHBOUR: 'it returns false'. Refute it at one input. -/
def tagAllWrong : ChangeSpec := { name := "tagAll", fn := fun _ => fun
  | [d1, d2] => { results := [.lit (.bool false)], args := [d1, d2] }
  | _ => none }
def TagAllWrongFalsely : Prop := tagAllRow.holds Try.pinned (OpenSpec.ofChange tagAllWrong)

/-- 'vyakaranalaw08.TagChecks': WHATEVER THE INPUT: true; the input reads as it did. -/
def tagChecksSpec : ChangeSpec := { name := "tagChecks", fn := fun _ => fun
  | [d1, d2, d3] => { results := [.lit (.bool true)], args := [d1, d2, d3] }
  | _ => none }
def tagChecksRow : OpenClaim := { program := "ytliheejcfkhghaa", sum := "ddbfb15f29f052203fb10eb1d949ff0f4db24e89b0f4fe288fafb2046de2eb6b", func := "vyakarana/vyakaranalaw08.TagChecks", spec := "tagChecks", unfollowed := true, recurses := true, apart := false }
def TagChecksSaid : Prop := tagChecksRow.holds Try.pinned (OpenSpec.ofChange tagChecksSpec)

/-- ITS FALSE NEIGHBOUR: 'it returns false'. Refute it at one input. -/
def tagChecksWrong : ChangeSpec := { name := "tagChecks", fn := fun _ => fun
  | [d1, d2, d3] => { results := [.lit (.bool false)], args := [d1, d2, d3] }
  | _ => none }
def TagChecksWrongFalsely : Prop := tagChecksRow.holds Try.pinned (OpenSpec.ofChange tagChecksWrong)

/-- 'vyakaranalaw08.TagProves': WHATEVER THE INPUT: true; the input reads as it did. -/
def tagProvesSpec : ChangeSpec := { name := "tagProves", fn := fun _ => fun
  | [d1, d2] => { results := [.lit (.bool true)], args := [d1, d2] }
  | _ => none }
def tagProvesRow : OpenClaim := { program := "ytliheejcfkhghaa", sum := "ddbfb15f29f052203fb10eb1d949ff0f4db24e89b0f4fe288fafb2046de2eb6b", func := "vyakarana/vyakaranalaw08.TagProves", spec := "tagProves", unfollowed := true, recurses := true, apart := false }
def TagProvesSaid : Prop := tagProvesRow.holds Try.pinned (OpenSpec.ofChange tagProvesSpec)

/-- ITS FALSE NEIGHBOUR: 'it returns false'. Refute it at one input. -/
def tagProvesWrong : ChangeSpec := { name := "tagProves", fn := fun _ => fun
  | [d1, d2] => { results := [.lit (.bool false)], args := [d1, d2] }
  | _ => none }
def TagProvesWrongFalsely : Prop := tagProvesRow.holds Try.pinned (OpenSpec.ofChange tagProvesWrong)

/-- 'vyakaranalaw08.TagGreedy': WHATEVER THE INPUT: true; the input reads as it did. -/
def tagGreedySpec : ChangeSpec := { name := "tagGreedy", fn := fun _ => fun
  | [d1, d2] => { results := [.lit (.bool true)], args := [d1, d2] }
  | _ => none }
def tagGreedyRow : OpenClaim := { program := "ytliheejcfkhghaa", sum := "ddbfb15f29f052203fb10eb1d949ff0f4db24e89b0f4fe288fafb2046de2eb6b", func := "vyakarana/vyakaranalaw08.TagGreedy", spec := "tagGreedy", unfollowed := true, recurses := true, apart := false }
def TagGreedySaid : Prop := tagGreedyRow.holds Try.pinned (OpenSpec.ofChange tagGreedySpec)

/-- ITS FALSE NEIGHBOUR: 'it returns false'. Refute it at one input. -/
def tagGreedyWrong : ChangeSpec := { name := "tagGreedy", fn := fun _ => fun
  | [d1, d2] => { results := [.lit (.bool false)], args := [d1, d2] }
  | _ => none }
def TagGreedyWrongFalsely : Prop := tagGreedyRow.holds Try.pinned (OpenSpec.ofChange tagGreedyWrong)

/-- 'vyakaranalaw08.TagTwos': WHATEVER THE INPUT: true; the input reads as it did. -/
def tagTwosSpec : ChangeSpec := { name := "tagTwos", fn := fun _ => fun
  | [d1, d2, d3] => { results := [.lit (.bool true)], args := [d1, d2, d3] }
  | _ => none }
def tagTwosRow : OpenClaim := { program := "ytliheejcfkhghaa", sum := "ddbfb15f29f052203fb10eb1d949ff0f4db24e89b0f4fe288fafb2046de2eb6b", func := "vyakarana/vyakaranalaw08.TagTwos", spec := "tagTwos", unfollowed := true, recurses := true, apart := false }
def TagTwosSaid : Prop := tagTwosRow.holds Try.pinned (OpenSpec.ofChange tagTwosSpec)

/-- ITS FALSE NEIGHBOUR: 'it returns false'. Refute it at one input. -/
def tagTwosWrong : ChangeSpec := { name := "tagTwos", fn := fun _ => fun
  | [d1, d2, d3] => { results := [.lit (.bool false)], args := [d1, d2, d3] }
  | _ => none }
def TagTwosWrongFalsely : Prop := tagTwosRow.holds Try.pinned (OpenSpec.ofChange tagTwosWrong)

/-- 'vyakaranalaw08.TagCodes': WHATEVER THE INPUT: true; the input reads as it did. -/
def tagCodesSpec : ChangeSpec := { name := "tagCodes", fn := fun _ => fun
  | [d] => { results := [.lit (.bool true)], args := [d] }
  | _ => none }
def tagCodesRow : OpenClaim := { program := "ytliheejcfkhghaa", sum := "ddbfb15f29f052203fb10eb1d949ff0f4db24e89b0f4fe288fafb2046de2eb6b", func := "vyakarana/vyakaranalaw08.TagCodes", spec := "tagCodes", unfollowed := true, recurses := true, apart := false }
def TagCodesSaid : Prop := tagCodesRow.holds Try.pinned (OpenSpec.ofChange tagCodesSpec)

/-- ITS FALSE NEIGHBOUR: 'it returns false'. Refute it at one input. -/
def tagCodesWrong : ChangeSpec := { name := "tagCodes", fn := fun _ => fun
  | [d] => { results := [.lit (.bool false)], args := [d] }
  | _ => none }
def TagCodesWrongFalsely : Prop := tagCodesRow.holds Try.pinned (OpenSpec.ofChange tagCodesWrong)

/-- 'vyakaranalaw08.TagOnce': WHATEVER THE INPUT: true; the input reads as it did. -/
def tagOnceSpec : ChangeSpec := { name := "tagOnce", fn := fun _ => fun
  | [d1, d2] => { results := [.lit (.bool true)], args := [d1, d2] }
  | _ => none }
def tagOnceRow : OpenClaim := { program := "ytliheejcfkhghaa", sum := "ddbfb15f29f052203fb10eb1d949ff0f4db24e89b0f4fe288fafb2046de2eb6b", func := "vyakarana/vyakaranalaw08.TagOnce", spec := "tagOnce", unfollowed := true, recurses := true, apart := false }
def TagOnceSaid : Prop := tagOnceRow.holds Try.pinned (OpenSpec.ofChange tagOnceSpec)

/-- ITS FALSE NEIGHBOUR: 'it returns false'. Refute it at one input. -/
def tagOnceWrong : ChangeSpec := { name := "tagOnce", fn := fun _ => fun
  | [d1, d2] => { results := [.lit (.bool false)], args := [d1, d2] }
  | _ => none }
def TagOnceWrongFalsely : Prop := tagOnceRow.holds Try.pinned (OpenSpec.ofChange tagOnceWrong)

/-- 'vyakaranalaw08.TagTexts': WHATEVER THE INPUT: true; the input reads as it did. -/
def tagTextsSpec : ChangeSpec := { name := "tagTexts", fn := fun _ => fun
  | [d1, d2] => { results := [.lit (.bool true)], args := [d1, d2] }
  | _ => none }
def tagTextsRow : OpenClaim := { program := "ytliheejcfkhghaa", sum := "ddbfb15f29f052203fb10eb1d949ff0f4db24e89b0f4fe288fafb2046de2eb6b", func := "vyakarana/vyakaranalaw08.TagTexts", spec := "tagTexts", unfollowed := true, recurses := true, apart := false }
def TagTextsSaid : Prop := tagTextsRow.holds Try.pinned (OpenSpec.ofChange tagTextsSpec)

/-- ITS FALSE NEIGHBOUR: 'it returns false'. Refute it at one input. -/
def tagTextsWrong : ChangeSpec := { name := "tagTexts", fn := fun _ => fun
  | [d1, d2] => { results := [.lit (.bool false)], args := [d1, d2] }
  | _ => none }
def TagTextsWrongFalsely : Prop := tagTextsRow.holds Try.pinned (OpenSpec.ofChange tagTextsWrong)

/-- 'vyakaranalaw08.TagBacks': WHATEVER THE INPUT: true; the input reads as it did. -/
def tagBacksSpec : ChangeSpec := { name := "tagBacks", fn := fun _ => fun
  | [d1, d2] => { results := [.lit (.bool true)], args := [d1, d2] }
  | _ => none }
def tagBacksRow : OpenClaim := { program := "ytliheejcfkhghaa", sum := "ddbfb15f29f052203fb10eb1d949ff0f4db24e89b0f4fe288fafb2046de2eb6b", func := "vyakarana/vyakaranalaw08.TagBacks", spec := "tagBacks", unfollowed := true, recurses := true, apart := false }
def TagBacksSaid : Prop := tagBacksRow.holds Try.pinned (OpenSpec.ofChange tagBacksSpec)

/-- ITS FALSE NEIGHBOUR: 'it returns false'. Refute it at one input. -/
def tagBacksWrong : ChangeSpec := { name := "tagBacks", fn := fun _ => fun
  | [d1, d2] => { results := [.lit (.bool false)], args := [d1, d2] }
  | _ => none }
def TagBacksWrongFalsely : Prop := tagBacksRow.holds Try.pinned (OpenSpec.ofChange tagBacksWrong)

/-- 'vyakaranalaw08.TagDearer': WHATEVER THE INPUT: true; the input reads as it did. -/
def tagDearerSpec : ChangeSpec := { name := "tagDearer", fn := fun _ => fun
  | [d1, d2, d3] => { results := [.lit (.bool true)], args := [d1, d2, d3] }
  | _ => none }
def tagDearerRow : OpenClaim := { program := "ytliheejcfkhghaa", sum := "ddbfb15f29f052203fb10eb1d949ff0f4db24e89b0f4fe288fafb2046de2eb6b", func := "vyakarana/vyakaranalaw08.TagDearer", spec := "tagDearer", unfollowed := true, recurses := true, apart := false }
def TagDearerSaid : Prop := tagDearerRow.holds Try.pinned (OpenSpec.ofChange tagDearerSpec)

/-- ITS FALSE NEIGHBOUR: 'it returns false'. Refute it at one input. -/
def tagDearerWrong : ChangeSpec := { name := "tagDearer", fn := fun _ => fun
  | [d1, d2, d3] => { results := [.lit (.bool false)], args := [d1, d2, d3] }
  | _ => none }
def TagDearerWrongFalsely : Prop := tagDearerRow.holds Try.pinned (OpenSpec.ofChange tagDearerWrong)

/-- 'vyakaranalaw08.TagWithout': WHATEVER THE INPUT: true; the input reads as it did. -/
def tagWithoutSpec : ChangeSpec := { name := "tagWithout", fn := fun _ => fun
  | [d1, d2, d3] => { results := [.lit (.bool true)], args := [d1, d2, d3] }
  | _ => none }
def tagWithoutRow : OpenClaim := { program := "ytliheejcfkhghaa", sum := "ddbfb15f29f052203fb10eb1d949ff0f4db24e89b0f4fe288fafb2046de2eb6b", func := "vyakarana/vyakaranalaw08.TagWithout", spec := "tagWithout", unfollowed := true, recurses := true, apart := false }
def TagWithoutSaid : Prop := tagWithoutRow.holds Try.pinned (OpenSpec.ofChange tagWithoutSpec)

/-- ITS FALSE NEIGHBOUR: 'it returns false'. Refute it at one input. -/
def tagWithoutWrong : ChangeSpec := { name := "tagWithout", fn := fun _ => fun
  | [d1, d2, d3] => { results := [.lit (.bool false)], args := [d1, d2, d3] }
  | _ => none }
def TagWithoutWrongFalsely : Prop := tagWithoutRow.holds Try.pinned (OpenSpec.ofChange tagWithoutWrong)

/-- 'vyakaranalaw08.TagFree': WHATEVER THE INPUT: true; the input reads as it did. -/
def tagFreeSpec : ChangeSpec := { name := "tagFree", fn := fun _ => fun
  | [d1, d2, d3] => { results := [.lit (.bool true)], args := [d1, d2, d3] }
  | _ => none }
def tagFreeRow : OpenClaim := { program := "ytliheejcfkhghaa", sum := "ddbfb15f29f052203fb10eb1d949ff0f4db24e89b0f4fe288fafb2046de2eb6b", func := "vyakarana/vyakaranalaw08.TagFree", spec := "tagFree", unfollowed := true, recurses := true, apart := false }
def TagFreeSaid : Prop := tagFreeRow.holds Try.pinned (OpenSpec.ofChange tagFreeSpec)

/-- ITS FALSE NEIGHBOUR: 'it returns false'. Refute it at one input. -/
def tagFreeWrong : ChangeSpec := { name := "tagFree", fn := fun _ => fun
  | [d1, d2, d3] => { results := [.lit (.bool false)], args := [d1, d2, d3] }
  | _ => none }
def TagFreeWrongFalsely : Prop := tagFreeRow.holds Try.pinned (OpenSpec.ofChange tagFreeWrong)

/-- 'vyakaranatop.TopTags': WHATEVER THE INPUT: true; the input reads as it did. -/
def topTagsSpec : ChangeSpec := { name := "topTags", fn := fun _ => fun
  | [d1, d2, d3] => { results := [.lit (.bool true)], args := [d1, d2, d3] }
  | _ => none }
def topTagsRow : OpenClaim := { program := "ytliheejcfkhghaa", sum := "ddbfb15f29f052203fb10eb1d949ff0f4db24e89b0f4fe288fafb2046de2eb6b", func := "vyakarana/vyakaranatop.TopTags", spec := "topTags", inPlace := ["slices.overlaps[int]"], unfollowed := true, recurses := true, apart := false }
def TopTagsSaid : Prop := topTagsRow.holds Try.pinned (OpenSpec.ofChange topTagsSpec)

/-- ITS FALSE NEIGHBOUR: 'it returns false'. Refute it at one input. -/
def topTagsWrong : ChangeSpec := { name := "topTags", fn := fun _ => fun
  | [d1, d2, d3] => { results := [.lit (.bool false)], args := [d1, d2, d3] }
  | _ => none }
def TopTagsWrongFalsely : Prop := topTagsRow.holds Try.pinned (OpenSpec.ofChange topTagsWrong)

/- THE SECOND FORM. 'bulk': how many values and letters a reading holds, each counted each time it is reached (what is shared counts as often as it is met; a slice's spare places count too). A statement '..UptoSaid' is the law's where the arguments, and the package variables that the reading takes, are together of bulk at most 1048576: NARROWER than '..Said'. Prove '..Said' where nothing that the law and all that it calls make is longer than what came in: it says more and counts as full. Else prove '..UptoSaid'. A law counts once. -/
mutual
def uptoBulk {H : Type} : DataW H → Nat
  | .lit (.string bytes) => bytes.length + 1
  | .lit _ => 1
  | .nil => 1
  | .ptr d => uptoBulk d + 1
  | .slice elems spare => uptoBulkAll elems + uptoBulkAll spare + 1
  | .agg parts => uptoBulkAll parts + 1
  | .iface _ d => uptoBulk d + 1
  | .map entries => uptoBulkEntries entries + 1
  | .held _ => 1
def uptoBulkAll {H : Type} : List (DataW H) → Nat
  | [] => 0
  | d :: r => uptoBulk d + uptoBulkAll r
def uptoBulkEntries {H : Type} : List (Lit × DataW H) → Nat
  | [] => 0
  | x :: r => uptoBulkEntry x + uptoBulkEntries r
def uptoBulkEntry {H : Type} : Lit × DataW H → Nat
  | (.string bytes, d) => bytes.length + uptoBulk d + 1
  | (_, d) => uptoBulk d + 1
 end
def uptoSmall : (H : Type) → List (DataW H) → Bool := fun _ ds => decide (uptoBulkAll ds ≤ 1048576)
def OpenSpec.upto (s : _root_.Go.ChangeSpec) : _root_.Go.OpenSpec := { _root_.Go.OpenSpec.ofChange s with cond := some uptoSmall }

/-- 'vyakaranalaw08.TagSplits', WHERE WHAT IT READS IS OF BULK AT MOST 1048576: true; the input reads as it did. -/
def tagSplitsUptoRow : OpenClaim := { program := "ytliheejcfkhghaa", sum := "ddbfb15f29f052203fb10eb1d949ff0f4db24e89b0f4fe288fafb2046de2eb6b", func := "vyakarana/vyakaranalaw08.TagSplits", spec := "tagSplits", unfollowed := true, recurses := true, apart := false, narrowed := true }
def TagSplitsUptoSaid : Prop := tagSplitsUptoRow.holds Try.pinned (OpenSpec.upto tagSplitsSpec)

/-- 'vyakaranalaw08.TagLeast', WHERE WHAT IT READS IS OF BULK AT MOST 1048576: true; the input reads as it did. -/
def tagLeastUptoRow : OpenClaim := { program := "ytliheejcfkhghaa", sum := "ddbfb15f29f052203fb10eb1d949ff0f4db24e89b0f4fe288fafb2046de2eb6b", func := "vyakarana/vyakaranalaw08.TagLeast", spec := "tagLeast", inPlace := ["slices.overlaps[int]"], unfollowed := true, recurses := true, apart := false, narrowed := true }
def TagLeastUptoSaid : Prop := tagLeastUptoRow.holds Try.pinned (OpenSpec.upto tagLeastSpec)

/-- 'vyakaranalaw08.TagAll', WHERE WHAT IT READS IS OF BULK AT MOST 1048576: true; the input reads as it did. -/
def tagAllUptoRow : OpenClaim := { program := "ytliheejcfkhghaa", sum := "ddbfb15f29f052203fb10eb1d949ff0f4db24e89b0f4fe288fafb2046de2eb6b", func := "vyakarana/vyakaranalaw08.TagAll", spec := "tagAll", inPlace := ["slices.overlaps[int]"], unfollowed := true, recurses := true, apart := false, narrowed := true }
def TagAllUptoSaid : Prop := tagAllUptoRow.holds Try.pinned (OpenSpec.upto tagAllSpec)

/-- 'vyakaranalaw08.TagChecks', WHERE WHAT IT READS IS OF BULK AT MOST 1048576: true; the input reads as it did. -/
def tagChecksUptoRow : OpenClaim := { program := "ytliheejcfkhghaa", sum := "ddbfb15f29f052203fb10eb1d949ff0f4db24e89b0f4fe288fafb2046de2eb6b", func := "vyakarana/vyakaranalaw08.TagChecks", spec := "tagChecks", unfollowed := true, recurses := true, apart := false, narrowed := true }
def TagChecksUptoSaid : Prop := tagChecksUptoRow.holds Try.pinned (OpenSpec.upto tagChecksSpec)

/-- 'vyakaranalaw08.TagProves', WHERE WHAT IT READS IS OF BULK AT MOST 1048576: true; the input reads as it did. -/
def tagProvesUptoRow : OpenClaim := { program := "ytliheejcfkhghaa", sum := "ddbfb15f29f052203fb10eb1d949ff0f4db24e89b0f4fe288fafb2046de2eb6b", func := "vyakarana/vyakaranalaw08.TagProves", spec := "tagProves", unfollowed := true, recurses := true, apart := false, narrowed := true }
def TagProvesUptoSaid : Prop := tagProvesUptoRow.holds Try.pinned (OpenSpec.upto tagProvesSpec)

/-- 'vyakaranalaw08.TagGreedy', WHERE WHAT IT READS IS OF BULK AT MOST 1048576: true; the input reads as it did. -/
def tagGreedyUptoRow : OpenClaim := { program := "ytliheejcfkhghaa", sum := "ddbfb15f29f052203fb10eb1d949ff0f4db24e89b0f4fe288fafb2046de2eb6b", func := "vyakarana/vyakaranalaw08.TagGreedy", spec := "tagGreedy", unfollowed := true, recurses := true, apart := false, narrowed := true }
def TagGreedyUptoSaid : Prop := tagGreedyUptoRow.holds Try.pinned (OpenSpec.upto tagGreedySpec)

/-- 'vyakaranalaw08.TagTwos', WHERE WHAT IT READS IS OF BULK AT MOST 1048576: true; the input reads as it did. -/
def tagTwosUptoRow : OpenClaim := { program := "ytliheejcfkhghaa", sum := "ddbfb15f29f052203fb10eb1d949ff0f4db24e89b0f4fe288fafb2046de2eb6b", func := "vyakarana/vyakaranalaw08.TagTwos", spec := "tagTwos", unfollowed := true, recurses := true, apart := false, narrowed := true }
def TagTwosUptoSaid : Prop := tagTwosUptoRow.holds Try.pinned (OpenSpec.upto tagTwosSpec)

/-- 'vyakaranalaw08.TagCodes', WHERE WHAT IT READS IS OF BULK AT MOST 1048576: true; the input reads as it did. -/
def tagCodesUptoRow : OpenClaim := { program := "ytliheejcfkhghaa", sum := "ddbfb15f29f052203fb10eb1d949ff0f4db24e89b0f4fe288fafb2046de2eb6b", func := "vyakarana/vyakaranalaw08.TagCodes", spec := "tagCodes", unfollowed := true, recurses := true, apart := false, narrowed := true }
def TagCodesUptoSaid : Prop := tagCodesUptoRow.holds Try.pinned (OpenSpec.upto tagCodesSpec)

/-- 'vyakaranalaw08.TagOnce', WHERE WHAT IT READS IS OF BULK AT MOST 1048576: true; the input reads as it did. -/
def tagOnceUptoRow : OpenClaim := { program := "ytliheejcfkhghaa", sum := "ddbfb15f29f052203fb10eb1d949ff0f4db24e89b0f4fe288fafb2046de2eb6b", func := "vyakarana/vyakaranalaw08.TagOnce", spec := "tagOnce", unfollowed := true, recurses := true, apart := false, narrowed := true }
def TagOnceUptoSaid : Prop := tagOnceUptoRow.holds Try.pinned (OpenSpec.upto tagOnceSpec)

/-- 'vyakaranalaw08.TagTexts', WHERE WHAT IT READS IS OF BULK AT MOST 1048576: true; the input reads as it did. -/
def tagTextsUptoRow : OpenClaim := { program := "ytliheejcfkhghaa", sum := "ddbfb15f29f052203fb10eb1d949ff0f4db24e89b0f4fe288fafb2046de2eb6b", func := "vyakarana/vyakaranalaw08.TagTexts", spec := "tagTexts", unfollowed := true, recurses := true, apart := false, narrowed := true }
def TagTextsUptoSaid : Prop := tagTextsUptoRow.holds Try.pinned (OpenSpec.upto tagTextsSpec)

/-- 'vyakaranalaw08.TagBacks', WHERE WHAT IT READS IS OF BULK AT MOST 1048576: true; the input reads as it did. -/
def tagBacksUptoRow : OpenClaim := { program := "ytliheejcfkhghaa", sum := "ddbfb15f29f052203fb10eb1d949ff0f4db24e89b0f4fe288fafb2046de2eb6b", func := "vyakarana/vyakaranalaw08.TagBacks", spec := "tagBacks", unfollowed := true, recurses := true, apart := false, narrowed := true }
def TagBacksUptoSaid : Prop := tagBacksUptoRow.holds Try.pinned (OpenSpec.upto tagBacksSpec)

/-- 'vyakaranalaw08.TagDearer', WHERE WHAT IT READS IS OF BULK AT MOST 1048576: true; the input reads as it did. -/
def tagDearerUptoRow : OpenClaim := { program := "ytliheejcfkhghaa", sum := "ddbfb15f29f052203fb10eb1d949ff0f4db24e89b0f4fe288fafb2046de2eb6b", func := "vyakarana/vyakaranalaw08.TagDearer", spec := "tagDearer", unfollowed := true, recurses := true, apart := false, narrowed := true }
def TagDearerUptoSaid : Prop := tagDearerUptoRow.holds Try.pinned (OpenSpec.upto tagDearerSpec)

/-- 'vyakaranalaw08.TagWithout', WHERE WHAT IT READS IS OF BULK AT MOST 1048576: true; the input reads as it did. -/
def tagWithoutUptoRow : OpenClaim := { program := "ytliheejcfkhghaa", sum := "ddbfb15f29f052203fb10eb1d949ff0f4db24e89b0f4fe288fafb2046de2eb6b", func := "vyakarana/vyakaranalaw08.TagWithout", spec := "tagWithout", unfollowed := true, recurses := true, apart := false, narrowed := true }
def TagWithoutUptoSaid : Prop := tagWithoutUptoRow.holds Try.pinned (OpenSpec.upto tagWithoutSpec)

/-- 'vyakaranalaw08.TagFree', WHERE WHAT IT READS IS OF BULK AT MOST 1048576: true; the input reads as it did. -/
def tagFreeUptoRow : OpenClaim := { program := "ytliheejcfkhghaa", sum := "ddbfb15f29f052203fb10eb1d949ff0f4db24e89b0f4fe288fafb2046de2eb6b", func := "vyakarana/vyakaranalaw08.TagFree", spec := "tagFree", unfollowed := true, recurses := true, apart := false, narrowed := true }
def TagFreeUptoSaid : Prop := tagFreeUptoRow.holds Try.pinned (OpenSpec.upto tagFreeSpec)

/-- 'vyakaranatop.TopTags', WHERE WHAT IT READS IS OF BULK AT MOST 1048576: true; the input reads as it did. -/
def topTagsUptoRow : OpenClaim := { program := "ytliheejcfkhghaa", sum := "ddbfb15f29f052203fb10eb1d949ff0f4db24e89b0f4fe288fafb2046de2eb6b", func := "vyakarana/vyakaranatop.TopTags", spec := "topTags", inPlace := ["slices.overlaps[int]"], unfollowed := true, recurses := true, apart := false, narrowed := true }
def TopTagsUptoSaid : Prop := topTagsUptoRow.holds Try.pinned (OpenSpec.upto topTagsSpec)

end Rows
end Go.Proofs.Ytliheejcfkhghaa
