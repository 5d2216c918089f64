/-
  No cell of these rows narrows 'for every input' (looked for: loops, veiled, ifaces, maps, wideKeys, modest, calm, conditions, laid).
  DERIVED. THE GIVEN ROWS OF THIS SEAT. 8 by the template 'for every input the law returns true; each argument reads behind the call as it read before'; 0 by the template 'total and deterministic' (their statements: YtpcpmdokgdbonaaTotals.lean).
  GIVEN WITH THE SEED: the statements are not yours to turn. If you find one false, say at which input.
  Laid BY PROGRAM, IN A SANDBOX (cutbox-rows.mjs): the forced cells as the released guide's own fill.sh prints them over the translation b3f5c65bf2ec59cb… (all of the seat's roots in one cut). By AI agents, Wed Nov 11 2026. No macro, syntax, notation, axiom, sorry.
-/
import Derived.Test.YtpcpmdokgdbonaaChecked
import GoSem.Claim
import GoSem.ClaimJoined
import GoSem.ClaimMapViews
import Derived.JoinedTies
import Derived.KernelRfl
namespace Go.Proofs.Ytpcpmdokgdbonaa
/- THE CELL 'sum', in the pinned program and in every row, IS THE sha256 OF THE DUMP (.gsa) THAT YtpcpmdokgdbonaaProg.lean LOADS. Nothing in Lean hashes anything: it is a label: what it is worth is what the hold of that sum in a sandbox is worth. -/
noncomputable def Try.pinned : Pinned := { name := "ytpcpmdokgdbonaa", sum := "b3f5c65bf2ec59cb32ef92c01b90a2057da76041112ced9ac8374e831c63abfb", checked := Try.checked }
namespace Rows
def none {H : Type} : Left H := { results := [], args := [] }

/-- 'vyakaranalaw08.TagLeast': WHATEVER THE INPUT: true; the input reads as it did. -/
def tagLeastSpec : ChangeSpec := { name := "tagLeast", fn := fun _ => fun
  | [d1, d2] => { results := [.lit (.bool true)], args := [d1, d2] }
  | _ => none }
def tagLeastRow : OpenClaim := { program := "ytpcpmdokgdbonaa", sum := "b3f5c65bf2ec59cb32ef92c01b90a2057da76041112ced9ac8374e831c63abfb", func := "vyakarana/vyakaranalaw08.TagLeast", spec := "tagLeast", inPlace := ["slices.overlaps[int]"], unfollowed := true, recurses := true, apart := false }
def TagLeastSaid : Prop := tagLeastRow.holds Try.pinned (OpenSpec.ofChange tagLeastSpec)

/-- ITS FALSE NEIGHBOUR: 'it returns false'. Refute it at one input. -/
def tagLeastWrong : ChangeSpec := { name := "tagLeast", fn := fun _ => fun
  | [d1, d2] => { results := [.lit (.bool false)], args := [d1, d2] }
  | _ => none }
def TagLeastWrongFalsely : Prop := tagLeastRow.holds Try.pinned (OpenSpec.ofChange tagLeastWrong)

/-- 'vyakaranalaw08.TagAll': WHATEVER THE INPUT: true; the input reads as it did. -/
def tagAllSpec : ChangeSpec := { name := "tagAll", fn := fun _ => fun
  | [d1, d2] => { results := [.lit (.bool true)], args := [d1, d2] }
  | _ => none }
def tagAllRow : OpenClaim := { program := "ytpcpmdokgdbonaa", sum := "b3f5c65bf2ec59cb32ef92c01b90a2057da76041112ced9ac8374e831c63abfb", func := "vyakarana/vyakaranalaw08.TagAll", spec := "tagAll", inPlace := ["slices.overlaps[int]"], unfollowed := true, recurses := true, apart := false }
def TagAllSaid : Prop := tagAllRow.holds Try.pinned (OpenSpec.ofChange tagAllSpec)

/-- ITS FALSE NEIGHBOUR: 'it returns false'. Refute it at one input. -/
def tagAllWrong : ChangeSpec := { name := "tagAll", fn := fun _ => fun
  | [d1, d2] => { results := [.lit (.bool false)], args := [d1, d2] }
  | _ => none }
def TagAllWrongFalsely : Prop := tagAllRow.holds Try.pinned (OpenSpec.ofChange tagAllWrong)

/-- 'vyakaranalaw08.TagProves': WHATEVER THE INPUT: true; the input reads as it did. -/
def tagProvesSpec : ChangeSpec := { name := "tagProves", fn := fun _ => fun
  | [d1, d2] => { results := [.lit (.bool true)], args := [d1, d2] }
  | _ => none }
def tagProvesRow : OpenClaim := { program := "ytpcpmdokgdbonaa", sum := "b3f5c65bf2ec59cb32ef92c01b90a2057da76041112ced9ac8374e831c63abfb", func := "vyakarana/vyakaranalaw08.TagProves", spec := "tagProves", unfollowed := true, recurses := true, apart := false }
def TagProvesSaid : Prop := tagProvesRow.holds Try.pinned (OpenSpec.ofChange tagProvesSpec)

/-- ITS FALSE NEIGHBOUR: 'it returns false'. Refute it at one input. -/
def tagProvesWrong : ChangeSpec := { name := "tagProves", fn := fun _ => fun
  | [d1, d2] => { results := [.lit (.bool false)], args := [d1, d2] }
  | _ => none }
def TagProvesWrongFalsely : Prop := tagProvesRow.holds Try.pinned (OpenSpec.ofChange tagProvesWrong)

/-- 'vyakaranalaw08.TagBacks': WHATEVER THE INPUT: true; the input reads as it did. -/
def tagBacksSpec : ChangeSpec := { name := "tagBacks", fn := fun _ => fun
  | [d1, d2] => { results := [.lit (.bool true)], args := [d1, d2] }
  | _ => none }
def tagBacksRow : OpenClaim := { program := "ytpcpmdokgdbonaa", sum := "b3f5c65bf2ec59cb32ef92c01b90a2057da76041112ced9ac8374e831c63abfb", func := "vyakarana/vyakaranalaw08.TagBacks", spec := "tagBacks", unfollowed := true, recurses := true, apart := false }
def TagBacksSaid : Prop := tagBacksRow.holds Try.pinned (OpenSpec.ofChange tagBacksSpec)

/-- ITS FALSE NEIGHBOUR: 'it returns false'. Refute it at one input. -/
def tagBacksWrong : ChangeSpec := { name := "tagBacks", fn := fun _ => fun
  | [d1, d2] => { results := [.lit (.bool false)], args := [d1, d2] }
  | _ => none }
def TagBacksWrongFalsely : Prop := tagBacksRow.holds Try.pinned (OpenSpec.ofChange tagBacksWrong)

/-- 'vyakaranalaw08.TagDearer': WHATEVER THE INPUT: true; the input reads as it did. -/
def tagDearerSpec : ChangeSpec := { name := "tagDearer", fn := fun _ => fun
  | [d1, d2, d3] => { results := [.lit (.bool true)], args := [d1, d2, d3] }
  | _ => none }
def tagDearerRow : OpenClaim := { program := "ytpcpmdokgdbonaa", sum := "b3f5c65bf2ec59cb32ef92c01b90a2057da76041112ced9ac8374e831c63abfb", func := "vyakarana/vyakaranalaw08.TagDearer", spec := "tagDearer", unfollowed := true, recurses := true, apart := false }
def TagDearerSaid : Prop := tagDearerRow.holds Try.pinned (OpenSpec.ofChange tagDearerSpec)

/-- ITS FALSE NEIGHBOUR: 'it returns false'. Refute it at one input. -/
def tagDearerWrong : ChangeSpec := { name := "tagDearer", fn := fun _ => fun
  | [d1, d2, d3] => { results := [.lit (.bool false)], args := [d1, d2, d3] }
  | _ => none }
def TagDearerWrongFalsely : Prop := tagDearerRow.holds Try.pinned (OpenSpec.ofChange tagDearerWrong)

/-- 'vyakaranalaw08.TagWithout': WHATEVER THE INPUT: true; the input reads as it did. -/
def tagWithoutSpec : ChangeSpec := { name := "tagWithout", fn := fun _ => fun
  | [d1, d2, d3] => { results := [.lit (.bool true)], args := [d1, d2, d3] }
  | _ => none }
def tagWithoutRow : OpenClaim := { program := "ytpcpmdokgdbonaa", sum := "b3f5c65bf2ec59cb32ef92c01b90a2057da76041112ced9ac8374e831c63abfb", func := "vyakarana/vyakaranalaw08.TagWithout", spec := "tagWithout", unfollowed := true, recurses := true, apart := false }
def TagWithoutSaid : Prop := tagWithoutRow.holds Try.pinned (OpenSpec.ofChange tagWithoutSpec)

/-- ITS FALSE NEIGHBOUR: 'it returns false'. Refute it at one input. -/
def tagWithoutWrong : ChangeSpec := { name := "tagWithout", fn := fun _ => fun
  | [d1, d2, d3] => { results := [.lit (.bool false)], args := [d1, d2, d3] }
  | _ => none }
def TagWithoutWrongFalsely : Prop := tagWithoutRow.holds Try.pinned (OpenSpec.ofChange tagWithoutWrong)

/-- 'vyakaranalaw08.TagFree': WHATEVER THE INPUT: true; the input reads as it did. -/
def tagFreeSpec : ChangeSpec := { name := "tagFree", fn := fun _ => fun
  | [d1, d2, d3] => { results := [.lit (.bool true)], args := [d1, d2, d3] }
  | _ => none }
def tagFreeRow : OpenClaim := { program := "ytpcpmdokgdbonaa", sum := "b3f5c65bf2ec59cb32ef92c01b90a2057da76041112ced9ac8374e831c63abfb", func := "vyakarana/vyakaranalaw08.TagFree", spec := "tagFree", unfollowed := true, recurses := true, apart := false }
def TagFreeSaid : Prop := tagFreeRow.holds Try.pinned (OpenSpec.ofChange tagFreeSpec)

/-- ITS FALSE NEIGHBOUR: 'it returns false'. Refute it at one input. -/
def tagFreeWrong : ChangeSpec := { name := "tagFree", fn := fun _ => fun
  | [d1, d2, d3] => { results := [.lit (.bool false)], args := [d1, d2, d3] }
  | _ => none }
def TagFreeWrongFalsely : Prop := tagFreeRow.holds Try.pinned (OpenSpec.ofChange tagFreeWrong)

/-- 'vyakaranatop.TopTags': WHATEVER THE INPUT: true; the input reads as it did. -/
def topTagsSpec : ChangeSpec := { name := "topTags", fn := fun _ => fun
  | [d1, d2, d3] => { results := [.lit (.bool true)], args := [d1, d2, d3] }
  | _ => none }
def topTagsRow : OpenClaim := { program := "ytpcpmdokgdbonaa", sum := "b3f5c65bf2ec59cb32ef92c01b90a2057da76041112ced9ac8374e831c63abfb", func := "vyakarana/vyakaranatop.TopTags", spec := "topTags", inPlace := ["slices.overlaps[int]"], unfollowed := true, recurses := true, apart := false }
def TopTagsSaid : Prop := topTagsRow.holds Try.pinned (OpenSpec.ofChange topTagsSpec)

/-- ITS FALSE NEIGHBOUR: 'it returns false'. Refute it at one input. -/
def topTagsWrong : ChangeSpec := { name := "topTags", fn := fun _ => fun
  | [d1, d2, d3] => { results := [.lit (.bool false)], args := [d1, d2, d3] }
  | _ => none }
def TopTagsWrongFalsely : Prop := topTagsRow.holds Try.pinned (OpenSpec.ofChange topTagsWrong)

/- THE SECOND FORM. 'bulk': how many values and letters a reading holds, each counted each time it is reached (what is shared counts as often as it is met; a slice's spare places count too). A statement '..UptoSaid' is the law's where the arguments, and the package variables that the reading takes, are together of bulk at most 1048576: NARROWER than '..Said'. Prove '..Said' where nothing that the law and all that it calls make is longer than what came in: it says more and counts as full. Else prove '..UptoSaid'. A law counts once. -/
mutual
def uptoBulk {H : Type} : DataW H → Nat
  | .lit (.string bytes) => bytes.length + 1
  | .lit _ => 1
  | .nil => 1
  | .ptr d => uptoBulk d + 1
  | .slice elems spare => uptoBulkAll elems + uptoBulkAll spare + 1
  | .agg parts => uptoBulkAll parts + 1
  | .iface _ d => uptoBulk d + 1
  | .map entries => uptoBulkEntries entries + 1
  | .held _ => 1
def uptoBulkAll {H : Type} : List (DataW H) → Nat
  | [] => 0
  | d :: r => uptoBulk d + uptoBulkAll r
def uptoBulkEntries {H : Type} : List (Lit × DataW H) → Nat
  | [] => 0
  | x :: r => uptoBulkEntry x + uptoBulkEntries r
def uptoBulkEntry {H : Type} : Lit × DataW H → Nat
  | (.string bytes, d) => bytes.length + uptoBulk d + 1
  | (_, d) => uptoBulk d + 1
 end
def uptoSmall : (H : Type) → List (DataW H) → Bool := fun _ ds => decide (uptoBulkAll ds ≤ 1048576)
def OpenSpec.upto (s : _root_.Go.ChangeSpec) : _root_.Go.OpenSpec := { _root_.Go.OpenSpec.ofChange s with cond := some uptoSmall }

/-- 'vyakaranalaw08.TagLeast', WHERE WHAT IT READS IS OF BULK AT MOST 1048576: true; the input reads as it did. -/
def tagLeastUptoRow : OpenClaim := { program := "ytpcpmdokgdbonaa", sum := "b3f5c65bf2ec59cb32ef92c01b90a2057da76041112ced9ac8374e831c63abfb", func := "vyakarana/vyakaranalaw08.TagLeast", spec := "tagLeast", inPlace := ["slices.overlaps[int]"], unfollowed := true, recurses := true, apart := false, narrowed := true }
def TagLeastUptoSaid : Prop := tagLeastUptoRow.holds Try.pinned (OpenSpec.upto tagLeastSpec)

/-- 'vyakaranalaw08.TagAll', WHERE WHAT IT READS IS OF BULK AT MOST 1048576: true; the input reads as it did. -/
def tagAllUptoRow : OpenClaim := { program := "ytpcpmdokgdbonaa", sum := "b3f5c65bf2ec59cb32ef92c01b90a2057da76041112ced9ac8374e831c63abfb", func := "vyakarana/vyakaranalaw08.TagAll", spec := "tagAll", inPlace := ["slices.overlaps[int]"], unfollowed := true, recurses := true, apart := false, narrowed := true }
def TagAllUptoSaid : Prop := tagAllUptoRow.holds Try.pinned (OpenSpec.upto tagAllSpec)

/-- 'vyakaranalaw08.TagProves', WHERE WHAT IT READS IS OF BULK AT MOST 1048576: true; the input reads as it did. -/
def tagProvesUptoRow : OpenClaim := { program := "ytpcpmdokgdbonaa", sum := "b3f5c65bf2ec59cb32ef92c01b90a2057da76041112ced9ac8374e831c63abfb", func := "vyakarana/vyakaranalaw08.TagProves", spec := "tagProves", unfollowed := true, recurses := true, apart := false, narrowed := true }
def TagProvesUptoSaid : Prop := tagProvesUptoRow.holds Try.pinned (OpenSpec.upto tagProvesSpec)

/-- 'vyakaranalaw08.TagBacks', WHERE WHAT IT READS IS OF BULK AT MOST 1048576: true; the input reads as it did. -/
def tagBacksUptoRow : OpenClaim := { program := "ytpcpmdokgdbonaa", sum := "b3f5c65bf2ec59cb32ef92c01b90a2057da76041112ced9ac8374e831c63abfb", func := "vyakarana/vyakaranalaw08.TagBacks", spec := "tagBacks", unfollowed := true, recurses := true, apart := false, narrowed := true }
def TagBacksUptoSaid : Prop := tagBacksUptoRow.holds Try.pinned (OpenSpec.upto tagBacksSpec)

/-- 'vyakaranalaw08.TagDearer', WHERE WHAT IT READS IS OF BULK AT MOST 1048576: true; the input reads as it did. -/
def tagDearerUptoRow : OpenClaim := { program := "ytpcpmdokgdbonaa", sum := "b3f5c65bf2ec59cb32ef92c01b90a2057da76041112ced9ac8374e831c63abfb", func := "vyakarana/vyakaranalaw08.TagDearer", spec := "tagDearer", unfollowed := true, recurses := true, apart := false, narrowed := true }
def TagDearerUptoSaid : Prop := tagDearerUptoRow.holds Try.pinned (OpenSpec.upto tagDearerSpec)

/-- 'vyakaranalaw08.TagWithout', WHERE WHAT IT READS IS OF BULK AT MOST 1048576: true; the input reads as it did. -/
def tagWithoutUptoRow : OpenClaim := { program := "ytpcpmdokgdbonaa", sum := "b3f5c65bf2ec59cb32ef92c01b90a2057da76041112ced9ac8374e831c63abfb", func := "vyakarana/vyakaranalaw08.TagWithout", spec := "tagWithout", unfollowed := true, recurses := true, apart := false, narrowed := true }
def TagWithoutUptoSaid : Prop := tagWithoutUptoRow.holds Try.pinned (OpenSpec.upto tagWithoutSpec)

/-- 'vyakaranalaw08.TagFree', WHERE WHAT IT READS IS OF BULK AT MOST 1048576: true; the input reads as it did. -/
def tagFreeUptoRow : OpenClaim := { program := "ytpcpmdokgdbonaa", sum := "b3f5c65bf2ec59cb32ef92c01b90a2057da76041112ced9ac8374e831c63abfb", func := "vyakarana/vyakaranalaw08.TagFree", spec := "tagFree", unfollowed := true, recurses := true, apart := false, narrowed := true }
def TagFreeUptoSaid : Prop := tagFreeUptoRow.holds Try.pinned (OpenSpec.upto tagFreeSpec)

/-- 'vyakaranatop.TopTags', WHERE WHAT IT READS IS OF BULK AT MOST 1048576: true; the input reads as it did. -/
def topTagsUptoRow : OpenClaim := { program := "ytpcpmdokgdbonaa", sum := "b3f5c65bf2ec59cb32ef92c01b90a2057da76041112ced9ac8374e831c63abfb", func := "vyakarana/vyakaranatop.TopTags", spec := "topTags", inPlace := ["slices.overlaps[int]"], unfollowed := true, recurses := true, apart := false, narrowed := true }
def TopTagsUptoSaid : Prop := topTagsUptoRow.holds Try.pinned (OpenSpec.upto topTagsSpec)

end Rows
end Go.Proofs.Ytpcpmdokgdbonaa
