/-
  No cell of these rows narrows 'for every input' (looked for: loops, veiled, ifaces, maps, wideKeys, modest, calm, conditions, laid).
  DERIVED. THE GIVEN ROWS OF THIS SEAT. 10 by the template 'for every input the law returns true; each argument reads behind the call as it read before'; 0 by the template 'total and deterministic' (their statements: YtkdigdoomnafbaaTotals.lean).
  GIVEN WITH THE SEED: the statements are not yours to turn. If you find one false, say at which input.
  Laid BY PROGRAM, IN A SANDBOX (cutbox-rows.mjs): the forced cells as the released guide's own fill.sh prints them over the translation 4d784c05e113aa71… (all of the seat's roots in one cut). By AI agents, Wed Nov 11 2026. No macro, syntax, notation, axiom, sorry.
-/
import Derived.Test.YtkdigdoomnafbaaChecked
import GoSem.Claim
import GoSem.ClaimJoined
import GoSem.ClaimMapViews
import Derived.JoinedTies
import Derived.KernelRfl
namespace Go.Proofs.Ytkdigdoomnafbaa
/- THE CELL 'sum', in the pinned program and in every row, IS THE sha256 OF THE DUMP (.gsa) THAT YtkdigdoomnafbaaProg.lean LOADS. Nothing in Lean hashes anything: it is a label: what it is worth is what the hold of that sum in a sandbox is worth. -/
noncomputable def Try.pinned : Pinned := { name := "ytkdigdoomnafbaa", sum := "4d784c05e113aa7167224147ea2f7156945ad33ace6de442ff0b5ebf51643170", checked := Try.checked }
namespace Rows
def none {H : Type} : Left H := { results := [], args := [] }

/-- 'laws.FnExactNameOK': WHATEVER THE INPUT: true; the input reads as it did. -/
def fnExactNameOKSpec : ChangeSpec := { name := "fnExactNameOK", fn := fun _ => fun
  | [d] => { results := [.lit (.bool true)], args := [d] }
  | _ => none }
def fnExactNameOKRow : OpenClaim := { program := "ytkdigdoomnafbaa", sum := "4d784c05e113aa7167224147ea2f7156945ad33ace6de442ff0b5ebf51643170", func := "loop.example/g00380/laws.FnExactNameOK", spec := "fnExactNameOK", apart := false }
def FnExactNameOKSaid : Prop := fnExactNameOKRow.holds Try.pinned (OpenSpec.ofChange fnExactNameOKSpec)

/-- ITS FALSE NEIGHBOUR: 'it returns false'. Refute it at one input. -/
def fnExactNameOKWrong : ChangeSpec := { name := "fnExactNameOK", fn := fun _ => fun
  | [d] => { results := [.lit (.bool false)], args := [d] }
  | _ => none }
def FnExactNameOKWrongFalsely : Prop := fnExactNameOKRow.holds Try.pinned (OpenSpec.ofChange fnExactNameOKWrong)

/-- 'laws.FnExactValueOK': WHATEVER THE INPUT: true; the input reads as it did. -/
def fnExactValueOKSpec : ChangeSpec := { name := "fnExactValueOK", fn := fun _ => fun
  | [d] => { results := [.lit (.bool true)], args := [d] }
  | _ => none }
def fnExactValueOKRow : OpenClaim := { program := "ytkdigdoomnafbaa", sum := "4d784c05e113aa7167224147ea2f7156945ad33ace6de442ff0b5ebf51643170", func := "loop.example/g00380/laws.FnExactValueOK", spec := "fnExactValueOK", recurses := true, apart := false }
def FnExactValueOKSaid : Prop := fnExactValueOKRow.holds Try.pinned (OpenSpec.ofChange fnExactValueOKSpec)

/-- ITS FALSE NEIGHBOUR: 'it returns false'. Refute it at one input. -/
def fnExactValueOKWrong : ChangeSpec := { name := "fnExactValueOK", fn := fun _ => fun
  | [d] => { results := [.lit (.bool false)], args := [d] }
  | _ => none }
def FnExactValueOKWrongFalsely : Prop := fnExactValueOKRow.holds Try.pinned (OpenSpec.ofChange fnExactValueOKWrong)

/-- 'laws.FnExactEncodeValue': WHATEVER THE INPUT: true; the input reads as it did. -/
def fnExactEncodeValueSpec : ChangeSpec := { name := "fnExactEncodeValue", fn := fun _ => fun
  | [d] => { results := [.lit (.bool true)], args := [d] }
  | _ => none }
def fnExactEncodeValueRow : OpenClaim := { program := "ytkdigdoomnafbaa", sum := "4d784c05e113aa7167224147ea2f7156945ad33ace6de442ff0b5ebf51643170", func := "loop.example/g00380/laws.FnExactEncodeValue", spec := "fnExactEncodeValue", recurses := true, apart := false }
def FnExactEncodeValueSaid : Prop := fnExactEncodeValueRow.holds Try.pinned (OpenSpec.ofChange fnExactEncodeValueSpec)

/-- ITS FALSE NEIGHBOUR: 'it returns false'. Refute it at one input. -/
def fnExactEncodeValueWrong : ChangeSpec := { name := "fnExactEncodeValue", fn := fun _ => fun
  | [d] => { results := [.lit (.bool false)], args := [d] }
  | _ => none }
def FnExactEncodeValueWrongFalsely : Prop := fnExactEncodeValueRow.holds Try.pinned (OpenSpec.ofChange fnExactEncodeValueWrong)

/-- 'laws.FnExactDecodeValue': WHATEVER THE INPUT: true; the input reads as it did. -/
def fnExactDecodeValueSpec : ChangeSpec := { name := "fnExactDecodeValue", fn := fun _ => fun
  | [d] => { results := [.lit (.bool true)], args := [d] }
  | _ => none }
def fnExactDecodeValueRow : OpenClaim := { program := "ytkdigdoomnafbaa", sum := "4d784c05e113aa7167224147ea2f7156945ad33ace6de442ff0b5ebf51643170", func := "loop.example/g00380/laws.FnExactDecodeValue", spec := "fnExactDecodeValue", recurses := true, apart := false }
def FnExactDecodeValueSaid : Prop := fnExactDecodeValueRow.holds Try.pinned (OpenSpec.ofChange fnExactDecodeValueSpec)

/-- ITS FALSE NEIGHBOUR: 'it returns false'. Refute it at one input. -/
def fnExactDecodeValueWrong : ChangeSpec := { name := "fnExactDecodeValue", fn := fun _ => fun
  | [d] => { results := [.lit (.bool false)], args := [d] }
  | _ => none }
def FnExactDecodeValueWrongFalsely : Prop := fnExactDecodeValueRow.holds Try.pinned (OpenSpec.ofChange fnExactDecodeValueWrong)

/-- 'laws.FnExactListOf': WHATEVER THE INPUT: true; the input reads as it did. -/
def fnExactListOfSpec : ChangeSpec := { name := "fnExactListOf", fn := fun _ => fun
  | [d] => { results := [.lit (.bool true)], args := [d] }
  | _ => none }
def fnExactListOfRow : OpenClaim := { program := "ytkdigdoomnafbaa", sum := "4d784c05e113aa7167224147ea2f7156945ad33ace6de442ff0b5ebf51643170", func := "loop.example/g00380/laws.FnExactListOf", spec := "fnExactListOf", unfollowed := true, recurses := true, apart := false }
def FnExactListOfSaid : Prop := fnExactListOfRow.holds Try.pinned (OpenSpec.ofChange fnExactListOfSpec)

/-- ITS FALSE NEIGHBOUR: 'it returns false'. Refute it at one input. -/
def fnExactListOfWrong : ChangeSpec := { name := "fnExactListOf", fn := fun _ => fun
  | [d] => { results := [.lit (.bool false)], args := [d] }
  | _ => none }
def FnExactListOfWrongFalsely : Prop := fnExactListOfRow.holds Try.pinned (OpenSpec.ofChange fnExactListOfWrong)

/-- 'laws.FnExactItemsOf': WHATEVER THE INPUT: true; the input reads as it did. -/
def fnExactItemsOfSpec : ChangeSpec := { name := "fnExactItemsOf", fn := fun _ => fun
  | [d] => { results := [.lit (.bool true)], args := [d] }
  | _ => none }
def fnExactItemsOfRow : OpenClaim := { program := "ytkdigdoomnafbaa", sum := "4d784c05e113aa7167224147ea2f7156945ad33ace6de442ff0b5ebf51643170", func := "loop.example/g00380/laws.FnExactItemsOf", spec := "fnExactItemsOf", recurses := true, apart := false }
def FnExactItemsOfSaid : Prop := fnExactItemsOfRow.holds Try.pinned (OpenSpec.ofChange fnExactItemsOfSpec)

/-- ITS FALSE NEIGHBOUR: 'it returns false'. Refute it at one input. -/
def fnExactItemsOfWrong : ChangeSpec := { name := "fnExactItemsOf", fn := fun _ => fun
  | [d] => { results := [.lit (.bool false)], args := [d] }
  | _ => none }
def FnExactItemsOfWrongFalsely : Prop := fnExactItemsOfRow.holds Try.pinned (OpenSpec.ofChange fnExactItemsOfWrong)

/-- 'laws.FnExactDocOf': WHATEVER THE INPUT: true; the input reads as it did. -/
def fnExactDocOfSpec : ChangeSpec := { name := "fnExactDocOf", fn := fun _ => fun
  | [d] => { results := [.lit (.bool true)], args := [d] }
  | _ => none }
def fnExactDocOfRow : OpenClaim := { program := "ytkdigdoomnafbaa", sum := "4d784c05e113aa7167224147ea2f7156945ad33ace6de442ff0b5ebf51643170", func := "loop.example/g00380/laws.FnExactDocOf", spec := "fnExactDocOf", inPlace := ["internal/bytealg.abigen_runtime_cmpstring", "slices.overlaps[loop.example/g00380/impl.Field]"], unfollowed := true, recurses := true, apart := false }
def FnExactDocOfSaid : Prop := fnExactDocOfRow.holds Try.pinned (OpenSpec.ofChange fnExactDocOfSpec)

/-- ITS FALSE NEIGHBOUR: 'it returns false'. Refute it at one input. -/
def fnExactDocOfWrong : ChangeSpec := { name := "fnExactDocOf", fn := fun _ => fun
  | [d] => { results := [.lit (.bool false)], args := [d] }
  | _ => none }
def FnExactDocOfWrongFalsely : Prop := fnExactDocOfRow.holds Try.pinned (OpenSpec.ofChange fnExactDocOfWrong)

/-- 'laws.FnExactFieldsOf': WHATEVER THE INPUT: true; the input reads as it did. -/
def fnExactFieldsOfSpec : ChangeSpec := { name := "fnExactFieldsOf", fn := fun _ => fun
  | [d] => { results := [.lit (.bool true)], args := [d] }
  | _ => none }
def fnExactFieldsOfRow : OpenClaim := { program := "ytkdigdoomnafbaa", sum := "4d784c05e113aa7167224147ea2f7156945ad33ace6de442ff0b5ebf51643170", func := "loop.example/g00380/laws.FnExactFieldsOf", spec := "fnExactFieldsOf", recurses := true, apart := false }
def FnExactFieldsOfSaid : Prop := fnExactFieldsOfRow.holds Try.pinned (OpenSpec.ofChange fnExactFieldsOfSpec)

/-- ITS FALSE NEIGHBOUR: 'it returns false'. Refute it at one input. -/
def fnExactFieldsOfWrong : ChangeSpec := { name := "fnExactFieldsOf", fn := fun _ => fun
  | [d] => { results := [.lit (.bool false)], args := [d] }
  | _ => none }
def FnExactFieldsOfWrongFalsely : Prop := fnExactFieldsOfRow.holds Try.pinned (OpenSpec.ofChange fnExactFieldsOfWrong)

/-- 'laws.FnExactOrderValues': WHATEVER THE INPUT: true; the input reads as it did. -/
def fnExactOrderValuesSpec : ChangeSpec := { name := "fnExactOrderValues", fn := fun _ => fun
  | [d1, d2] => { results := [.lit (.bool true)], args := [d1, d2] }
  | _ => none }
def fnExactOrderValuesRow : OpenClaim := { program := "ytkdigdoomnafbaa", sum := "4d784c05e113aa7167224147ea2f7156945ad33ace6de442ff0b5ebf51643170", func := "loop.example/g00380/laws.FnExactOrderValues", spec := "fnExactOrderValues", inPlace := ["internal/bytealg.abigen_runtime_cmpstring"], unfollowed := true, recurses := true, apart := false }
def FnExactOrderValuesSaid : Prop := fnExactOrderValuesRow.holds Try.pinned (OpenSpec.ofChange fnExactOrderValuesSpec)

/-- ITS FALSE NEIGHBOUR: 'it returns false'. Refute it at one input. -/
def fnExactOrderValuesWrong : ChangeSpec := { name := "fnExactOrderValues", fn := fun _ => fun
  | [d1, d2] => { results := [.lit (.bool false)], args := [d1, d2] }
  | _ => none }
def FnExactOrderValuesWrongFalsely : Prop := fnExactOrderValuesRow.holds Try.pinned (OpenSpec.ofChange fnExactOrderValuesWrong)

/-- 'laws.FnExactDepthOf': WHATEVER THE INPUT: true; the input reads as it did. -/
def fnExactDepthOfSpec : ChangeSpec := { name := "fnExactDepthOf", fn := fun _ => fun
  | [d] => { results := [.lit (.bool true)], args := [d] }
  | _ => none }
def fnExactDepthOfRow : OpenClaim := { program := "ytkdigdoomnafbaa", sum := "4d784c05e113aa7167224147ea2f7156945ad33ace6de442ff0b5ebf51643170", func := "loop.example/g00380/laws.FnExactDepthOf", spec := "fnExactDepthOf", recurses := true, apart := false }
def FnExactDepthOfSaid : Prop := fnExactDepthOfRow.holds Try.pinned (OpenSpec.ofChange fnExactDepthOfSpec)

/-- ITS FALSE NEIGHBOUR: 'it returns false'. Refute it at one input. -/
def fnExactDepthOfWrong : ChangeSpec := { name := "fnExactDepthOf", fn := fun _ => fun
  | [d] => { results := [.lit (.bool false)], args := [d] }
  | _ => none }
def FnExactDepthOfWrongFalsely : Prop := fnExactDepthOfRow.holds Try.pinned (OpenSpec.ofChange fnExactDepthOfWrong)

/- THE SECOND FORM. 'bulk': how many values and letters a reading holds, each counted each time it is reached (what is shared counts as often as it is met; a slice's spare places count too). A statement '..UptoSaid' is the law's where the arguments, and the package variables that the reading takes, are together of bulk at most 1048576: NARROWER than '..Said'. Prove '..Said' where nothing that the law and all that it calls make is longer than what came in: it says more and counts as full. Else prove '..UptoSaid'. A law counts once. -/
mutual
def uptoBulk {H : Type} : DataW H → Nat
  | .lit (.string bytes) => bytes.length + 1
  | .lit _ => 1
  | .nil => 1
  | .ptr d => uptoBulk d + 1
  | .slice elems spare => uptoBulkAll elems + uptoBulkAll spare + 1
  | .agg parts => uptoBulkAll parts + 1
  | .iface _ d => uptoBulk d + 1
  | .map entries => uptoBulkEntries entries + 1
  | .held _ => 1
def uptoBulkAll {H : Type} : List (DataW H) → Nat
  | [] => 0
  | d :: r => uptoBulk d + uptoBulkAll r
def uptoBulkEntries {H : Type} : List (Lit × DataW H) → Nat
  | [] => 0
  | x :: r => uptoBulkEntry x + uptoBulkEntries r
def uptoBulkEntry {H : Type} : Lit × DataW H → Nat
  | (.string bytes, d) => bytes.length + uptoBulk d + 1
  | (_, d) => uptoBulk d + 1
 end
def uptoSmall : (H : Type) → List (DataW H) → Bool := fun _ ds => decide (uptoBulkAll ds ≤ 1048576)
def OpenSpec.upto (s : _root_.Go.ChangeSpec) : _root_.Go.OpenSpec := { _root_.Go.OpenSpec.ofChange s with cond := some uptoSmall }

/-- 'laws.FnExactNameOK', WHERE WHAT IT READS IS OF BULK AT MOST 1048576: true; the input reads as it did. -/
def fnExactNameOKUptoRow : OpenClaim := { program := "ytkdigdoomnafbaa", sum := "4d784c05e113aa7167224147ea2f7156945ad33ace6de442ff0b5ebf51643170", func := "loop.example/g00380/laws.FnExactNameOK", spec := "fnExactNameOK", apart := false, narrowed := true }
def FnExactNameOKUptoSaid : Prop := fnExactNameOKUptoRow.holds Try.pinned (OpenSpec.upto fnExactNameOKSpec)

/-- 'laws.FnExactValueOK', WHERE WHAT IT READS IS OF BULK AT MOST 1048576: true; the input reads as it did. -/
def fnExactValueOKUptoRow : OpenClaim := { program := "ytkdigdoomnafbaa", sum := "4d784c05e113aa7167224147ea2f7156945ad33ace6de442ff0b5ebf51643170", func := "loop.example/g00380/laws.FnExactValueOK", spec := "fnExactValueOK", recurses := true, apart := false, narrowed := true }
def FnExactValueOKUptoSaid : Prop := fnExactValueOKUptoRow.holds Try.pinned (OpenSpec.upto fnExactValueOKSpec)

/-- 'laws.FnExactEncodeValue', WHERE WHAT IT READS IS OF BULK AT MOST 1048576: true; the input reads as it did. -/
def fnExactEncodeValueUptoRow : OpenClaim := { program := "ytkdigdoomnafbaa", sum := "4d784c05e113aa7167224147ea2f7156945ad33ace6de442ff0b5ebf51643170", func := "loop.example/g00380/laws.FnExactEncodeValue", spec := "fnExactEncodeValue", recurses := true, apart := false, narrowed := true }
def FnExactEncodeValueUptoSaid : Prop := fnExactEncodeValueUptoRow.holds Try.pinned (OpenSpec.upto fnExactEncodeValueSpec)

/-- 'laws.FnExactDecodeValue', WHERE WHAT IT READS IS OF BULK AT MOST 1048576: true; the input reads as it did. -/
def fnExactDecodeValueUptoRow : OpenClaim := { program := "ytkdigdoomnafbaa", sum := "4d784c05e113aa7167224147ea2f7156945ad33ace6de442ff0b5ebf51643170", func := "loop.example/g00380/laws.FnExactDecodeValue", spec := "fnExactDecodeValue", recurses := true, apart := false, narrowed := true }
def FnExactDecodeValueUptoSaid : Prop := fnExactDecodeValueUptoRow.holds Try.pinned (OpenSpec.upto fnExactDecodeValueSpec)

/-- 'laws.FnExactListOf', WHERE WHAT IT READS IS OF BULK AT MOST 1048576: true; the input reads as it did. -/
def fnExactListOfUptoRow : OpenClaim := { program := "ytkdigdoomnafbaa", sum := "4d784c05e113aa7167224147ea2f7156945ad33ace6de442ff0b5ebf51643170", func := "loop.example/g00380/laws.FnExactListOf", spec := "fnExactListOf", unfollowed := true, recurses := true, apart := false, narrowed := true }
def FnExactListOfUptoSaid : Prop := fnExactListOfUptoRow.holds Try.pinned (OpenSpec.upto fnExactListOfSpec)

/-- 'laws.FnExactItemsOf', WHERE WHAT IT READS IS OF BULK AT MOST 1048576: true; the input reads as it did. -/
def fnExactItemsOfUptoRow : OpenClaim := { program := "ytkdigdoomnafbaa", sum := "4d784c05e113aa7167224147ea2f7156945ad33ace6de442ff0b5ebf51643170", func := "loop.example/g00380/laws.FnExactItemsOf", spec := "fnExactItemsOf", recurses := true, apart := false, narrowed := true }
def FnExactItemsOfUptoSaid : Prop := fnExactItemsOfUptoRow.holds Try.pinned (OpenSpec.upto fnExactItemsOfSpec)

/-- 'laws.FnExactDocOf', WHERE WHAT IT READS IS OF BULK AT MOST 1048576: true; the input reads as it did. -/
def fnExactDocOfUptoRow : OpenClaim := { program := "ytkdigdoomnafbaa", sum := "4d784c05e113aa7167224147ea2f7156945ad33ace6de442ff0b5ebf51643170", func := "loop.example/g00380/laws.FnExactDocOf", spec := "fnExactDocOf", inPlace := ["internal/bytealg.abigen_runtime_cmpstring", "slices.overlaps[loop.example/g00380/impl.Field]"], unfollowed := true, recurses := true, apart := false, narrowed := true }
def FnExactDocOfUptoSaid : Prop := fnExactDocOfUptoRow.holds Try.pinned (OpenSpec.upto fnExactDocOfSpec)

/-- 'laws.FnExactFieldsOf', WHERE WHAT IT READS IS OF BULK AT MOST 1048576: true; the input reads as it did. -/
def fnExactFieldsOfUptoRow : OpenClaim := { program := "ytkdigdoomnafbaa", sum := "4d784c05e113aa7167224147ea2f7156945ad33ace6de442ff0b5ebf51643170", func := "loop.example/g00380/laws.FnExactFieldsOf", spec := "fnExactFieldsOf", recurses := true, apart := false, narrowed := true }
def FnExactFieldsOfUptoSaid : Prop := fnExactFieldsOfUptoRow.holds Try.pinned (OpenSpec.upto fnExactFieldsOfSpec)

/-- 'laws.FnExactOrderValues', WHERE WHAT IT READS IS OF BULK AT MOST 1048576: true; the input reads as it did. -/
def fnExactOrderValuesUptoRow : OpenClaim := { program := "ytkdigdoomnafbaa", sum := "4d784c05e113aa7167224147ea2f7156945ad33ace6de442ff0b5ebf51643170", func := "loop.example/g00380/laws.FnExactOrderValues", spec := "fnExactOrderValues", inPlace := ["internal/bytealg.abigen_runtime_cmpstring"], unfollowed := true, recurses := true, apart := false, narrowed := true }
def FnExactOrderValuesUptoSaid : Prop := fnExactOrderValuesUptoRow.holds Try.pinned (OpenSpec.upto fnExactOrderValuesSpec)

/-- 'laws.FnExactDepthOf', WHERE WHAT IT READS IS OF BULK AT MOST 1048576: true; the input reads as it did. -/
def fnExactDepthOfUptoRow : OpenClaim := { program := "ytkdigdoomnafbaa", sum := "4d784c05e113aa7167224147ea2f7156945ad33ace6de442ff0b5ebf51643170", func := "loop.example/g00380/laws.FnExactDepthOf", spec := "fnExactDepthOf", recurses := true, apart := false, narrowed := true }
def FnExactDepthOfUptoSaid : Prop := fnExactDepthOfUptoRow.holds Try.pinned (OpenSpec.upto fnExactDepthOfSpec)

end Rows
end Go.Proofs.Ytkdigdoomnafbaa
