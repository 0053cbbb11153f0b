/-
  No cell of these rows narrows 'for every input' (looked for: loops, veiled, ifaces, maps, wideKeys, modest, calm, conditions, laid).
  DERIVED. THE GIVEN ROWS OF THIS SEAT. 8 by the template 'for every input the law returns true; each argument reads behind the call as it read before'; 0 by the template 'total and deterministic' (their statements: YtejphhhmblpapaaTotals.lean).
  GIVEN WITH THE SEED: the statements are not yours to turn. If you find one false, say at which input.
  Laid BY PROGRAM, IN A SANDBOX (cutbox-rows.mjs): the forced cells as the released guide's own fill.sh prints them over the translation eba3458e72e13904… (all of the seat's roots in one cut). By AI agents, Wed Nov 11 2026. No macro, syntax, notation, axiom, sorry.
-/
import Derived.Test.YtejphhhmblpapaaChecked
import GoSem.Claim
import GoSem.ClaimJoined
import GoSem.ClaimMapViews
import Derived.JoinedTies
import Derived.KernelRfl
namespace Go.Proofs.Ytejphhhmblpapaa
/- THE CELL 'sum', in the pinned program and in every row, IS THE sha256 OF THE DUMP (.gsa) THAT YtejphhhmblpapaaProg.lean LOADS. Nothing in Lean hashes anything: it is a label: what it is worth is what the hold of that sum in a sandbox is worth. -/
noncomputable def Try.pinned : Pinned := { name := "ytejphhhmblpapaa", sum := "eba3458e72e13904c7b670a741387805c9f3c244a013882b9ad080b8c7c278de", checked := Try.checked }
namespace Rows
def none {H : Type} : Left H := { results := [], args := [] }

/-- 'laws.FnLists': WHATEVER THE INPUT: true; the input reads as it did. -/
def fnListsSpec : ChangeSpec := { name := "fnLists", fn := fun _ => fun
  | [d1, d2] => { results := [.lit (.bool true)], args := [d1, d2] }
  | _ => none }
def fnListsRow : OpenClaim := { program := "ytejphhhmblpapaa", sum := "eba3458e72e13904c7b670a741387805c9f3c244a013882b9ad080b8c7c278de", func := "loop.example/g00380/laws.FnLists", spec := "fnLists", inPlace := ["internal/bytealg.abigen_runtime_cmpstring", "slices.overlaps[loop.example/g00380/impl.Field]"], unfollowed := true, recurses := true, apart := false }
def FnListsSaid : Prop := fnListsRow.holds Try.pinned (OpenSpec.ofChange fnListsSpec)

/-- ITS FALSE NEIGHBOUR: 'it returns false'. Refute it at one input. -/
def fnListsWrong : ChangeSpec := { name := "fnLists", fn := fun _ => fun
  | [d1, d2] => { results := [.lit (.bool false)], args := [d1, d2] }
  | _ => none }
def FnListsWrongFalsely : Prop := fnListsRow.holds Try.pinned (OpenSpec.ofChange fnListsWrong)

/-- 'laws.FnKeys': WHATEVER THE INPUT: true; the input reads as it did. -/
def fnKeysSpec : ChangeSpec := { name := "fnKeys", fn := fun _ => fun
  | [d1, d2] => { results := [.lit (.bool true)], args := [d1, d2] }
  | _ => none }
def fnKeysRow : OpenClaim := { program := "ytejphhhmblpapaa", sum := "eba3458e72e13904c7b670a741387805c9f3c244a013882b9ad080b8c7c278de", func := "loop.example/g00380/laws.FnKeys", spec := "fnKeys", inPlace := ["internal/bytealg.abigen_runtime_cmpstring", "internal/bytealg.IndexByteString", "internal/bytealg.IndexString"], unfollowed := true, recurses := true, named := ["internal/bytealg.MaxLen"], apart := false }
def FnKeysSaid : Prop := fnKeysRow.holds Try.pinned (OpenSpec.ofChange fnKeysSpec)

/-- ITS FALSE NEIGHBOUR: 'it returns false'. Refute it at one input. -/
def fnKeysWrong : ChangeSpec := { name := "fnKeys", fn := fun _ => fun
  | [d1, d2] => { results := [.lit (.bool false)], args := [d1, d2] }
  | _ => none }
def FnKeysWrongFalsely : Prop := fnKeysRow.holds Try.pinned (OpenSpec.ofChange fnKeysWrong)

/-- 'laws.FnExactDocOf': WHATEVER THE INPUT: true; the input reads as it did. -/
def fnExactDocOfSpec : ChangeSpec := { name := "fnExactDocOf", fn := fun _ => fun
  | [d] => { results := [.lit (.bool true)], args := [d] }
  | _ => none }
def fnExactDocOfRow : OpenClaim := { program := "ytejphhhmblpapaa", sum := "eba3458e72e13904c7b670a741387805c9f3c244a013882b9ad080b8c7c278de", func := "loop.example/g00380/laws.FnExactDocOf", spec := "fnExactDocOf", inPlace := ["internal/bytealg.abigen_runtime_cmpstring", "slices.overlaps[loop.example/g00380/impl.Field]"], unfollowed := true, recurses := true, apart := false }
def FnExactDocOfSaid : Prop := fnExactDocOfRow.holds Try.pinned (OpenSpec.ofChange fnExactDocOfSpec)

/-- ITS FALSE NEIGHBOUR: 'it returns false'. Refute it at one input. -/
def fnExactDocOfWrong : ChangeSpec := { name := "fnExactDocOf", fn := fun _ => fun
  | [d] => { results := [.lit (.bool false)], args := [d] }
  | _ => none }
def FnExactDocOfWrongFalsely : Prop := fnExactDocOfRow.holds Try.pinned (OpenSpec.ofChange fnExactDocOfWrong)

/-- 'laws.FnExactKeyOf': WHATEVER THE INPUT: true; the input reads as it did. -/
def fnExactKeyOfSpec : ChangeSpec := { name := "fnExactKeyOf", fn := fun _ => fun
  | [d1, d2] => { results := [.lit (.bool true)], args := [d1, d2] }
  | _ => none }
def fnExactKeyOfRow : OpenClaim := { program := "ytejphhhmblpapaa", sum := "eba3458e72e13904c7b670a741387805c9f3c244a013882b9ad080b8c7c278de", func := "loop.example/g00380/laws.FnExactKeyOf", spec := "fnExactKeyOf", recurses := true, apart := false }
def FnExactKeyOfSaid : Prop := fnExactKeyOfRow.holds Try.pinned (OpenSpec.ofChange fnExactKeyOfSpec)

/-- ITS FALSE NEIGHBOUR: 'it returns false'. Refute it at one input. -/
def fnExactKeyOfWrong : ChangeSpec := { name := "fnExactKeyOf", fn := fun _ => fun
  | [d1, d2] => { results := [.lit (.bool false)], args := [d1, d2] }
  | _ => none }
def FnExactKeyOfWrongFalsely : Prop := fnExactKeyOfRow.holds Try.pinned (OpenSpec.ofChange fnExactKeyOfWrong)

/-- 'laws.FnExactJoinKeys': WHATEVER THE INPUT: true; the input reads as it did. -/
def fnExactJoinKeysSpec : ChangeSpec := { name := "fnExactJoinKeys", fn := fun _ => fun
  | [d] => { results := [.lit (.bool true)], args := [d] }
  | _ => none }
def fnExactJoinKeysRow : OpenClaim := { program := "ytejphhhmblpapaa", sum := "eba3458e72e13904c7b670a741387805c9f3c244a013882b9ad080b8c7c278de", func := "loop.example/g00380/laws.FnExactJoinKeys", spec := "fnExactJoinKeys", unfollowed := true, recurses := true, apart := false }
def FnExactJoinKeysSaid : Prop := fnExactJoinKeysRow.holds Try.pinned (OpenSpec.ofChange fnExactJoinKeysSpec)

/-- ITS FALSE NEIGHBOUR: 'it returns false'. Refute it at one input. -/
def fnExactJoinKeysWrong : ChangeSpec := { name := "fnExactJoinKeys", fn := fun _ => fun
  | [d] => { results := [.lit (.bool false)], args := [d] }
  | _ => none }
def FnExactJoinKeysWrongFalsely : Prop := fnExactJoinKeysRow.holds Try.pinned (OpenSpec.ofChange fnExactJoinKeysWrong)

/-- 'laws.FnExactSplitKey': WHATEVER THE INPUT: true; the input reads as it did. -/
def fnExactSplitKeySpec : ChangeSpec := { name := "fnExactSplitKey", fn := fun _ => fun
  | [d1, d2] => { results := [.lit (.bool true)], args := [d1, d2] }
  | _ => none }
def fnExactSplitKeyRow : OpenClaim := { program := "ytejphhhmblpapaa", sum := "eba3458e72e13904c7b670a741387805c9f3c244a013882b9ad080b8c7c278de", func := "loop.example/g00380/laws.FnExactSplitKey", spec := "fnExactSplitKey", inPlace := ["internal/bytealg.IndexByteString", "internal/bytealg.IndexString"], recurses := true, named := ["internal/bytealg.MaxLen"], apart := false }
def FnExactSplitKeySaid : Prop := fnExactSplitKeyRow.holds Try.pinned (OpenSpec.ofChange fnExactSplitKeySpec)

/-- ITS FALSE NEIGHBOUR: 'it returns false'. Refute it at one input. -/
def fnExactSplitKeyWrong : ChangeSpec := { name := "fnExactSplitKey", fn := fun _ => fun
  | [d1, d2] => { results := [.lit (.bool false)], args := [d1, d2] }
  | _ => none }
def FnExactSplitKeyWrongFalsely : Prop := fnExactSplitKeyRow.holds Try.pinned (OpenSpec.ofChange fnExactSplitKeyWrong)

/-- 'laws.FnExactIntervalHas': WHATEVER THE INPUT: true; the input reads as it did. -/
def fnExactIntervalHasSpec : ChangeSpec := { name := "fnExactIntervalHas", fn := fun _ => fun
  | [d1, d2] => { results := [.lit (.bool true)], args := [d1, d2] }
  | _ => none }
def fnExactIntervalHasRow : OpenClaim := { program := "ytejphhhmblpapaa", sum := "eba3458e72e13904c7b670a741387805c9f3c244a013882b9ad080b8c7c278de", func := "loop.example/g00380/laws.FnExactIntervalHas", spec := "fnExactIntervalHas", apart := false }
def FnExactIntervalHasSaid : Prop := fnExactIntervalHasRow.holds Try.pinned (OpenSpec.ofChange fnExactIntervalHasSpec)

/-- ITS FALSE NEIGHBOUR: 'it returns false'. Refute it at one input. -/
def fnExactIntervalHasWrong : ChangeSpec := { name := "fnExactIntervalHas", fn := fun _ => fun
  | [d1, d2] => { results := [.lit (.bool false)], args := [d1, d2] }
  | _ => none }
def FnExactIntervalHasWrongFalsely : Prop := fnExactIntervalHasRow.holds Try.pinned (OpenSpec.ofChange fnExactIntervalHasWrong)

/-- 'laws.FnExactMeetIntervals': WHATEVER THE INPUT: true; the input reads as it did. -/
def fnExactMeetIntervalsSpec : ChangeSpec := { name := "fnExactMeetIntervals", fn := fun _ => fun
  | [d1, d2] => { results := [.lit (.bool true)], args := [d1, d2] }
  | _ => none }
def fnExactMeetIntervalsRow : OpenClaim := { program := "ytejphhhmblpapaa", sum := "eba3458e72e13904c7b670a741387805c9f3c244a013882b9ad080b8c7c278de", func := "loop.example/g00380/laws.FnExactMeetIntervals", spec := "fnExactMeetIntervals", apart := false }
def FnExactMeetIntervalsSaid : Prop := fnExactMeetIntervalsRow.holds Try.pinned (OpenSpec.ofChange fnExactMeetIntervalsSpec)

/-- ITS FALSE NEIGHBOUR: 'it returns false'. Refute it at one input. -/
def fnExactMeetIntervalsWrong : ChangeSpec := { name := "fnExactMeetIntervals", fn := fun _ => fun
  | [d1, d2] => { results := [.lit (.bool false)], args := [d1, d2] }
  | _ => none }
def FnExactMeetIntervalsWrongFalsely : Prop := fnExactMeetIntervalsRow.holds Try.pinned (OpenSpec.ofChange fnExactMeetIntervalsWrong)

/- THE SECOND FORM. 'bulk': how many values and letters a reading holds, each counted each time it is reached (what is shared counts as often as it is met; a slice's spare places count too). A statement '..UptoSaid' is the law's where the arguments, and the package variables that the reading takes, are together of bulk at most 1048576: NARROWER than '..Said'. Prove '..Said' where nothing that the law and all that it calls make is longer than what came in: it says more and counts as full. Else prove '..UptoSaid'. A law counts once. -/
mutual
def uptoBulk {H : Type} : DataW H → Nat
  | .lit (.string bytes) => bytes.length + 1
  | .lit _ => 1
  | .nil => 1
  | .ptr d => uptoBulk d + 1
  | .slice elems spare => uptoBulkAll elems + uptoBulkAll spare + 1
  | .agg parts => uptoBulkAll parts + 1
  | .iface _ d => uptoBulk d + 1
  | .map entries => uptoBulkEntries entries + 1
  | .held _ => 1
def uptoBulkAll {H : Type} : List (DataW H) → Nat
  | [] => 0
  | d :: r => uptoBulk d + uptoBulkAll r
def uptoBulkEntries {H : Type} : List (Lit × DataW H) → Nat
  | [] => 0
  | x :: r => uptoBulkEntry x + uptoBulkEntries r
def uptoBulkEntry {H : Type} : Lit × DataW H → Nat
  | (.string bytes, d) => bytes.length + uptoBulk d + 1
  | (_, d) => uptoBulk d + 1
 end
def uptoSmall : (H : Type) → List (DataW H) → Bool := fun _ ds => decide (uptoBulkAll ds ≤ 1048576)
def OpenSpec.upto (s : _root_.Go.ChangeSpec) : _root_.Go.OpenSpec := { _root_.Go.OpenSpec.ofChange s with cond := some uptoSmall }

/-- 'laws.FnLists', WHERE WHAT IT READS IS OF BULK AT MOST 1048576: true; the input reads as it did. -/
def fnListsUptoRow : OpenClaim := { program := "ytejphhhmblpapaa", sum := "eba3458e72e13904c7b670a741387805c9f3c244a013882b9ad080b8c7c278de", func := "loop.example/g00380/laws.FnLists", spec := "fnLists", inPlace := ["internal/bytealg.abigen_runtime_cmpstring", "slices.overlaps[loop.example/g00380/impl.Field]"], unfollowed := true, recurses := true, apart := false, narrowed := true }
def FnListsUptoSaid : Prop := fnListsUptoRow.holds Try.pinned (OpenSpec.upto fnListsSpec)

/-- 'laws.FnKeys', WHERE WHAT IT READS IS OF BULK AT MOST 1048576: true; the input reads as it did. -/
def fnKeysUptoRow : OpenClaim := { program := "ytejphhhmblpapaa", sum := "eba3458e72e13904c7b670a741387805c9f3c244a013882b9ad080b8c7c278de", func := "loop.example/g00380/laws.FnKeys", spec := "fnKeys", inPlace := ["internal/bytealg.abigen_runtime_cmpstring", "internal/bytealg.IndexByteString", "internal/bytealg.IndexString"], unfollowed := true, recurses := true, named := ["internal/bytealg.MaxLen"], apart := false, narrowed := true }
def FnKeysUptoSaid : Prop := fnKeysUptoRow.holds Try.pinned (OpenSpec.upto fnKeysSpec)

/-- 'laws.FnExactDocOf', WHERE WHAT IT READS IS OF BULK AT MOST 1048576: true; the input reads as it did. -/
def fnExactDocOfUptoRow : OpenClaim := { program := "ytejphhhmblpapaa", sum := "eba3458e72e13904c7b670a741387805c9f3c244a013882b9ad080b8c7c278de", func := "loop.example/g00380/laws.FnExactDocOf", spec := "fnExactDocOf", inPlace := ["internal/bytealg.abigen_runtime_cmpstring", "slices.overlaps[loop.example/g00380/impl.Field]"], unfollowed := true, recurses := true, apart := false, narrowed := true }
def FnExactDocOfUptoSaid : Prop := fnExactDocOfUptoRow.holds Try.pinned (OpenSpec.upto fnExactDocOfSpec)

/-- 'laws.FnExactKeyOf', WHERE WHAT IT READS IS OF BULK AT MOST 1048576: true; the input reads as it did. -/
def fnExactKeyOfUptoRow : OpenClaim := { program := "ytejphhhmblpapaa", sum := "eba3458e72e13904c7b670a741387805c9f3c244a013882b9ad080b8c7c278de", func := "loop.example/g00380/laws.FnExactKeyOf", spec := "fnExactKeyOf", recurses := true, apart := false, narrowed := true }
def FnExactKeyOfUptoSaid : Prop := fnExactKeyOfUptoRow.holds Try.pinned (OpenSpec.upto fnExactKeyOfSpec)

/-- 'laws.FnExactJoinKeys', WHERE WHAT IT READS IS OF BULK AT MOST 1048576: true; the input reads as it did. -/
def fnExactJoinKeysUptoRow : OpenClaim := { program := "ytejphhhmblpapaa", sum := "eba3458e72e13904c7b670a741387805c9f3c244a013882b9ad080b8c7c278de", func := "loop.example/g00380/laws.FnExactJoinKeys", spec := "fnExactJoinKeys", unfollowed := true, recurses := true, apart := false, narrowed := true }
def FnExactJoinKeysUptoSaid : Prop := fnExactJoinKeysUptoRow.holds Try.pinned (OpenSpec.upto fnExactJoinKeysSpec)

/-- 'laws.FnExactSplitKey', WHERE WHAT IT READS IS OF BULK AT MOST 1048576: true; the input reads as it did. -/
def fnExactSplitKeyUptoRow : OpenClaim := { program := "ytejphhhmblpapaa", sum := "eba3458e72e13904c7b670a741387805c9f3c244a013882b9ad080b8c7c278de", func := "loop.example/g00380/laws.FnExactSplitKey", spec := "fnExactSplitKey", inPlace := ["internal/bytealg.IndexByteString", "internal/bytealg.IndexString"], recurses := true, named := ["internal/bytealg.MaxLen"], apart := false, narrowed := true }
def FnExactSplitKeyUptoSaid : Prop := fnExactSplitKeyUptoRow.holds Try.pinned (OpenSpec.upto fnExactSplitKeySpec)

/-- 'laws.FnExactIntervalHas', WHERE WHAT IT READS IS OF BULK AT MOST 1048576: true; the input reads as it did. -/
def fnExactIntervalHasUptoRow : OpenClaim := { program := "ytejphhhmblpapaa", sum := "eba3458e72e13904c7b670a741387805c9f3c244a013882b9ad080b8c7c278de", func := "loop.example/g00380/laws.FnExactIntervalHas", spec := "fnExactIntervalHas", apart := false, narrowed := true }
def FnExactIntervalHasUptoSaid : Prop := fnExactIntervalHasUptoRow.holds Try.pinned (OpenSpec.upto fnExactIntervalHasSpec)

/-- 'laws.FnExactMeetIntervals', WHERE WHAT IT READS IS OF BULK AT MOST 1048576: true; the input reads as it did. -/
def fnExactMeetIntervalsUptoRow : OpenClaim := { program := "ytejphhhmblpapaa", sum := "eba3458e72e13904c7b670a741387805c9f3c244a013882b9ad080b8c7c278de", func := "loop.example/g00380/laws.FnExactMeetIntervals", spec := "fnExactMeetIntervals", apart := false, narrowed := true }
def FnExactMeetIntervalsUptoSaid : Prop := fnExactMeetIntervalsUptoRow.holds Try.pinned (OpenSpec.upto fnExactMeetIntervalsSpec)

end Rows
end Go.Proofs.Ytejphhhmblpapaa
