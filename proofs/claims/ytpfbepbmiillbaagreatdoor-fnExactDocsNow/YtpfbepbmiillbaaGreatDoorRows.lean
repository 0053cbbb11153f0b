/-
  NARROWER THAN 'FOR EVERY INPUT', by the rows' own cells (each row's printed sentence says how): FnExactStoreOK: laid · FnExactOldestSnap: laid · FnExactOpenSessions: laid · FnExactDocsNow: laid · FnExactSameDocs: laid.
  DERIVED. THE GIVEN ROWS OF THIS SEAT. 5 by the template 'for every input the law returns true; each argument reads behind the call as it read before'; 0 by the template 'total and deterministic' (their statements: YtpfbepbmiillbaaGreatDoorTotals.lean).
  GIVEN WITH THE SEED: the statements are not yours to turn. If you find one false, say at which input.
  Laid BY PROGRAM, IN A SANDBOX (cutbox-rows.mjs): the forced cells as the released guide's own fill.sh prints them over the translation c31b38bda8c59e42… (all of the seat's roots in one cut). By AI agents, Wed Nov 11 2026. No macro, syntax, notation, axiom, sorry.
-/
import Derived.Test.YtpfbepbmiillbaaGreatDoorChecked
import GoSem.PinnedTables
import GoSem.Claim
import GoSem.ClaimJoined
import GoSem.ClaimMapViews
import Derived.JoinedTies
import Derived.KernelRfl
namespace Go.Proofs.YtpfbepbmiillbaaGreatDoor
/- THE CELL 'sum', in the pinned program and in every row, IS THE sha256 OF THE DUMP (.gsa) THAT YtpfbepbmiillbaaGreatDoorProg.lean LOADS. Nothing in Lean hashes anything: it is a label: what it is worth is what the hold of that sum in a sandbox is worth. -/
noncomputable def Tryz.pinned : Pinned := { name := "ytpfbepbmiillbaagreatdoor", sum := "c31b38bda8c59e4201f8fc3348b8ea1f14178560942a60224270a06592f35bb6", checked := Tryz.checked }
namespace Rows
def none {H : Type} : Left H := { results := [], args := [] }

/- WHAT THE LISTED PACKAGE-LEVEL VARIABLES READ AS WHEN THE CALL BEGINS. Each datum BY PROGRAM (the guide's laid-datum.mjs) off the statement by which the dump's own 'gosem.cut.vars' lays the variable. In a bare row this is a premise. The card (YtpfbepbmiillbaaGreatDoorCards.lean) ties it to the program's text. -/
def laid_unicode_utf8_acceptRanges {H : Type} : DataW H := .agg [.agg [.lit (.int .u8 128), .lit (.int .u8 191)], .agg [.lit (.int .u8 160), .lit (.int .u8 191)], .agg [.lit (.int .u8 128), .lit (.int .u8 159)], .agg [.lit (.int .u8 144), .lit (.int .u8 191)], .agg [.lit (.int .u8 128), .lit (.int .u8 143)], .agg [.lit (.int .u8 0), .lit (.int .u8 0)], .agg [.lit (.int .u8 0), .lit (.int .u8 0)], .agg [.lit (.int .u8 0), .lit (.int .u8 0)], .agg [.lit (.int .u8 0), .lit (.int .u8 0)], .agg [.lit (.int .u8 0), .lit (.int .u8 0)], .agg [.lit (.int .u8 0), .lit (.int .u8 0)], .agg [.lit (.int .u8 0), .lit (.int .u8 0)], .agg [.lit (.int .u8 0), .lit (.int .u8 0)], .agg [.lit (.int .u8 0), .lit (.int .u8 0)], .agg [.lit (.int .u8 0), .lit (.int .u8 0)], .agg [.lit (.int .u8 0), .lit (.int .u8 0)]]
/-- One of Go's own tables, pinned by name: the form's constant. -/
def laid_unicode_utf8_first : DataW Unit := Go.Pinned.utf8First

/-- 'laws.FnExactStoreOK': WHATEVER THE INPUT: true; the input reads as it did. -/
def fnExactStoreOKSpec : ChangeSpec := { name := "fnExactStoreOK", fn := fun _ => fun
  | [d] => { results := [.lit (.bool true)], args := [d] }
  | _ => none }
def fnExactStoreOKRow : OpenClaim := { program := "ytpfbepbmiillbaagreatdoor", sum := "c31b38bda8c59e4201f8fc3348b8ea1f14178560942a60224270a06592f35bb6", func := "loop.example/g00380/laws.FnExactStoreOK", spec := "fnExactStoreOK", inPlace := ["internal/bytealg.CountString", "internal/bytealg.IndexByteString", "internal/bytealg.IndexString", "internal/bytealg.abigen_runtime_cmpstring"], unfollowed := true, recurses := true, named := ["unicode/utf8.first", "unicode/utf8.acceptRanges", "internal/bytealg.MaxLen"], apart := false, laid := [("unicode/utf8.acceptRanges", laid_unicode_utf8_acceptRanges), ("unicode/utf8.first", laid_unicode_utf8_first)] }
def FnExactStoreOKSaid : Prop := fnExactStoreOKRow.holds Tryz.pinned (OpenSpec.ofChange fnExactStoreOKSpec)

/-- ITS FALSE NEIGHBOUR: 'it returns false'. Refute it at one input. -/
def fnExactStoreOKWrong : ChangeSpec := { name := "fnExactStoreOK", fn := fun _ => fun
  | [d] => { results := [.lit (.bool false)], args := [d] }
  | _ => none }
def FnExactStoreOKWrongFalsely : Prop := fnExactStoreOKRow.holds Tryz.pinned (OpenSpec.ofChange fnExactStoreOKWrong)

/-- 'laws.FnExactOldestSnap': WHATEVER THE INPUT: true; the input reads as it did. -/
def fnExactOldestSnapSpec : ChangeSpec := { name := "fnExactOldestSnap", fn := fun _ => fun
  | [d] => { results := [.lit (.bool true)], args := [d] }
  | _ => none }
def fnExactOldestSnapRow : OpenClaim := { program := "ytpfbepbmiillbaagreatdoor", sum := "c31b38bda8c59e4201f8fc3348b8ea1f14178560942a60224270a06592f35bb6", func := "loop.example/g00380/laws.FnExactOldestSnap", spec := "fnExactOldestSnap", inPlace := ["internal/bytealg.CountString", "internal/bytealg.IndexByteString", "internal/bytealg.IndexString", "internal/bytealg.abigen_runtime_cmpstring"], unfollowed := true, recurses := true, named := ["unicode/utf8.first", "unicode/utf8.acceptRanges", "internal/bytealg.MaxLen"], apart := false, laid := [("unicode/utf8.acceptRanges", laid_unicode_utf8_acceptRanges), ("unicode/utf8.first", laid_unicode_utf8_first)] }
def FnExactOldestSnapSaid : Prop := fnExactOldestSnapRow.holds Tryz.pinned (OpenSpec.ofChange fnExactOldestSnapSpec)

/-- ITS FALSE NEIGHBOUR: 'it returns false'. Refute it at one input. -/
def fnExactOldestSnapWrong : ChangeSpec := { name := "fnExactOldestSnap", fn := fun _ => fun
  | [d] => { results := [.lit (.bool false)], args := [d] }
  | _ => none }
def FnExactOldestSnapWrongFalsely : Prop := fnExactOldestSnapRow.holds Tryz.pinned (OpenSpec.ofChange fnExactOldestSnapWrong)

/-- 'laws.FnExactOpenSessions': WHATEVER THE INPUT: true; the input reads as it did. -/
def fnExactOpenSessionsSpec : ChangeSpec := { name := "fnExactOpenSessions", fn := fun _ => fun
  | [d] => { results := [.lit (.bool true)], args := [d] }
  | _ => none }
def fnExactOpenSessionsRow : OpenClaim := { program := "ytpfbepbmiillbaagreatdoor", sum := "c31b38bda8c59e4201f8fc3348b8ea1f14178560942a60224270a06592f35bb6", func := "loop.example/g00380/laws.FnExactOpenSessions", spec := "fnExactOpenSessions", inPlace := ["internal/bytealg.CountString", "internal/bytealg.IndexByteString", "internal/bytealg.IndexString", "internal/bytealg.abigen_runtime_cmpstring"], unfollowed := true, recurses := true, named := ["unicode/utf8.first", "unicode/utf8.acceptRanges", "internal/bytealg.MaxLen"], apart := false, laid := [("unicode/utf8.acceptRanges", laid_unicode_utf8_acceptRanges), ("unicode/utf8.first", laid_unicode_utf8_first)] }
def FnExactOpenSessionsSaid : Prop := fnExactOpenSessionsRow.holds Tryz.pinned (OpenSpec.ofChange fnExactOpenSessionsSpec)

/-- ITS FALSE NEIGHBOUR: 'it returns false'. Refute it at one input. -/
def fnExactOpenSessionsWrong : ChangeSpec := { name := "fnExactOpenSessions", fn := fun _ => fun
  | [d] => { results := [.lit (.bool false)], args := [d] }
  | _ => none }
def FnExactOpenSessionsWrongFalsely : Prop := fnExactOpenSessionsRow.holds Tryz.pinned (OpenSpec.ofChange fnExactOpenSessionsWrong)

/-- 'laws.FnExactDocsNow': WHATEVER THE INPUT: true; the input reads as it did. -/
def fnExactDocsNowSpec : ChangeSpec := { name := "fnExactDocsNow", fn := fun _ => fun
  | [d1, d2] => { results := [.lit (.bool true)], args := [d1, d2] }
  | _ => none }
def fnExactDocsNowRow : OpenClaim := { program := "ytpfbepbmiillbaagreatdoor", sum := "c31b38bda8c59e4201f8fc3348b8ea1f14178560942a60224270a06592f35bb6", func := "loop.example/g00380/laws.FnExactDocsNow", spec := "fnExactDocsNow", inPlace := ["internal/bytealg.CountString", "internal/bytealg.IndexByteString", "internal/bytealg.IndexString", "internal/bytealg.abigen_runtime_cmpstring"], unfollowed := true, recurses := true, named := ["unicode/utf8.first", "unicode/utf8.acceptRanges", "internal/bytealg.MaxLen"], apart := false, laid := [("unicode/utf8.acceptRanges", laid_unicode_utf8_acceptRanges), ("unicode/utf8.first", laid_unicode_utf8_first)] }
def FnExactDocsNowSaid : Prop := fnExactDocsNowRow.holds Tryz.pinned (OpenSpec.ofChange fnExactDocsNowSpec)

/-- ITS FALSE NEIGHBOUR: 'it returns false'. Refute it at one input. -/
def fnExactDocsNowWrong : ChangeSpec := { name := "fnExactDocsNow", fn := fun _ => fun
  | [d1, d2] => { results := [.lit (.bool false)], args := [d1, d2] }
  | _ => none }
def FnExactDocsNowWrongFalsely : Prop := fnExactDocsNowRow.holds Tryz.pinned (OpenSpec.ofChange fnExactDocsNowWrong)

/-- 'laws.FnExactSameDocs': WHATEVER THE INPUT: true; the input reads as it did. -/
def fnExactSameDocsSpec : ChangeSpec := { name := "fnExactSameDocs", fn := fun _ => fun
  | [d1, d2] => { results := [.lit (.bool true)], args := [d1, d2] }
  | _ => none }
def fnExactSameDocsRow : OpenClaim := { program := "ytpfbepbmiillbaagreatdoor", sum := "c31b38bda8c59e4201f8fc3348b8ea1f14178560942a60224270a06592f35bb6", func := "loop.example/g00380/laws.FnExactSameDocs", spec := "fnExactSameDocs", inPlace := ["internal/bytealg.CountString", "internal/bytealg.IndexByteString", "internal/bytealg.IndexString", "internal/bytealg.abigen_runtime_cmpstring"], unfollowed := true, recurses := true, named := ["unicode/utf8.first", "unicode/utf8.acceptRanges", "internal/bytealg.MaxLen"], apart := false, laid := [("unicode/utf8.acceptRanges", laid_unicode_utf8_acceptRanges), ("unicode/utf8.first", laid_unicode_utf8_first)] }
def FnExactSameDocsSaid : Prop := fnExactSameDocsRow.holds Tryz.pinned (OpenSpec.ofChange fnExactSameDocsSpec)

/-- ITS FALSE NEIGHBOUR: 'it returns false'. Refute it at one input. -/
def fnExactSameDocsWrong : ChangeSpec := { name := "fnExactSameDocs", fn := fun _ => fun
  | [d1, d2] => { results := [.lit (.bool false)], args := [d1, d2] }
  | _ => none }
def FnExactSameDocsWrongFalsely : Prop := fnExactSameDocsRow.holds Tryz.pinned (OpenSpec.ofChange fnExactSameDocsWrong)

/- THE SECOND FORM. 'bulk': how many values and letters a reading holds, each counted each time it is reached (what is shared counts as often as it is met; a slice's spare places count too). A statement '..UptoSaid' is the law's where the arguments, and the package variables that the reading takes, are together of bulk at most 1048576: NARROWER than '..Said'. Prove '..Said' where nothing that the law and all that it calls make is longer than what came in: it says more and counts as full. Else prove '..UptoSaid'. A law counts once. -/
mutual
def uptoBulk {H : Type} : DataW H → Nat
  | .lit (.string bytes) => bytes.length + 1
  | .lit _ => 1
  | .nil => 1
  | .ptr d => uptoBulk d + 1
  | .slice elems spare => uptoBulkAll elems + uptoBulkAll spare + 1
  | .agg parts => uptoBulkAll parts + 1
  | .iface _ d => uptoBulk d + 1
  | .map entries => uptoBulkEntries entries + 1
  | .held _ => 1
def uptoBulkAll {H : Type} : List (DataW H) → Nat
  | [] => 0
  | d :: r => uptoBulk d + uptoBulkAll r
def uptoBulkEntries {H : Type} : List (Lit × DataW H) → Nat
  | [] => 0
  | x :: r => uptoBulkEntry x + uptoBulkEntries r
def uptoBulkEntry {H : Type} : Lit × DataW H → Nat
  | (.string bytes, d) => bytes.length + uptoBulk d + 1
  | (_, d) => uptoBulk d + 1
 end
def uptoSmall : (H : Type) → List (DataW H) → Bool := fun _ ds => decide (uptoBulkAll ds ≤ 1048576)
def OpenSpec.upto (s : _root_.Go.ChangeSpec) : _root_.Go.OpenSpec := { _root_.Go.OpenSpec.ofChange s with cond := some uptoSmall }

/-- 'laws.FnExactStoreOK', WHERE WHAT IT READS IS OF BULK AT MOST 1048576: true; the input reads as it did. -/
def fnExactStoreOKUptoRow : OpenClaim := { program := "ytpfbepbmiillbaagreatdoor", sum := "c31b38bda8c59e4201f8fc3348b8ea1f14178560942a60224270a06592f35bb6", func := "loop.example/g00380/laws.FnExactStoreOK", spec := "fnExactStoreOK", inPlace := ["internal/bytealg.CountString", "internal/bytealg.IndexByteString", "internal/bytealg.IndexString", "internal/bytealg.abigen_runtime_cmpstring"], unfollowed := true, recurses := true, named := ["unicode/utf8.first", "unicode/utf8.acceptRanges", "internal/bytealg.MaxLen"], apart := false, laid := [("unicode/utf8.acceptRanges", laid_unicode_utf8_acceptRanges), ("unicode/utf8.first", laid_unicode_utf8_first)], narrowed := true }
def FnExactStoreOKUptoSaid : Prop := fnExactStoreOKUptoRow.holds Tryz.pinned (OpenSpec.upto fnExactStoreOKSpec)

/-- 'laws.FnExactOldestSnap', WHERE WHAT IT READS IS OF BULK AT MOST 1048576: true; the input reads as it did. -/
def fnExactOldestSnapUptoRow : OpenClaim := { program := "ytpfbepbmiillbaagreatdoor", sum := "c31b38bda8c59e4201f8fc3348b8ea1f14178560942a60224270a06592f35bb6", func := "loop.example/g00380/laws.FnExactOldestSnap", spec := "fnExactOldestSnap", inPlace := ["internal/bytealg.CountString", "internal/bytealg.IndexByteString", "internal/bytealg.IndexString", "internal/bytealg.abigen_runtime_cmpstring"], unfollowed := true, recurses := true, named := ["unicode/utf8.first", "unicode/utf8.acceptRanges", "internal/bytealg.MaxLen"], apart := false, laid := [("unicode/utf8.acceptRanges", laid_unicode_utf8_acceptRanges), ("unicode/utf8.first", laid_unicode_utf8_first)], narrowed := true }
def FnExactOldestSnapUptoSaid : Prop := fnExactOldestSnapUptoRow.holds Tryz.pinned (OpenSpec.upto fnExactOldestSnapSpec)

/-- 'laws.FnExactOpenSessions', WHERE WHAT IT READS IS OF BULK AT MOST 1048576: true; the input reads as it did. -/
def fnExactOpenSessionsUptoRow : OpenClaim := { program := "ytpfbepbmiillbaagreatdoor", sum := "c31b38bda8c59e4201f8fc3348b8ea1f14178560942a60224270a06592f35bb6", func := "loop.example/g00380/laws.FnExactOpenSessions", spec := "fnExactOpenSessions", inPlace := ["internal/bytealg.CountString", "internal/bytealg.IndexByteString", "internal/bytealg.IndexString", "internal/bytealg.abigen_runtime_cmpstring"], unfollowed := true, recurses := true, named := ["unicode/utf8.first", "unicode/utf8.acceptRanges", "internal/bytealg.MaxLen"], apart := false, laid := [("unicode/utf8.acceptRanges", laid_unicode_utf8_acceptRanges), ("unicode/utf8.first", laid_unicode_utf8_first)], narrowed := true }
def FnExactOpenSessionsUptoSaid : Prop := fnExactOpenSessionsUptoRow.holds Tryz.pinned (OpenSpec.upto fnExactOpenSessionsSpec)

/-- 'laws.FnExactDocsNow', WHERE WHAT IT READS IS OF BULK AT MOST 1048576: true; the input reads as it did. -/
def fnExactDocsNowUptoRow : OpenClaim := { program := "ytpfbepbmiillbaagreatdoor", sum := "c31b38bda8c59e4201f8fc3348b8ea1f14178560942a60224270a06592f35bb6", func := "loop.example/g00380/laws.FnExactDocsNow", spec := "fnExactDocsNow", inPlace := ["internal/bytealg.CountString", "internal/bytealg.IndexByteString", "internal/bytealg.IndexString", "internal/bytealg.abigen_runtime_cmpstring"], unfollowed := true, recurses := true, named := ["unicode/utf8.first", "unicode/utf8.acceptRanges", "internal/bytealg.MaxLen"], apart := false, laid := [("unicode/utf8.acceptRanges", laid_unicode_utf8_acceptRanges), ("unicode/utf8.first", laid_unicode_utf8_first)], narrowed := true }
def FnExactDocsNowUptoSaid : Prop := fnExactDocsNowUptoRow.holds Tryz.pinned (OpenSpec.upto fnExactDocsNowSpec)

/-- 'laws.FnExactSameDocs', WHERE WHAT IT READS IS OF BULK AT MOST 1048576: true; the input reads as it did. -/
def fnExactSameDocsUptoRow : OpenClaim := { program := "ytpfbepbmiillbaagreatdoor", sum := "c31b38bda8c59e4201f8fc3348b8ea1f14178560942a60224270a06592f35bb6", func := "loop.example/g00380/laws.FnExactSameDocs", spec := "fnExactSameDocs", inPlace := ["internal/bytealg.CountString", "internal/bytealg.IndexByteString", "internal/bytealg.IndexString", "internal/bytealg.abigen_runtime_cmpstring"], unfollowed := true, recurses := true, named := ["unicode/utf8.first", "unicode/utf8.acceptRanges", "internal/bytealg.MaxLen"], apart := false, laid := [("unicode/utf8.acceptRanges", laid_unicode_utf8_acceptRanges), ("unicode/utf8.first", laid_unicode_utf8_first)], narrowed := true }
def FnExactSameDocsUptoSaid : Prop := fnExactSameDocsUptoRow.holds Tryz.pinned (OpenSpec.upto fnExactSameDocsSpec)

end Rows
end Go.Proofs.YtpfbepbmiillbaaGreatDoor
