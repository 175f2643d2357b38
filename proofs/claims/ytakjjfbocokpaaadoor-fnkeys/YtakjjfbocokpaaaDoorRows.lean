/-
  NARROWER THAN 'FOR EVERY INPUT', by the rows' own cells (each row's printed sentence says how): FnKeys: laid · FnRows: laid · FnSealedFiles: ifaces, laid · FnExactWrap: laid · FnExactUnwrap: laid · FnExactShowRow: laid · FnExactScanRows: laid · FnExactSealFile: laid · FnExactOpenFile: ifaces, laid.
  DERIVED. THE GIVEN ROWS OF THIS SEAT. 9 by the template 'for every input the law returns true; each argument reads behind the call as it read before'; 0 by the template 'total and deterministic' (their statements: YtakjjfbocokpaaaDoorTotals.lean).
  GIVEN WITH THE SEED: the statements are not yours to turn. If you find one false, say at which input.
  Laid BY PROGRAM, IN A SANDBOX (cutbox-rows.mjs): the forced cells as the released guide's own fill.sh prints them over the translation 94fbaa0ec9d99a9c… (all of the seat's roots in one cut). By AI agents, Wed Nov 11 2026. No macro, syntax, notation, axiom, sorry.
-/
import Derived.Test.YtakjjfbocokpaaaDoorChecked
import GoSem.Claim
import GoSem.ClaimJoined
import GoSem.ClaimMapViews
import Derived.JoinedTies
import Derived.KernelRfl
namespace Go.Proofs.YtakjjfbocokpaaaDoor
/- THE CELL 'sum', in the pinned program and in every row, IS THE sha256 OF THE DUMP (.gsa) THAT YtakjjfbocokpaaaDoorProg.lean LOADS. Nothing in Lean hashes anything: it is a label: what it is worth is what the hold of that sum in a sandbox is worth. -/
noncomputable def Tryd.pinned : Pinned := { name := "ytakjjfbocokpaaadoor", sum := "94fbaa0ec9d99a9cc7f5db2efed8e8e1cd06d96ad66869815992304371b02698", checked := Tryd.checked }
namespace Rows
def none {H : Type} : Left H := { results := [], args := [] }

/- WHAT THE LISTED PACKAGE-LEVEL VARIABLES READ AS WHEN THE CALL BEGINS. Each datum BY PROGRAM (the guide's laid-datum.mjs) off the statement by which the dump's own 'gosem.cut.vars' lays the variable. In a bare row this is a premise. The card (YtakjjfbocokpaaaDoorCards.lean) ties it to the program's text. -/
def laid_loop_example_g00950_impl_crcTable {H : Type} : DataW H := .agg [.lit (.int .u32 0), .lit (.int .u32 274646895), .lit (.int .u32 549293790), .lit (.int .u32 820201905), .lit (.int .u32 1098587580), .lit (.int .u32 1361435347), .lit (.int .u32 1640403810), .lit (.int .u32 1905808397), .lit (.int .u32 2197175160), .lit (.int .u32 2460548119), .lit (.int .u32 2722870694), .lit (.int .u32 2987750089), .lit (.int .u32 3280807620), .lit (.int .u32 3553878443), .lit (.int .u32 3811616794), .lit (.int .u32 4084100981)]
def laid_loop_example_g00950_impl_errMismatch {H : Type} : DataW H := .iface "*errors.errorString" (.ptr (.agg [.lit (.string [110, 111, 116, 32, 97, 32, 102, 105, 108, 101, 32, 115, 101, 97, 108, 101, 100, 32, 119, 105, 116, 104, 32, 116, 104, 105, 115, 32, 107, 101, 121, 32, 97, 110, 100, 32, 110, 117, 109, 98, 101, 114])]))

/-- 'laws.FnKeys': WHATEVER THE INPUT: true; the input reads as it did. -/
def fnKeysSpec : ChangeSpec := { name := "fnKeys", vars := ["loop.example/g00950/impl.crcTable"], fn := fun _ => fun
  | [d, g1] => { results := [.lit (.bool true)], args := [d], vars := [g1] }
  | _ => none }
def fnKeysRow : OpenClaim := { program := "ytakjjfbocokpaaadoor", sum := "94fbaa0ec9d99a9cc7f5db2efed8e8e1cd06d96ad66869815992304371b02698", func := "loop.example/g00950/laws.FnKeys", spec := "fnKeys", unfollowed := true, recurses := true, named := ["loop.example/g00950/impl.crcTable"], apart := false, laid := [("loop.example/g00950/impl.crcTable", laid_loop_example_g00950_impl_crcTable)] }
def FnKeysSaid : Prop := fnKeysRow.holds Tryd.pinned (OpenSpec.ofChange fnKeysSpec)

/-- ITS FALSE NEIGHBOUR: 'it returns false'. Refute it at one input. -/
def fnKeysWrong : ChangeSpec := { name := "fnKeys", vars := ["loop.example/g00950/impl.crcTable"], fn := fun _ => fun
  | [d, g1] => { results := [.lit (.bool false)], args := [d], vars := [g1] }
  | _ => none }
def FnKeysWrongFalsely : Prop := fnKeysRow.holds Tryd.pinned (OpenSpec.ofChange fnKeysWrong)

/-- 'laws.FnRows': WHATEVER THE INPUT: true; the input reads as it did. -/
def fnRowsSpec : ChangeSpec := { name := "fnRows", vars := ["loop.example/g00950/impl.crcTable"], fn := fun _ => fun
  | [d, g1] => { results := [.lit (.bool true)], args := [d], vars := [g1] }
  | _ => none }
def fnRowsRow : OpenClaim := { program := "ytakjjfbocokpaaadoor", sum := "94fbaa0ec9d99a9cc7f5db2efed8e8e1cd06d96ad66869815992304371b02698", func := "loop.example/g00950/laws.FnRows", spec := "fnRows", unfollowed := true, recurses := true, named := ["loop.example/g00950/impl.crcTable"], apart := false, laid := [("loop.example/g00950/impl.crcTable", laid_loop_example_g00950_impl_crcTable)] }
def FnRowsSaid : Prop := fnRowsRow.holds Tryd.pinned (OpenSpec.ofChange fnRowsSpec)

/-- ITS FALSE NEIGHBOUR: 'it returns false'. Refute it at one input. -/
def fnRowsWrong : ChangeSpec := { name := "fnRows", vars := ["loop.example/g00950/impl.crcTable"], fn := fun _ => fun
  | [d, g1] => { results := [.lit (.bool false)], args := [d], vars := [g1] }
  | _ => none }
def FnRowsWrongFalsely : Prop := fnRowsRow.holds Tryd.pinned (OpenSpec.ofChange fnRowsWrong)

/-- 'laws.FnSealedFiles': WHATEVER THE INPUT: true; the input reads as it did. -/
def fnSealedFilesSpec : ChangeSpec := { name := "fnSealedFiles", vars := ["loop.example/g00950/impl.errMismatch", "loop.example/g00950/impl.crcTable"], fn := fun _ => fun
  | [d, g1, g2] => { results := [.lit (.bool true)], args := [d], vars := [g1, g2] }
  | _ => none }
def fnSealedFilesRow : OpenClaim := { program := "ytakjjfbocokpaaadoor", sum := "94fbaa0ec9d99a9cc7f5db2efed8e8e1cd06d96ad66869815992304371b02698", func := "loop.example/g00950/laws.FnSealedFiles", spec := "fnSealedFiles", inPlace := ["internal/reflectlite.TypeOf"], unfollowed := true, recurses := true, named := ["loop.example/g00950/impl.errMismatch", "loop.example/g00950/impl.crcTable"], ifaces := true, apart := false, laid := [("loop.example/g00950/impl.crcTable", laid_loop_example_g00950_impl_crcTable), ("loop.example/g00950/impl.errMismatch", laid_loop_example_g00950_impl_errMismatch)] }
def FnSealedFilesSaid : Prop := fnSealedFilesRow.holds Tryd.pinned (OpenSpec.ofChange fnSealedFilesSpec)

/-- ITS FALSE NEIGHBOUR: 'it returns false'. Refute it at one input. -/
def fnSealedFilesWrong : ChangeSpec := { name := "fnSealedFiles", vars := ["loop.example/g00950/impl.errMismatch", "loop.example/g00950/impl.crcTable"], fn := fun _ => fun
  | [d, g1, g2] => { results := [.lit (.bool false)], args := [d], vars := [g1, g2] }
  | _ => none }
def FnSealedFilesWrongFalsely : Prop := fnSealedFilesRow.holds Tryd.pinned (OpenSpec.ofChange fnSealedFilesWrong)

/-- 'laws.FnExactWrap': WHATEVER THE INPUT: true; the input reads as it did. -/
def fnExactWrapSpec : ChangeSpec := { name := "fnExactWrap", vars := ["loop.example/g00950/impl.crcTable"], fn := fun _ => fun
  | [d1, d2, d3, g1] => { results := [.lit (.bool true)], args := [d1, d2, d3], vars := [g1] }
  | _ => none }
def fnExactWrapRow : OpenClaim := { program := "ytakjjfbocokpaaadoor", sum := "94fbaa0ec9d99a9cc7f5db2efed8e8e1cd06d96ad66869815992304371b02698", func := "loop.example/g00950/laws.FnExactWrap", spec := "fnExactWrap", named := ["loop.example/g00950/impl.crcTable"], apart := false, laid := [("loop.example/g00950/impl.crcTable", laid_loop_example_g00950_impl_crcTable)] }
def FnExactWrapSaid : Prop := fnExactWrapRow.holds Tryd.pinned (OpenSpec.ofChange fnExactWrapSpec)

/-- ITS FALSE NEIGHBOUR: 'it returns false'. Refute it at one input. -/
def fnExactWrapWrong : ChangeSpec := { name := "fnExactWrap", vars := ["loop.example/g00950/impl.crcTable"], fn := fun _ => fun
  | [d1, d2, d3, g1] => { results := [.lit (.bool false)], args := [d1, d2, d3], vars := [g1] }
  | _ => none }
def FnExactWrapWrongFalsely : Prop := fnExactWrapRow.holds Tryd.pinned (OpenSpec.ofChange fnExactWrapWrong)

/-- 'laws.FnExactUnwrap': WHATEVER THE INPUT: true; the input reads as it did. -/
def fnExactUnwrapSpec : ChangeSpec := { name := "fnExactUnwrap", vars := ["loop.example/g00950/impl.crcTable"], fn := fun _ => fun
  | [d1, d2, d3, g1] => { results := [.lit (.bool true)], args := [d1, d2, d3], vars := [g1] }
  | _ => none }
def fnExactUnwrapRow : OpenClaim := { program := "ytakjjfbocokpaaadoor", sum := "94fbaa0ec9d99a9cc7f5db2efed8e8e1cd06d96ad66869815992304371b02698", func := "loop.example/g00950/laws.FnExactUnwrap", spec := "fnExactUnwrap", named := ["loop.example/g00950/impl.crcTable"], apart := false, laid := [("loop.example/g00950/impl.crcTable", laid_loop_example_g00950_impl_crcTable)] }
def FnExactUnwrapSaid : Prop := fnExactUnwrapRow.holds Tryd.pinned (OpenSpec.ofChange fnExactUnwrapSpec)

/-- ITS FALSE NEIGHBOUR: 'it returns false'. Refute it at one input. -/
def fnExactUnwrapWrong : ChangeSpec := { name := "fnExactUnwrap", vars := ["loop.example/g00950/impl.crcTable"], fn := fun _ => fun
  | [d1, d2, d3, g1] => { results := [.lit (.bool false)], args := [d1, d2, d3], vars := [g1] }
  | _ => none }
def FnExactUnwrapWrongFalsely : Prop := fnExactUnwrapRow.holds Tryd.pinned (OpenSpec.ofChange fnExactUnwrapWrong)

/-- 'laws.FnExactShowRow': WHATEVER THE INPUT: true; the input reads as it did. -/
def fnExactShowRowSpec : ChangeSpec := { name := "fnExactShowRow", vars := ["loop.example/g00950/impl.crcTable"], fn := fun _ => fun
  | [d, g1] => { results := [.lit (.bool true)], args := [d], vars := [g1] }
  | _ => none }
def fnExactShowRowRow : OpenClaim := { program := "ytakjjfbocokpaaadoor", sum := "94fbaa0ec9d99a9cc7f5db2efed8e8e1cd06d96ad66869815992304371b02698", func := "loop.example/g00950/laws.FnExactShowRow", spec := "fnExactShowRow", named := ["loop.example/g00950/impl.crcTable"], apart := false, laid := [("loop.example/g00950/impl.crcTable", laid_loop_example_g00950_impl_crcTable)] }
def FnExactShowRowSaid : Prop := fnExactShowRowRow.holds Tryd.pinned (OpenSpec.ofChange fnExactShowRowSpec)

/-- ITS FALSE NEIGHBOUR: 'it returns false'. Refute it at one input. -/
def fnExactShowRowWrong : ChangeSpec := { name := "fnExactShowRow", vars := ["loop.example/g00950/impl.crcTable"], fn := fun _ => fun
  | [d, g1] => { results := [.lit (.bool false)], args := [d], vars := [g1] }
  | _ => none }
def FnExactShowRowWrongFalsely : Prop := fnExactShowRowRow.holds Tryd.pinned (OpenSpec.ofChange fnExactShowRowWrong)

/-- 'laws.FnExactScanRows': WHATEVER THE INPUT: true; the input reads as it did. -/
def fnExactScanRowsSpec : ChangeSpec := { name := "fnExactScanRows", vars := ["loop.example/g00950/impl.crcTable"], fn := fun _ => fun
  | [d, g1] => { results := [.lit (.bool true)], args := [d], vars := [g1] }
  | _ => none }
def fnExactScanRowsRow : OpenClaim := { program := "ytakjjfbocokpaaadoor", sum := "94fbaa0ec9d99a9cc7f5db2efed8e8e1cd06d96ad66869815992304371b02698", func := "loop.example/g00950/laws.FnExactScanRows", spec := "fnExactScanRows", unfollowed := true, recurses := true, named := ["loop.example/g00950/impl.crcTable"], apart := false, laid := [("loop.example/g00950/impl.crcTable", laid_loop_example_g00950_impl_crcTable)] }
def FnExactScanRowsSaid : Prop := fnExactScanRowsRow.holds Tryd.pinned (OpenSpec.ofChange fnExactScanRowsSpec)

/-- ITS FALSE NEIGHBOUR: 'it returns false'. Refute it at one input. -/
def fnExactScanRowsWrong : ChangeSpec := { name := "fnExactScanRows", vars := ["loop.example/g00950/impl.crcTable"], fn := fun _ => fun
  | [d, g1] => { results := [.lit (.bool false)], args := [d], vars := [g1] }
  | _ => none }
def FnExactScanRowsWrongFalsely : Prop := fnExactScanRowsRow.holds Tryd.pinned (OpenSpec.ofChange fnExactScanRowsWrong)

/-- 'laws.FnExactSealFile': WHATEVER THE INPUT: true; the input reads as it did. -/
def fnExactSealFileSpec : ChangeSpec := { name := "fnExactSealFile", vars := ["loop.example/g00950/impl.crcTable"], fn := fun _ => fun
  | [d1, d2, d3, g1] => { results := [.lit (.bool true)], args := [d1, d2, d3], vars := [g1] }
  | _ => none }
def fnExactSealFileRow : OpenClaim := { program := "ytakjjfbocokpaaadoor", sum := "94fbaa0ec9d99a9cc7f5db2efed8e8e1cd06d96ad66869815992304371b02698", func := "loop.example/g00950/laws.FnExactSealFile", spec := "fnExactSealFile", named := ["loop.example/g00950/impl.crcTable"], apart := false, laid := [("loop.example/g00950/impl.crcTable", laid_loop_example_g00950_impl_crcTable)] }
def FnExactSealFileSaid : Prop := fnExactSealFileRow.holds Tryd.pinned (OpenSpec.ofChange fnExactSealFileSpec)

/-- ITS FALSE NEIGHBOUR: 'it returns false'. Refute it at one input. -/
def fnExactSealFileWrong : ChangeSpec := { name := "fnExactSealFile", vars := ["loop.example/g00950/impl.crcTable"], fn := fun _ => fun
  | [d1, d2, d3, g1] => { results := [.lit (.bool false)], args := [d1, d2, d3], vars := [g1] }
  | _ => none }
def FnExactSealFileWrongFalsely : Prop := fnExactSealFileRow.holds Tryd.pinned (OpenSpec.ofChange fnExactSealFileWrong)

/-- 'laws.FnExactOpenFile': WHATEVER THE INPUT: true; the input reads as it did. -/
def fnExactOpenFileSpec : ChangeSpec := { name := "fnExactOpenFile", vars := ["loop.example/g00950/impl.errMismatch", "loop.example/g00950/impl.crcTable"], fn := fun _ => fun
  | [d1, d2, d3, g1, g2] => { results := [.lit (.bool true)], args := [d1, d2, d3], vars := [g1, g2] }
  | _ => none }
def fnExactOpenFileRow : OpenClaim := { program := "ytakjjfbocokpaaadoor", sum := "94fbaa0ec9d99a9cc7f5db2efed8e8e1cd06d96ad66869815992304371b02698", func := "loop.example/g00950/laws.FnExactOpenFile", spec := "fnExactOpenFile", inPlace := ["internal/reflectlite.TypeOf"], unfollowed := true, recurses := true, named := ["loop.example/g00950/impl.errMismatch", "loop.example/g00950/impl.crcTable"], ifaces := true, apart := false, laid := [("loop.example/g00950/impl.crcTable", laid_loop_example_g00950_impl_crcTable), ("loop.example/g00950/impl.errMismatch", laid_loop_example_g00950_impl_errMismatch)] }
def FnExactOpenFileSaid : Prop := fnExactOpenFileRow.holds Tryd.pinned (OpenSpec.ofChange fnExactOpenFileSpec)

/-- ITS FALSE NEIGHBOUR: 'it returns false'. Refute it at one input. -/
def fnExactOpenFileWrong : ChangeSpec := { name := "fnExactOpenFile", vars := ["loop.example/g00950/impl.errMismatch", "loop.example/g00950/impl.crcTable"], fn := fun _ => fun
  | [d1, d2, d3, g1, g2] => { results := [.lit (.bool false)], args := [d1, d2, d3], vars := [g1, g2] }
  | _ => none }
def FnExactOpenFileWrongFalsely : Prop := fnExactOpenFileRow.holds Tryd.pinned (OpenSpec.ofChange fnExactOpenFileWrong)

/- THE SECOND FORM. 'bulk': how many values and letters a reading holds, each counted each time it is reached (what is shared counts as often as it is met; a slice's spare places count too). A statement '..UptoSaid' is the law's where the arguments, and the package variables that the reading takes, are together of bulk at most 1048576: NARROWER than '..Said'. Prove '..Said' where nothing that the law and all that it calls make is longer than what came in: it says more and counts as full. Else prove '..UptoSaid'. A law counts once. -/
mutual
def uptoBulk {H : Type} : DataW H → Nat
  | .lit (.string bytes) => bytes.length + 1
  | .lit _ => 1
  | .nil => 1
  | .ptr d => uptoBulk d + 1
  | .slice elems spare => uptoBulkAll elems + uptoBulkAll spare + 1
  | .agg parts => uptoBulkAll parts + 1
  | .iface _ d => uptoBulk d + 1
  | .map entries => uptoBulkEntries entries + 1
  | .held _ => 1
def uptoBulkAll {H : Type} : List (DataW H) → Nat
  | [] => 0
  | d :: r => uptoBulk d + uptoBulkAll r
def uptoBulkEntries {H : Type} : List (Lit × DataW H) → Nat
  | [] => 0
  | x :: r => uptoBulkEntry x + uptoBulkEntries r
def uptoBulkEntry {H : Type} : Lit × DataW H → Nat
  | (.string bytes, d) => bytes.length + uptoBulk d + 1
  | (_, d) => uptoBulk d + 1
 end
def uptoSmall : (H : Type) → List (DataW H) → Bool := fun _ ds => decide (uptoBulkAll ds ≤ 1048576)
def OpenSpec.upto (s : _root_.Go.ChangeSpec) : _root_.Go.OpenSpec := { _root_.Go.OpenSpec.ofChange s with cond := some uptoSmall }

/-- 'laws.FnKeys', WHERE WHAT IT READS IS OF BULK AT MOST 1048576: true; the input reads as it did. -/
def fnKeysUptoRow : OpenClaim := { program := "ytakjjfbocokpaaadoor", sum := "94fbaa0ec9d99a9cc7f5db2efed8e8e1cd06d96ad66869815992304371b02698", func := "loop.example/g00950/laws.FnKeys", spec := "fnKeys", unfollowed := true, recurses := true, named := ["loop.example/g00950/impl.crcTable"], apart := false, laid := [("loop.example/g00950/impl.crcTable", laid_loop_example_g00950_impl_crcTable)], narrowed := true }
def FnKeysUptoSaid : Prop := fnKeysUptoRow.holds Tryd.pinned (OpenSpec.upto fnKeysSpec)

/-- 'laws.FnRows', WHERE WHAT IT READS IS OF BULK AT MOST 1048576: true; the input reads as it did. -/
def fnRowsUptoRow : OpenClaim := { program := "ytakjjfbocokpaaadoor", sum := "94fbaa0ec9d99a9cc7f5db2efed8e8e1cd06d96ad66869815992304371b02698", func := "loop.example/g00950/laws.FnRows", spec := "fnRows", unfollowed := true, recurses := true, named := ["loop.example/g00950/impl.crcTable"], apart := false, laid := [("loop.example/g00950/impl.crcTable", laid_loop_example_g00950_impl_crcTable)], narrowed := true }
def FnRowsUptoSaid : Prop := fnRowsUptoRow.holds Tryd.pinned (OpenSpec.upto fnRowsSpec)

/-- 'laws.FnSealedFiles', WHERE WHAT IT READS IS OF BULK AT MOST 1048576: true; the input reads as it did. -/
def fnSealedFilesUptoRow : OpenClaim := { program := "ytakjjfbocokpaaadoor", sum := "94fbaa0ec9d99a9cc7f5db2efed8e8e1cd06d96ad66869815992304371b02698", func := "loop.example/g00950/laws.FnSealedFiles", spec := "fnSealedFiles", inPlace := ["internal/reflectlite.TypeOf"], unfollowed := true, recurses := true, named := ["loop.example/g00950/impl.errMismatch", "loop.example/g00950/impl.crcTable"], ifaces := true, apart := false, laid := [("loop.example/g00950/impl.crcTable", laid_loop_example_g00950_impl_crcTable), ("loop.example/g00950/impl.errMismatch", laid_loop_example_g00950_impl_errMismatch)], narrowed := true }
def FnSealedFilesUptoSaid : Prop := fnSealedFilesUptoRow.holds Tryd.pinned (OpenSpec.upto fnSealedFilesSpec)

/-- 'laws.FnExactWrap', WHERE WHAT IT READS IS OF BULK AT MOST 1048576: true; the input reads as it did. -/
def fnExactWrapUptoRow : OpenClaim := { program := "ytakjjfbocokpaaadoor", sum := "94fbaa0ec9d99a9cc7f5db2efed8e8e1cd06d96ad66869815992304371b02698", func := "loop.example/g00950/laws.FnExactWrap", spec := "fnExactWrap", named := ["loop.example/g00950/impl.crcTable"], apart := false, laid := [("loop.example/g00950/impl.crcTable", laid_loop_example_g00950_impl_crcTable)], narrowed := true }
def FnExactWrapUptoSaid : Prop := fnExactWrapUptoRow.holds Tryd.pinned (OpenSpec.upto fnExactWrapSpec)

/-- 'laws.FnExactUnwrap', WHERE WHAT IT READS IS OF BULK AT MOST 1048576: true; the input reads as it did. -/
def fnExactUnwrapUptoRow : OpenClaim := { program := "ytakjjfbocokpaaadoor", sum := "94fbaa0ec9d99a9cc7f5db2efed8e8e1cd06d96ad66869815992304371b02698", func := "loop.example/g00950/laws.FnExactUnwrap", spec := "fnExactUnwrap", named := ["loop.example/g00950/impl.crcTable"], apart := false, laid := [("loop.example/g00950/impl.crcTable", laid_loop_example_g00950_impl_crcTable)], narrowed := true }
def FnExactUnwrapUptoSaid : Prop := fnExactUnwrapUptoRow.holds Tryd.pinned (OpenSpec.upto fnExactUnwrapSpec)

/-- 'laws.FnExactShowRow', WHERE WHAT IT READS IS OF BULK AT MOST 1048576: true; the input reads as it did. -/
def fnExactShowRowUptoRow : OpenClaim := { program := "ytakjjfbocokpaaadoor", sum := "94fbaa0ec9d99a9cc7f5db2efed8e8e1cd06d96ad66869815992304371b02698", func := "loop.example/g00950/laws.FnExactShowRow", spec := "fnExactShowRow", named := ["loop.example/g00950/impl.crcTable"], apart := false, laid := [("loop.example/g00950/impl.crcTable", laid_loop_example_g00950_impl_crcTable)], narrowed := true }
def FnExactShowRowUptoSaid : Prop := fnExactShowRowUptoRow.holds Tryd.pinned (OpenSpec.upto fnExactShowRowSpec)

/-- 'laws.FnExactScanRows', WHERE WHAT IT READS IS OF BULK AT MOST 1048576: true; the input reads as it did. -/
def fnExactScanRowsUptoRow : OpenClaim := { program := "ytakjjfbocokpaaadoor", sum := "94fbaa0ec9d99a9cc7f5db2efed8e8e1cd06d96ad66869815992304371b02698", func := "loop.example/g00950/laws.FnExactScanRows", spec := "fnExactScanRows", unfollowed := true, recurses := true, named := ["loop.example/g00950/impl.crcTable"], apart := false, laid := [("loop.example/g00950/impl.crcTable", laid_loop_example_g00950_impl_crcTable)], narrowed := true }
def FnExactScanRowsUptoSaid : Prop := fnExactScanRowsUptoRow.holds Tryd.pinned (OpenSpec.upto fnExactScanRowsSpec)

/-- 'laws.FnExactSealFile', WHERE WHAT IT READS IS OF BULK AT MOST 1048576: true; the input reads as it did. -/
def fnExactSealFileUptoRow : OpenClaim := { program := "ytakjjfbocokpaaadoor", sum := "94fbaa0ec9d99a9cc7f5db2efed8e8e1cd06d96ad66869815992304371b02698", func := "loop.example/g00950/laws.FnExactSealFile", spec := "fnExactSealFile", named := ["loop.example/g00950/impl.crcTable"], apart := false, laid := [("loop.example/g00950/impl.crcTable", laid_loop_example_g00950_impl_crcTable)], narrowed := true }
def FnExactSealFileUptoSaid : Prop := fnExactSealFileUptoRow.holds Tryd.pinned (OpenSpec.upto fnExactSealFileSpec)

/-- 'laws.FnExactOpenFile', WHERE WHAT IT READS IS OF BULK AT MOST 1048576: true; the input reads as it did. -/
def fnExactOpenFileUptoRow : OpenClaim := { program := "ytakjjfbocokpaaadoor", sum := "94fbaa0ec9d99a9cc7f5db2efed8e8e1cd06d96ad66869815992304371b02698", func := "loop.example/g00950/laws.FnExactOpenFile", spec := "fnExactOpenFile", inPlace := ["internal/reflectlite.TypeOf"], unfollowed := true, recurses := true, named := ["loop.example/g00950/impl.errMismatch", "loop.example/g00950/impl.crcTable"], ifaces := true, apart := false, laid := [("loop.example/g00950/impl.crcTable", laid_loop_example_g00950_impl_crcTable), ("loop.example/g00950/impl.errMismatch", laid_loop_example_g00950_impl_errMismatch)], narrowed := true }
def FnExactOpenFileUptoSaid : Prop := fnExactOpenFileUptoRow.holds Tryd.pinned (OpenSpec.upto fnExactOpenFileSpec)

end Rows
end Go.Proofs.YtakjjfbocokpaaaDoor
