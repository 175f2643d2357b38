/-
  NARROWER THAN 'FOR EVERY INPUT', by the rows' own cells (each row's printed sentence says how): FnBloom: laid · FnExactBloomOf: laid · FnExactBloomMay: laid.
  DERIVED. THE GIVEN ROWS OF THIS SEAT. 3 by the template 'for every input the law returns true; each argument reads behind the call as it read before'; 0 by the template 'total and deterministic' (their statements: YtncfodifcgjicaaDoorTotals.lean).
  GIVEN WITH THE SEED: the statements are not yours to turn. If you find one false, say at which input.
  Laid BY PROGRAM, IN A SANDBOX (cutbox-rows.mjs): the forced cells as the released guide's own fill.sh prints them over the translation 8127552fce763204… (all of the seat's roots in one cut). By AI agents, Wed Nov 11 2026. No macro, syntax, notation, axiom, sorry.
-/
import Derived.Test.YtncfodifcgjicaaDoorChecked
import GoSem.Claim
import GoSem.ClaimJoined
import GoSem.ClaimMapViews
import Derived.JoinedTies
import Derived.KernelRfl
namespace Go.Proofs.YtncfodifcgjicaaDoor
/- THE CELL 'sum', in the pinned program and in every row, IS THE sha256 OF THE DUMP (.gsa) THAT YtncfodifcgjicaaDoorProg.lean LOADS. Nothing in Lean hashes anything: it is a label: what it is worth is what the hold of that sum in a sandbox is worth. -/
noncomputable def Tryd.pinned : Pinned := { name := "ytncfodifcgjicaadoor", sum := "8127552fce7632044e95d5dfce612331ed597dee1e972b466420e3882f9e4a2b", checked := Tryd.checked }
namespace Rows
def none {H : Type} : Left H := { results := [], args := [] }

/- WHAT THE LISTED PACKAGE-LEVEL VARIABLES READ AS WHEN THE CALL BEGINS. Each datum BY PROGRAM (the guide's laid-datum.mjs) off the statement by which the dump's own 'gosem.cut.vars' lays the variable. In a bare row this is a premise. The card (YtncfodifcgjicaaDoorCards.lean) ties it to the program's text. -/
def laid_loop_example_g00950_impl_crcTable {H : Type} : DataW H := .agg [.lit (.int .u32 0), .lit (.int .u32 274646895), .lit (.int .u32 549293790), .lit (.int .u32 820201905), .lit (.int .u32 1098587580), .lit (.int .u32 1361435347), .lit (.int .u32 1640403810), .lit (.int .u32 1905808397), .lit (.int .u32 2197175160), .lit (.int .u32 2460548119), .lit (.int .u32 2722870694), .lit (.int .u32 2987750089), .lit (.int .u32 3280807620), .lit (.int .u32 3553878443), .lit (.int .u32 3811616794), .lit (.int .u32 4084100981)]

/-- 'laws.FnBloom': WHATEVER THE INPUT: true; the input reads as it did. -/
def fnBloomSpec : ChangeSpec := { name := "fnBloom", vars := ["loop.example/g00950/impl.crcTable"], fn := fun _ => fun
  | [d, g1] => { results := [.lit (.bool true)], args := [d], vars := [g1] }
  | _ => none }
def fnBloomRow : OpenClaim := { program := "ytncfodifcgjicaadoor", sum := "8127552fce7632044e95d5dfce612331ed597dee1e972b466420e3882f9e4a2b", func := "loop.example/g00950/laws.FnBloom", spec := "fnBloom", unfollowed := true, recurses := true, named := ["loop.example/g00950/impl.crcTable"], apart := false, laid := [("loop.example/g00950/impl.crcTable", laid_loop_example_g00950_impl_crcTable)] }
def FnBloomSaid : Prop := fnBloomRow.holds Tryd.pinned (OpenSpec.ofChange fnBloomSpec)

/-- ITS FALSE NEIGHBOUR: 'it returns false'. Refute it at one input. -/
def fnBloomWrong : ChangeSpec := { name := "fnBloom", vars := ["loop.example/g00950/impl.crcTable"], fn := fun _ => fun
  | [d, g1] => { results := [.lit (.bool false)], args := [d], vars := [g1] }
  | _ => none }
def FnBloomWrongFalsely : Prop := fnBloomRow.holds Tryd.pinned (OpenSpec.ofChange fnBloomWrong)

/-- 'laws.FnExactBloomOf': WHATEVER THE INPUT: true; the input reads as it did. -/
def fnExactBloomOfSpec : ChangeSpec := { name := "fnExactBloomOf", vars := ["loop.example/g00950/impl.crcTable"], fn := fun _ => fun
  | [d1, d2, g1] => { results := [.lit (.bool true)], args := [d1, d2], vars := [g1] }
  | _ => none }
def fnExactBloomOfRow : OpenClaim := { program := "ytncfodifcgjicaadoor", sum := "8127552fce7632044e95d5dfce612331ed597dee1e972b466420e3882f9e4a2b", func := "loop.example/g00950/laws.FnExactBloomOf", spec := "fnExactBloomOf", unfollowed := true, recurses := true, named := ["loop.example/g00950/impl.crcTable"], apart := false, laid := [("loop.example/g00950/impl.crcTable", laid_loop_example_g00950_impl_crcTable)] }
def FnExactBloomOfSaid : Prop := fnExactBloomOfRow.holds Tryd.pinned (OpenSpec.ofChange fnExactBloomOfSpec)

/-- ITS FALSE NEIGHBOUR: 'it returns false'. Refute it at one input. -/
def fnExactBloomOfWrong : ChangeSpec := { name := "fnExactBloomOf", vars := ["loop.example/g00950/impl.crcTable"], fn := fun _ => fun
  | [d1, d2, g1] => { results := [.lit (.bool false)], args := [d1, d2], vars := [g1] }
  | _ => none }
def FnExactBloomOfWrongFalsely : Prop := fnExactBloomOfRow.holds Tryd.pinned (OpenSpec.ofChange fnExactBloomOfWrong)

/-- 'laws.FnExactBloomMay': WHATEVER THE INPUT: true; the input reads as it did. -/
def fnExactBloomMaySpec : ChangeSpec := { name := "fnExactBloomMay", vars := ["loop.example/g00950/impl.crcTable"], fn := fun _ => fun
  | [d1, d2, g1] => { results := [.lit (.bool true)], args := [d1, d2], vars := [g1] }
  | _ => none }
def fnExactBloomMayRow : OpenClaim := { program := "ytncfodifcgjicaadoor", sum := "8127552fce7632044e95d5dfce612331ed597dee1e972b466420e3882f9e4a2b", func := "loop.example/g00950/laws.FnExactBloomMay", spec := "fnExactBloomMay", unfollowed := true, recurses := true, named := ["loop.example/g00950/impl.crcTable"], apart := false, laid := [("loop.example/g00950/impl.crcTable", laid_loop_example_g00950_impl_crcTable)] }
def FnExactBloomMaySaid : Prop := fnExactBloomMayRow.holds Tryd.pinned (OpenSpec.ofChange fnExactBloomMaySpec)

/-- ITS FALSE NEIGHBOUR: 'it returns false'. Refute it at one input. -/
def fnExactBloomMayWrong : ChangeSpec := { name := "fnExactBloomMay", vars := ["loop.example/g00950/impl.crcTable"], fn := fun _ => fun
  | [d1, d2, g1] => { results := [.lit (.bool false)], args := [d1, d2], vars := [g1] }
  | _ => none }
def FnExactBloomMayWrongFalsely : Prop := fnExactBloomMayRow.holds Tryd.pinned (OpenSpec.ofChange fnExactBloomMayWrong)

/- THE SECOND FORM. 'bulk': how many values and letters a reading holds, each counted each time it is reached (what is shared counts as often as it is met; a slice's spare places count too). A statement '..UptoSaid' is the law's where the arguments, and the package variables that the reading takes, are together of bulk at most 1048576: NARROWER than '..Said'. Prove '..Said' where nothing that the law and all that it calls make is longer than what came in: it says more and counts as full. Else prove '..UptoSaid'. A law counts once. -/
mutual
def uptoBulk {H : Type} : DataW H → Nat
  | .lit (.string bytes) => bytes.length + 1
  | .lit _ => 1
  | .nil => 1
  | .ptr d => uptoBulk d + 1
  | .slice elems spare => uptoBulkAll elems + uptoBulkAll spare + 1
  | .agg parts => uptoBulkAll parts + 1
  | .iface _ d => uptoBulk d + 1
  | .map entries => uptoBulkEntries entries + 1
  | .held _ => 1
def uptoBulkAll {H : Type} : List (DataW H) → Nat
  | [] => 0
  | d :: r => uptoBulk d + uptoBulkAll r
def uptoBulkEntries {H : Type} : List (Lit × DataW H) → Nat
  | [] => 0
  | x :: r => uptoBulkEntry x + uptoBulkEntries r
def uptoBulkEntry {H : Type} : Lit × DataW H → Nat
  | (.string bytes, d) => bytes.length + uptoBulk d + 1
  | (_, d) => uptoBulk d + 1
 end
def uptoSmall : (H : Type) → List (DataW H) → Bool := fun _ ds => decide (uptoBulkAll ds ≤ 1048576)
def OpenSpec.upto (s : _root_.Go.ChangeSpec) : _root_.Go.OpenSpec := { _root_.Go.OpenSpec.ofChange s with cond := some uptoSmall }

/-- 'laws.FnBloom', WHERE WHAT IT READS IS OF BULK AT MOST 1048576: true; the input reads as it did. -/
def fnBloomUptoRow : OpenClaim := { program := "ytncfodifcgjicaadoor", sum := "8127552fce7632044e95d5dfce612331ed597dee1e972b466420e3882f9e4a2b", func := "loop.example/g00950/laws.FnBloom", spec := "fnBloom", unfollowed := true, recurses := true, named := ["loop.example/g00950/impl.crcTable"], apart := false, laid := [("loop.example/g00950/impl.crcTable", laid_loop_example_g00950_impl_crcTable)], narrowed := true }
def FnBloomUptoSaid : Prop := fnBloomUptoRow.holds Tryd.pinned (OpenSpec.upto fnBloomSpec)

/-- 'laws.FnExactBloomOf', WHERE WHAT IT READS IS OF BULK AT MOST 1048576: true; the input reads as it did. -/
def fnExactBloomOfUptoRow : OpenClaim := { program := "ytncfodifcgjicaadoor", sum := "8127552fce7632044e95d5dfce612331ed597dee1e972b466420e3882f9e4a2b", func := "loop.example/g00950/laws.FnExactBloomOf", spec := "fnExactBloomOf", unfollowed := true, recurses := true, named := ["loop.example/g00950/impl.crcTable"], apart := false, laid := [("loop.example/g00950/impl.crcTable", laid_loop_example_g00950_impl_crcTable)], narrowed := true }
def FnExactBloomOfUptoSaid : Prop := fnExactBloomOfUptoRow.holds Tryd.pinned (OpenSpec.upto fnExactBloomOfSpec)

/-- 'laws.FnExactBloomMay', WHERE WHAT IT READS IS OF BULK AT MOST 1048576: true; the input reads as it did. -/
def fnExactBloomMayUptoRow : OpenClaim := { program := "ytncfodifcgjicaadoor", sum := "8127552fce7632044e95d5dfce612331ed597dee1e972b466420e3882f9e4a2b", func := "loop.example/g00950/laws.FnExactBloomMay", spec := "fnExactBloomMay", unfollowed := true, recurses := true, named := ["loop.example/g00950/impl.crcTable"], apart := false, laid := [("loop.example/g00950/impl.crcTable", laid_loop_example_g00950_impl_crcTable)], narrowed := true }
def FnExactBloomMayUptoSaid : Prop := fnExactBloomMayUptoRow.holds Tryd.pinned (OpenSpec.upto fnExactBloomMaySpec)

end Rows
end Go.Proofs.YtncfodifcgjicaaDoor
