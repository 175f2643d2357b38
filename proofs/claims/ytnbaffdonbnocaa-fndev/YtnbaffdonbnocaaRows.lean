/-
  No cell of these rows narrows 'for every input' (looked for: loops, veiled, ifaces, maps, wideKeys, modest, calm, conditions, laid).
  DERIVED. THE GIVEN ROWS OF THIS SEAT. 6 by the template 'for every input the law returns true; each argument reads behind the call as it read before'; 0 by the template 'total and deterministic' (their statements: YtnbaffdonbnocaaTotals.lean).
  GIVEN WITH THE SEED: the statements are not yours to turn. If you find one false, say at which input.
  Laid BY PROGRAM, IN A SANDBOX (cutbox-rows.mjs): the forced cells as the released guide's own fill.sh prints them over the translation 87de9dcf50160965… (all of the seat's roots in one cut). By AI agents, Wed Nov 11 2026. No macro, syntax, notation, axiom, sorry.
-/
import Derived.Test.YtnbaffdonbnocaaChecked
import GoSem.Claim
import GoSem.ClaimJoined
import GoSem.ClaimMapViews
import Derived.JoinedTies
import Derived.KernelRfl
namespace Go.Proofs.Ytnbaffdonbnocaa
/- THE CELL 'sum', in the pinned program and in every row, IS THE sha256 OF THE DUMP (.gsa) THAT YtnbaffdonbnocaaProg.lean LOADS. Nothing in Lean hashes anything: it is a label: what it is worth is what the hold of that sum in a sandbox is worth. -/
noncomputable def Try.pinned : Pinned := { name := "ytnbaffdonbnocaa", sum := "87de9dcf50160965776c557e7bb82447dd566a376a62b76e2c15d6d8443b6e97", checked := Try.checked }
namespace Rows
def none {H : Type} : Left H := { results := [], args := [] }

/-- 'laws.FnDev': WHATEVER THE INPUT: true; the input reads as it did. -/
def fnDevSpec : ChangeSpec := { name := "fnDev", fn := fun _ => fun
  | [d] => { results := [.lit (.bool true)], args := [d] }
  | _ => none }
def fnDevRow : OpenClaim := { program := "ytnbaffdonbnocaa", sum := "87de9dcf50160965776c557e7bb82447dd566a376a62b76e2c15d6d8443b6e97", func := "loop.example/g00950/laws.FnDev", spec := "fnDev", unfollowed := true, recurses := true, apart := false }
def FnDevSaid : Prop := fnDevRow.holds Try.pinned (OpenSpec.ofChange fnDevSpec)

/-- ITS FALSE NEIGHBOUR: 'it returns false'. Refute it at one input. -/
def fnDevWrong : ChangeSpec := { name := "fnDev", fn := fun _ => fun
  | [d] => { results := [.lit (.bool false)], args := [d] }
  | _ => none }
def FnDevWrongFalsely : Prop := fnDevRow.holds Try.pinned (OpenSpec.ofChange fnDevWrong)

/-- 'laws.FnExactDevOk': WHATEVER THE INPUT: true; the input reads as it did. -/
def fnExactDevOkSpec : ChangeSpec := { name := "fnExactDevOk", fn := fun _ => fun
  | [d] => { results := [.lit (.bool true)], args := [d] }
  | _ => none }
def fnExactDevOkRow : OpenClaim := { program := "ytnbaffdonbnocaa", sum := "87de9dcf50160965776c557e7bb82447dd566a376a62b76e2c15d6d8443b6e97", func := "loop.example/g00950/laws.FnExactDevOk", spec := "fnExactDevOk", apart := false }
def FnExactDevOkSaid : Prop := fnExactDevOkRow.holds Try.pinned (OpenSpec.ofChange fnExactDevOkSpec)

/-- ITS FALSE NEIGHBOUR: 'it returns false'. Refute it at one input. -/
def fnExactDevOkWrong : ChangeSpec := { name := "fnExactDevOk", fn := fun _ => fun
  | [d] => { results := [.lit (.bool false)], args := [d] }
  | _ => none }
def FnExactDevOkWrongFalsely : Prop := fnExactDevOkRow.holds Try.pinned (OpenSpec.ofChange fnExactDevOkWrong)

/-- 'laws.FnExactDevPut': WHATEVER THE INPUT: true; the input reads as it did. -/
def fnExactDevPutSpec : ChangeSpec := { name := "fnExactDevPut", fn := fun _ => fun
  | [d1, d2, d3] => { results := [.lit (.bool true)], args := [d1, d2, d3] }
  | _ => none }
def fnExactDevPutRow : OpenClaim := { program := "ytnbaffdonbnocaa", sum := "87de9dcf50160965776c557e7bb82447dd566a376a62b76e2c15d6d8443b6e97", func := "loop.example/g00950/laws.FnExactDevPut", spec := "fnExactDevPut", apart := false }
def FnExactDevPutSaid : Prop := fnExactDevPutRow.holds Try.pinned (OpenSpec.ofChange fnExactDevPutSpec)

/-- ITS FALSE NEIGHBOUR: 'it returns false'. Refute it at one input. -/
def fnExactDevPutWrong : ChangeSpec := { name := "fnExactDevPut", fn := fun _ => fun
  | [d1, d2, d3] => { results := [.lit (.bool false)], args := [d1, d2, d3] }
  | _ => none }
def FnExactDevPutWrongFalsely : Prop := fnExactDevPutRow.holds Try.pinned (OpenSpec.ofChange fnExactDevPutWrong)

/-- 'laws.FnExactDevRead': WHATEVER THE INPUT: true; the input reads as it did. -/
def fnExactDevReadSpec : ChangeSpec := { name := "fnExactDevRead", fn := fun _ => fun
  | [d1, d2] => { results := [.lit (.bool true)], args := [d1, d2] }
  | _ => none }
def fnExactDevReadRow : OpenClaim := { program := "ytnbaffdonbnocaa", sum := "87de9dcf50160965776c557e7bb82447dd566a376a62b76e2c15d6d8443b6e97", func := "loop.example/g00950/laws.FnExactDevRead", spec := "fnExactDevRead", unfollowed := true, recurses := true, apart := false }
def FnExactDevReadSaid : Prop := fnExactDevReadRow.holds Try.pinned (OpenSpec.ofChange fnExactDevReadSpec)

/-- ITS FALSE NEIGHBOUR: 'it returns false'. Refute it at one input. -/
def fnExactDevReadWrong : ChangeSpec := { name := "fnExactDevRead", fn := fun _ => fun
  | [d1, d2] => { results := [.lit (.bool false)], args := [d1, d2] }
  | _ => none }
def FnExactDevReadWrongFalsely : Prop := fnExactDevReadRow.holds Try.pinned (OpenSpec.ofChange fnExactDevReadWrong)

/-- 'laws.FnExactDevFlush': WHATEVER THE INPUT: true; the input reads as it did. -/
def fnExactDevFlushSpec : ChangeSpec := { name := "fnExactDevFlush", fn := fun _ => fun
  | [d] => { results := [.lit (.bool true)], args := [d] }
  | _ => none }
def fnExactDevFlushRow : OpenClaim := { program := "ytnbaffdonbnocaa", sum := "87de9dcf50160965776c557e7bb82447dd566a376a62b76e2c15d6d8443b6e97", func := "loop.example/g00950/laws.FnExactDevFlush", spec := "fnExactDevFlush", unfollowed := true, recurses := true, apart := false }
def FnExactDevFlushSaid : Prop := fnExactDevFlushRow.holds Try.pinned (OpenSpec.ofChange fnExactDevFlushSpec)

/-- ITS FALSE NEIGHBOUR: 'it returns false'. Refute it at one input. -/
def fnExactDevFlushWrong : ChangeSpec := { name := "fnExactDevFlush", fn := fun _ => fun
  | [d] => { results := [.lit (.bool false)], args := [d] }
  | _ => none }
def FnExactDevFlushWrongFalsely : Prop := fnExactDevFlushRow.holds Try.pinned (OpenSpec.ofChange fnExactDevFlushWrong)

/-- 'laws.FnExactDevFall': WHATEVER THE INPUT: true; the input reads as it did. -/
def fnExactDevFallSpec : ChangeSpec := { name := "fnExactDevFall", fn := fun _ => fun
  | [d1, d2] => { results := [.lit (.bool true)], args := [d1, d2] }
  | _ => none }
def fnExactDevFallRow : OpenClaim := { program := "ytnbaffdonbnocaa", sum := "87de9dcf50160965776c557e7bb82447dd566a376a62b76e2c15d6d8443b6e97", func := "loop.example/g00950/laws.FnExactDevFall", spec := "fnExactDevFall", unfollowed := true, recurses := true, apart := false }
def FnExactDevFallSaid : Prop := fnExactDevFallRow.holds Try.pinned (OpenSpec.ofChange fnExactDevFallSpec)

/-- ITS FALSE NEIGHBOUR: 'it returns false'. Refute it at one input. -/
def fnExactDevFallWrong : ChangeSpec := { name := "fnExactDevFall", fn := fun _ => fun
  | [d1, d2] => { results := [.lit (.bool false)], args := [d1, d2] }
  | _ => none }
def FnExactDevFallWrongFalsely : Prop := fnExactDevFallRow.holds Try.pinned (OpenSpec.ofChange fnExactDevFallWrong)

/- THE SECOND FORM. 'bulk': how many values and letters a reading holds, each counted each time it is reached (what is shared counts as often as it is met; a slice's spare places count too). A statement '..UptoSaid' is the law's where the arguments, and the package variables that the reading takes, are together of bulk at most 1048576: NARROWER than '..Said'. Prove '..Said' where nothing that the law and all that it calls make is longer than what came in: it says more and counts as full. Else prove '..UptoSaid'. A law counts once. -/
mutual
def uptoBulk {H : Type} : DataW H → Nat
  | .lit (.string bytes) => bytes.length + 1
  | .lit _ => 1
  | .nil => 1
  | .ptr d => uptoBulk d + 1
  | .slice elems spare => uptoBulkAll elems + uptoBulkAll spare + 1
  | .agg parts => uptoBulkAll parts + 1
  | .iface _ d => uptoBulk d + 1
  | .map entries => uptoBulkEntries entries + 1
  | .held _ => 1
def uptoBulkAll {H : Type} : List (DataW H) → Nat
  | [] => 0
  | d :: r => uptoBulk d + uptoBulkAll r
def uptoBulkEntries {H : Type} : List (Lit × DataW H) → Nat
  | [] => 0
  | x :: r => uptoBulkEntry x + uptoBulkEntries r
def uptoBulkEntry {H : Type} : Lit × DataW H → Nat
  | (.string bytes, d) => bytes.length + uptoBulk d + 1
  | (_, d) => uptoBulk d + 1
 end
def uptoSmall : (H : Type) → List (DataW H) → Bool := fun _ ds => decide (uptoBulkAll ds ≤ 1048576)
def OpenSpec.upto (s : _root_.Go.ChangeSpec) : _root_.Go.OpenSpec := { _root_.Go.OpenSpec.ofChange s with cond := some uptoSmall }

/-- 'laws.FnDev', WHERE WHAT IT READS IS OF BULK AT MOST 1048576: true; the input reads as it did. -/
def fnDevUptoRow : OpenClaim := { program := "ytnbaffdonbnocaa", sum := "87de9dcf50160965776c557e7bb82447dd566a376a62b76e2c15d6d8443b6e97", func := "loop.example/g00950/laws.FnDev", spec := "fnDev", unfollowed := true, recurses := true, apart := false, narrowed := true }
def FnDevUptoSaid : Prop := fnDevUptoRow.holds Try.pinned (OpenSpec.upto fnDevSpec)

/-- 'laws.FnExactDevOk', WHERE WHAT IT READS IS OF BULK AT MOST 1048576: true; the input reads as it did. -/
def fnExactDevOkUptoRow : OpenClaim := { program := "ytnbaffdonbnocaa", sum := "87de9dcf50160965776c557e7bb82447dd566a376a62b76e2c15d6d8443b6e97", func := "loop.example/g00950/laws.FnExactDevOk", spec := "fnExactDevOk", apart := false, narrowed := true }
def FnExactDevOkUptoSaid : Prop := fnExactDevOkUptoRow.holds Try.pinned (OpenSpec.upto fnExactDevOkSpec)

/-- 'laws.FnExactDevPut', WHERE WHAT IT READS IS OF BULK AT MOST 1048576: true; the input reads as it did. -/
def fnExactDevPutUptoRow : OpenClaim := { program := "ytnbaffdonbnocaa", sum := "87de9dcf50160965776c557e7bb82447dd566a376a62b76e2c15d6d8443b6e97", func := "loop.example/g00950/laws.FnExactDevPut", spec := "fnExactDevPut", apart := false, narrowed := true }
def FnExactDevPutUptoSaid : Prop := fnExactDevPutUptoRow.holds Try.pinned (OpenSpec.upto fnExactDevPutSpec)

/-- 'laws.FnExactDevRead', WHERE WHAT IT READS IS OF BULK AT MOST 1048576: true; the input reads as it did. -/
def fnExactDevReadUptoRow : OpenClaim := { program := "ytnbaffdonbnocaa", sum := "87de9dcf50160965776c557e7bb82447dd566a376a62b76e2c15d6d8443b6e97", func := "loop.example/g00950/laws.FnExactDevRead", spec := "fnExactDevRead", unfollowed := true, recurses := true, apart := false, narrowed := true }
def FnExactDevReadUptoSaid : Prop := fnExactDevReadUptoRow.holds Try.pinned (OpenSpec.upto fnExactDevReadSpec)

/-- 'laws.FnExactDevFlush', WHERE WHAT IT READS IS OF BULK AT MOST 1048576: true; the input reads as it did. -/
def fnExactDevFlushUptoRow : OpenClaim := { program := "ytnbaffdonbnocaa", sum := "87de9dcf50160965776c557e7bb82447dd566a376a62b76e2c15d6d8443b6e97", func := "loop.example/g00950/laws.FnExactDevFlush", spec := "fnExactDevFlush", unfollowed := true, recurses := true, apart := false, narrowed := true }
def FnExactDevFlushUptoSaid : Prop := fnExactDevFlushUptoRow.holds Try.pinned (OpenSpec.upto fnExactDevFlushSpec)

/-- 'laws.FnExactDevFall', WHERE WHAT IT READS IS OF BULK AT MOST 1048576: true; the input reads as it did. -/
def fnExactDevFallUptoRow : OpenClaim := { program := "ytnbaffdonbnocaa", sum := "87de9dcf50160965776c557e7bb82447dd566a376a62b76e2c15d6d8443b6e97", func := "loop.example/g00950/laws.FnExactDevFall", spec := "fnExactDevFall", unfollowed := true, recurses := true, apart := false, narrowed := true }
def FnExactDevFallUptoSaid : Prop := fnExactDevFallUptoRow.holds Try.pinned (OpenSpec.upto fnExactDevFallSpec)

end Rows
end Go.Proofs.Ytnbaffdonbnocaa
