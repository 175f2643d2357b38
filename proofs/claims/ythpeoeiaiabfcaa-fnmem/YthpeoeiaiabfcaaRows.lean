/-
  No cell of these rows narrows 'for every input' (looked for: loops, veiled, ifaces, maps, wideKeys, modest, calm, conditions, laid).
  DERIVED. THE GIVEN ROWS OF THIS SEAT. 6 by the template 'for every input the law returns true; each argument reads behind the call as it read before'; 0 by the template 'total and deterministic' (their statements: YthpeoeiaiabfcaaTotals.lean).
  GIVEN WITH THE SEED: the statements are not yours to turn. If you find one false, say at which input.
  Laid BY PROGRAM, IN A SANDBOX (cutbox-rows.mjs): the forced cells as the released guide's own fill.sh prints them over the translation 20933b9c4715b68a… (all of the seat's roots in one cut). By AI agents, Wed Nov 11 2026. No macro, syntax, notation, axiom, sorry.
-/
import Derived.Test.YthpeoeiaiabfcaaChecked
import GoSem.Claim
import GoSem.ClaimJoined
import GoSem.ClaimMapViews
import Derived.JoinedTies
import Derived.KernelRfl
namespace Go.Proofs.Ythpeoeiaiabfcaa
/- THE CELL 'sum', in the pinned program and in every row, IS THE sha256 OF THE DUMP (.gsa) THAT YthpeoeiaiabfcaaProg.lean LOADS. Nothing in Lean hashes anything: it is a label: what it is worth is what the hold of that sum in a sandbox is worth. -/
noncomputable def Try.pinned : Pinned := { name := "ythpeoeiaiabfcaa", sum := "20933b9c4715b68a5257363fd3669d9fdddb747b863ad8d8cb95ae109d67b384", checked := Try.checked }
namespace Rows
def none {H : Type} : Left H := { results := [], args := [] }

/-- 'laws.FnMem': WHATEVER THE INPUT: true; the input reads as it did. -/
def fnMemSpec : ChangeSpec := { name := "fnMem", fn := fun _ => fun
  | [d] => { results := [.lit (.bool true)], args := [d] }
  | _ => none }
def fnMemRow : OpenClaim := { program := "ythpeoeiaiabfcaa", sum := "20933b9c4715b68a5257363fd3669d9fdddb747b863ad8d8cb95ae109d67b384", func := "loop.example/g00950/laws.FnMem", spec := "fnMem", unfollowed := true, recurses := true, apart := false }
def FnMemSaid : Prop := fnMemRow.holds Try.pinned (OpenSpec.ofChange fnMemSpec)

/-- ITS FALSE NEIGHBOUR: 'it returns false'. Refute it at one input. -/
def fnMemWrong : ChangeSpec := { name := "fnMem", fn := fun _ => fun
  | [d] => { results := [.lit (.bool false)], args := [d] }
  | _ => none }
def FnMemWrongFalsely : Prop := fnMemRow.holds Try.pinned (OpenSpec.ofChange fnMemWrong)

/-- 'laws.FnExactMemOk': WHATEVER THE INPUT: true; the input reads as it did. -/
def fnExactMemOkSpec : ChangeSpec := { name := "fnExactMemOk", fn := fun _ => fun
  | [d] => { results := [.lit (.bool true)], args := [d] }
  | _ => none }
def fnExactMemOkRow : OpenClaim := { program := "ythpeoeiaiabfcaa", sum := "20933b9c4715b68a5257363fd3669d9fdddb747b863ad8d8cb95ae109d67b384", func := "loop.example/g00950/laws.FnExactMemOk", spec := "fnExactMemOk", unfollowed := true, recurses := true, apart := false }
def FnExactMemOkSaid : Prop := fnExactMemOkRow.holds Try.pinned (OpenSpec.ofChange fnExactMemOkSpec)

/-- ITS FALSE NEIGHBOUR: 'it returns false'. Refute it at one input. -/
def fnExactMemOkWrong : ChangeSpec := { name := "fnExactMemOk", fn := fun _ => fun
  | [d] => { results := [.lit (.bool false)], args := [d] }
  | _ => none }
def FnExactMemOkWrongFalsely : Prop := fnExactMemOkRow.holds Try.pinned (OpenSpec.ofChange fnExactMemOkWrong)

/-- 'laws.FnExactMemPut': WHATEVER THE INPUT: true; the input reads as it did. -/
def fnExactMemPutSpec : ChangeSpec := { name := "fnExactMemPut", fn := fun _ => fun
  | [d1, d2] => { results := [.lit (.bool true)], args := [d1, d2] }
  | _ => none }
def fnExactMemPutRow : OpenClaim := { program := "ythpeoeiaiabfcaa", sum := "20933b9c4715b68a5257363fd3669d9fdddb747b863ad8d8cb95ae109d67b384", func := "loop.example/g00950/laws.FnExactMemPut", spec := "fnExactMemPut", unfollowed := true, recurses := true, apart := false }
def FnExactMemPutSaid : Prop := fnExactMemPutRow.holds Try.pinned (OpenSpec.ofChange fnExactMemPutSpec)

/-- ITS FALSE NEIGHBOUR: 'it returns false'. Refute it at one input. -/
def fnExactMemPutWrong : ChangeSpec := { name := "fnExactMemPut", fn := fun _ => fun
  | [d1, d2] => { results := [.lit (.bool false)], args := [d1, d2] }
  | _ => none }
def FnExactMemPutWrongFalsely : Prop := fnExactMemPutRow.holds Try.pinned (OpenSpec.ofChange fnExactMemPutWrong)

/-- 'laws.FnExactMemGet': WHATEVER THE INPUT: true; the input reads as it did. -/
def fnExactMemGetSpec : ChangeSpec := { name := "fnExactMemGet", fn := fun _ => fun
  | [d1, d2, d3] => { results := [.lit (.bool true)], args := [d1, d2, d3] }
  | _ => none }
def fnExactMemGetRow : OpenClaim := { program := "ythpeoeiaiabfcaa", sum := "20933b9c4715b68a5257363fd3669d9fdddb747b863ad8d8cb95ae109d67b384", func := "loop.example/g00950/laws.FnExactMemGet", spec := "fnExactMemGet", unfollowed := true, recurses := true, apart := false }
def FnExactMemGetSaid : Prop := fnExactMemGetRow.holds Try.pinned (OpenSpec.ofChange fnExactMemGetSpec)

/-- ITS FALSE NEIGHBOUR: 'it returns false'. Refute it at one input. -/
def fnExactMemGetWrong : ChangeSpec := { name := "fnExactMemGet", fn := fun _ => fun
  | [d1, d2, d3] => { results := [.lit (.bool false)], args := [d1, d2, d3] }
  | _ => none }
def FnExactMemGetWrongFalsely : Prop := fnExactMemGetRow.holds Try.pinned (OpenSpec.ofChange fnExactMemGetWrong)

/-- 'laws.FnExactMemMap': WHATEVER THE INPUT: true; the input reads as it did. -/
def fnExactMemMapSpec : ChangeSpec := { name := "fnExactMemMap", fn := fun _ => fun
  | [d1, d2] => { results := [.lit (.bool true)], args := [d1, d2] }
  | _ => none }
def fnExactMemMapRow : OpenClaim := { program := "ythpeoeiaiabfcaa", sum := "20933b9c4715b68a5257363fd3669d9fdddb747b863ad8d8cb95ae109d67b384", func := "loop.example/g00950/laws.FnExactMemMap", spec := "fnExactMemMap", unfollowed := true, recurses := true, apart := false }
def FnExactMemMapSaid : Prop := fnExactMemMapRow.holds Try.pinned (OpenSpec.ofChange fnExactMemMapSpec)

/-- ITS FALSE NEIGHBOUR: 'it returns false'. Refute it at one input. -/
def fnExactMemMapWrong : ChangeSpec := { name := "fnExactMemMap", fn := fun _ => fun
  | [d1, d2] => { results := [.lit (.bool false)], args := [d1, d2] }
  | _ => none }
def FnExactMemMapWrongFalsely : Prop := fnExactMemMapRow.holds Try.pinned (OpenSpec.ofChange fnExactMemMapWrong)

/-- 'laws.FnExactMemRange': WHATEVER THE INPUT: true; the input reads as it did. -/
def fnExactMemRangeSpec : ChangeSpec := { name := "fnExactMemRange", fn := fun _ => fun
  | [d1, d2, d3, d4] => { results := [.lit (.bool true)], args := [d1, d2, d3, d4] }
  | _ => none }
def fnExactMemRangeRow : OpenClaim := { program := "ythpeoeiaiabfcaa", sum := "20933b9c4715b68a5257363fd3669d9fdddb747b863ad8d8cb95ae109d67b384", func := "loop.example/g00950/laws.FnExactMemRange", spec := "fnExactMemRange", unfollowed := true, recurses := true, apart := false }
def FnExactMemRangeSaid : Prop := fnExactMemRangeRow.holds Try.pinned (OpenSpec.ofChange fnExactMemRangeSpec)

/-- ITS FALSE NEIGHBOUR: 'it returns false'. Refute it at one input. -/
def fnExactMemRangeWrong : ChangeSpec := { name := "fnExactMemRange", fn := fun _ => fun
  | [d1, d2, d3, d4] => { results := [.lit (.bool false)], args := [d1, d2, d3, d4] }
  | _ => none }
def FnExactMemRangeWrongFalsely : Prop := fnExactMemRangeRow.holds Try.pinned (OpenSpec.ofChange fnExactMemRangeWrong)

/- THE SECOND FORM. 'bulk': how many values and letters a reading holds, each counted each time it is reached (what is shared counts as often as it is met; a slice's spare places count too). A statement '..UptoSaid' is the law's where the arguments, and the package variables that the reading takes, are together of bulk at most 1048576: NARROWER than '..Said'. Prove '..Said' where nothing that the law and all that it calls make is longer than what came in: it says more and counts as full. Else prove '..UptoSaid'. A law counts once. -/
mutual
def uptoBulk {H : Type} : DataW H → Nat
  | .lit (.string bytes) => bytes.length + 1
  | .lit _ => 1
  | .nil => 1
  | .ptr d => uptoBulk d + 1
  | .slice elems spare => uptoBulkAll elems + uptoBulkAll spare + 1
  | .agg parts => uptoBulkAll parts + 1
  | .iface _ d => uptoBulk d + 1
  | .map entries => uptoBulkEntries entries + 1
  | .held _ => 1
def uptoBulkAll {H : Type} : List (DataW H) → Nat
  | [] => 0
  | d :: r => uptoBulk d + uptoBulkAll r
def uptoBulkEntries {H : Type} : List (Lit × DataW H) → Nat
  | [] => 0
  | x :: r => uptoBulkEntry x + uptoBulkEntries r
def uptoBulkEntry {H : Type} : Lit × DataW H → Nat
  | (.string bytes, d) => bytes.length + uptoBulk d + 1
  | (_, d) => uptoBulk d + 1
 end
def uptoSmall : (H : Type) → List (DataW H) → Bool := fun _ ds => decide (uptoBulkAll ds ≤ 1048576)
def OpenSpec.upto (s : _root_.Go.ChangeSpec) : _root_.Go.OpenSpec := { _root_.Go.OpenSpec.ofChange s with cond := some uptoSmall }

/-- 'laws.FnMem', WHERE WHAT IT READS IS OF BULK AT MOST 1048576: true; the input reads as it did. -/
def fnMemUptoRow : OpenClaim := { program := "ythpeoeiaiabfcaa", sum := "20933b9c4715b68a5257363fd3669d9fdddb747b863ad8d8cb95ae109d67b384", func := "loop.example/g00950/laws.FnMem", spec := "fnMem", unfollowed := true, recurses := true, apart := false, narrowed := true }
def FnMemUptoSaid : Prop := fnMemUptoRow.holds Try.pinned (OpenSpec.upto fnMemSpec)

/-- 'laws.FnExactMemOk', WHERE WHAT IT READS IS OF BULK AT MOST 1048576: true; the input reads as it did. -/
def fnExactMemOkUptoRow : OpenClaim := { program := "ythpeoeiaiabfcaa", sum := "20933b9c4715b68a5257363fd3669d9fdddb747b863ad8d8cb95ae109d67b384", func := "loop.example/g00950/laws.FnExactMemOk", spec := "fnExactMemOk", unfollowed := true, recurses := true, apart := false, narrowed := true }
def FnExactMemOkUptoSaid : Prop := fnExactMemOkUptoRow.holds Try.pinned (OpenSpec.upto fnExactMemOkSpec)

/-- 'laws.FnExactMemPut', WHERE WHAT IT READS IS OF BULK AT MOST 1048576: true; the input reads as it did. -/
def fnExactMemPutUptoRow : OpenClaim := { program := "ythpeoeiaiabfcaa", sum := "20933b9c4715b68a5257363fd3669d9fdddb747b863ad8d8cb95ae109d67b384", func := "loop.example/g00950/laws.FnExactMemPut", spec := "fnExactMemPut", unfollowed := true, recurses := true, apart := false, narrowed := true }
def FnExactMemPutUptoSaid : Prop := fnExactMemPutUptoRow.holds Try.pinned (OpenSpec.upto fnExactMemPutSpec)

/-- 'laws.FnExactMemGet', WHERE WHAT IT READS IS OF BULK AT MOST 1048576: true; the input reads as it did. -/
def fnExactMemGetUptoRow : OpenClaim := { program := "ythpeoeiaiabfcaa", sum := "20933b9c4715b68a5257363fd3669d9fdddb747b863ad8d8cb95ae109d67b384", func := "loop.example/g00950/laws.FnExactMemGet", spec := "fnExactMemGet", unfollowed := true, recurses := true, apart := false, narrowed := true }
def FnExactMemGetUptoSaid : Prop := fnExactMemGetUptoRow.holds Try.pinned (OpenSpec.upto fnExactMemGetSpec)

/-- 'laws.FnExactMemMap', WHERE WHAT IT READS IS OF BULK AT MOST 1048576: true; the input reads as it did. -/
def fnExactMemMapUptoRow : OpenClaim := { program := "ythpeoeiaiabfcaa", sum := "20933b9c4715b68a5257363fd3669d9fdddb747b863ad8d8cb95ae109d67b384", func := "loop.example/g00950/laws.FnExactMemMap", spec := "fnExactMemMap", unfollowed := true, recurses := true, apart := false, narrowed := true }
def FnExactMemMapUptoSaid : Prop := fnExactMemMapUptoRow.holds Try.pinned (OpenSpec.upto fnExactMemMapSpec)

/-- 'laws.FnExactMemRange', WHERE WHAT IT READS IS OF BULK AT MOST 1048576: true; the input reads as it did. -/
def fnExactMemRangeUptoRow : OpenClaim := { program := "ythpeoeiaiabfcaa", sum := "20933b9c4715b68a5257363fd3669d9fdddb747b863ad8d8cb95ae109d67b384", func := "loop.example/g00950/laws.FnExactMemRange", spec := "fnExactMemRange", unfollowed := true, recurses := true, apart := false, narrowed := true }
def FnExactMemRangeUptoSaid : Prop := fnExactMemRangeUptoRow.holds Try.pinned (OpenSpec.upto fnExactMemRangeSpec)

end Rows
end Go.Proofs.Ythpeoeiaiabfcaa
