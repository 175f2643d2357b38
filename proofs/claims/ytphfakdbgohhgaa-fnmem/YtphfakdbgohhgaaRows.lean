/-
  No cell of these rows narrows 'for every input' (looked for: loops, veiled, ifaces, maps, wideKeys, modest, calm, conditions, laid).
  DERIVED. THE GIVEN ROWS OF THIS SEAT. 7 by the template 'for every input the law returns true; each argument reads behind the call as it read before'; 0 by the template 'total and deterministic' (their statements: YtphfakdbgohhgaaTotals.lean).
  GIVEN WITH THE SEED: the statements are not yours to turn. If you find one false, say at which input.
  Laid BY PROGRAM, IN A SANDBOX (cutbox-rows.mjs): the forced cells as the released guide's own fill.sh prints them over the translation dc648375f3610e6d… (all of the seat's roots in one cut). By AI agents, Wed Nov 11 2026. No macro, syntax, notation, axiom, sorry.
-/
import Derived.Test.YtphfakdbgohhgaaChecked
import GoSem.Claim
import GoSem.ClaimJoined
import GoSem.ClaimMapViews
import Derived.JoinedTies
import Derived.KernelRfl
namespace Go.Proofs.Ytphfakdbgohhgaa
/- THE CELL 'sum', in the pinned program and in every row, IS THE sha256 OF THE DUMP (.gsa) THAT YtphfakdbgohhgaaProg.lean LOADS. Nothing in Lean hashes anything: it is a label: what it is worth is what the hold of that sum in a sandbox is worth. -/
noncomputable def Try.pinned : Pinned := { name := "ytphfakdbgohhgaa", sum := "dc648375f3610e6d2b2c2a1fdc7b4d737016576c74b5163f1bd17d0eac26c061", checked := Try.checked }
namespace Rows
def none {H : Type} : Left H := { results := [], args := [] }

/-- 'laws.FnMem': WHATEVER THE INPUT: true; the input reads as it did. -/
def fnMemSpec : ChangeSpec := { name := "fnMem", fn := fun _ => fun
  | [d] => { results := [.lit (.bool true)], args := [d] }
  | _ => none }
def fnMemRow : OpenClaim := { program := "ytphfakdbgohhgaa", sum := "dc648375f3610e6d2b2c2a1fdc7b4d737016576c74b5163f1bd17d0eac26c061", func := "loop.example/g00950/laws.FnMem", spec := "fnMem", unfollowed := true, recurses := true, apart := false }
def FnMemSaid : Prop := fnMemRow.holds Try.pinned (OpenSpec.ofChange fnMemSpec)

/-- ITS FALSE NEIGHBOUR: 'it returns false'. Refute it at one input. -/
def fnMemWrong : ChangeSpec := { name := "fnMem", fn := fun _ => fun
  | [d] => { results := [.lit (.bool false)], args := [d] }
  | _ => none }
def FnMemWrongFalsely : Prop := fnMemRow.holds Try.pinned (OpenSpec.ofChange fnMemWrong)

/-- 'laws.FnExactMemRange': WHATEVER THE INPUT: true; the input reads as it did. -/
def fnExactMemRangeSpec : ChangeSpec := { name := "fnExactMemRange", fn := fun _ => fun
  | [d1, d2, d3, d4] => { results := [.lit (.bool true)], args := [d1, d2, d3, d4] }
  | _ => none }
def fnExactMemRangeRow : OpenClaim := { program := "ytphfakdbgohhgaa", sum := "dc648375f3610e6d2b2c2a1fdc7b4d737016576c74b5163f1bd17d0eac26c061", func := "loop.example/g00950/laws.FnExactMemRange", spec := "fnExactMemRange", unfollowed := true, recurses := true, apart := false }
def FnExactMemRangeSaid : Prop := fnExactMemRangeRow.holds Try.pinned (OpenSpec.ofChange fnExactMemRangeSpec)

/-- ITS FALSE NEIGHBOUR: 'it returns false'. Refute it at one input. -/
def fnExactMemRangeWrong : ChangeSpec := { name := "fnExactMemRange", fn := fun _ => fun
  | [d1, d2, d3, d4] => { results := [.lit (.bool false)], args := [d1, d2, d3, d4] }
  | _ => none }
def FnExactMemRangeWrongFalsely : Prop := fnExactMemRangeRow.holds Try.pinned (OpenSpec.ofChange fnExactMemRangeWrong)

/-- 'laws.FnExactIterOk': WHATEVER THE INPUT: true; the input reads as it did. -/
def fnExactIterOkSpec : ChangeSpec := { name := "fnExactIterOk", fn := fun _ => fun
  | [d] => { results := [.lit (.bool true)], args := [d] }
  | _ => none }
def fnExactIterOkRow : OpenClaim := { program := "ytphfakdbgohhgaa", sum := "dc648375f3610e6d2b2c2a1fdc7b4d737016576c74b5163f1bd17d0eac26c061", func := "loop.example/g00950/laws.FnExactIterOk", spec := "fnExactIterOk", unfollowed := true, recurses := true, apart := false }
def FnExactIterOkSaid : Prop := fnExactIterOkRow.holds Try.pinned (OpenSpec.ofChange fnExactIterOkSpec)

/-- ITS FALSE NEIGHBOUR: 'it returns false'. Refute it at one input. -/
def fnExactIterOkWrong : ChangeSpec := { name := "fnExactIterOk", fn := fun _ => fun
  | [d] => { results := [.lit (.bool false)], args := [d] }
  | _ => none }
def FnExactIterOkWrongFalsely : Prop := fnExactIterOkRow.holds Try.pinned (OpenSpec.ofChange fnExactIterOkWrong)

/-- 'laws.FnExactIterNew': WHATEVER THE INPUT: true; the input reads as it did. -/
def fnExactIterNewSpec : ChangeSpec := { name := "fnExactIterNew", fn := fun _ => fun
  | [d1, d2, d3] => { results := [.lit (.bool true)], args := [d1, d2, d3] }
  | _ => none }
def fnExactIterNewRow : OpenClaim := { program := "ytphfakdbgohhgaa", sum := "dc648375f3610e6d2b2c2a1fdc7b4d737016576c74b5163f1bd17d0eac26c061", func := "loop.example/g00950/laws.FnExactIterNew", spec := "fnExactIterNew", unfollowed := true, recurses := true, apart := false }
def FnExactIterNewSaid : Prop := fnExactIterNewRow.holds Try.pinned (OpenSpec.ofChange fnExactIterNewSpec)

/-- ITS FALSE NEIGHBOUR: 'it returns false'. Refute it at one input. -/
def fnExactIterNewWrong : ChangeSpec := { name := "fnExactIterNew", fn := fun _ => fun
  | [d1, d2, d3] => { results := [.lit (.bool false)], args := [d1, d2, d3] }
  | _ => none }
def FnExactIterNewWrongFalsely : Prop := fnExactIterNewRow.holds Try.pinned (OpenSpec.ofChange fnExactIterNewWrong)

/-- 'laws.FnExactIterNext': WHATEVER THE INPUT: true; the input reads as it did. -/
def fnExactIterNextSpec : ChangeSpec := { name := "fnExactIterNext", fn := fun _ => fun
  | [d] => { results := [.lit (.bool true)], args := [d] }
  | _ => none }
def fnExactIterNextRow : OpenClaim := { program := "ytphfakdbgohhgaa", sum := "dc648375f3610e6d2b2c2a1fdc7b4d737016576c74b5163f1bd17d0eac26c061", func := "loop.example/g00950/laws.FnExactIterNext", spec := "fnExactIterNext", unfollowed := true, recurses := true, apart := false }
def FnExactIterNextSaid : Prop := fnExactIterNextRow.holds Try.pinned (OpenSpec.ofChange fnExactIterNextSpec)

/-- ITS FALSE NEIGHBOUR: 'it returns false'. Refute it at one input. -/
def fnExactIterNextWrong : ChangeSpec := { name := "fnExactIterNext", fn := fun _ => fun
  | [d] => { results := [.lit (.bool false)], args := [d] }
  | _ => none }
def FnExactIterNextWrongFalsely : Prop := fnExactIterNextRow.holds Try.pinned (OpenSpec.ofChange fnExactIterNextWrong)

/-- 'laws.FnExactIterPrev': WHATEVER THE INPUT: true; the input reads as it did. -/
def fnExactIterPrevSpec : ChangeSpec := { name := "fnExactIterPrev", fn := fun _ => fun
  | [d] => { results := [.lit (.bool true)], args := [d] }
  | _ => none }
def fnExactIterPrevRow : OpenClaim := { program := "ytphfakdbgohhgaa", sum := "dc648375f3610e6d2b2c2a1fdc7b4d737016576c74b5163f1bd17d0eac26c061", func := "loop.example/g00950/laws.FnExactIterPrev", spec := "fnExactIterPrev", unfollowed := true, recurses := true, apart := false }
def FnExactIterPrevSaid : Prop := fnExactIterPrevRow.holds Try.pinned (OpenSpec.ofChange fnExactIterPrevSpec)

/-- ITS FALSE NEIGHBOUR: 'it returns false'. Refute it at one input. -/
def fnExactIterPrevWrong : ChangeSpec := { name := "fnExactIterPrev", fn := fun _ => fun
  | [d] => { results := [.lit (.bool false)], args := [d] }
  | _ => none }
def FnExactIterPrevWrongFalsely : Prop := fnExactIterPrevRow.holds Try.pinned (OpenSpec.ofChange fnExactIterPrevWrong)

/-- 'laws.FnExactIterSeek': WHATEVER THE INPUT: true; the input reads as it did. -/
def fnExactIterSeekSpec : ChangeSpec := { name := "fnExactIterSeek", fn := fun _ => fun
  | [d1, d2] => { results := [.lit (.bool true)], args := [d1, d2] }
  | _ => none }
def fnExactIterSeekRow : OpenClaim := { program := "ytphfakdbgohhgaa", sum := "dc648375f3610e6d2b2c2a1fdc7b4d737016576c74b5163f1bd17d0eac26c061", func := "loop.example/g00950/laws.FnExactIterSeek", spec := "fnExactIterSeek", unfollowed := true, recurses := true, apart := false }
def FnExactIterSeekSaid : Prop := fnExactIterSeekRow.holds Try.pinned (OpenSpec.ofChange fnExactIterSeekSpec)

/-- ITS FALSE NEIGHBOUR: 'it returns false'. Refute it at one input. -/
def fnExactIterSeekWrong : ChangeSpec := { name := "fnExactIterSeek", fn := fun _ => fun
  | [d1, d2] => { results := [.lit (.bool false)], args := [d1, d2] }
  | _ => none }
def FnExactIterSeekWrongFalsely : Prop := fnExactIterSeekRow.holds Try.pinned (OpenSpec.ofChange fnExactIterSeekWrong)

/- THE SECOND FORM. 'bulk': how many values and letters a reading holds, each counted each time it is reached (what is shared counts as often as it is met; a slice's spare places count too). A statement '..UptoSaid' is the law's where the arguments, and the package variables that the reading takes, are together of bulk at most 1048576: NARROWER than '..Said'. Prove '..Said' where nothing that the law and all that it calls make is longer than what came in: it says more and counts as full. Else prove '..UptoSaid'. A law counts once. -/
mutual
def uptoBulk {H : Type} : DataW H → Nat
  | .lit (.string bytes) => bytes.length + 1
  | .lit _ => 1
  | .nil => 1
  | .ptr d => uptoBulk d + 1
  | .slice elems spare => uptoBulkAll elems + uptoBulkAll spare + 1
  | .agg parts => uptoBulkAll parts + 1
  | .iface _ d => uptoBulk d + 1
  | .map entries => uptoBulkEntries entries + 1
  | .held _ => 1
def uptoBulkAll {H : Type} : List (DataW H) → Nat
  | [] => 0
  | d :: r => uptoBulk d + uptoBulkAll r
def uptoBulkEntries {H : Type} : List (Lit × DataW H) → Nat
  | [] => 0
  | x :: r => uptoBulkEntry x + uptoBulkEntries r
def uptoBulkEntry {H : Type} : Lit × DataW H → Nat
  | (.string bytes, d) => bytes.length + uptoBulk d + 1
  | (_, d) => uptoBulk d + 1
 end
def uptoSmall : (H : Type) → List (DataW H) → Bool := fun _ ds => decide (uptoBulkAll ds ≤ 1048576)
def OpenSpec.upto (s : _root_.Go.ChangeSpec) : _root_.Go.OpenSpec := { _root_.Go.OpenSpec.ofChange s with cond := some uptoSmall }

/-- 'laws.FnMem', WHERE WHAT IT READS IS OF BULK AT MOST 1048576: true; the input reads as it did. -/
def fnMemUptoRow : OpenClaim := { program := "ytphfakdbgohhgaa", sum := "dc648375f3610e6d2b2c2a1fdc7b4d737016576c74b5163f1bd17d0eac26c061", func := "loop.example/g00950/laws.FnMem", spec := "fnMem", unfollowed := true, recurses := true, apart := false, narrowed := true }
def FnMemUptoSaid : Prop := fnMemUptoRow.holds Try.pinned (OpenSpec.upto fnMemSpec)

/-- 'laws.FnExactMemRange', WHERE WHAT IT READS IS OF BULK AT MOST 1048576: true; the input reads as it did. -/
def fnExactMemRangeUptoRow : OpenClaim := { program := "ytphfakdbgohhgaa", sum := "dc648375f3610e6d2b2c2a1fdc7b4d737016576c74b5163f1bd17d0eac26c061", func := "loop.example/g00950/laws.FnExactMemRange", spec := "fnExactMemRange", unfollowed := true, recurses := true, apart := false, narrowed := true }
def FnExactMemRangeUptoSaid : Prop := fnExactMemRangeUptoRow.holds Try.pinned (OpenSpec.upto fnExactMemRangeSpec)

/-- 'laws.FnExactIterOk', WHERE WHAT IT READS IS OF BULK AT MOST 1048576: true; the input reads as it did. -/
def fnExactIterOkUptoRow : OpenClaim := { program := "ytphfakdbgohhgaa", sum := "dc648375f3610e6d2b2c2a1fdc7b4d737016576c74b5163f1bd17d0eac26c061", func := "loop.example/g00950/laws.FnExactIterOk", spec := "fnExactIterOk", unfollowed := true, recurses := true, apart := false, narrowed := true }
def FnExactIterOkUptoSaid : Prop := fnExactIterOkUptoRow.holds Try.pinned (OpenSpec.upto fnExactIterOkSpec)

/-- 'laws.FnExactIterNew', WHERE WHAT IT READS IS OF BULK AT MOST 1048576: true; the input reads as it did. -/
def fnExactIterNewUptoRow : OpenClaim := { program := "ytphfakdbgohhgaa", sum := "dc648375f3610e6d2b2c2a1fdc7b4d737016576c74b5163f1bd17d0eac26c061", func := "loop.example/g00950/laws.FnExactIterNew", spec := "fnExactIterNew", unfollowed := true, recurses := true, apart := false, narrowed := true }
def FnExactIterNewUptoSaid : Prop := fnExactIterNewUptoRow.holds Try.pinned (OpenSpec.upto fnExactIterNewSpec)

/-- 'laws.FnExactIterNext', WHERE WHAT IT READS IS OF BULK AT MOST 1048576: true; the input reads as it did. -/
def fnExactIterNextUptoRow : OpenClaim := { program := "ytphfakdbgohhgaa", sum := "dc648375f3610e6d2b2c2a1fdc7b4d737016576c74b5163f1bd17d0eac26c061", func := "loop.example/g00950/laws.FnExactIterNext", spec := "fnExactIterNext", unfollowed := true, recurses := true, apart := false, narrowed := true }
def FnExactIterNextUptoSaid : Prop := fnExactIterNextUptoRow.holds Try.pinned (OpenSpec.upto fnExactIterNextSpec)

/-- 'laws.FnExactIterPrev', WHERE WHAT IT READS IS OF BULK AT MOST 1048576: true; the input reads as it did. -/
def fnExactIterPrevUptoRow : OpenClaim := { program := "ytphfakdbgohhgaa", sum := "dc648375f3610e6d2b2c2a1fdc7b4d737016576c74b5163f1bd17d0eac26c061", func := "loop.example/g00950/laws.FnExactIterPrev", spec := "fnExactIterPrev", unfollowed := true, recurses := true, apart := false, narrowed := true }
def FnExactIterPrevUptoSaid : Prop := fnExactIterPrevUptoRow.holds Try.pinned (OpenSpec.upto fnExactIterPrevSpec)

/-- 'laws.FnExactIterSeek', WHERE WHAT IT READS IS OF BULK AT MOST 1048576: true; the input reads as it did. -/
def fnExactIterSeekUptoRow : OpenClaim := { program := "ytphfakdbgohhgaa", sum := "dc648375f3610e6d2b2c2a1fdc7b4d737016576c74b5163f1bd17d0eac26c061", func := "loop.example/g00950/laws.FnExactIterSeek", spec := "fnExactIterSeek", unfollowed := true, recurses := true, apart := false, narrowed := true }
def FnExactIterSeekUptoSaid : Prop := fnExactIterSeekUptoRow.holds Try.pinned (OpenSpec.upto fnExactIterSeekSpec)

end Rows
end Go.Proofs.Ytphfakdbgohhgaa
