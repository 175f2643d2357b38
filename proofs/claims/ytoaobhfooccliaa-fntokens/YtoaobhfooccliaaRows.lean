/-
  No cell of these rows narrows 'for every input' (looked for: loops, veiled, ifaces, maps, wideKeys, modest, calm, conditions, laid).
  DERIVED. THE GIVEN ROWS OF THIS SEAT. 3 by the template 'for every input the law returns true; each argument reads behind the call as it read before'; 0 by the template 'total and deterministic' (their statements: YtoaobhfooccliaaTotals.lean).
  GIVEN WITH THE SEED: the statements are not yours to turn. If you find one false, say at which input.
  Laid BY PROGRAM, IN A SANDBOX (cutbox-rows.mjs): the forced cells as the released guide's own fill.sh prints them over the translation dce65af2c324c3a1… (all of the seat's roots in one cut). By AI agents, Wed Nov 11 2026. No macro, syntax, notation, axiom, sorry.
-/
import Derived.Test.YtoaobhfooccliaaChecked
import GoSem.Claim
import GoSem.ClaimJoined
import GoSem.ClaimMapViews
import Derived.JoinedTies
import Derived.KernelRfl
namespace Go.Proofs.Ytoaobhfooccliaa
/- THE CELL 'sum', in the pinned program and in every row, IS THE sha256 OF THE DUMP (.gsa) THAT YtoaobhfooccliaaProg.lean LOADS. Nothing in Lean hashes anything: it is a label: what it is worth is what the hold of that sum in a sandbox is worth. -/
noncomputable def Try.pinned : Pinned := { name := "ytoaobhfooccliaa", sum := "dce65af2c324c3a1224716874a23de18ee1555357815dc69c3e09c02e03bbea1", checked := Try.checked }
namespace Rows
def none {H : Type} : Left H := { results := [], args := [] }

/-- 'laws.FnTokens': WHATEVER THE INPUT: true; the input reads as it did. -/
def fnTokensSpec : ChangeSpec := { name := "fnTokens", fn := fun _ => fun
  | [d] => { results := [.lit (.bool true)], args := [d] }
  | _ => none }
def fnTokensRow : OpenClaim := { program := "ytoaobhfooccliaa", sum := "dce65af2c324c3a1224716874a23de18ee1555357815dc69c3e09c02e03bbea1", func := "loop.example/g00950/laws.FnTokens", spec := "fnTokens", unfollowed := true, recurses := true, apart := false }
def FnTokensSaid : Prop := fnTokensRow.holds Try.pinned (OpenSpec.ofChange fnTokensSpec)

/-- ITS FALSE NEIGHBOUR: 'it returns false'. Refute it at one input. -/
def fnTokensWrong : ChangeSpec := { name := "fnTokens", fn := fun _ => fun
  | [d] => { results := [.lit (.bool false)], args := [d] }
  | _ => none }
def FnTokensWrongFalsely : Prop := fnTokensRow.holds Try.pinned (OpenSpec.ofChange fnTokensWrong)

/-- 'laws.FnExactMintToken': WHATEVER THE INPUT: true; the input reads as it did. -/
def fnExactMintTokenSpec : ChangeSpec := { name := "fnExactMintToken", fn := fun _ => fun
  | [d1, d2, d3] => { results := [.lit (.bool true)], args := [d1, d2, d3] }
  | _ => none }
def fnExactMintTokenRow : OpenClaim := { program := "ytoaobhfooccliaa", sum := "dce65af2c324c3a1224716874a23de18ee1555357815dc69c3e09c02e03bbea1", func := "loop.example/g00950/laws.FnExactMintToken", spec := "fnExactMintToken", unfollowed := true, recurses := true, apart := false }
def FnExactMintTokenSaid : Prop := fnExactMintTokenRow.holds Try.pinned (OpenSpec.ofChange fnExactMintTokenSpec)

/-- ITS FALSE NEIGHBOUR: 'it returns false'. Refute it at one input. -/
def fnExactMintTokenWrong : ChangeSpec := { name := "fnExactMintToken", fn := fun _ => fun
  | [d1, d2, d3] => { results := [.lit (.bool false)], args := [d1, d2, d3] }
  | _ => none }
def FnExactMintTokenWrongFalsely : Prop := fnExactMintTokenRow.holds Try.pinned (OpenSpec.ofChange fnExactMintTokenWrong)

/-- 'laws.FnExactReadToken': WHATEVER THE INPUT: true; the input reads as it did. -/
def fnExactReadTokenSpec : ChangeSpec := { name := "fnExactReadToken", fn := fun _ => fun
  | [d1, d2] => { results := [.lit (.bool true)], args := [d1, d2] }
  | _ => none }
def fnExactReadTokenRow : OpenClaim := { program := "ytoaobhfooccliaa", sum := "dce65af2c324c3a1224716874a23de18ee1555357815dc69c3e09c02e03bbea1", func := "loop.example/g00950/laws.FnExactReadToken", spec := "fnExactReadToken", unfollowed := true, recurses := true, apart := false }
def FnExactReadTokenSaid : Prop := fnExactReadTokenRow.holds Try.pinned (OpenSpec.ofChange fnExactReadTokenSpec)

/-- ITS FALSE NEIGHBOUR: 'it returns false'. Refute it at one input. -/
def fnExactReadTokenWrong : ChangeSpec := { name := "fnExactReadToken", fn := fun _ => fun
  | [d1, d2] => { results := [.lit (.bool false)], args := [d1, d2] }
  | _ => none }
def FnExactReadTokenWrongFalsely : Prop := fnExactReadTokenRow.holds Try.pinned (OpenSpec.ofChange fnExactReadTokenWrong)

/- THE SECOND FORM. 'bulk': how many values and letters a reading holds, each counted each time it is reached (what is shared counts as often as it is met; a slice's spare places count too). A statement '..UptoSaid' is the law's where the arguments, and the package variables that the reading takes, are together of bulk at most 1048576: NARROWER than '..Said'. Prove '..Said' where nothing that the law and all that it calls make is longer than what came in: it says more and counts as full. Else prove '..UptoSaid'. A law counts once. -/
mutual
def uptoBulk {H : Type} : DataW H → Nat
  | .lit (.string bytes) => bytes.length + 1
  | .lit _ => 1
  | .nil => 1
  | .ptr d => uptoBulk d + 1
  | .slice elems spare => uptoBulkAll elems + uptoBulkAll spare + 1
  | .agg parts => uptoBulkAll parts + 1
  | .iface _ d => uptoBulk d + 1
  | .map entries => uptoBulkEntries entries + 1
  | .held _ => 1
def uptoBulkAll {H : Type} : List (DataW H) → Nat
  | [] => 0
  | d :: r => uptoBulk d + uptoBulkAll r
def uptoBulkEntries {H : Type} : List (Lit × DataW H) → Nat
  | [] => 0
  | x :: r => uptoBulkEntry x + uptoBulkEntries r
def uptoBulkEntry {H : Type} : Lit × DataW H → Nat
  | (.string bytes, d) => bytes.length + uptoBulk d + 1
  | (_, d) => uptoBulk d + 1
 end
def uptoSmall : (H : Type) → List (DataW H) → Bool := fun _ ds => decide (uptoBulkAll ds ≤ 1048576)
def OpenSpec.upto (s : _root_.Go.ChangeSpec) : _root_.Go.OpenSpec := { _root_.Go.OpenSpec.ofChange s with cond := some uptoSmall }

/-- 'laws.FnTokens', WHERE WHAT IT READS IS OF BULK AT MOST 1048576: true; the input reads as it did. -/
def fnTokensUptoRow : OpenClaim := { program := "ytoaobhfooccliaa", sum := "dce65af2c324c3a1224716874a23de18ee1555357815dc69c3e09c02e03bbea1", func := "loop.example/g00950/laws.FnTokens", spec := "fnTokens", unfollowed := true, recurses := true, apart := false, narrowed := true }
def FnTokensUptoSaid : Prop := fnTokensUptoRow.holds Try.pinned (OpenSpec.upto fnTokensSpec)

/-- 'laws.FnExactMintToken', WHERE WHAT IT READS IS OF BULK AT MOST 1048576: true; the input reads as it did. -/
def fnExactMintTokenUptoRow : OpenClaim := { program := "ytoaobhfooccliaa", sum := "dce65af2c324c3a1224716874a23de18ee1555357815dc69c3e09c02e03bbea1", func := "loop.example/g00950/laws.FnExactMintToken", spec := "fnExactMintToken", unfollowed := true, recurses := true, apart := false, narrowed := true }
def FnExactMintTokenUptoSaid : Prop := fnExactMintTokenUptoRow.holds Try.pinned (OpenSpec.upto fnExactMintTokenSpec)

/-- 'laws.FnExactReadToken', WHERE WHAT IT READS IS OF BULK AT MOST 1048576: true; the input reads as it did. -/
def fnExactReadTokenUptoRow : OpenClaim := { program := "ytoaobhfooccliaa", sum := "dce65af2c324c3a1224716874a23de18ee1555357815dc69c3e09c02e03bbea1", func := "loop.example/g00950/laws.FnExactReadToken", spec := "fnExactReadToken", unfollowed := true, recurses := true, apart := false, narrowed := true }
def FnExactReadTokenUptoSaid : Prop := fnExactReadTokenUptoRow.holds Try.pinned (OpenSpec.upto fnExactReadTokenSpec)

end Rows
end Go.Proofs.Ytoaobhfooccliaa
