/-
  No cell of these rows narrows 'for every input' (looked for: loops, veiled, ifaces, maps, wideKeys, modest, calm, conditions, laid).
  DERIVED. THE GIVEN ROWS OF THIS SEAT. 4 by the template 'for every input the law returns true; each argument reads behind the call as it read before'; 0 by the template 'total and deterministic' (their statements: YtoggdlmgoaecdaaTotals.lean).
  GIVEN WITH THE SEED: the statements are not yours to turn. If you find one false, say at which input.
  Laid BY PROGRAM, IN A SANDBOX (cutbox-rows.mjs): the forced cells as the released guide's own fill.sh prints them over the translation a560265eed64a306… (all of the seat's roots in one cut). By AI agents, Wed Nov 11 2026. No macro, syntax, notation, axiom, sorry.
-/
import Derived.Test.YtoggdlmgoaecdaaChecked
import GoSem.Claim
import GoSem.ClaimJoined
import GoSem.ClaimMapViews
import Derived.JoinedTies
import Derived.KernelRfl
namespace Go.Proofs.Ytoggdlmgoaecdaa
/- THE CELL 'sum', in the pinned program and in every row, IS THE sha256 OF THE DUMP (.gsa) THAT YtoggdlmgoaecdaaProg.lean LOADS. Nothing in Lean hashes anything: it is a label: what it is worth is what the hold of that sum in a sandbox is worth. -/
noncomputable def Try.pinned : Pinned := { name := "ytoggdlmgoaecdaa", sum := "a560265eed64a3066cd4ac61e9c967e79d37b2eb8a6a1cfb786ca97cfc06a92d", checked := Try.checked }
namespace Rows
def none {H : Type} : Left H := { results := [], args := [] }

/-- 'laws.FnCha': WHATEVER THE INPUT: true; the input reads as it did. -/
def fnChaSpec : ChangeSpec := { name := "fnCha", fn := fun _ => fun
  | [d] => { results := [.lit (.bool true)], args := [d] }
  | _ => none }
def fnChaRow : OpenClaim := { program := "ytoggdlmgoaecdaa", sum := "a560265eed64a3066cd4ac61e9c967e79d37b2eb8a6a1cfb786ca97cfc06a92d", func := "loop.example/g00950/laws.FnCha", spec := "fnCha", apart := false }
def FnChaSaid : Prop := fnChaRow.holds Try.pinned (OpenSpec.ofChange fnChaSpec)

/-- ITS FALSE NEIGHBOUR: 'it returns false'. Refute it at one input. -/
def fnChaWrong : ChangeSpec := { name := "fnCha", fn := fun _ => fun
  | [d] => { results := [.lit (.bool false)], args := [d] }
  | _ => none }
def FnChaWrongFalsely : Prop := fnChaRow.holds Try.pinned (OpenSpec.ofChange fnChaWrong)

/-- 'laws.FnExactChaBlock': WHATEVER THE INPUT: true; the input reads as it did. -/
def fnExactChaBlockSpec : ChangeSpec := { name := "fnExactChaBlock", fn := fun _ => fun
  | [d1, d2, d3] => { results := [.lit (.bool true)], args := [d1, d2, d3] }
  | _ => none }
def fnExactChaBlockRow : OpenClaim := { program := "ytoggdlmgoaecdaa", sum := "a560265eed64a3066cd4ac61e9c967e79d37b2eb8a6a1cfb786ca97cfc06a92d", func := "loop.example/g00950/laws.FnExactChaBlock", spec := "fnExactChaBlock", apart := false }
def FnExactChaBlockSaid : Prop := fnExactChaBlockRow.holds Try.pinned (OpenSpec.ofChange fnExactChaBlockSpec)

/-- ITS FALSE NEIGHBOUR: 'it returns false'. Refute it at one input. -/
def fnExactChaBlockWrong : ChangeSpec := { name := "fnExactChaBlock", fn := fun _ => fun
  | [d1, d2, d3] => { results := [.lit (.bool false)], args := [d1, d2, d3] }
  | _ => none }
def FnExactChaBlockWrongFalsely : Prop := fnExactChaBlockRow.holds Try.pinned (OpenSpec.ofChange fnExactChaBlockWrong)

/-- 'laws.FnExactChaStream': WHATEVER THE INPUT: true; the input reads as it did. -/
def fnExactChaStreamSpec : ChangeSpec := { name := "fnExactChaStream", fn := fun _ => fun
  | [d1, d2, d3, d4] => { results := [.lit (.bool true)], args := [d1, d2, d3, d4] }
  | _ => none }
def fnExactChaStreamRow : OpenClaim := { program := "ytoggdlmgoaecdaa", sum := "a560265eed64a3066cd4ac61e9c967e79d37b2eb8a6a1cfb786ca97cfc06a92d", func := "loop.example/g00950/laws.FnExactChaStream", spec := "fnExactChaStream", apart := false }
def FnExactChaStreamSaid : Prop := fnExactChaStreamRow.holds Try.pinned (OpenSpec.ofChange fnExactChaStreamSpec)

/-- ITS FALSE NEIGHBOUR: 'it returns false'. Refute it at one input. -/
def fnExactChaStreamWrong : ChangeSpec := { name := "fnExactChaStream", fn := fun _ => fun
  | [d1, d2, d3, d4] => { results := [.lit (.bool false)], args := [d1, d2, d3, d4] }
  | _ => none }
def FnExactChaStreamWrongFalsely : Prop := fnExactChaStreamRow.holds Try.pinned (OpenSpec.ofChange fnExactChaStreamWrong)

/-- 'laws.FnExactNonceOf': WHATEVER THE INPUT: true; the input reads as it did. -/
def fnExactNonceOfSpec : ChangeSpec := { name := "fnExactNonceOf", fn := fun _ => fun
  | [d1, d2] => { results := [.lit (.bool true)], args := [d1, d2] }
  | _ => none }
def fnExactNonceOfRow : OpenClaim := { program := "ytoggdlmgoaecdaa", sum := "a560265eed64a3066cd4ac61e9c967e79d37b2eb8a6a1cfb786ca97cfc06a92d", func := "loop.example/g00950/laws.FnExactNonceOf", spec := "fnExactNonceOf", apart := false }
def FnExactNonceOfSaid : Prop := fnExactNonceOfRow.holds Try.pinned (OpenSpec.ofChange fnExactNonceOfSpec)

/-- ITS FALSE NEIGHBOUR: 'it returns false'. Refute it at one input. -/
def fnExactNonceOfWrong : ChangeSpec := { name := "fnExactNonceOf", fn := fun _ => fun
  | [d1, d2] => { results := [.lit (.bool false)], args := [d1, d2] }
  | _ => none }
def FnExactNonceOfWrongFalsely : Prop := fnExactNonceOfRow.holds Try.pinned (OpenSpec.ofChange fnExactNonceOfWrong)

/- THE SECOND FORM. 'bulk': how many values and letters a reading holds, each counted each time it is reached (what is shared counts as often as it is met; a slice's spare places count too). A statement '..UptoSaid' is the law's where the arguments, and the package variables that the reading takes, are together of bulk at most 1048576: NARROWER than '..Said'. Prove '..Said' where nothing that the law and all that it calls make is longer than what came in: it says more and counts as full. Else prove '..UptoSaid'. A law counts once. -/
mutual
def uptoBulk {H : Type} : DataW H → Nat
  | .lit (.string bytes) => bytes.length + 1
  | .lit _ => 1
  | .nil => 1
  | .ptr d => uptoBulk d + 1
  | .slice elems spare => uptoBulkAll elems + uptoBulkAll spare + 1
  | .agg parts => uptoBulkAll parts + 1
  | .iface _ d => uptoBulk d + 1
  | .map entries => uptoBulkEntries entries + 1
  | .held _ => 1
def uptoBulkAll {H : Type} : List (DataW H) → Nat
  | [] => 0
  | d :: r => uptoBulk d + uptoBulkAll r
def uptoBulkEntries {H : Type} : List (Lit × DataW H) → Nat
  | [] => 0
  | x :: r => uptoBulkEntry x + uptoBulkEntries r
def uptoBulkEntry {H : Type} : Lit × DataW H → Nat
  | (.string bytes, d) => bytes.length + uptoBulk d + 1
  | (_, d) => uptoBulk d + 1
 end
def uptoSmall : (H : Type) → List (DataW H) → Bool := fun _ ds => decide (uptoBulkAll ds ≤ 1048576)
def OpenSpec.upto (s : _root_.Go.ChangeSpec) : _root_.Go.OpenSpec := { _root_.Go.OpenSpec.ofChange s with cond := some uptoSmall }

/-- 'laws.FnCha', WHERE WHAT IT READS IS OF BULK AT MOST 1048576: true; the input reads as it did. -/
def fnChaUptoRow : OpenClaim := { program := "ytoggdlmgoaecdaa", sum := "a560265eed64a3066cd4ac61e9c967e79d37b2eb8a6a1cfb786ca97cfc06a92d", func := "loop.example/g00950/laws.FnCha", spec := "fnCha", apart := false, narrowed := true }
def FnChaUptoSaid : Prop := fnChaUptoRow.holds Try.pinned (OpenSpec.upto fnChaSpec)

/-- 'laws.FnExactChaBlock', WHERE WHAT IT READS IS OF BULK AT MOST 1048576: true; the input reads as it did. -/
def fnExactChaBlockUptoRow : OpenClaim := { program := "ytoggdlmgoaecdaa", sum := "a560265eed64a3066cd4ac61e9c967e79d37b2eb8a6a1cfb786ca97cfc06a92d", func := "loop.example/g00950/laws.FnExactChaBlock", spec := "fnExactChaBlock", apart := false, narrowed := true }
def FnExactChaBlockUptoSaid : Prop := fnExactChaBlockUptoRow.holds Try.pinned (OpenSpec.upto fnExactChaBlockSpec)

/-- 'laws.FnExactChaStream', WHERE WHAT IT READS IS OF BULK AT MOST 1048576: true; the input reads as it did. -/
def fnExactChaStreamUptoRow : OpenClaim := { program := "ytoggdlmgoaecdaa", sum := "a560265eed64a3066cd4ac61e9c967e79d37b2eb8a6a1cfb786ca97cfc06a92d", func := "loop.example/g00950/laws.FnExactChaStream", spec := "fnExactChaStream", apart := false, narrowed := true }
def FnExactChaStreamUptoSaid : Prop := fnExactChaStreamUptoRow.holds Try.pinned (OpenSpec.upto fnExactChaStreamSpec)

/-- 'laws.FnExactNonceOf', WHERE WHAT IT READS IS OF BULK AT MOST 1048576: true; the input reads as it did. -/
def fnExactNonceOfUptoRow : OpenClaim := { program := "ytoggdlmgoaecdaa", sum := "a560265eed64a3066cd4ac61e9c967e79d37b2eb8a6a1cfb786ca97cfc06a92d", func := "loop.example/g00950/laws.FnExactNonceOf", spec := "fnExactNonceOf", apart := false, narrowed := true }
def FnExactNonceOfUptoSaid : Prop := fnExactNonceOfUptoRow.holds Try.pinned (OpenSpec.upto fnExactNonceOfSpec)

end Rows
end Go.Proofs.Ytoggdlmgoaecdaa
