/-
  DERIVED. GIVEN WITH THE SEED: THE CARDS: each row of YtncfodifcgjicaaDoorRows.lean that lists a variable, with what it lists TIED to the program's text (the seventh form; the later family's looks); each row that meets fmt, with fmt's text TOLD by the authors' own Lean function (tested against real Go, not proved from fmt's source: count such statements apart). THE CARD IS WHAT COUNTS. Prove the row's statement (the work); the ties are given (YtncfodifcgjicaaDoorTie.lean); close each card by the builder's one call (the guide's Derived/Test/ToyasCard.lean, 'card_holds'). Laid BY PROGRAM, IN A SANDBOX (cutbox-door.mjs). By AI agents, Wed Nov 11 2026. No macro, syntax, notation, axiom, sorry.
-/
import Derived.Test.YtncfodifcgjicaaDoorRows
import GoSem.ClaimSeven
namespace Go.Proofs.YtncfodifcgjicaaDoor
namespace Rows

/-- THE TIED CARD OF 'laws.FnBloom'. -/
def fnBloomCard : Claim7 := { stood := { row := fnBloomRow, standIns := [], harness := (true, "8d8dea2898a9297567b2b7942d9e9bde04fc149dfcffc32b0e80f15a6b2fc417"), looks := false }, kinds := [], alts := [], laidByText := true, laidKinds := [.data], laidTests := true, laidLooks := .later }
def FnBloomCardSaid : Prop := Claim7.holds Tryd.pinned (.plain (OpenSpec.ofChange fnBloomSpec)) fnBloomCard

/-- THE TIED CARD OF 'laws.FnExactBloomOf'. -/
def fnExactBloomOfCard : Claim7 := { stood := { row := fnExactBloomOfRow, standIns := [], harness := (true, "8d8dea2898a9297567b2b7942d9e9bde04fc149dfcffc32b0e80f15a6b2fc417"), looks := false }, kinds := [], alts := [], laidByText := true, laidKinds := [.data], laidTests := true, laidLooks := .later }
def FnExactBloomOfCardSaid : Prop := Claim7.holds Tryd.pinned (.plain (OpenSpec.ofChange fnExactBloomOfSpec)) fnExactBloomOfCard

/-- THE TIED CARD OF 'laws.FnExactBloomMay'. -/
def fnExactBloomMayCard : Claim7 := { stood := { row := fnExactBloomMayRow, standIns := [], harness := (true, "8d8dea2898a9297567b2b7942d9e9bde04fc149dfcffc32b0e80f15a6b2fc417"), looks := false }, kinds := [], alts := [], laidByText := true, laidKinds := [.data], laidTests := true, laidLooks := .later }
def FnExactBloomMayCardSaid : Prop := Claim7.holds Tryd.pinned (.plain (OpenSpec.ofChange fnExactBloomMaySpec)) fnExactBloomMayCard

/-- THE SECOND FORM's CARD OF 'laws.FnBloom'. -/
def fnBloomUptoCard : Claim7 := { stood := { row := fnBloomUptoRow, standIns := [], harness := (true, "8d8dea2898a9297567b2b7942d9e9bde04fc149dfcffc32b0e80f15a6b2fc417"), looks := false }, kinds := [], alts := [], laidByText := true, laidKinds := [.data], laidTests := true, laidLooks := .later }
def FnBloomUptoCardSaid : Prop := Claim7.holds Tryd.pinned (.plain (OpenSpec.upto fnBloomSpec)) fnBloomUptoCard

/-- THE SECOND FORM's CARD OF 'laws.FnExactBloomOf'. -/
def fnExactBloomOfUptoCard : Claim7 := { stood := { row := fnExactBloomOfUptoRow, standIns := [], harness := (true, "8d8dea2898a9297567b2b7942d9e9bde04fc149dfcffc32b0e80f15a6b2fc417"), looks := false }, kinds := [], alts := [], laidByText := true, laidKinds := [.data], laidTests := true, laidLooks := .later }
def FnExactBloomOfUptoCardSaid : Prop := Claim7.holds Tryd.pinned (.plain (OpenSpec.upto fnExactBloomOfSpec)) fnExactBloomOfUptoCard

/-- THE SECOND FORM's CARD OF 'laws.FnExactBloomMay'. -/
def fnExactBloomMayUptoCard : Claim7 := { stood := { row := fnExactBloomMayUptoRow, standIns := [], harness := (true, "8d8dea2898a9297567b2b7942d9e9bde04fc149dfcffc32b0e80f15a6b2fc417"), looks := false }, kinds := [], alts := [], laidByText := true, laidKinds := [.data], laidTests := true, laidLooks := .later }
def FnExactBloomMayUptoCardSaid : Prop := Claim7.holds Tryd.pinned (.plain (OpenSpec.upto fnExactBloomMaySpec)) fnExactBloomMayUptoCard
end Rows
end Go.Proofs.YtncfodifcgjicaaDoor
