/-
  DERIVED. GIVEN WITH THE SEED: THE CARDS: each row of YtdlkgpobjacgeaaGreatDoorRows.lean that lists a variable, with what it lists TIED to the program's text (the seventh form; the later family's looks); each row that meets fmt, with fmt's text TOLD by the authors' own Lean function (tested against real Go, not proved from fmt's source: count such statements apart). THE CARD IS WHAT COUNTS. Prove the row's statement (the work); the ties are given (YtdlkgpobjacgeaaGreatDoorTie.lean); close each card by the builder's one call (the guide's Derived/Test/ToyasCard.lean, 'card_holds'). Laid BY PROGRAM, IN A SANDBOX (cutbox-door.mjs). By AI agents, Wed Nov 11 2026. No macro, syntax, notation, axiom, sorry.
-/
import Derived.Test.YtdlkgpobjacgeaaGreatDoorRows
import GoSem.ClaimSeven
namespace Go.Proofs.YtdlkgpobjacgeaaGreatDoor
namespace Rows

/-- THE TIED CARD OF 'laws.FnTables'. -/
def fnTablesCard : Claim7 := { stood := { row := fnTablesRow, standIns := [], harness := (true, "001729dc7625ecf4e9fc69f8e98f4030a2d9c19fefc52a0bce2a87c99bdb6bd7"), looks := false }, kinds := [], alts := [], laidByText := true, laidKinds := [.data], laidTests := true, laidLooks := .later }
def FnTablesCardSaid : Prop := Claim7.holds Tryz.pinned (.plain (OpenSpec.ofChange fnTablesSpec)) fnTablesCard

/-- THE TIED CARD OF 'laws.FnExactTableGet'. -/
def fnExactTableGetCard : Claim7 := { stood := { row := fnExactTableGetRow, standIns := [], harness := (true, "001729dc7625ecf4e9fc69f8e98f4030a2d9c19fefc52a0bce2a87c99bdb6bd7"), looks := false }, kinds := [], alts := [], laidByText := true, laidKinds := [.data], laidTests := true, laidLooks := .later }
def FnExactTableGetCardSaid : Prop := Claim7.holds Tryz.pinned (.plain (OpenSpec.ofChange fnExactTableGetSpec)) fnExactTableGetCard

/-- THE SECOND FORM's CARD OF 'laws.FnTables'. -/
def fnTablesUptoCard : Claim7 := { stood := { row := fnTablesUptoRow, standIns := [], harness := (true, "001729dc7625ecf4e9fc69f8e98f4030a2d9c19fefc52a0bce2a87c99bdb6bd7"), looks := false }, kinds := [], alts := [], laidByText := true, laidKinds := [.data], laidTests := true, laidLooks := .later }
def FnTablesUptoCardSaid : Prop := Claim7.holds Tryz.pinned (.plain (OpenSpec.upto fnTablesSpec)) fnTablesUptoCard

/-- THE SECOND FORM's CARD OF 'laws.FnExactTableGet'. -/
def fnExactTableGetUptoCard : Claim7 := { stood := { row := fnExactTableGetUptoRow, standIns := [], harness := (true, "001729dc7625ecf4e9fc69f8e98f4030a2d9c19fefc52a0bce2a87c99bdb6bd7"), looks := false }, kinds := [], alts := [], laidByText := true, laidKinds := [.data], laidTests := true, laidLooks := .later }
def FnExactTableGetUptoCardSaid : Prop := Claim7.holds Tryz.pinned (.plain (OpenSpec.upto fnExactTableGetSpec)) fnExactTableGetUptoCard
end Rows
end Go.Proofs.YtdlkgpobjacgeaaGreatDoor
