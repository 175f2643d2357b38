/-
  DERIVED. GIVEN WITH THE SEED: THE CARDS: each row of YtdlkgpobjacgeaaDoorRows.lean that lists a variable, with what it lists TIED to the program's text (the seventh form; the later family's looks); each row that meets fmt, with fmt's text TOLD by the authors' own Lean function (tested against real Go, not proved from fmt's source: count such statements apart). THE CARD IS WHAT COUNTS. Prove the row's statement (the work); the ties are given (YtdlkgpobjacgeaaDoorTie.lean); close each card by the builder's one call (the guide's Derived/Test/ToyasCard.lean, 'card_holds'). Laid BY PROGRAM, IN A SANDBOX (cutbox-door.mjs). By AI agents, Wed Nov 11 2026. No macro, syntax, notation, axiom, sorry.
-/
import Derived.Test.YtdlkgpobjacgeaaDoorRows
import GoSem.ClaimSeven
namespace Go.Proofs.YtdlkgpobjacgeaaDoor
namespace Rows

/-- THE TIED CARD OF 'laws.FnExactTableOf'. -/
def fnExactTableOfCard : Claim7 := { stood := { row := fnExactTableOfRow, standIns := [], harness := (true, "9e237475b7084ee1fedd01bb896aedb94f9ea34688cb47ff911d7aabad385627"), looks := false }, kinds := [], alts := [], laidByText := true, laidKinds := [.data], laidTests := true, laidLooks := .later }
def FnExactTableOfCardSaid : Prop := Claim7.holds Tryd.pinned (.plain (OpenSpec.ofChange fnExactTableOfSpec)) fnExactTableOfCard

/-- THE TIED CARD OF 'laws.FnExactTableEnts'. -/
def fnExactTableEntsCard : Claim7 := { stood := { row := fnExactTableEntsRow, standIns := [], harness := (true, "9e237475b7084ee1fedd01bb896aedb94f9ea34688cb47ff911d7aabad385627"), looks := false }, kinds := [], alts := [], laidByText := true, laidKinds := [.data], laidTests := true, laidLooks := .later }
def FnExactTableEntsCardSaid : Prop := Claim7.holds Tryd.pinned (.plain (OpenSpec.ofChange fnExactTableEntsSpec)) fnExactTableEntsCard

/-- THE TIED CARD OF 'laws.FnExactShowTable'. -/
def fnExactShowTableCard : Claim7 := { stood := { row := fnExactShowTableRow, standIns := [], harness := (true, "9e237475b7084ee1fedd01bb896aedb94f9ea34688cb47ff911d7aabad385627"), looks := false }, kinds := [], alts := [], laidByText := true, laidKinds := [.data], laidTests := true, laidLooks := .later }
def FnExactShowTableCardSaid : Prop := Claim7.holds Tryd.pinned (.plain (OpenSpec.ofChange fnExactShowTableSpec)) fnExactShowTableCard

/-- THE TIED CARD OF 'laws.FnExactReadTable'. -/
def fnExactReadTableCard : Claim7 := { stood := { row := fnExactReadTableRow, standIns := [], harness := (true, "9e237475b7084ee1fedd01bb896aedb94f9ea34688cb47ff911d7aabad385627"), looks := false }, kinds := [], alts := [], laidByText := true, laidKinds := [.data], laidTests := true, laidLooks := .later }
def FnExactReadTableCardSaid : Prop := Claim7.holds Tryd.pinned (.plain (OpenSpec.ofChange fnExactReadTableSpec)) fnExactReadTableCard

/-- THE SECOND FORM's CARD OF 'laws.FnExactTableOf'. -/
def fnExactTableOfUptoCard : Claim7 := { stood := { row := fnExactTableOfUptoRow, standIns := [], harness := (true, "9e237475b7084ee1fedd01bb896aedb94f9ea34688cb47ff911d7aabad385627"), looks := false }, kinds := [], alts := [], laidByText := true, laidKinds := [.data], laidTests := true, laidLooks := .later }
def FnExactTableOfUptoCardSaid : Prop := Claim7.holds Tryd.pinned (.plain (OpenSpec.upto fnExactTableOfSpec)) fnExactTableOfUptoCard

/-- THE SECOND FORM's CARD OF 'laws.FnExactTableEnts'. -/
def fnExactTableEntsUptoCard : Claim7 := { stood := { row := fnExactTableEntsUptoRow, standIns := [], harness := (true, "9e237475b7084ee1fedd01bb896aedb94f9ea34688cb47ff911d7aabad385627"), looks := false }, kinds := [], alts := [], laidByText := true, laidKinds := [.data], laidTests := true, laidLooks := .later }
def FnExactTableEntsUptoCardSaid : Prop := Claim7.holds Tryd.pinned (.plain (OpenSpec.upto fnExactTableEntsSpec)) fnExactTableEntsUptoCard

/-- THE SECOND FORM's CARD OF 'laws.FnExactShowTable'. -/
def fnExactShowTableUptoCard : Claim7 := { stood := { row := fnExactShowTableUptoRow, standIns := [], harness := (true, "9e237475b7084ee1fedd01bb896aedb94f9ea34688cb47ff911d7aabad385627"), looks := false }, kinds := [], alts := [], laidByText := true, laidKinds := [.data], laidTests := true, laidLooks := .later }
def FnExactShowTableUptoCardSaid : Prop := Claim7.holds Tryd.pinned (.plain (OpenSpec.upto fnExactShowTableSpec)) fnExactShowTableUptoCard

/-- THE SECOND FORM's CARD OF 'laws.FnExactReadTable'. -/
def fnExactReadTableUptoCard : Claim7 := { stood := { row := fnExactReadTableUptoRow, standIns := [], harness := (true, "9e237475b7084ee1fedd01bb896aedb94f9ea34688cb47ff911d7aabad385627"), looks := false }, kinds := [], alts := [], laidByText := true, laidKinds := [.data], laidTests := true, laidLooks := .later }
def FnExactReadTableUptoCardSaid : Prop := Claim7.holds Tryd.pinned (.plain (OpenSpec.upto fnExactReadTableSpec)) fnExactReadTableUptoCard
end Rows
end Go.Proofs.YtdlkgpobjacgeaaDoor
