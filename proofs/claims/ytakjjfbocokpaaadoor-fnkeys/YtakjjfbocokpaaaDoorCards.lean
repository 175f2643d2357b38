/-
  DERIVED. GIVEN WITH THE SEED: THE CARDS: each row of YtakjjfbocokpaaaDoorRows.lean that lists a variable, with what it lists TIED to the program's text (the seventh form; the later family's looks); each row that meets fmt, with fmt's text TOLD by the authors' own Lean function (tested against real Go, not proved from fmt's source: count such statements apart). THE CARD IS WHAT COUNTS. Prove the row's statement (the work); the ties are given (YtakjjfbocokpaaaDoorTie.lean); close each card by the builder's one call (the guide's Derived/Test/ToyasCard.lean, 'card_holds'). Laid BY PROGRAM, IN A SANDBOX (cutbox-door.mjs). By AI agents, Wed Nov 11 2026. No macro, syntax, notation, axiom, sorry.
-/
import Derived.Test.YtakjjfbocokpaaaDoorRows
import GoSem.ClaimSeven
namespace Go.Proofs.YtakjjfbocokpaaaDoor
namespace Rows

/-- THE TIED CARD OF 'laws.FnKeys'. -/
def fnKeysCard : Claim7 := { stood := { row := fnKeysRow, standIns := [], harness := (true, "cf930ee1819e328982a754f63032839eb1a8f127396ac8a4bd68d849ecc7d0ed"), looks := true }, kinds := [], alts := [], laidByText := true, laidKinds := [.data], laidTests := true, laidLooks := .later }
def FnKeysCardSaid : Prop := Claim7.holds Tryd.pinned (.plain (OpenSpec.ofChange fnKeysSpec)) fnKeysCard

/-- THE TIED CARD OF 'laws.FnRows'. -/
def fnRowsCard : Claim7 := { stood := { row := fnRowsRow, standIns := [], harness := (true, "cf930ee1819e328982a754f63032839eb1a8f127396ac8a4bd68d849ecc7d0ed"), looks := true }, kinds := [], alts := [], laidByText := true, laidKinds := [.data], laidTests := true, laidLooks := .later }
def FnRowsCardSaid : Prop := Claim7.holds Tryd.pinned (.plain (OpenSpec.ofChange fnRowsSpec)) fnRowsCard

/-- THE TIED CARD OF 'laws.FnSealedFiles'. -/
def fnSealedFilesCard : Claim7 := { stood := { row := fnSealedFilesRow, standIns := [], harness := (true, "cf930ee1819e328982a754f63032839eb1a8f127396ac8a4bd68d849ecc7d0ed"), looks := true }, kinds := [], alts := [], laidByText := true, laidKinds := [.data, .sentinel], laidTests := true, laidLooks := .later }
def FnSealedFilesCardSaid : Prop := Claim7.holds Tryd.pinned (.plain (OpenSpec.ofChange fnSealedFilesSpec)) fnSealedFilesCard

/-- THE TIED CARD OF 'laws.FnExactWrap'. -/
def fnExactWrapCard : Claim7 := { stood := { row := fnExactWrapRow, standIns := [], harness := (true, "cf930ee1819e328982a754f63032839eb1a8f127396ac8a4bd68d849ecc7d0ed"), looks := true }, kinds := [], alts := [], laidByText := true, laidKinds := [.data], laidTests := true, laidLooks := .later }
def FnExactWrapCardSaid : Prop := Claim7.holds Tryd.pinned (.plain (OpenSpec.ofChange fnExactWrapSpec)) fnExactWrapCard

/-- THE TIED CARD OF 'laws.FnExactUnwrap'. -/
def fnExactUnwrapCard : Claim7 := { stood := { row := fnExactUnwrapRow, standIns := [], harness := (true, "cf930ee1819e328982a754f63032839eb1a8f127396ac8a4bd68d849ecc7d0ed"), looks := true }, kinds := [], alts := [], laidByText := true, laidKinds := [.data], laidTests := true, laidLooks := .later }
def FnExactUnwrapCardSaid : Prop := Claim7.holds Tryd.pinned (.plain (OpenSpec.ofChange fnExactUnwrapSpec)) fnExactUnwrapCard

/-- THE TIED CARD OF 'laws.FnExactShowRow'. -/
def fnExactShowRowCard : Claim7 := { stood := { row := fnExactShowRowRow, standIns := [], harness := (true, "cf930ee1819e328982a754f63032839eb1a8f127396ac8a4bd68d849ecc7d0ed"), looks := true }, kinds := [], alts := [], laidByText := true, laidKinds := [.data], laidTests := true, laidLooks := .later }
def FnExactShowRowCardSaid : Prop := Claim7.holds Tryd.pinned (.plain (OpenSpec.ofChange fnExactShowRowSpec)) fnExactShowRowCard

/-- THE TIED CARD OF 'laws.FnExactScanRows'. -/
def fnExactScanRowsCard : Claim7 := { stood := { row := fnExactScanRowsRow, standIns := [], harness := (true, "cf930ee1819e328982a754f63032839eb1a8f127396ac8a4bd68d849ecc7d0ed"), looks := true }, kinds := [], alts := [], laidByText := true, laidKinds := [.data], laidTests := true, laidLooks := .later }
def FnExactScanRowsCardSaid : Prop := Claim7.holds Tryd.pinned (.plain (OpenSpec.ofChange fnExactScanRowsSpec)) fnExactScanRowsCard

/-- THE TIED CARD OF 'laws.FnExactSealFile'. -/
def fnExactSealFileCard : Claim7 := { stood := { row := fnExactSealFileRow, standIns := [], harness := (true, "cf930ee1819e328982a754f63032839eb1a8f127396ac8a4bd68d849ecc7d0ed"), looks := true }, kinds := [], alts := [], laidByText := true, laidKinds := [.data], laidTests := true, laidLooks := .later }
def FnExactSealFileCardSaid : Prop := Claim7.holds Tryd.pinned (.plain (OpenSpec.ofChange fnExactSealFileSpec)) fnExactSealFileCard

/-- THE TIED CARD OF 'laws.FnExactOpenFile'. -/
def fnExactOpenFileCard : Claim7 := { stood := { row := fnExactOpenFileRow, standIns := [], harness := (true, "cf930ee1819e328982a754f63032839eb1a8f127396ac8a4bd68d849ecc7d0ed"), looks := true }, kinds := [], alts := [], laidByText := true, laidKinds := [.data, .sentinel], laidTests := true, laidLooks := .later }
def FnExactOpenFileCardSaid : Prop := Claim7.holds Tryd.pinned (.plain (OpenSpec.ofChange fnExactOpenFileSpec)) fnExactOpenFileCard

/-- THE SECOND FORM's CARD OF 'laws.FnKeys'. -/
def fnKeysUptoCard : Claim7 := { stood := { row := fnKeysUptoRow, standIns := [], harness := (true, "cf930ee1819e328982a754f63032839eb1a8f127396ac8a4bd68d849ecc7d0ed"), looks := true }, kinds := [], alts := [], laidByText := true, laidKinds := [.data], laidTests := true, laidLooks := .later }
def FnKeysUptoCardSaid : Prop := Claim7.holds Tryd.pinned (.plain (OpenSpec.upto fnKeysSpec)) fnKeysUptoCard

/-- THE SECOND FORM's CARD OF 'laws.FnRows'. -/
def fnRowsUptoCard : Claim7 := { stood := { row := fnRowsUptoRow, standIns := [], harness := (true, "cf930ee1819e328982a754f63032839eb1a8f127396ac8a4bd68d849ecc7d0ed"), looks := true }, kinds := [], alts := [], laidByText := true, laidKinds := [.data], laidTests := true, laidLooks := .later }
def FnRowsUptoCardSaid : Prop := Claim7.holds Tryd.pinned (.plain (OpenSpec.upto fnRowsSpec)) fnRowsUptoCard

/-- THE SECOND FORM's CARD OF 'laws.FnSealedFiles'. -/
def fnSealedFilesUptoCard : Claim7 := { stood := { row := fnSealedFilesUptoRow, standIns := [], harness := (true, "cf930ee1819e328982a754f63032839eb1a8f127396ac8a4bd68d849ecc7d0ed"), looks := true }, kinds := [], alts := [], laidByText := true, laidKinds := [.data, .sentinel], laidTests := true, laidLooks := .later }
def FnSealedFilesUptoCardSaid : Prop := Claim7.holds Tryd.pinned (.plain (OpenSpec.upto fnSealedFilesSpec)) fnSealedFilesUptoCard

/-- THE SECOND FORM's CARD OF 'laws.FnExactWrap'. -/
def fnExactWrapUptoCard : Claim7 := { stood := { row := fnExactWrapUptoRow, standIns := [], harness := (true, "cf930ee1819e328982a754f63032839eb1a8f127396ac8a4bd68d849ecc7d0ed"), looks := true }, kinds := [], alts := [], laidByText := true, laidKinds := [.data], laidTests := true, laidLooks := .later }
def FnExactWrapUptoCardSaid : Prop := Claim7.holds Tryd.pinned (.plain (OpenSpec.upto fnExactWrapSpec)) fnExactWrapUptoCard

/-- THE SECOND FORM's CARD OF 'laws.FnExactUnwrap'. -/
def fnExactUnwrapUptoCard : Claim7 := { stood := { row := fnExactUnwrapUptoRow, standIns := [], harness := (true, "cf930ee1819e328982a754f63032839eb1a8f127396ac8a4bd68d849ecc7d0ed"), looks := true }, kinds := [], alts := [], laidByText := true, laidKinds := [.data], laidTests := true, laidLooks := .later }
def FnExactUnwrapUptoCardSaid : Prop := Claim7.holds Tryd.pinned (.plain (OpenSpec.upto fnExactUnwrapSpec)) fnExactUnwrapUptoCard

/-- THE SECOND FORM's CARD OF 'laws.FnExactShowRow'. -/
def fnExactShowRowUptoCard : Claim7 := { stood := { row := fnExactShowRowUptoRow, standIns := [], harness := (true, "cf930ee1819e328982a754f63032839eb1a8f127396ac8a4bd68d849ecc7d0ed"), looks := true }, kinds := [], alts := [], laidByText := true, laidKinds := [.data], laidTests := true, laidLooks := .later }
def FnExactShowRowUptoCardSaid : Prop := Claim7.holds Tryd.pinned (.plain (OpenSpec.upto fnExactShowRowSpec)) fnExactShowRowUptoCard

/-- THE SECOND FORM's CARD OF 'laws.FnExactScanRows'. -/
def fnExactScanRowsUptoCard : Claim7 := { stood := { row := fnExactScanRowsUptoRow, standIns := [], harness := (true, "cf930ee1819e328982a754f63032839eb1a8f127396ac8a4bd68d849ecc7d0ed"), looks := true }, kinds := [], alts := [], laidByText := true, laidKinds := [.data], laidTests := true, laidLooks := .later }
def FnExactScanRowsUptoCardSaid : Prop := Claim7.holds Tryd.pinned (.plain (OpenSpec.upto fnExactScanRowsSpec)) fnExactScanRowsUptoCard

/-- THE SECOND FORM's CARD OF 'laws.FnExactSealFile'. -/
def fnExactSealFileUptoCard : Claim7 := { stood := { row := fnExactSealFileUptoRow, standIns := [], harness := (true, "cf930ee1819e328982a754f63032839eb1a8f127396ac8a4bd68d849ecc7d0ed"), looks := true }, kinds := [], alts := [], laidByText := true, laidKinds := [.data], laidTests := true, laidLooks := .later }
def FnExactSealFileUptoCardSaid : Prop := Claim7.holds Tryd.pinned (.plain (OpenSpec.upto fnExactSealFileSpec)) fnExactSealFileUptoCard

/-- THE SECOND FORM's CARD OF 'laws.FnExactOpenFile'. -/
def fnExactOpenFileUptoCard : Claim7 := { stood := { row := fnExactOpenFileUptoRow, standIns := [], harness := (true, "cf930ee1819e328982a754f63032839eb1a8f127396ac8a4bd68d849ecc7d0ed"), looks := true }, kinds := [], alts := [], laidByText := true, laidKinds := [.data, .sentinel], laidTests := true, laidLooks := .later }
def FnExactOpenFileUptoCardSaid : Prop := Claim7.holds Tryd.pinned (.plain (OpenSpec.upto fnExactOpenFileSpec)) fnExactOpenFileUptoCard
end Rows
end Go.Proofs.YtakjjfbocokpaaaDoor
