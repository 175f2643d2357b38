/-
  DERIVED. GIVEN WITH THE SEED: THE CARDS: each row of YtpgbjbhoefjodaaDoorRows.lean that lists a variable, with what it lists TIED to the program's text (the seventh form; the later family's looks); each row that meets fmt, with fmt's text TOLD by the authors' own Lean function (tested against real Go, not proved from fmt's source: count such statements apart). THE CARD IS WHAT COUNTS. Prove the row's statement (the work); the ties are given (YtpgbjbhoefjodaaDoorTie.lean); close each card by the builder's one call (the guide's Derived/Test/ToyasCard.lean, 'card_holds'). Laid BY PROGRAM, IN A SANDBOX (cutbox-door.mjs). By AI agents, Wed Nov 11 2026. No macro, syntax, notation, axiom, sorry.
-/
import Derived.Test.YtpgbjbhoefjodaaDoorRows
import GoSem.ClaimSeven
namespace Go.Proofs.YtpgbjbhoefjodaaDoor
namespace Rows

/-- THE TIED CARD OF 'laws.FnKeys'. -/
def fnKeysCard : Claim7 := { stood := { row := fnKeysRow, standIns := [], harness := (true, "550f505f55dff1becc5734514abfaf2344b7e4a69fe456e4c2986e9dd053ff72"), looks := false }, kinds := [], alts := [], laidByText := true, laidKinds := [.data], laidTests := true, laidLooks := .later }
def FnKeysCardSaid : Prop := Claim7.holds Tryd.pinned (.plain (OpenSpec.ofChange fnKeysSpec)) fnKeysCard

/-- THE TIED CARD OF 'laws.FnExactWrap'. -/
def fnExactWrapCard : Claim7 := { stood := { row := fnExactWrapRow, standIns := [], harness := (true, "550f505f55dff1becc5734514abfaf2344b7e4a69fe456e4c2986e9dd053ff72"), looks := false }, kinds := [], alts := [], laidByText := true, laidKinds := [.data], laidTests := true, laidLooks := .later }
def FnExactWrapCardSaid : Prop := Claim7.holds Tryd.pinned (.plain (OpenSpec.ofChange fnExactWrapSpec)) fnExactWrapCard

/-- THE TIED CARD OF 'laws.FnExactUnwrap'. -/
def fnExactUnwrapCard : Claim7 := { stood := { row := fnExactUnwrapRow, standIns := [], harness := (true, "550f505f55dff1becc5734514abfaf2344b7e4a69fe456e4c2986e9dd053ff72"), looks := false }, kinds := [], alts := [], laidByText := true, laidKinds := [.data], laidTests := true, laidLooks := .later }
def FnExactUnwrapCardSaid : Prop := Claim7.holds Tryd.pinned (.plain (OpenSpec.ofChange fnExactUnwrapSpec)) fnExactUnwrapCard

/-- THE SECOND FORM's CARD OF 'laws.FnKeys'. -/
def fnKeysUptoCard : Claim7 := { stood := { row := fnKeysUptoRow, standIns := [], harness := (true, "550f505f55dff1becc5734514abfaf2344b7e4a69fe456e4c2986e9dd053ff72"), looks := false }, kinds := [], alts := [], laidByText := true, laidKinds := [.data], laidTests := true, laidLooks := .later }
def FnKeysUptoCardSaid : Prop := Claim7.holds Tryd.pinned (.plain (OpenSpec.upto fnKeysSpec)) fnKeysUptoCard

/-- THE SECOND FORM's CARD OF 'laws.FnExactWrap'. -/
def fnExactWrapUptoCard : Claim7 := { stood := { row := fnExactWrapUptoRow, standIns := [], harness := (true, "550f505f55dff1becc5734514abfaf2344b7e4a69fe456e4c2986e9dd053ff72"), looks := false }, kinds := [], alts := [], laidByText := true, laidKinds := [.data], laidTests := true, laidLooks := .later }
def FnExactWrapUptoCardSaid : Prop := Claim7.holds Tryd.pinned (.plain (OpenSpec.upto fnExactWrapSpec)) fnExactWrapUptoCard

/-- THE SECOND FORM's CARD OF 'laws.FnExactUnwrap'. -/
def fnExactUnwrapUptoCard : Claim7 := { stood := { row := fnExactUnwrapUptoRow, standIns := [], harness := (true, "550f505f55dff1becc5734514abfaf2344b7e4a69fe456e4c2986e9dd053ff72"), looks := false }, kinds := [], alts := [], laidByText := true, laidKinds := [.data], laidTests := true, laidLooks := .later }
def FnExactUnwrapUptoCardSaid : Prop := Claim7.holds Tryd.pinned (.plain (OpenSpec.upto fnExactUnwrapSpec)) fnExactUnwrapUptoCard
end Rows
end Go.Proofs.YtpgbjbhoefjodaaDoor
