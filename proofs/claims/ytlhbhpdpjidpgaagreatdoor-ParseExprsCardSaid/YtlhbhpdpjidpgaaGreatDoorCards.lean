/-
  DERIVED. GIVEN WITH THE SEED: THE CARDS: each row of YtlhbhpdpjidpgaaGreatDoorRows.lean that lists a variable, with what it lists TIED to the program's text (the seventh form; the later family's looks); each row that meets fmt, with fmt's text TOLD by the authors' own Lean function (tested against real Go, not proved from fmt's source: count such statements apart). THE CARD IS WHAT COUNTS. Prove the row's statement (the work); the ties are given (YtlhbhpdpjidpgaaGreatDoorTie.lean); close each card by the builder's one call (the guide's Derived/Test/ToyasCard.lean, 'card_holds'). Laid BY PROGRAM, IN A SANDBOX (cutbox-door.mjs). By AI agents, Wed Nov 11 2026. No macro, syntax, notation, axiom, sorry.
-/
import Derived.Test.YtlhbhpdpjidpgaaGreatDoorRows
import GoSem.ClaimSeven
namespace Go.Proofs.YtlhbhpdpjidpgaaGreatDoor
namespace Rows

/-- THE TIED CARD OF 'treadmilllaw10.ParseFiles'. -/
def parseFilesCard : Claim7 := { stood := { row := parseFilesRow, standIns := [], harness := (true, "6841c3c441cd49f3ea6c7a71c8f6b80c91769f2ee9003c01e608ba005af39e8a"), looks := false }, kinds := [], alts := [], laidByText := true, laidKinds := [.data, .data], laidTests := true, laidLooks := .later }
def ParseFilesCardSaid : Prop := Claim7.holds Tryz.pinned (.plain (OpenSpec.ofChange parseFilesSpec)) parseFilesCard

/-- THE TIED CARD OF 'treadmilllaw10.ParseExprs'. -/
def parseExprsCard : Claim7 := { stood := { row := parseExprsRow, standIns := [], harness := (true, "6841c3c441cd49f3ea6c7a71c8f6b80c91769f2ee9003c01e608ba005af39e8a"), looks := false }, kinds := [], alts := [], laidByText := true, laidKinds := [.data, .data], laidTests := true, laidLooks := .later }
def ParseExprsCardSaid : Prop := Claim7.holds Tryz.pinned (.plain (OpenSpec.ofChange parseExprsSpec)) parseExprsCard

/-- THE TIED CARD OF 'treadmilllaw10.ParseRight'. -/
def parseRightCard : Claim7 := { stood := { row := parseRightRow, standIns := [], harness := (true, "6841c3c441cd49f3ea6c7a71c8f6b80c91769f2ee9003c01e608ba005af39e8a"), looks := false }, kinds := [], alts := [], laidByText := true, laidKinds := [.data, .data], laidTests := true, laidLooks := .later }
def ParseRightCardSaid : Prop := Claim7.holds Tryz.pinned (.plain (OpenSpec.ofChange parseRightSpec)) parseRightCard

/-- THE SECOND FORM's CARD OF 'treadmilllaw10.ParseFiles'. -/
def parseFilesUptoCard : Claim7 := { stood := { row := parseFilesUptoRow, standIns := [], harness := (true, "6841c3c441cd49f3ea6c7a71c8f6b80c91769f2ee9003c01e608ba005af39e8a"), looks := false }, kinds := [], alts := [], laidByText := true, laidKinds := [.data, .data], laidTests := true, laidLooks := .later }
def ParseFilesUptoCardSaid : Prop := Claim7.holds Tryz.pinned (.plain (OpenSpec.upto parseFilesSpec)) parseFilesUptoCard

/-- THE SECOND FORM's CARD OF 'treadmilllaw10.ParseExprs'. -/
def parseExprsUptoCard : Claim7 := { stood := { row := parseExprsUptoRow, standIns := [], harness := (true, "6841c3c441cd49f3ea6c7a71c8f6b80c91769f2ee9003c01e608ba005af39e8a"), looks := false }, kinds := [], alts := [], laidByText := true, laidKinds := [.data, .data], laidTests := true, laidLooks := .later }
def ParseExprsUptoCardSaid : Prop := Claim7.holds Tryz.pinned (.plain (OpenSpec.upto parseExprsSpec)) parseExprsUptoCard

/-- THE SECOND FORM's CARD OF 'treadmilllaw10.ParseRight'. -/
def parseRightUptoCard : Claim7 := { stood := { row := parseRightUptoRow, standIns := [], harness := (true, "6841c3c441cd49f3ea6c7a71c8f6b80c91769f2ee9003c01e608ba005af39e8a"), looks := false }, kinds := [], alts := [], laidByText := true, laidKinds := [.data, .data], laidTests := true, laidLooks := .later }
def ParseRightUptoCardSaid : Prop := Claim7.holds Tryz.pinned (.plain (OpenSpec.upto parseRightSpec)) parseRightUptoCard
end Rows
end Go.Proofs.YtlhbhpdpjidpgaaGreatDoor
