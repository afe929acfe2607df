/-
  DERIVED. GIVEN WITH THE SEED: THE CARDS: each row of YtdaaecnmllpgdaaGreatDoorRows.lean that lists a variable, with what it lists TIED to the program's text (the seventh form; the later family's looks); each row that meets fmt, with fmt's text TOLD by the authors' own Lean function (tested against real Go, not proved from fmt's source: count such statements apart). THE CARD IS WHAT COUNTS. Prove the row's statement (the work); the ties are given (YtdaaecnmllpgdaaGreatDoorTie.lean); close each card by the builder's one call (the guide's Derived/Test/ToyasCard.lean, 'card_holds'). Laid BY PROGRAM, IN A SANDBOX (cutbox-door.mjs). By AI agents, Wed Nov 11 2026. No macro, syntax, notation, axiom, sorry.
-/
import Derived.Test.YtdaaecnmllpgdaaGreatDoorRows
import GoSem.ClaimSeven
namespace Go.Proofs.YtdaaecnmllpgdaaGreatDoor
namespace Rows

/-- THE TIED CARD OF 'clerestorylaw07.ParseRight'. -/
def parseRightCard : Claim7 := { stood := { row := parseRightRow, standIns := [], harness := (true, "1a7cca46a3137dd7530fe61d0bd9a7aaeff7dcaa2b227058dc0db0400f49d5e2"), looks := true }, kinds := [], alts := [], laidByText := true, laidKinds := [.data, .data, .data, .sentinel, .sentinel, .data], laidTests := true, laidLooks := .later }
def ParseRightCardSaid : Prop := Claim7.holds Tryz.pinned (.plain (OpenSpec.ofChange parseRightSpec)) parseRightCard

/-- THE TIED CARD OF 'clerestorylaw07.ParseBlanks'. -/
def parseBlanksCard : Claim7 := { stood := { row := parseBlanksRow, standIns := [], harness := (true, "1a7cca46a3137dd7530fe61d0bd9a7aaeff7dcaa2b227058dc0db0400f49d5e2"), looks := true }, kinds := [], alts := [], laidByText := true, laidKinds := [.data, .data, .data, .sentinel, .sentinel, .data], laidTests := true, laidLooks := .later }
def ParseBlanksCardSaid : Prop := Claim7.holds Tryz.pinned (.plain (OpenSpec.ofChange parseBlanksSpec)) parseBlanksCard

/-- THE TIED CARD OF 'clerestorylaw07.ParseRow'. -/
def parseRowCard : Claim7 := { stood := { row := parseRowRow, standIns := [], harness := (true, "1a7cca46a3137dd7530fe61d0bd9a7aaeff7dcaa2b227058dc0db0400f49d5e2"), looks := true }, kinds := [], alts := [], laidByText := true, laidKinds := [.data, .data, .data, .sentinel, .sentinel, .data], laidTests := true, laidLooks := .later }
def ParseRowCardSaid : Prop := Claim7.holds Tryz.pinned (.plain (OpenSpec.ofChange parseRowSpec)) parseRowCard

/-- THE TIED CARD OF 'clerestorylaw07.ParseBraces'. -/
def parseBracesCard : Claim7 := { stood := { row := parseBracesRow, standIns := [], harness := (true, "1a7cca46a3137dd7530fe61d0bd9a7aaeff7dcaa2b227058dc0db0400f49d5e2"), looks := true }, kinds := [], alts := [], laidByText := true, laidKinds := [.data, .data, .data, .sentinel, .sentinel, .data], laidTests := true, laidLooks := .later }
def ParseBracesCardSaid : Prop := Claim7.holds Tryz.pinned (.plain (OpenSpec.ofChange parseBracesSpec)) parseBracesCard

/-- THE SECOND FORM's CARD OF 'clerestorylaw07.ParseRight'. -/
def parseRightUptoCard : Claim7 := { stood := { row := parseRightUptoRow, standIns := [], harness := (true, "1a7cca46a3137dd7530fe61d0bd9a7aaeff7dcaa2b227058dc0db0400f49d5e2"), looks := true }, kinds := [], alts := [], laidByText := true, laidKinds := [.data, .data, .data, .sentinel, .sentinel, .data], laidTests := true, laidLooks := .later }
def ParseRightUptoCardSaid : Prop := Claim7.holds Tryz.pinned (.plain (OpenSpec.upto parseRightSpec)) parseRightUptoCard

/-- THE SECOND FORM's CARD OF 'clerestorylaw07.ParseBlanks'. -/
def parseBlanksUptoCard : Claim7 := { stood := { row := parseBlanksUptoRow, standIns := [], harness := (true, "1a7cca46a3137dd7530fe61d0bd9a7aaeff7dcaa2b227058dc0db0400f49d5e2"), looks := true }, kinds := [], alts := [], laidByText := true, laidKinds := [.data, .data, .data, .sentinel, .sentinel, .data], laidTests := true, laidLooks := .later }
def ParseBlanksUptoCardSaid : Prop := Claim7.holds Tryz.pinned (.plain (OpenSpec.upto parseBlanksSpec)) parseBlanksUptoCard

/-- THE SECOND FORM's CARD OF 'clerestorylaw07.ParseRow'. -/
def parseRowUptoCard : Claim7 := { stood := { row := parseRowUptoRow, standIns := [], harness := (true, "1a7cca46a3137dd7530fe61d0bd9a7aaeff7dcaa2b227058dc0db0400f49d5e2"), looks := true }, kinds := [], alts := [], laidByText := true, laidKinds := [.data, .data, .data, .sentinel, .sentinel, .data], laidTests := true, laidLooks := .later }
def ParseRowUptoCardSaid : Prop := Claim7.holds Tryz.pinned (.plain (OpenSpec.upto parseRowSpec)) parseRowUptoCard

/-- THE SECOND FORM's CARD OF 'clerestorylaw07.ParseBraces'. -/
def parseBracesUptoCard : Claim7 := { stood := { row := parseBracesUptoRow, standIns := [], harness := (true, "1a7cca46a3137dd7530fe61d0bd9a7aaeff7dcaa2b227058dc0db0400f49d5e2"), looks := true }, kinds := [], alts := [], laidByText := true, laidKinds := [.data, .data, .data, .sentinel, .sentinel, .data], laidTests := true, laidLooks := .later }
def ParseBracesUptoCardSaid : Prop := Claim7.holds Tryz.pinned (.plain (OpenSpec.upto parseBracesSpec)) parseBracesUptoCard
end Rows
end Go.Proofs.YtdaaecnmllpgdaaGreatDoor
