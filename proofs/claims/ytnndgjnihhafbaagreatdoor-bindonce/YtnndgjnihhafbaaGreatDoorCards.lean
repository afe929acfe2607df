/-
  DERIVED. GIVEN WITH THE SEED: THE CARDS: each row of YtnndgjnihhafbaaGreatDoorRows.lean that lists a variable, with what it lists TIED to the program's text (the seventh form; the later family's looks); each row that meets fmt, with fmt's text TOLD by the authors' own Lean function (tested against real Go, not proved from fmt's source: count such statements apart). THE CARD IS WHAT COUNTS. Prove the row's statement (the work); the ties are given (YtnndgjnihhafbaaGreatDoorTie.lean); close each card by the builder's one call (the guide's Derived/Test/ToyasCard.lean, 'card_holds'). Laid BY PROGRAM, IN A SANDBOX (cutbox-door.mjs). By AI agents, Wed Nov 11 2026. No macro, syntax, notation, axiom, sorry.
-/
import Derived.Test.YtnndgjnihhafbaaGreatDoorRows
import GoSem.ClaimSeven
namespace Go.Proofs.YtnndgjnihhafbaaGreatDoor
namespace Rows

/-- THE TIED CARD OF 'clerestorylaw09.BindTells'. -/
def bindTellsCard : Claim7 := { stood := { row := bindTellsRow, standIns := [], harness := (true, "e0c29800c9ca50e5e87bb88aa60744a545dc497d816e665cbc6a045074c7e861"), looks := true }, kinds := [], alts := [], laidByText := true, laidKinds := [.data, .data, .data, .sentinel, .sentinel, .data], laidTests := true, laidLooks := .later }
def BindTellsCardSaid : Prop := Claim7.holds Tryz.pinned (.plain (OpenSpec.ofChange bindTellsSpec)) bindTellsCard

/-- THE TIED CARD OF 'clerestorylaw09.BindTexts'. -/
def bindTextsCard : Claim7 := { stood := { row := bindTextsRow, standIns := [], harness := (true, "e0c29800c9ca50e5e87bb88aa60744a545dc497d816e665cbc6a045074c7e861"), looks := true }, kinds := [], alts := [], laidByText := true, laidKinds := [.data, .data, .data, .sentinel, .sentinel, .data], laidTests := true, laidLooks := .later }
def BindTextsCardSaid : Prop := Claim7.holds Tryz.pinned (.plain (OpenSpec.ofChange bindTextsSpec)) bindTextsCard

/-- THE TIED CARD OF 'clerestorylaw09.BindFresh'. -/
def bindFreshCard : Claim7 := { stood := { row := bindFreshRow, standIns := [], harness := (true, "e0c29800c9ca50e5e87bb88aa60744a545dc497d816e665cbc6a045074c7e861"), looks := true }, kinds := [], alts := [], laidByText := true, laidKinds := [.data, .data, .data, .sentinel, .sentinel, .data], laidTests := true, laidLooks := .later }
def BindFreshCardSaid : Prop := Claim7.holds Tryz.pinned (.plain (OpenSpec.ofChange bindFreshSpec)) bindFreshCard

/-- THE TIED CARD OF 'clerestorylaw09.BindOnce'. -/
def bindOnceCard : Claim7 := { stood := { row := bindOnceRow, standIns := [], harness := (true, "e0c29800c9ca50e5e87bb88aa60744a545dc497d816e665cbc6a045074c7e861"), looks := true }, kinds := [], alts := [], laidByText := true, laidKinds := [.data, .data, .data, .sentinel, .sentinel, .data], laidTests := true, laidLooks := .later }
def BindOnceCardSaid : Prop := Claim7.holds Tryz.pinned (.plain (OpenSpec.ofChange bindOnceSpec)) bindOnceCard

/-- THE TIED CARD OF 'clerestorylaw09.BindApart'. -/
def bindApartCard : Claim7 := { stood := { row := bindApartRow, standIns := [], harness := (true, "e0c29800c9ca50e5e87bb88aa60744a545dc497d816e665cbc6a045074c7e861"), looks := true }, kinds := [], alts := [], laidByText := true, laidKinds := [.data, .data, .data, .sentinel, .sentinel, .data], laidTests := true, laidLooks := .later }
def BindApartCardSaid : Prop := Claim7.holds Tryz.pinned (.plain (OpenSpec.ofChange bindApartSpec)) bindApartCard

/-- THE TIED CARD OF 'clerestorylaw09.BindLess'. -/
def bindLessCard : Claim7 := { stood := { row := bindLessRow, standIns := [], harness := (true, "e0c29800c9ca50e5e87bb88aa60744a545dc497d816e665cbc6a045074c7e861"), looks := true }, kinds := [], alts := [], laidByText := true, laidKinds := [.data, .data, .data, .sentinel, .sentinel, .data], laidTests := true, laidLooks := .later }
def BindLessCardSaid : Prop := Claim7.holds Tryz.pinned (.plain (OpenSpec.ofChange bindLessSpec)) bindLessCard

/-- THE SECOND FORM's CARD OF 'clerestorylaw09.BindTells'. -/
def bindTellsUptoCard : Claim7 := { stood := { row := bindTellsUptoRow, standIns := [], harness := (true, "e0c29800c9ca50e5e87bb88aa60744a545dc497d816e665cbc6a045074c7e861"), looks := true }, kinds := [], alts := [], laidByText := true, laidKinds := [.data, .data, .data, .sentinel, .sentinel, .data], laidTests := true, laidLooks := .later }
def BindTellsUptoCardSaid : Prop := Claim7.holds Tryz.pinned (.plain (OpenSpec.upto bindTellsSpec)) bindTellsUptoCard

/-- THE SECOND FORM's CARD OF 'clerestorylaw09.BindTexts'. -/
def bindTextsUptoCard : Claim7 := { stood := { row := bindTextsUptoRow, standIns := [], harness := (true, "e0c29800c9ca50e5e87bb88aa60744a545dc497d816e665cbc6a045074c7e861"), looks := true }, kinds := [], alts := [], laidByText := true, laidKinds := [.data, .data, .data, .sentinel, .sentinel, .data], laidTests := true, laidLooks := .later }
def BindTextsUptoCardSaid : Prop := Claim7.holds Tryz.pinned (.plain (OpenSpec.upto bindTextsSpec)) bindTextsUptoCard

/-- THE SECOND FORM's CARD OF 'clerestorylaw09.BindFresh'. -/
def bindFreshUptoCard : Claim7 := { stood := { row := bindFreshUptoRow, standIns := [], harness := (true, "e0c29800c9ca50e5e87bb88aa60744a545dc497d816e665cbc6a045074c7e861"), looks := true }, kinds := [], alts := [], laidByText := true, laidKinds := [.data, .data, .data, .sentinel, .sentinel, .data], laidTests := true, laidLooks := .later }
def BindFreshUptoCardSaid : Prop := Claim7.holds Tryz.pinned (.plain (OpenSpec.upto bindFreshSpec)) bindFreshUptoCard

/-- THE SECOND FORM's CARD OF 'clerestorylaw09.BindOnce'. -/
def bindOnceUptoCard : Claim7 := { stood := { row := bindOnceUptoRow, standIns := [], harness := (true, "e0c29800c9ca50e5e87bb88aa60744a545dc497d816e665cbc6a045074c7e861"), looks := true }, kinds := [], alts := [], laidByText := true, laidKinds := [.data, .data, .data, .sentinel, .sentinel, .data], laidTests := true, laidLooks := .later }
def BindOnceUptoCardSaid : Prop := Claim7.holds Tryz.pinned (.plain (OpenSpec.upto bindOnceSpec)) bindOnceUptoCard

/-- THE SECOND FORM's CARD OF 'clerestorylaw09.BindApart'. -/
def bindApartUptoCard : Claim7 := { stood := { row := bindApartUptoRow, standIns := [], harness := (true, "e0c29800c9ca50e5e87bb88aa60744a545dc497d816e665cbc6a045074c7e861"), looks := true }, kinds := [], alts := [], laidByText := true, laidKinds := [.data, .data, .data, .sentinel, .sentinel, .data], laidTests := true, laidLooks := .later }
def BindApartUptoCardSaid : Prop := Claim7.holds Tryz.pinned (.plain (OpenSpec.upto bindApartSpec)) bindApartUptoCard

/-- THE SECOND FORM's CARD OF 'clerestorylaw09.BindLess'. -/
def bindLessUptoCard : Claim7 := { stood := { row := bindLessUptoRow, standIns := [], harness := (true, "e0c29800c9ca50e5e87bb88aa60744a545dc497d816e665cbc6a045074c7e861"), looks := true }, kinds := [], alts := [], laidByText := true, laidKinds := [.data, .data, .data, .sentinel, .sentinel, .data], laidTests := true, laidLooks := .later }
def BindLessUptoCardSaid : Prop := Claim7.holds Tryz.pinned (.plain (OpenSpec.upto bindLessSpec)) bindLessUptoCard
end Rows
end Go.Proofs.YtnndgjnihhafbaaGreatDoor
