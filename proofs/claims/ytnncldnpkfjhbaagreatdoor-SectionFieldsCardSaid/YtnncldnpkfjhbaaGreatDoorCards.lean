/-
  DERIVED. GIVEN WITH THE SEED: THE CARDS: each row of YtnncldnpkfjhbaaGreatDoorRows.lean that lists a variable, with what it lists TIED to the program's text (the seventh form; the later family's looks); each row that meets fmt, with fmt's text TOLD by the authors' own Lean function (tested against real Go, not proved from fmt's source: count such statements apart). THE CARD IS WHAT COUNTS. Prove the row's statement (the work); the ties are given (YtnncldnpkfjhbaaGreatDoorTie.lean); close each card by the builder's one call (the guide's Derived/Test/ToyasCard.lean, 'card_holds'). Laid BY PROGRAM, IN A SANDBOX (cutbox-door.mjs). By AI agents, Wed Nov 11 2026. No macro, syntax, notation, axiom, sorry.
-/
import Derived.Test.YtnncldnpkfjhbaaGreatDoorRows
import GoSem.ClaimSeven
namespace Go.Proofs.YtnncldnpkfjhbaaGreatDoor
namespace Rows

/-- THE TIED CARD OF 'cubbylaw16.SectionWhole'. -/
def sectionWholeCard : Claim7 := { stood := { row := sectionWholeRow, standIns := [], harness := (true, "3764be2ccaee560acf7c6778bd70b59233f581f871363b4a012ece21e8fc497a"), looks := false }, kinds := [], alts := [], laidByText := true, laidKinds := [.data, .pinned], laidTests := true, laidLooks := .later }
def SectionWholeCardSaid : Prop := Claim7.holds Tryz.pinned (.plain (OpenSpec.ofChange sectionWholeSpec)) sectionWholeCard

/-- THE TIED CARD OF 'cubbylaw16.SectionParts'. -/
def sectionPartsCard : Claim7 := { stood := { row := sectionPartsRow, standIns := [], harness := (true, "3764be2ccaee560acf7c6778bd70b59233f581f871363b4a012ece21e8fc497a"), looks := false }, kinds := [], alts := [], laidByText := true, laidKinds := [.data, .pinned], laidTests := true, laidLooks := .later }
def SectionPartsCardSaid : Prop := Claim7.holds Tryz.pinned (.plain (OpenSpec.ofChange sectionPartsSpec)) sectionPartsCard

/-- THE TIED CARD OF 'cubbylaw16.SectionFields'. -/
def sectionFieldsCard : Claim7 := { stood := { row := sectionFieldsRow, standIns := [], harness := (true, "3764be2ccaee560acf7c6778bd70b59233f581f871363b4a012ece21e8fc497a"), looks := false }, kinds := [], alts := [], laidByText := true, laidKinds := [.data, .pinned], laidTests := true, laidLooks := .later }
def SectionFieldsCardSaid : Prop := Claim7.holds Tryz.pinned (.plain (OpenSpec.ofChange sectionFieldsSpec)) sectionFieldsCard

/-- THE SECOND FORM's CARD OF 'cubbylaw16.SectionWhole'. -/
def sectionWholeUptoCard : Claim7 := { stood := { row := sectionWholeUptoRow, standIns := [], harness := (true, "3764be2ccaee560acf7c6778bd70b59233f581f871363b4a012ece21e8fc497a"), looks := false }, kinds := [], alts := [], laidByText := true, laidKinds := [.data, .pinned], laidTests := true, laidLooks := .later }
def SectionWholeUptoCardSaid : Prop := Claim7.holds Tryz.pinned (.plain (OpenSpec.upto sectionWholeSpec)) sectionWholeUptoCard

/-- THE SECOND FORM's CARD OF 'cubbylaw16.SectionParts'. -/
def sectionPartsUptoCard : Claim7 := { stood := { row := sectionPartsUptoRow, standIns := [], harness := (true, "3764be2ccaee560acf7c6778bd70b59233f581f871363b4a012ece21e8fc497a"), looks := false }, kinds := [], alts := [], laidByText := true, laidKinds := [.data, .pinned], laidTests := true, laidLooks := .later }
def SectionPartsUptoCardSaid : Prop := Claim7.holds Tryz.pinned (.plain (OpenSpec.upto sectionPartsSpec)) sectionPartsUptoCard

/-- THE SECOND FORM's CARD OF 'cubbylaw16.SectionFields'. -/
def sectionFieldsUptoCard : Claim7 := { stood := { row := sectionFieldsUptoRow, standIns := [], harness := (true, "3764be2ccaee560acf7c6778bd70b59233f581f871363b4a012ece21e8fc497a"), looks := false }, kinds := [], alts := [], laidByText := true, laidKinds := [.data, .pinned], laidTests := true, laidLooks := .later }
def SectionFieldsUptoCardSaid : Prop := Claim7.holds Tryz.pinned (.plain (OpenSpec.upto sectionFieldsSpec)) sectionFieldsUptoCard
end Rows
end Go.Proofs.YtnncldnpkfjhbaaGreatDoor
