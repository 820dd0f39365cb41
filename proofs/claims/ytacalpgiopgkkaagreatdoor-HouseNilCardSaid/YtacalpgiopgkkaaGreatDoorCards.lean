/-
  DERIVED. GIVEN WITH THE SEED: THE CARDS: each row of YtacalpgiopgkkaaGreatDoorRows.lean that lists a variable, with what it lists TIED to the program's text (the seventh form; the later family's looks); each row that meets fmt, with fmt's text TOLD by the authors' own Lean function (tested against real Go, not proved from fmt's source: count such statements apart). THE CARD IS WHAT COUNTS. Prove the row's statement (the work); the ties are given (YtacalpgiopgkkaaGreatDoorTie.lean); close each card by the builder's one call (the guide's Derived/Test/ToyasCard.lean, 'card_holds'). Laid BY PROGRAM, IN A SANDBOX (cutbox-door.mjs). By AI agents, Wed Nov 11 2026. No macro, syntax, notation, axiom, sorry.
-/
import Derived.Test.YtacalpgiopgkkaaGreatDoorRows
import GoSem.ClaimSeven
namespace Go.Proofs.YtacalpgiopgkkaaGreatDoor
namespace Rows

/-- THE TIED CARD OF 'cubbylaw18.HouseUids'. -/
def houseUidsCard : Claim7 := { stood := { row := houseUidsRow, standIns := [], harness := (true, "3a7dd6e148f366b50903952ffcce46932a6b16806d142c2caebd931828b214ee"), looks := false }, kinds := [], alts := [], laidByText := true, laidKinds := [.data, .data, .data, .data, .pinned], laidTests := true, laidLooks := .later }
def HouseUidsCardSaid : Prop := Claim7.holds Tryz.pinned (.plain (OpenSpec.ofChange houseUidsSpec)) houseUidsCard

/-- THE TIED CARD OF 'cubbylaw18.HouseNil'. -/
def houseNilCard : Claim7 := { stood := { row := houseNilRow, standIns := [], harness := (true, "3a7dd6e148f366b50903952ffcce46932a6b16806d142c2caebd931828b214ee"), looks := false }, kinds := [], alts := [], laidByText := true, laidKinds := [.data, .data, .data, .data, .pinned], laidTests := true, laidLooks := .later }
def HouseNilCardSaid : Prop := Claim7.holds Tryz.pinned (.plain (OpenSpec.ofChange houseNilSpec)) houseNilCard

/-- THE TIED CARD OF 'cubbylaw18.HouseApart'. -/
def houseApartCard : Claim7 := { stood := { row := houseApartRow, standIns := [], harness := (true, "3a7dd6e148f366b50903952ffcce46932a6b16806d142c2caebd931828b214ee"), looks := false }, kinds := [], alts := [], laidByText := true, laidKinds := [.data, .data, .data, .data, .pinned], laidTests := true, laidLooks := .later }
def HouseApartCardSaid : Prop := Claim7.holds Tryz.pinned (.plain (OpenSpec.ofChange houseApartSpec)) houseApartCard

/-- THE SECOND FORM's CARD OF 'cubbylaw18.HouseUids'. -/
def houseUidsUptoCard : Claim7 := { stood := { row := houseUidsUptoRow, standIns := [], harness := (true, "3a7dd6e148f366b50903952ffcce46932a6b16806d142c2caebd931828b214ee"), looks := false }, kinds := [], alts := [], laidByText := true, laidKinds := [.data, .data, .data, .data, .pinned], laidTests := true, laidLooks := .later }
def HouseUidsUptoCardSaid : Prop := Claim7.holds Tryz.pinned (.plain (OpenSpec.upto houseUidsSpec)) houseUidsUptoCard

/-- THE SECOND FORM's CARD OF 'cubbylaw18.HouseNil'. -/
def houseNilUptoCard : Claim7 := { stood := { row := houseNilUptoRow, standIns := [], harness := (true, "3a7dd6e148f366b50903952ffcce46932a6b16806d142c2caebd931828b214ee"), looks := false }, kinds := [], alts := [], laidByText := true, laidKinds := [.data, .data, .data, .data, .pinned], laidTests := true, laidLooks := .later }
def HouseNilUptoCardSaid : Prop := Claim7.holds Tryz.pinned (.plain (OpenSpec.upto houseNilSpec)) houseNilUptoCard

/-- THE SECOND FORM's CARD OF 'cubbylaw18.HouseApart'. -/
def houseApartUptoCard : Claim7 := { stood := { row := houseApartUptoRow, standIns := [], harness := (true, "3a7dd6e148f366b50903952ffcce46932a6b16806d142c2caebd931828b214ee"), looks := false }, kinds := [], alts := [], laidByText := true, laidKinds := [.data, .data, .data, .data, .pinned], laidTests := true, laidLooks := .later }
def HouseApartUptoCardSaid : Prop := Claim7.holds Tryz.pinned (.plain (OpenSpec.upto houseApartSpec)) houseApartUptoCard
end Rows
end Go.Proofs.YtacalpgiopgkkaaGreatDoor
