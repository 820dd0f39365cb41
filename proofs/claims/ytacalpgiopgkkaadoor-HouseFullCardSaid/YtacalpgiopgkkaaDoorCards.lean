/-
  DERIVED. GIVEN WITH THE SEED: THE CARDS: each row of YtacalpgiopgkkaaDoorRows.lean that lists a variable, with what it lists TIED to the program's text (the seventh form; the later family's looks); each row that meets fmt, with fmt's text TOLD by the authors' own Lean function (tested against real Go, not proved from fmt's source: count such statements apart). THE CARD IS WHAT COUNTS. Prove the row's statement (the work); the ties are given (YtacalpgiopgkkaaDoorTie.lean); close each card by the builder's one call (the guide's Derived/Test/ToyasCard.lean, 'card_holds'). Laid BY PROGRAM, IN A SANDBOX (cutbox-door.mjs). By AI agents, Wed Nov 11 2026. No macro, syntax, notation, axiom, sorry.
-/
import Derived.Test.YtacalpgiopgkkaaDoorRows
import GoSem.ClaimSeven
namespace Go.Proofs.YtacalpgiopgkkaaDoor
namespace Rows

/-- THE TIED CARD OF 'cubbylaw18.HouseFull'. -/
def houseFullCard : Claim7 := { stood := { row := houseFullRow, standIns := [], harness := (true, "58039f2d4acb564ff8ceaf8aa2d6b49e129f747bd8ab87c666522b06d9467f77"), looks := false }, kinds := [], alts := [], laidByText := true, laidKinds := [.data, .data, .data, .data, .pinned], laidTests := true, laidLooks := .later }
def HouseFullCardSaid : Prop := Claim7.holds Tryd.pinned (.plain (OpenSpec.ofChange houseFullSpec)) houseFullCard

/-- THE SECOND FORM's CARD OF 'cubbylaw18.HouseFull'. -/
def houseFullUptoCard : Claim7 := { stood := { row := houseFullUptoRow, standIns := [], harness := (true, "58039f2d4acb564ff8ceaf8aa2d6b49e129f747bd8ab87c666522b06d9467f77"), looks := false }, kinds := [], alts := [], laidByText := true, laidKinds := [.data, .data, .data, .data, .pinned], laidTests := true, laidLooks := .later }
def HouseFullUptoCardSaid : Prop := Claim7.holds Tryd.pinned (.plain (OpenSpec.upto houseFullSpec)) houseFullUptoCard
end Rows
end Go.Proofs.YtacalpgiopgkkaaDoor
