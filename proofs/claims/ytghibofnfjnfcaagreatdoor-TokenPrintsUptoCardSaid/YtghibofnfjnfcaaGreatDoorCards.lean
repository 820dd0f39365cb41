/-
  DERIVED. GIVEN WITH THE SEED: THE CARDS: each row of YtghibofnfjnfcaaGreatDoorRows.lean that lists a variable, with what it lists TIED to the program's text (the seventh form; the later family's looks); each row that meets fmt, with fmt's text TOLD by the authors' own Lean function (tested against real Go, not proved from fmt's source: count such statements apart). THE CARD IS WHAT COUNTS. Prove the row's statement (the work); the ties are given (YtghibofnfjnfcaaGreatDoorTie.lean); close each card by the builder's one call (the guide's Derived/Test/ToyasCard.lean, 'card_holds'). Laid BY PROGRAM, IN A SANDBOX (cutbox-door.mjs). By AI agents, Wed Nov 11 2026. No macro, syntax, notation, axiom, sorry.
-/
import Derived.Test.YtghibofnfjnfcaaGreatDoorRows
import GoSem.ClaimSeven
namespace Go.Proofs.YtghibofnfjnfcaaGreatDoor
namespace Rows

/-- THE TIED CARD OF 'cubbylaw06.TokenPrints'. -/
def tokenPrintsCard : Claim7 := { stood := { row := tokenPrintsRow, standIns := [], harness := (true, "01345c5226cf4691a5ebc7febd0662446530d22d6ef080462241793151842d5d"), looks := true }, kinds := [], alts := [], laidByText := true, laidKinds := [.data, .data, .data, .sentinel, .sentinel], laidTests := true, laidLooks := .later }
def TokenPrintsCardSaid : Prop := Claim7.holds Tryz.pinned (.plain (OpenSpec.ofChange tokenPrintsSpec)) tokenPrintsCard

/-- THE TIED CARD OF 'cubbylaw06.TokenBack'. -/
def tokenBackCard : Claim7 := { stood := { row := tokenBackRow, standIns := [], harness := (true, "01345c5226cf4691a5ebc7febd0662446530d22d6ef080462241793151842d5d"), looks := true }, kinds := [], alts := [], laidByText := true, laidKinds := [.data, .data, .data, .sentinel, .sentinel], laidTests := true, laidLooks := .later }
def TokenBackCardSaid : Prop := Claim7.holds Tryz.pinned (.plain (OpenSpec.ofChange tokenBackSpec)) tokenBackCard

/-- THE TIED CARD OF 'cubbylaw06.TokenShort'. -/
def tokenShortCard : Claim7 := { stood := { row := tokenShortRow, standIns := [], harness := (true, "01345c5226cf4691a5ebc7febd0662446530d22d6ef080462241793151842d5d"), looks := true }, kinds := [], alts := [], laidByText := true, laidKinds := [.data, .data, .data, .sentinel, .sentinel], laidTests := true, laidLooks := .later }
def TokenShortCardSaid : Prop := Claim7.holds Tryz.pinned (.plain (OpenSpec.ofChange tokenShortSpec)) tokenShortCard

/-- THE SECOND FORM's CARD OF 'cubbylaw06.TokenPrints'. -/
def tokenPrintsUptoCard : Claim7 := { stood := { row := tokenPrintsUptoRow, standIns := [], harness := (true, "01345c5226cf4691a5ebc7febd0662446530d22d6ef080462241793151842d5d"), looks := true }, kinds := [], alts := [], laidByText := true, laidKinds := [.data, .data, .data, .sentinel, .sentinel], laidTests := true, laidLooks := .later }
def TokenPrintsUptoCardSaid : Prop := Claim7.holds Tryz.pinned (.plain (OpenSpec.upto tokenPrintsSpec)) tokenPrintsUptoCard

/-- THE SECOND FORM's CARD OF 'cubbylaw06.TokenBack'. -/
def tokenBackUptoCard : Claim7 := { stood := { row := tokenBackUptoRow, standIns := [], harness := (true, "01345c5226cf4691a5ebc7febd0662446530d22d6ef080462241793151842d5d"), looks := true }, kinds := [], alts := [], laidByText := true, laidKinds := [.data, .data, .data, .sentinel, .sentinel], laidTests := true, laidLooks := .later }
def TokenBackUptoCardSaid : Prop := Claim7.holds Tryz.pinned (.plain (OpenSpec.upto tokenBackSpec)) tokenBackUptoCard

/-- THE SECOND FORM's CARD OF 'cubbylaw06.TokenShort'. -/
def tokenShortUptoCard : Claim7 := { stood := { row := tokenShortUptoRow, standIns := [], harness := (true, "01345c5226cf4691a5ebc7febd0662446530d22d6ef080462241793151842d5d"), looks := true }, kinds := [], alts := [], laidByText := true, laidKinds := [.data, .data, .data, .sentinel, .sentinel], laidTests := true, laidLooks := .later }
def TokenShortUptoCardSaid : Prop := Claim7.holds Tryz.pinned (.plain (OpenSpec.upto tokenShortSpec)) tokenShortUptoCard
end Rows
end Go.Proofs.YtghibofnfjnfcaaGreatDoor
