/-
  DERIVED. GIVEN WITH THE SEED: THE CARDS: each row of YtopocmihbmaamaaGreatDoorRows.lean that lists a variable, with what it lists TIED to the program's text (the seventh form; the later family's looks); each row that meets fmt, with fmt's text TOLD by the authors' own Lean function (tested against real Go, not proved from fmt's source: count such statements apart). THE CARD IS WHAT COUNTS. Prove the row's statement (the work); the ties are given (YtopocmihbmaamaaGreatDoorTie.lean); close each card by the builder's one call (the guide's Derived/Test/ToyasCard.lean, 'card_holds'). Laid BY PROGRAM, IN A SANDBOX (cutbox-door.mjs). By AI agents, Wed Nov 11 2026. No macro, syntax, notation, axiom, sorry.
-/
import Derived.Test.YtopocmihbmaamaaGreatDoorRows
import GoSem.ClaimSeven
namespace Go.Proofs.YtopocmihbmaamaaGreatDoor
namespace Rows

/-- THE TIED CARD OF 'cubbylaw17.SearchTexts'. -/
def searchTextsCard : Claim7 := { stood := { row := searchTextsRow, standIns := [], harness := (true, "e8b458b68e9f18cdba300eae2bb1ef500ce6152b53d45a7bad85a4f1e6d9e2ff"), looks := false }, kinds := [], alts := [], laidByText := true, laidKinds := [.data, .data, .data, .data, .pinned], laidTests := true, laidLooks := .later }
def SearchTextsCardSaid : Prop := Claim7.holds Tryz.pinned (.plain (OpenSpec.ofChange searchTextsSpec)) searchTextsCard

/-- THE SECOND FORM's CARD OF 'cubbylaw17.SearchTexts'. -/
def searchTextsUptoCard : Claim7 := { stood := { row := searchTextsUptoRow, standIns := [], harness := (true, "e8b458b68e9f18cdba300eae2bb1ef500ce6152b53d45a7bad85a4f1e6d9e2ff"), looks := false }, kinds := [], alts := [], laidByText := true, laidKinds := [.data, .data, .data, .data, .pinned], laidTests := true, laidLooks := .later }
def SearchTextsUptoCardSaid : Prop := Claim7.holds Tryz.pinned (.plain (OpenSpec.upto searchTextsSpec)) searchTextsUptoCard
end Rows
end Go.Proofs.YtopocmihbmaamaaGreatDoor
