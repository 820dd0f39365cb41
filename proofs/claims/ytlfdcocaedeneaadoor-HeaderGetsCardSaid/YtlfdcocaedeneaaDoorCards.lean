/-
  DERIVED. GIVEN WITH THE SEED: THE CARDS: each row of YtlfdcocaedeneaaDoorRows.lean that lists a variable, with what it lists TIED to the program's text (the seventh form; the later family's looks); each row that meets fmt, with fmt's text TOLD by the authors' own Lean function (tested against real Go, not proved from fmt's source: count such statements apart). THE CARD IS WHAT COUNTS. Prove the row's statement (the work); the ties are given (YtlfdcocaedeneaaDoorTie.lean); close each card by the builder's one call (the guide's Derived/Test/ToyasCard.lean, 'card_holds'). Laid BY PROGRAM, IN A SANDBOX (cutbox-door.mjs). By AI agents, Wed Nov 11 2026. No macro, syntax, notation, axiom, sorry.
-/
import Derived.Test.YtlfdcocaedeneaaDoorRows
import GoSem.ClaimSeven
namespace Go.Proofs.YtlfdcocaedeneaaDoor
namespace Rows

/-- THE TIED CARD OF 'cubbylaw13.HeaderTells'. -/
def headerTellsCard : Claim7 := { stood := { row := headerTellsRow, standIns := [], harness := (true, "0f1cdbc5a85cb24e52d35e251204d70eabbdca953ec515294135d9335e2ae57f"), looks := false }, kinds := [], alts := [], laidByText := true, laidKinds := [.data, .pinned], laidTests := true, laidLooks := .later }
def HeaderTellsCardSaid : Prop := Claim7.holds Tryd.pinned (.plain (OpenSpec.ofChange headerTellsSpec)) headerTellsCard

/-- THE TIED CARD OF 'cubbylaw13.HeaderGets'. -/
def headerGetsCard : Claim7 := { stood := { row := headerGetsRow, standIns := [], harness := (true, "0f1cdbc5a85cb24e52d35e251204d70eabbdca953ec515294135d9335e2ae57f"), looks := false }, kinds := [], alts := [], laidByText := true, laidKinds := [.data, .pinned], laidTests := true, laidLooks := .later }
def HeaderGetsCardSaid : Prop := Claim7.holds Tryd.pinned (.plain (OpenSpec.ofChange headerGetsSpec)) headerGetsCard

/-- THE TIED CARD OF 'cubbylaw13.HeaderParts'. -/
def headerPartsCard : Claim7 := { stood := { row := headerPartsRow, standIns := [], harness := (true, "0f1cdbc5a85cb24e52d35e251204d70eabbdca953ec515294135d9335e2ae57f"), looks := false }, kinds := [], alts := [], laidByText := true, laidKinds := [.data, .pinned], laidTests := true, laidLooks := .later }
def HeaderPartsCardSaid : Prop := Claim7.holds Tryd.pinned (.plain (OpenSpec.ofChange headerPartsSpec)) headerPartsCard

/-- THE TIED CARD OF 'cubbylaw13.HeaderSplits'. -/
def headerSplitsCard : Claim7 := { stood := { row := headerSplitsRow, standIns := [], harness := (true, "0f1cdbc5a85cb24e52d35e251204d70eabbdca953ec515294135d9335e2ae57f"), looks := false }, kinds := [], alts := [], laidByText := true, laidKinds := [.data, .pinned], laidTests := true, laidLooks := .later }
def HeaderSplitsCardSaid : Prop := Claim7.holds Tryd.pinned (.plain (OpenSpec.ofChange headerSplitsSpec)) headerSplitsCard

/-- THE TIED CARD OF 'cubbylaw13.HeaderMade'. -/
def headerMadeCard : Claim7 := { stood := { row := headerMadeRow, standIns := [], harness := (true, "0f1cdbc5a85cb24e52d35e251204d70eabbdca953ec515294135d9335e2ae57f"), looks := false }, kinds := [], alts := [], laidByText := true, laidKinds := [.data, .pinned], laidTests := true, laidLooks := .later }
def HeaderMadeCardSaid : Prop := Claim7.holds Tryd.pinned (.plain (OpenSpec.ofChange headerMadeSpec)) headerMadeCard

/-- THE SECOND FORM's CARD OF 'cubbylaw13.HeaderTells'. -/
def headerTellsUptoCard : Claim7 := { stood := { row := headerTellsUptoRow, standIns := [], harness := (true, "0f1cdbc5a85cb24e52d35e251204d70eabbdca953ec515294135d9335e2ae57f"), looks := false }, kinds := [], alts := [], laidByText := true, laidKinds := [.data, .pinned], laidTests := true, laidLooks := .later }
def HeaderTellsUptoCardSaid : Prop := Claim7.holds Tryd.pinned (.plain (OpenSpec.upto headerTellsSpec)) headerTellsUptoCard

/-- THE SECOND FORM's CARD OF 'cubbylaw13.HeaderGets'. -/
def headerGetsUptoCard : Claim7 := { stood := { row := headerGetsUptoRow, standIns := [], harness := (true, "0f1cdbc5a85cb24e52d35e251204d70eabbdca953ec515294135d9335e2ae57f"), looks := false }, kinds := [], alts := [], laidByText := true, laidKinds := [.data, .pinned], laidTests := true, laidLooks := .later }
def HeaderGetsUptoCardSaid : Prop := Claim7.holds Tryd.pinned (.plain (OpenSpec.upto headerGetsSpec)) headerGetsUptoCard

/-- THE SECOND FORM's CARD OF 'cubbylaw13.HeaderParts'. -/
def headerPartsUptoCard : Claim7 := { stood := { row := headerPartsUptoRow, standIns := [], harness := (true, "0f1cdbc5a85cb24e52d35e251204d70eabbdca953ec515294135d9335e2ae57f"), looks := false }, kinds := [], alts := [], laidByText := true, laidKinds := [.data, .pinned], laidTests := true, laidLooks := .later }
def HeaderPartsUptoCardSaid : Prop := Claim7.holds Tryd.pinned (.plain (OpenSpec.upto headerPartsSpec)) headerPartsUptoCard

/-- THE SECOND FORM's CARD OF 'cubbylaw13.HeaderSplits'. -/
def headerSplitsUptoCard : Claim7 := { stood := { row := headerSplitsUptoRow, standIns := [], harness := (true, "0f1cdbc5a85cb24e52d35e251204d70eabbdca953ec515294135d9335e2ae57f"), looks := false }, kinds := [], alts := [], laidByText := true, laidKinds := [.data, .pinned], laidTests := true, laidLooks := .later }
def HeaderSplitsUptoCardSaid : Prop := Claim7.holds Tryd.pinned (.plain (OpenSpec.upto headerSplitsSpec)) headerSplitsUptoCard

/-- THE SECOND FORM's CARD OF 'cubbylaw13.HeaderMade'. -/
def headerMadeUptoCard : Claim7 := { stood := { row := headerMadeUptoRow, standIns := [], harness := (true, "0f1cdbc5a85cb24e52d35e251204d70eabbdca953ec515294135d9335e2ae57f"), looks := false }, kinds := [], alts := [], laidByText := true, laidKinds := [.data, .pinned], laidTests := true, laidLooks := .later }
def HeaderMadeUptoCardSaid : Prop := Claim7.holds Tryd.pinned (.plain (OpenSpec.upto headerMadeSpec)) headerMadeUptoCard
end Rows
end Go.Proofs.YtlfdcocaedeneaaDoor
