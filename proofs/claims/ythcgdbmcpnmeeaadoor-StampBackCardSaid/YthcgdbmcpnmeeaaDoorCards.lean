/-
  DERIVED. GIVEN WITH THE SEED: THE CARDS: each row of YthcgdbmcpnmeeaaDoorRows.lean that lists a variable, with what it lists TIED to the program's text (the seventh form; the later family's looks); each row that meets fmt, with fmt's text TOLD by the authors' own Lean function (tested against real Go, not proved from fmt's source: count such statements apart). THE CARD IS WHAT COUNTS. Prove the row's statement (the work); the ties are given (YthcgdbmcpnmeeaaDoorTie.lean); close each card by the builder's one call (the guide's Derived/Test/ToyasCard.lean, 'card_holds'). Laid BY PROGRAM, IN A SANDBOX (cutbox-door.mjs). By AI agents, Wed Nov 11 2026. No macro, syntax, notation, axiom, sorry.
-/
import Derived.Test.YthcgdbmcpnmeeaaDoorRows
import GoSem.ClaimSeven
namespace Go.Proofs.YthcgdbmcpnmeeaaDoor
namespace Rows

/-- THE TIED CARD OF 'cubbylaw08.StampPrints'. -/
def stampPrintsCard : Claim7 := { stood := { row := stampPrintsRow, standIns := [], harness := (true, "83be3275fd155cf212256d7fc93a228400aeee096d9ee5d3b4e6af6d1927e3d4"), looks := false }, kinds := [], alts := [], laidByText := true, laidKinds := [.data, .data, .data], laidTests := true, laidLooks := .later }
def StampPrintsCardSaid : Prop := Claim7.holds Tryd.pinned (.plain (OpenSpec.ofChange stampPrintsSpec)) stampPrintsCard

/-- THE TIED CARD OF 'cubbylaw08.StampBack'. -/
def stampBackCard : Claim7 := { stood := { row := stampBackRow, standIns := [], harness := (true, "83be3275fd155cf212256d7fc93a228400aeee096d9ee5d3b4e6af6d1927e3d4"), looks := false }, kinds := [], alts := [], laidByText := true, laidKinds := [.data, .data, .data], laidTests := true, laidLooks := .later }
def StampBackCardSaid : Prop := Claim7.holds Tryd.pinned (.plain (OpenSpec.ofChange stampBackSpec)) stampBackCard

/-- THE SECOND FORM's CARD OF 'cubbylaw08.StampPrints'. -/
def stampPrintsUptoCard : Claim7 := { stood := { row := stampPrintsUptoRow, standIns := [], harness := (true, "83be3275fd155cf212256d7fc93a228400aeee096d9ee5d3b4e6af6d1927e3d4"), looks := false }, kinds := [], alts := [], laidByText := true, laidKinds := [.data, .data, .data], laidTests := true, laidLooks := .later }
def StampPrintsUptoCardSaid : Prop := Claim7.holds Tryd.pinned (.plain (OpenSpec.upto stampPrintsSpec)) stampPrintsUptoCard

/-- THE SECOND FORM's CARD OF 'cubbylaw08.StampBack'. -/
def stampBackUptoCard : Claim7 := { stood := { row := stampBackUptoRow, standIns := [], harness := (true, "83be3275fd155cf212256d7fc93a228400aeee096d9ee5d3b4e6af6d1927e3d4"), looks := false }, kinds := [], alts := [], laidByText := true, laidKinds := [.data, .data, .data], laidTests := true, laidLooks := .later }
def StampBackUptoCardSaid : Prop := Claim7.holds Tryd.pinned (.plain (OpenSpec.upto stampBackSpec)) stampBackUptoCard
end Rows
end Go.Proofs.YthcgdbmcpnmeeaaDoor
