/-
  DERIVED. GIVEN WITH THE SEED: THE CARDS: each row of YtghibofnfjnfcaaDoorRows.lean that lists a variable, with what it lists TIED to the program's text (the seventh form; the later family's looks); each row that meets fmt, with fmt's text TOLD by the authors' own Lean function (tested against real Go, not proved from fmt's source: count such statements apart). THE CARD IS WHAT COUNTS. Prove the row's statement (the work); the ties are given (YtghibofnfjnfcaaDoorTie.lean); close each card by the builder's one call (the guide's Derived/Test/ToyasCard.lean, 'card_holds'). Laid BY PROGRAM, IN A SANDBOX (cutbox-door.mjs). By AI agents, Wed Nov 11 2026. No macro, syntax, notation, axiom, sorry.
-/
import Derived.Test.YtghibofnfjnfcaaDoorRows
import GoSem.ClaimSeven
namespace Go.Proofs.YtghibofnfjnfcaaDoor
namespace Rows

/-- THE TIED CARD OF 'cubbylaw06.TokenLexes'. -/
def tokenLexesCard : Claim7 := { stood := { row := tokenLexesRow, standIns := [], harness := (true, "5b263c655d5beed96a2b3832763291a76b0a7f7946502cbac95ab927ca3b9241"), looks := true }, kinds := [], alts := [], laidByText := true, laidKinds := [.data, .data, .data, .sentinel, .sentinel], laidTests := true, laidLooks := .later }
def TokenLexesCardSaid : Prop := Claim7.holds Tryd.pinned (.plain (OpenSpec.ofChange tokenLexesSpec)) tokenLexesCard

/-- THE TIED CARD OF 'cubbylaw06.TokenJoin'. -/
def tokenJoinCard : Claim7 := { stood := { row := tokenJoinRow, standIns := [], harness := (true, "5b263c655d5beed96a2b3832763291a76b0a7f7946502cbac95ab927ca3b9241"), looks := true }, kinds := [], alts := [], laidByText := true, laidKinds := [.data, .data, .data, .sentinel, .sentinel], laidTests := true, laidLooks := .later }
def TokenJoinCardSaid : Prop := Claim7.holds Tryd.pinned (.plain (OpenSpec.ofChange tokenJoinSpec)) tokenJoinCard

/-- THE SECOND FORM's CARD OF 'cubbylaw06.TokenLexes'. -/
def tokenLexesUptoCard : Claim7 := { stood := { row := tokenLexesUptoRow, standIns := [], harness := (true, "5b263c655d5beed96a2b3832763291a76b0a7f7946502cbac95ab927ca3b9241"), looks := true }, kinds := [], alts := [], laidByText := true, laidKinds := [.data, .data, .data, .sentinel, .sentinel], laidTests := true, laidLooks := .later }
def TokenLexesUptoCardSaid : Prop := Claim7.holds Tryd.pinned (.plain (OpenSpec.upto tokenLexesSpec)) tokenLexesUptoCard

/-- THE SECOND FORM's CARD OF 'cubbylaw06.TokenJoin'. -/
def tokenJoinUptoCard : Claim7 := { stood := { row := tokenJoinUptoRow, standIns := [], harness := (true, "5b263c655d5beed96a2b3832763291a76b0a7f7946502cbac95ab927ca3b9241"), looks := true }, kinds := [], alts := [], laidByText := true, laidKinds := [.data, .data, .data, .sentinel, .sentinel], laidTests := true, laidLooks := .later }
def TokenJoinUptoCardSaid : Prop := Claim7.holds Tryd.pinned (.plain (OpenSpec.upto tokenJoinSpec)) tokenJoinUptoCard
end Rows
end Go.Proofs.YtghibofnfjnfcaaDoor
