/-
  DERIVED. GIVEN WITH THE SEED: THE CARDS: each row of YtcddppgnmephnaaDoorRows.lean that lists a variable, with what it lists TIED to the program's text (the seventh form; the later family's looks); each row that meets fmt, with fmt's text TOLD by the authors' own Lean function (tested against real Go, not proved from fmt's source: count such statements apart). THE CARD IS WHAT COUNTS. Prove the row's statement (the work); the ties are given (YtcddppgnmephnaaDoorTie.lean); close each card by the builder's one call (the guide's Derived/Test/ToyasCard.lean, 'card_holds'). Laid BY PROGRAM, IN A SANDBOX (cutbox-door.mjs). By AI agents, Wed Nov 11 2026. No macro, syntax, notation, axiom, sorry.
-/
import Derived.Test.YtcddppgnmephnaaDoorRows
import GoSem.ClaimSeven
namespace Go.Proofs.YtcddppgnmephnaaDoor
namespace Rows

/-- THE TIED CARD OF 'cubbylaw05.Utf7Encodes'. -/
def utf7EncodesCard : Claim7 := { stood := { row := utf7EncodesRow, standIns := [], harness := (true, "472953692fe1a87923bcaa8a30fb79e0a84a2228c8fbbfbfbe898d0aa47dbd60"), looks := false }, kinds := [], alts := [], laidByText := true, laidKinds := [.data, .pinned], laidTests := true, laidLooks := .later }
def Utf7EncodesCardSaid : Prop := Claim7.holds Tryd.pinned (.plain (OpenSpec.ofChange utf7EncodesSpec)) utf7EncodesCard

/-- THE TIED CARD OF 'cubbylaw05.Utf7Decodes'. -/
def utf7DecodesCard : Claim7 := { stood := { row := utf7DecodesRow, standIns := [], harness := (true, "472953692fe1a87923bcaa8a30fb79e0a84a2228c8fbbfbfbe898d0aa47dbd60"), looks := false }, kinds := [], alts := [], laidByText := true, laidKinds := [.data, .pinned], laidTests := true, laidLooks := .later }
def Utf7DecodesCardSaid : Prop := Claim7.holds Tryd.pinned (.plain (OpenSpec.ofChange utf7DecodesSpec)) utf7DecodesCard

/-- THE TIED CARD OF 'cubbylaw05.Utf7Back'. -/
def utf7BackCard : Claim7 := { stood := { row := utf7BackRow, standIns := [], harness := (true, "472953692fe1a87923bcaa8a30fb79e0a84a2228c8fbbfbfbe898d0aa47dbd60"), looks := false }, kinds := [], alts := [], laidByText := true, laidKinds := [.data, .pinned], laidTests := true, laidLooks := .later }
def Utf7BackCardSaid : Prop := Claim7.holds Tryd.pinned (.plain (OpenSpec.ofChange utf7BackSpec)) utf7BackCard

/-- THE TIED CARD OF 'cubbylaw05.Utf7Right'. -/
def utf7RightCard : Claim7 := { stood := { row := utf7RightRow, standIns := [], harness := (true, "472953692fe1a87923bcaa8a30fb79e0a84a2228c8fbbfbfbe898d0aa47dbd60"), looks := false }, kinds := [], alts := [], laidByText := true, laidKinds := [.data, .pinned], laidTests := true, laidLooks := .later }
def Utf7RightCardSaid : Prop := Claim7.holds Tryd.pinned (.plain (OpenSpec.ofChange utf7RightSpec)) utf7RightCard

/-- THE TIED CARD OF 'cubbylaw05.Utf7Parts'. -/
def utf7PartsCard : Claim7 := { stood := { row := utf7PartsRow, standIns := [], harness := (true, "472953692fe1a87923bcaa8a30fb79e0a84a2228c8fbbfbfbe898d0aa47dbd60"), looks := false }, kinds := [], alts := [], laidByText := true, laidKinds := [.data, .pinned], laidTests := true, laidLooks := .later }
def Utf7PartsCardSaid : Prop := Claim7.holds Tryd.pinned (.plain (OpenSpec.ofChange utf7PartsSpec)) utf7PartsCard

/-- THE TIED CARD OF 'cubbylaw05.Utf7Plain'. -/
def utf7PlainCard : Claim7 := { stood := { row := utf7PlainRow, standIns := [], harness := (true, "472953692fe1a87923bcaa8a30fb79e0a84a2228c8fbbfbfbe898d0aa47dbd60"), looks := false }, kinds := [], alts := [], laidByText := true, laidKinds := [.data, .pinned], laidTests := true, laidLooks := .later }
def Utf7PlainCardSaid : Prop := Claim7.holds Tryd.pinned (.plain (OpenSpec.ofChange utf7PlainSpec)) utf7PlainCard

/-- THE SECOND FORM's CARD OF 'cubbylaw05.Utf7Encodes'. -/
def utf7EncodesUptoCard : Claim7 := { stood := { row := utf7EncodesUptoRow, standIns := [], harness := (true, "472953692fe1a87923bcaa8a30fb79e0a84a2228c8fbbfbfbe898d0aa47dbd60"), looks := false }, kinds := [], alts := [], laidByText := true, laidKinds := [.data, .pinned], laidTests := true, laidLooks := .later }
def Utf7EncodesUptoCardSaid : Prop := Claim7.holds Tryd.pinned (.plain (OpenSpec.upto utf7EncodesSpec)) utf7EncodesUptoCard

/-- THE SECOND FORM's CARD OF 'cubbylaw05.Utf7Decodes'. -/
def utf7DecodesUptoCard : Claim7 := { stood := { row := utf7DecodesUptoRow, standIns := [], harness := (true, "472953692fe1a87923bcaa8a30fb79e0a84a2228c8fbbfbfbe898d0aa47dbd60"), looks := false }, kinds := [], alts := [], laidByText := true, laidKinds := [.data, .pinned], laidTests := true, laidLooks := .later }
def Utf7DecodesUptoCardSaid : Prop := Claim7.holds Tryd.pinned (.plain (OpenSpec.upto utf7DecodesSpec)) utf7DecodesUptoCard

/-- THE SECOND FORM's CARD OF 'cubbylaw05.Utf7Back'. -/
def utf7BackUptoCard : Claim7 := { stood := { row := utf7BackUptoRow, standIns := [], harness := (true, "472953692fe1a87923bcaa8a30fb79e0a84a2228c8fbbfbfbe898d0aa47dbd60"), looks := false }, kinds := [], alts := [], laidByText := true, laidKinds := [.data, .pinned], laidTests := true, laidLooks := .later }
def Utf7BackUptoCardSaid : Prop := Claim7.holds Tryd.pinned (.plain (OpenSpec.upto utf7BackSpec)) utf7BackUptoCard

/-- THE SECOND FORM's CARD OF 'cubbylaw05.Utf7Right'. -/
def utf7RightUptoCard : Claim7 := { stood := { row := utf7RightUptoRow, standIns := [], harness := (true, "472953692fe1a87923bcaa8a30fb79e0a84a2228c8fbbfbfbe898d0aa47dbd60"), looks := false }, kinds := [], alts := [], laidByText := true, laidKinds := [.data, .pinned], laidTests := true, laidLooks := .later }
def Utf7RightUptoCardSaid : Prop := Claim7.holds Tryd.pinned (.plain (OpenSpec.upto utf7RightSpec)) utf7RightUptoCard

/-- THE SECOND FORM's CARD OF 'cubbylaw05.Utf7Parts'. -/
def utf7PartsUptoCard : Claim7 := { stood := { row := utf7PartsUptoRow, standIns := [], harness := (true, "472953692fe1a87923bcaa8a30fb79e0a84a2228c8fbbfbfbe898d0aa47dbd60"), looks := false }, kinds := [], alts := [], laidByText := true, laidKinds := [.data, .pinned], laidTests := true, laidLooks := .later }
def Utf7PartsUptoCardSaid : Prop := Claim7.holds Tryd.pinned (.plain (OpenSpec.upto utf7PartsSpec)) utf7PartsUptoCard

/-- THE SECOND FORM's CARD OF 'cubbylaw05.Utf7Plain'. -/
def utf7PlainUptoCard : Claim7 := { stood := { row := utf7PlainUptoRow, standIns := [], harness := (true, "472953692fe1a87923bcaa8a30fb79e0a84a2228c8fbbfbfbe898d0aa47dbd60"), looks := false }, kinds := [], alts := [], laidByText := true, laidKinds := [.data, .pinned], laidTests := true, laidLooks := .later }
def Utf7PlainUptoCardSaid : Prop := Claim7.holds Tryd.pinned (.plain (OpenSpec.upto utf7PlainSpec)) utf7PlainUptoCard
end Rows
end Go.Proofs.YtcddppgnmephnaaDoor
