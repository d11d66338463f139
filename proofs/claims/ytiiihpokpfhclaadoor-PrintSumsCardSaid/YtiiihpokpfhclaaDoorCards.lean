/-
  DERIVED. GIVEN WITH THE SEED: THE CARDS: each row of YtiiihpokpfhclaaDoorRows.lean that lists a variable, with what it lists TIED to the program's text (the seventh form; the later family's looks); each row that meets fmt, with fmt's text TOLD by the authors' own Lean function (tested against real Go, not proved from fmt's source: count such statements apart). THE CARD IS WHAT COUNTS. Prove the row's statement (the work); the ties are given (YtiiihpokpfhclaaDoorTie.lean); close each card by the builder's one call (the guide's Derived/Test/ToyasCard.lean, 'card_holds'). Laid BY PROGRAM, IN A SANDBOX (cutbox-door.mjs). By AI agents, Wed Nov 11 2026. No macro, syntax, notation, axiom, sorry.
-/
import Derived.Test.YtiiihpokpfhclaaDoorRows
import GoSem.ClaimSeven
namespace Go.Proofs.YtiiihpokpfhclaaDoor
namespace Rows

/-- THE TIED CARD OF 'augurlaw8.PrintConds'. -/
def printCondsCard : Claim7 := { stood := { row := printCondsRow, standIns := [], harness := (true, "ce503c230fc5abae2b53eef7690675014e9b01f536371902460dd08d936e8f2b"), looks := false }, kinds := [], alts := [], laidByText := true, laidKinds := [.data, .data, .data], laidTests := true, laidLooks := .later }
def PrintCondsCardSaid : Prop := Claim7.holds Tryd.pinned (.plain (OpenSpec.ofChange printCondsSpec)) printCondsCard

/-- THE TIED CARD OF 'augurlaw8.PrintSums'. -/
def printSumsCard : Claim7 := { stood := { row := printSumsRow, standIns := [], harness := (true, "ce503c230fc5abae2b53eef7690675014e9b01f536371902460dd08d936e8f2b"), looks := false }, kinds := [], alts := [], laidByText := true, laidKinds := [.data, .data, .data], laidTests := true, laidLooks := .later }
def PrintSumsCardSaid : Prop := Claim7.holds Tryd.pinned (.plain (OpenSpec.ofChange printSumsSpec)) printSumsCard

/-- THE SECOND FORM's CARD OF 'augurlaw8.PrintConds'. -/
def printCondsUptoCard : Claim7 := { stood := { row := printCondsUptoRow, standIns := [], harness := (true, "ce503c230fc5abae2b53eef7690675014e9b01f536371902460dd08d936e8f2b"), looks := false }, kinds := [], alts := [], laidByText := true, laidKinds := [.data, .data, .data], laidTests := true, laidLooks := .later }
def PrintCondsUptoCardSaid : Prop := Claim7.holds Tryd.pinned (.plain (OpenSpec.upto printCondsSpec)) printCondsUptoCard

/-- THE SECOND FORM's CARD OF 'augurlaw8.PrintSums'. -/
def printSumsUptoCard : Claim7 := { stood := { row := printSumsUptoRow, standIns := [], harness := (true, "ce503c230fc5abae2b53eef7690675014e9b01f536371902460dd08d936e8f2b"), looks := false }, kinds := [], alts := [], laidByText := true, laidKinds := [.data, .data, .data], laidTests := true, laidLooks := .later }
def PrintSumsUptoCardSaid : Prop := Claim7.holds Tryd.pinned (.plain (OpenSpec.upto printSumsSpec)) printSumsUptoCard
end Rows
end Go.Proofs.YtiiihpokpfhclaaDoor
