/-
  DERIVED. GIVEN WITH THE SEED: THE CARDS: each row of YtojbfopmlgdjlaaDoorRows.lean that lists a variable, with what it lists TIED to the program's text (the seventh form; the later family's looks); each row that meets fmt, with fmt's text TOLD by the authors' own Lean function (tested against real Go, not proved from fmt's source: count such statements apart). THE CARD IS WHAT COUNTS. Prove the row's statement (the work); the ties are given (YtojbfopmlgdjlaaDoorTie.lean); close each card by the builder's one call (the guide's Derived/Test/ToyasCard.lean, 'card_holds'). Laid BY PROGRAM, IN A SANDBOX (cutbox-door.mjs). By AI agents, Wed Nov 11 2026. No macro, syntax, notation, axiom, sorry.
-/
import Derived.Test.YtojbfopmlgdjlaaDoorRows
import GoSem.ClaimSeven
namespace Go.Proofs.YtojbfopmlgdjlaaDoor
namespace Rows

/-- THE TIED CARD OF 'augurlaw8.PrintExprs'. -/
def printExprsCard : Claim7 := { stood := { row := printExprsRow, standIns := [], harness := (true, "e29edea201daa7c3c046bc26dce6682a6ee4c25fe0eb65ae2c16aeec7607ce4c"), looks := false }, kinds := [], alts := [], laidByText := true, laidKinds := [.data, .data, .data], laidTests := true, laidLooks := .later }
def PrintExprsCardSaid : Prop := Claim7.holds Tryd.pinned (.plain (OpenSpec.ofChange printExprsSpec)) printExprsCard

/-- THE TIED CARD OF 'augurlaw8.PrintConds'. -/
def printCondsCard : Claim7 := { stood := { row := printCondsRow, standIns := [], harness := (true, "e29edea201daa7c3c046bc26dce6682a6ee4c25fe0eb65ae2c16aeec7607ce4c"), looks := false }, kinds := [], alts := [], laidByText := true, laidKinds := [.data, .data, .data], laidTests := true, laidLooks := .later }
def PrintCondsCardSaid : Prop := Claim7.holds Tryd.pinned (.plain (OpenSpec.ofChange printCondsSpec)) printCondsCard

/-- THE TIED CARD OF 'augurlaw8.PrintSums'. -/
def printSumsCard : Claim7 := { stood := { row := printSumsRow, standIns := [], harness := (true, "e29edea201daa7c3c046bc26dce6682a6ee4c25fe0eb65ae2c16aeec7607ce4c"), looks := false }, kinds := [], alts := [], laidByText := true, laidKinds := [.data, .data, .data], laidTests := true, laidLooks := .later }
def PrintSumsCardSaid : Prop := Claim7.holds Tryd.pinned (.plain (OpenSpec.ofChange printSumsSpec)) printSumsCard

/-- THE SECOND FORM's CARD OF 'augurlaw8.PrintExprs'. -/
def printExprsUptoCard : Claim7 := { stood := { row := printExprsUptoRow, standIns := [], harness := (true, "e29edea201daa7c3c046bc26dce6682a6ee4c25fe0eb65ae2c16aeec7607ce4c"), looks := false }, kinds := [], alts := [], laidByText := true, laidKinds := [.data, .data, .data], laidTests := true, laidLooks := .later }
def PrintExprsUptoCardSaid : Prop := Claim7.holds Tryd.pinned (.plain (OpenSpec.upto printExprsSpec)) printExprsUptoCard

/-- THE SECOND FORM's CARD OF 'augurlaw8.PrintConds'. -/
def printCondsUptoCard : Claim7 := { stood := { row := printCondsUptoRow, standIns := [], harness := (true, "e29edea201daa7c3c046bc26dce6682a6ee4c25fe0eb65ae2c16aeec7607ce4c"), looks := false }, kinds := [], alts := [], laidByText := true, laidKinds := [.data, .data, .data], laidTests := true, laidLooks := .later }
def PrintCondsUptoCardSaid : Prop := Claim7.holds Tryd.pinned (.plain (OpenSpec.upto printCondsSpec)) printCondsUptoCard

/-- THE SECOND FORM's CARD OF 'augurlaw8.PrintSums'. -/
def printSumsUptoCard : Claim7 := { stood := { row := printSumsUptoRow, standIns := [], harness := (true, "e29edea201daa7c3c046bc26dce6682a6ee4c25fe0eb65ae2c16aeec7607ce4c"), looks := false }, kinds := [], alts := [], laidByText := true, laidKinds := [.data, .data, .data], laidTests := true, laidLooks := .later }
def PrintSumsUptoCardSaid : Prop := Claim7.holds Tryd.pinned (.plain (OpenSpec.upto printSumsSpec)) printSumsUptoCard
end Rows
end Go.Proofs.YtojbfopmlgdjlaaDoor
