/-
  DERIVED. GIVEN WITH THE SEED: THE CARDS: each row of YtimblkkojcbipaaDoorRows.lean that lists a variable, with what it lists TIED to the program's text (the seventh form; the later family's looks); each row that meets fmt, with fmt's text TOLD by the authors' own Lean function (tested against real Go, not proved from fmt's source: count such statements apart). THE CARD IS WHAT COUNTS. Prove the row's statement (the work); the ties are given (YtimblkkojcbipaaDoorTie.lean); close each card by the builder's one call (the guide's Derived/Test/ToyasCard.lean, 'card_holds'). Laid BY PROGRAM, IN A SANDBOX (cutbox-door.mjs). By AI agents, Wed Nov 11 2026. No macro, syntax, notation, axiom, sorry.
-/
import Derived.Test.YtimblkkojcbipaaDoorRows
import GoSem.ClaimSeven
namespace Go.Proofs.YtimblkkojcbipaaDoor
namespace Rows

/-- THE TIED CARD OF 'augurlaw4.WalKeeps'. -/
def walKeepsCard : Claim7 := { stood := { row := walKeepsRow, standIns := [], harness := (true, "4e8b89335e1b64932137862a7d8d5f83e4ea89a522d375748867583c055098ef"), looks := false }, kinds := [], alts := [], laidByText := true, laidKinds := [.data], laidTests := true, laidLooks := .later }
def WalKeepsCardSaid : Prop := Claim7.holds Tryd.pinned (.plain (OpenSpec.ofChange walKeepsSpec)) walKeepsCard

/-- THE TIED CARD OF 'augurlaw4.WalFalls'. -/
def walFallsCard : Claim7 := { stood := { row := walFallsRow, standIns := [], harness := (true, "4e8b89335e1b64932137862a7d8d5f83e4ea89a522d375748867583c055098ef"), looks := false }, kinds := [], alts := [], laidByText := true, laidKinds := [.data], laidTests := true, laidLooks := .later }
def WalFallsCardSaid : Prop := Claim7.holds Tryd.pinned (.plain (OpenSpec.ofChange walFallsSpec)) walFallsCard

/-- THE TIED CARD OF 'augurlaw4.WalTwice'. -/
def walTwiceCard : Claim7 := { stood := { row := walTwiceRow, standIns := [], harness := (true, "4e8b89335e1b64932137862a7d8d5f83e4ea89a522d375748867583c055098ef"), looks := false }, kinds := [], alts := [], laidByText := true, laidKinds := [.data], laidTests := true, laidLooks := .later }
def WalTwiceCardSaid : Prop := Claim7.holds Tryd.pinned (.plain (OpenSpec.ofChange walTwiceSpec)) walTwiceCard

/-- THE TIED CARD OF 'augurlaw4.WalForeign'. -/
def walForeignCard : Claim7 := { stood := { row := walForeignRow, standIns := [], harness := (true, "4e8b89335e1b64932137862a7d8d5f83e4ea89a522d375748867583c055098ef"), looks := false }, kinds := [], alts := [], laidByText := true, laidKinds := [.data], laidTests := true, laidLooks := .later }
def WalForeignCardSaid : Prop := Claim7.holds Tryd.pinned (.plain (OpenSpec.ofChange walForeignSpec)) walForeignCard

/-- THE TIED CARD OF 'augurlaw4.WalTogether'. -/
def walTogetherCard : Claim7 := { stood := { row := walTogetherRow, standIns := [], harness := (true, "4e8b89335e1b64932137862a7d8d5f83e4ea89a522d375748867583c055098ef"), looks := false }, kinds := [], alts := [], laidByText := true, laidKinds := [.data], laidTests := true, laidLooks := .later }
def WalTogetherCardSaid : Prop := Claim7.holds Tryd.pinned (.plain (OpenSpec.ofChange walTogetherSpec)) walTogetherCard

/-- THE TIED CARD OF 'augurlaw4.WalResets'. -/
def walResetsCard : Claim7 := { stood := { row := walResetsRow, standIns := [], harness := (true, "4e8b89335e1b64932137862a7d8d5f83e4ea89a522d375748867583c055098ef"), looks := false }, kinds := [], alts := [], laidByText := true, laidKinds := [.data], laidTests := true, laidLooks := .later }
def WalResetsCardSaid : Prop := Claim7.holds Tryd.pinned (.plain (OpenSpec.ofChange walResetsSpec)) walResetsCard

/-- THE SECOND FORM's CARD OF 'augurlaw4.WalKeeps'. -/
def walKeepsUptoCard : Claim7 := { stood := { row := walKeepsUptoRow, standIns := [], harness := (true, "4e8b89335e1b64932137862a7d8d5f83e4ea89a522d375748867583c055098ef"), looks := false }, kinds := [], alts := [], laidByText := true, laidKinds := [.data], laidTests := true, laidLooks := .later }
def WalKeepsUptoCardSaid : Prop := Claim7.holds Tryd.pinned (.plain (OpenSpec.upto walKeepsSpec)) walKeepsUptoCard

/-- THE SECOND FORM's CARD OF 'augurlaw4.WalFalls'. -/
def walFallsUptoCard : Claim7 := { stood := { row := walFallsUptoRow, standIns := [], harness := (true, "4e8b89335e1b64932137862a7d8d5f83e4ea89a522d375748867583c055098ef"), looks := false }, kinds := [], alts := [], laidByText := true, laidKinds := [.data], laidTests := true, laidLooks := .later }
def WalFallsUptoCardSaid : Prop := Claim7.holds Tryd.pinned (.plain (OpenSpec.upto walFallsSpec)) walFallsUptoCard

/-- THE SECOND FORM's CARD OF 'augurlaw4.WalTwice'. -/
def walTwiceUptoCard : Claim7 := { stood := { row := walTwiceUptoRow, standIns := [], harness := (true, "4e8b89335e1b64932137862a7d8d5f83e4ea89a522d375748867583c055098ef"), looks := false }, kinds := [], alts := [], laidByText := true, laidKinds := [.data], laidTests := true, laidLooks := .later }
def WalTwiceUptoCardSaid : Prop := Claim7.holds Tryd.pinned (.plain (OpenSpec.upto walTwiceSpec)) walTwiceUptoCard

/-- THE SECOND FORM's CARD OF 'augurlaw4.WalForeign'. -/
def walForeignUptoCard : Claim7 := { stood := { row := walForeignUptoRow, standIns := [], harness := (true, "4e8b89335e1b64932137862a7d8d5f83e4ea89a522d375748867583c055098ef"), looks := false }, kinds := [], alts := [], laidByText := true, laidKinds := [.data], laidTests := true, laidLooks := .later }
def WalForeignUptoCardSaid : Prop := Claim7.holds Tryd.pinned (.plain (OpenSpec.upto walForeignSpec)) walForeignUptoCard

/-- THE SECOND FORM's CARD OF 'augurlaw4.WalTogether'. -/
def walTogetherUptoCard : Claim7 := { stood := { row := walTogetherUptoRow, standIns := [], harness := (true, "4e8b89335e1b64932137862a7d8d5f83e4ea89a522d375748867583c055098ef"), looks := false }, kinds := [], alts := [], laidByText := true, laidKinds := [.data], laidTests := true, laidLooks := .later }
def WalTogetherUptoCardSaid : Prop := Claim7.holds Tryd.pinned (.plain (OpenSpec.upto walTogetherSpec)) walTogetherUptoCard

/-- THE SECOND FORM's CARD OF 'augurlaw4.WalResets'. -/
def walResetsUptoCard : Claim7 := { stood := { row := walResetsUptoRow, standIns := [], harness := (true, "4e8b89335e1b64932137862a7d8d5f83e4ea89a522d375748867583c055098ef"), looks := false }, kinds := [], alts := [], laidByText := true, laidKinds := [.data], laidTests := true, laidLooks := .later }
def WalResetsUptoCardSaid : Prop := Claim7.holds Tryd.pinned (.plain (OpenSpec.upto walResetsSpec)) walResetsUptoCard
end Rows
end Go.Proofs.YtimblkkojcbipaaDoor
