/- Walks of the parser's small functions: enter, leave, declared. -/
import Derived.Test.YtojbfopmlgdjlaaDoorGPsC
namespace Go.Proofs.YtojbfopmlgdjlaaDoor
open Go Go.RowKit Go.Lib
section
variable {w : World} {p : Nat} {C : Cx} {d n : Nat} {r : List Tok}
end
section
variable {α : Type} {p : Nat} {C : Cx} {w w' : World} {R : Value → World → α → List Tok → Prop} {X : Rs α}
end
end Go.Proofs.YtojbfopmlgdjlaaDoor
