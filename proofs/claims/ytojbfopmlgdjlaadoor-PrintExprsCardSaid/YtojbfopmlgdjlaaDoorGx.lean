/- A frame, written out. -/
import Derived.Test.YtojbfopmlgdjlaaDoorProg
namespace Go.Proofs.YtojbfopmlgdjlaaDoor
open Go
theorem expl {T : Array Value} {n : Nat} (h : T.size = n) : T = ((List.range n).map fun i => T.getD i undef).toArray := by
  apply Array.ext
  · simp [h]
  · intro i h1 h2
    simp [Array.getD_eq_getD_getElem?, h1]
theorem getD_toArray (l : List Value) (i : Nat) (d : Value) : l.toArray.getD i d = l.getD i d := by
  rw [Array.getD_eq_getD_getElem?, List.getD_eq_getElem?_getD, List.getElem?_toArray]
end Go.Proofs.YtojbfopmlgdjlaaDoor
