/- The document's Tokens: its loop's body, what a round asks and gives. -/
import Derived.Test.YtibbaofmdechcaaDoorLxF
namespace Go.Proofs.YtibbaofmdechcaaDoor
open Go Go.RowKit
def firstLoop : Code → Option Code
  | .loop c => some c
  | .seq a b => match firstLoop a with
    | some c => some c
    | none => firstLoop b
  | .block _ c => firstLoop c
  | .scope c => firstLoop c
  | .cond _ a b => match firstLoop a with
    | some c => some c
    | none => firstLoop b
  | _ => none
noncomputable def refBody : Code := (Tryd.f10.body.bind firstLoop).getD .skip
/-- What holds at a round's begin. -/
structure RelR (l : List UInt8) (W : World) (R : Res) (i : Nat) (ts : List Tok) (v : Value) (w : World) : Prop where
  hi : i ≤ l.length
  hts : ts.length ≤ i
  hv : ToksR w W.heap.size v ts
  hbr : Below W.heap.size W w
  hrun : runT .blank i ts ((l ++ [10]).drop i) = R
/-- A frame of the loop. -/
structure FrR (l : List UInt8) (T : Array Value) (v : Value) (i : Nat) : Prop where
  size : T.size = 229
  s0 : T.getD 0 undef = .string (strB l)
  s5 : T.getD 5 undef = v
  s6 : T.getD 6 undef = .int .i64 i
/-- What a round goes on with. -/
def GoesR (l : List UInt8) (W : World) (R : Res) (i : Nat) (K1 : Act → World → Prop) : Prop := ∀ T w v j ts, FrR l T v j → RelR l W R j ts v w → i < j → K1 ⟨T, []⟩ w
/-- What a round returns. -/
def RetsR (W : World) (R : Res) (Q0 : Exit → Act → World → Prop) : Prop := ∀ T w (a n : Nat), T.size = 229 → T.getD 2 undef = .slice none 0 0 → T.getD 3 undef = .int .i64 a → T.getD 4 undef = .int .i64 n → Below W.heap.size W w → R = .error (a, n) → n ≠ 0 → Q0 .ret ⟨T, []⟩ w
end Go.Proofs.YtibbaofmdechcaaDoor
