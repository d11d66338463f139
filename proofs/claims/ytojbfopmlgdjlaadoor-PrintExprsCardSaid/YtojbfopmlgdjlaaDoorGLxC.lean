/- The reader of package lex: its block, its tokens' row; newReader, begin, goesOn. -/
import Derived.Test.YtojbfopmlgdjlaaDoorGLxB
import Derived.Test.YtojbfopmlgdjlaaDoorFlow
import Derived.BigQuiet
namespace Go.Proofs.YtojbfopmlgdjlaaDoor
open Go Go.RowKit
def Tok.cells (t : Tok) : List Value := [.int .i64 t.kind, .string (strB t.text), .int .i64 t.at_]
/-- A slice of tokens of the call's own. -/
def ToksR (w : World) (B : Nat) (v : Value) (ts : List Tok) : Prop := w.ownsRow B 94 3 v ts.length (ts.map Tok.cells).flatten
def kindB (c : Nat) : Nat := if blankB c = true then 3 else if c = 35 then 4 else if letterB c = true then 0 else if digitB c = true then 1 else 2
theorem str_add (a b : List UInt8) (h : a.length + b.length ≤ 9223372036854775807) (w : World) : (Op.stringOp .add ⟨a.toArray⟩ ⟨b.toArray⟩).run Tryd.prog w = .ok (.string (strB (a ++ b))) w := by
  have ha : (strB a).size = a.length := rfl
  have hb : (strB b).size = b.length := rfl
  have := run_string_add_sum (P := Tryd.prog) w (strB a) (strB b) (by omega)
  refine this.trans ?_
  have e : strB a ++ strB b = strB (a ++ b) := by
    apply ByteArray.ext
    simp [strB]
  rw [e]
/-- What is read, as the reader's fields tell it. -/
def St.kind : St → Nat
  | .blank => 3
  | .com => 4
  | .word k _ _ => k
/-- What is read begins where the reader says, ahead of i. -/
def St.fits (T : List UInt8) (fr i : Nat) : St → Prop
  | .word k f w => f = fr ∧ f < i ∧ i ≤ T.length ∧ w = (T.drop f).take (i - f) ∧ k ≤ 2 ∧ (k = 1 → ∀ c ∈ w, digitB c.toNat = true)
  | _ => True
theorem take_next {T : List UInt8} {f i : Nat} {c : UInt8} (hf : f ≤ i) (h : T[i]? = some c) : (T.drop f).take (i + 1 - f) = (T.drop f).take (i - f) ++ [c] := by
  have e : i + 1 - f = (i - f) + 1 := by omega
  rw [e, List.take_add_one]
  congr 1
  rw [List.getElem?_drop]
  have : f + (i - f) = i := by omega
  rw [this, h]
  rfl
end Go.Proofs.YtojbfopmlgdjlaaDoor
