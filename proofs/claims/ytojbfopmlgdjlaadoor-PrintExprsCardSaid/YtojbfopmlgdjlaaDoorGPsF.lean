/- Walks of the parser's methods for expressions: operand. Written by mkexpr.py. -/
import Derived.Test.YtojbfopmlgdjlaaDoorGPsE
namespace Go.Proofs.YtojbfopmlgdjlaaDoor
open Go Go.RowKit Go.Lib
theorem bind_ok {α β : Type} (a : α) (r : List Tok) (f : α → List Tok → Rs β) : (Rs.ok a r).bind f = f a r := rfl
theorem bind_er {α β : Type} (r : List Tok) (k : Nat) (f : α → List Tok → Rs β) : (Rs.er r k : Rs α).bind f = .er r k := rfl
theorem bind_no {α β : Type} (f : α → List Tok → Rs β) : (Rs.no : Rs α).bind f = .no := rfl
theorem above_not {p B : Nat} (h : p < B) : ∀ b, B ≤ b → ¬ At p b := fun b hb e => by
  simp only [At] at e
  omega
theorem eq1_iff {r : List Tok} (len : Nat) : (((hdT len r).kind : Int) == 1) = isNum r := by
  rw [← isNum_hd len]
  by_cases h : (hdT len r).kind = 1
  · rw [h]; rfl
  · rw [beq_false_of_ne h]
    exact beq_false_of_ne (by omega)
theorem str_beq' (a b : List UInt8) : ((strB a).toList == b) = (a == b) := by rw [ByteArray.toList_eq]; rfl
end Go.Proofs.YtojbfopmlgdjlaaDoor
