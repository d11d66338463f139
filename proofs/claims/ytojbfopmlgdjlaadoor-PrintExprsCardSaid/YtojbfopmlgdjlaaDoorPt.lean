/- The document's texts of expressions and conditions. -/
import Derived.Test.YtojbfopmlgdjlaaDoorPs
import Derived.Lib.ItoaNum
namespace Go.Proofs.YtojbfopmlgdjlaaDoor

/-- The sign between the operands of an expression of kind k. -/
def signT (k : Nat) : List UInt8 := if k = 2 then [32, 43, 32] else if k = 3 then [32, 45, 32] else if k = 4 then [32, 42, 32] else if k = 5 then [32, 47, 32] else [32, 37, 32]
def bindK (k : Nat) : Nat := if k = 2 ∨ k = 3 then 0 else if k = 4 ∨ k = 5 ∨ k = 6 then 1 else 2
def bindE : Ex → Nat
  | .bin k _ _ => bindK k
  | _ => 2
def parT (b : Bool) (t : List UInt8) : List UInt8 := if b = true then [40] ++ t ++ [41] else t
def exT : Ex → List UInt8
  | .num n => Lib.decDigits n
  | .var s => s
  | .neg a => [45] ++ parT (decide (bindE a < 2)) (exT a)
  | .bin k a b => parT (decide (bindE a < bindK k)) (exT a) ++ signT k ++ parT (decide (bindE b < bindK k + 1)) (exT b)
/-- Such as a text tells. -/
def WfX : Ex → Prop
  | .num n => n ≤ 9223372036854775807
  | .var s => s.length ≤ 1000000
  | .neg a => WfX a
  | .bin k a b => 2 ≤ k ∧ k ≤ 6 ∧ WfX a ∧ WfX b
def cmpT (k : Nat) : List UInt8 := if k = 0 then [32, 61, 61, 32] else if k = 1 then [32, 33, 61, 32] else if k = 2 then [32, 60, 32] else if k = 3 then [32, 60, 61, 32] else if k = 4 then [32, 62, 32] else [32, 62, 61, 32]
def kindC : Cn → Nat
  | .cmp k _ _ => k
  | .null _ => 9
  | .not _ => 8
  | .both k _ _ => k
def cnT : Cn → List UInt8
  | .cmp k a b => exT a ++ cmpT k ++ exT b
  | .null s => s ++ [32, 61, 61, 32, 110, 117, 108, 108]
  | .not (.null s) => s ++ [32, 33, 61, 32, 110, 117, 108, 108]
  | .not c => [33] ++ parT (decide (kindC c ≠ 8)) (cnT c)
  | .both k p q => if k = 6 then parT (decide (kindC p = 7)) (cnT p) ++ [32, 38, 38, 32] ++ parT (decide (kindC q = 7 ∨ kindC q = 6)) (cnT q) else cnT p ++ [32, 124, 124, 32] ++ parT (decide (kindC q = 7)) (cnT q)
def WfC : Cn → Prop
  | .cmp k a b => k ≤ 5 ∧ WfX a ∧ WfX b
  | .null s => s.length ≤ 1000000
  | .not c => WfC c
  | .both k p q => (k = 6 ∨ k = 7) ∧ WfC p ∧ WfC q
end Go.Proofs.YtojbfopmlgdjlaaDoor
