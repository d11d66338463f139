/- The document's tokens: what a text comes to, byte by byte. -/
import Derived.Test.YtojbfopmlgdjlaaDoorProg
namespace Go.Proofs.YtojbfopmlgdjlaaDoor

/-- A token: its kind, its bytes, where it begins. -/
structure Tok where
  kind : Nat
  text : List UInt8
  at_ : Nat

def letterB (c : Nat) : Bool := decide (97 ≤ c ∧ c ≤ 122 ∨ 65 ≤ c ∧ c ≤ 90 ∨ c = 95)
def digitB (c : Nat) : Bool := decide (48 ≤ c ∧ c ≤ 57)
def blankB (c : Nat) : Bool := decide (c = 32 ∨ c = 9 ∨ c = 13 ∨ c = 10)
def opsL : List (List UInt8) := [[61, 61], [33, 61], [60, 61], [62, 61], [38, 38], [124, 124], [61], [60], [62], [43], [45], [42], [47], [37], [38], [33], [40], [41], [123], [125], [91], [93], [44], [59]]
def isOp (w : List UInt8) : Bool := opsL.contains w
/-- What decimal digits come to. -/
def valF (n : Nat) (c : UInt8) : Nat := 10 * n + (c.toNat - 48)
def valL (w : List UInt8) : Nat := w.foldl valF 0

/-- What is being read: nothing that matters; a comment; a token of a kind, where it began, its bytes so far. -/
inductive St where
  | blank
  | com
  | word (k : Nat) (fr : Nat) (w : List UInt8)
def St.goes : St → UInt8 → Bool
  | .blank, _ => false
  | .com, c => c != 10
  | .word 0 _ _, c => letterB c.toNat || digitB c.toNat
  | .word 1 _ _, c => digitB c.toNat
  | .word _ _ w, c => isOp (w ++ [c])
def St.push : St → UInt8 → St
  | .word k fr w, c => .word k fr (w ++ [c])
  | s, _ => s
def faultN (w : List UInt8) (next : UInt8) : Nat :=
  if 9223372036854775807 < valL w then 53 else if (letterB next.toNat || (w.headD 0 == 48 && decide (1 < w.length))) = true then 50 else 0
def fault (k : Nat) (w : List UInt8) (next : UInt8) : Nat :=
  match k with
  | 0 => if 32 < w.length then 53 else 0
  | 1 => faultN w next
  | _ => if isOp w = true then 0 else 50
abbrev Res := Except (Nat × Nat) (List Tok)
def St.fin (ts : List Tok) (next : UInt8) : St → Res
  | .word k fr w => if fault k w next = 0 then .ok (ts ++ [⟨k, w, fr⟩]) else .error (fr, fault k w next)
  | _ => .ok ts
def St.begin (i : Nat) (c : UInt8) : St :=
  if blankB c.toNat = true then .blank else if c = 35 then .com else if letterB c.toNat = true then .word 0 i [c] else if digitB c.toNat = true then .word 1 i [c] else .word 2 i [c]

/-- The bytes behind the i-th, read one by one, the last of them the end of a line. -/
def runT : St → Nat → List Tok → List UInt8 → Res
  | _, _, ts, [] => .ok ts
  | st, i, ts, c :: r => if st.goes c = true then runT (st.push c) (i + 1) ts r else
    match st.fin ts c with
    | .error e => .error e
    | .ok ts' => runT (St.begin i c) (i + 1) ts' r
/-- What a text's tokens are, or its first error. -/
def lexT (s : List UInt8) : Res := if 4096 < s.length then .error (0, 53) else runT .blank 0 [] (s ++ [10])
end Go.Proofs.YtojbfopmlgdjlaaDoor
